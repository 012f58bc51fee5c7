/-
  The contract of layer 11's alive.
-/
import Derived.Test.YtkigoidklonhcaaGreatDoorChR
namespace Go.Proofs.YtkigoidklonhcaaGreatDoor
open Go.RowKit

theorem may_of {A : Option Addr} {c : Nat} {l : List Cd.Fm} {w V : World} (hR : ∀ m ∈ l, m.f.Rng) (hn : l.length ≤ maxLen) (hP : Cd.Prog w w.heap.size A l) (hL : Ck.Laid w) {E : Nat} (h : (Ck.chk (Cd.fns l)).1 = E) (hb : Below V.heap.size V w) :
    Calls Tryz.prog 6 #[.agg #[.slice A l.length c]] w fun e w' => ∃ i k : Nat, e = .returned (.tuple #[.int .i64 (E : Int), .int .i64 (i : Int), .int .i64 (k : Int)]) ∧ Below V.heap.size V w' := by
  refine (kMay A c l w hR hn hP hL).mono ?_
  rintro e w' ⟨he, hb2⟩
  rw [h] at he
  exact ⟨_, _, he, hb.trans (hb2.mono hb.size)⟩
theorem Ck.one_rng {o : Cd.OpV} {n : Nat} (h : (o.k < 256) ∧ o.d = 0 ∧ (o.a = 0 ∨ o.a = 1) ∧ o.b = 0 ∧ (o.n = 0 ∨ o.n = 1)) : ∀ m ∈ [Ck.oneF o n], m.f.Rng := fun m hm => by
  rw [List.mem_singleton.1 hm]
  exact Ck.small_rng rfl rfl (by simp [Ck.oneF, h]) (by simp [Ck.oneF])
theorem Ck.m1 {l : List Cd.Fm} (h : l.length ≤ 2) : l.length ≤ maxLen := by unfold maxLen; omega
theorem Ck.prog_nil (w : World) : Cd.Prog w w.heap.size none [] := ⟨fun h => absurd h (by simp [Cd.mcells]), fun m hm => by simp at hm⟩

/-- What the law's last test asks of the worlds in which it runs. -/
structure Ck.Known (V : World) (p q : Value) : Prop where
  in1 : ∀ U A2 c2, Below V.heap.size V U → Calls Tryz.prog 13 #[p, .slice A2 1 c2] U fun e w' => e = .returned (.int .i64 0) ∧ Below U.heap.size U w'
  in0 : ∀ U A2 c2, Below V.heap.size V U → Calls Tryz.prog 13 #[p, .slice A2 0 c2] U fun e w' => e = .returned (.int .i64 114) ∧ Below U.heap.size U w'
  re0 : ∀ U, Below V.heap.size V U → Calls Tryz.prog 9 #[q, .int .i64 0] U fun e w' => ∃ a c, e = .returned (.slice (some a) 1 c) ∧ w'.cell? a = some (.int .i64 1) ∧ Below V.heap.size V w'
  re1 : ∀ U, Below V.heap.size V U → Calls Tryz.prog 9 #[q, .int .i64 1] U fun e w' => ∃ A c, e = .returned (.slice A 0 c) ∧ Below V.heap.size V w'
theorem Ck.known {V : World} {A A2 : Option Addr} {n : Nat} {l : List Cd.Fm} (hp : Cd.Prog V V.heap.size A [Ck.oneF Ck.oRet n]) (hq : Cd.Prog V V.heap.size A2 l) (hl : Cd.fns l = Ck.q2) (hL : Ck.Laid V) : Ck.Known V (.agg #[.slice A 1 1]) (.agg #[.slice A2 2 2]) := by
  have h2 : l.length = 2 := by rw [← Cd.fns_len, hl]; rfl
  have rl : ∀ m ∈ l, m.f.Rng := fun m hm => by
    have : m.f ∈ Ck.q2 := by rw [← hl]; exact List.mem_map.2 ⟨m, hm, rfl⟩
    simp only [Ck.q2, List.mem_cons, List.not_mem_nil, or_false] at this
    rcases this with h | h <;> rw [h] <;> exact Ck.small_rng rfl rfl (by decide) (by decide)
  have rp : ∀ m ∈ [Ck.oneF Ck.oRet n], m.f.Rng := Ck.one_rng (by decide)
  refine ⟨fun U A3 c3 hU => ?_, fun U A3 c3 hU => ?_, fun U hU => ?_, fun U hU => ?_⟩
  · refine (kInput A 1 [Ck.oneF Ck.oRet n] U rp (Ck.m1 (by simp)) ((hp.below hU).mono hU.size) (hL.later hU) A3 1 c3 (by unfold maxLen; omega)).mono ?_
    rintro e w' ⟨he, hb⟩
    rw [show Cd.fns [Ck.oneF Ck.oRet n] = Ck.p1 Ck.oRet from rfl, Ck.inp_a] at he
    exact ⟨he, hb⟩
  · refine (kInput A 1 [Ck.oneF Ck.oRet n] U rp (Ck.m1 (by simp)) ((hp.below hU).mono hU.size) (hL.later hU) A3 0 c3 (by unfold maxLen; omega)).mono ?_
    rintro e w' ⟨he, hb⟩
    rw [show Cd.fns [Ck.oneF Ck.oRet n] = Ck.p1 Ck.oRet from rfl, Ck.inp_b] at he
    exact ⟨he, hb⟩
  · have := kReaches A2 2 l U rl (Ck.m1 (by omega)) ((hq.below hU).mono hU.size) 0
    rw [h2, hl] at this
    refine this.mono ?_
    rintro e w' ⟨xs, A3, c3, ho, -, he, hli, hb⟩
    obtain rfl := ho.eq Ck.out_q0
    obtain ⟨a, rfl, -, hc⟩ := hli.at_ (icells_at (k := 0) (by simp))
    exact ⟨a, c3, he, hc, hU.trans (hb.mono hU.size)⟩
  · have := kReaches A2 2 l U rl (Ck.m1 (by omega)) ((hq.below hU).mono hU.size) 1
    rw [h2, hl] at this
    refine this.mono ?_
    rintro e w' ⟨xs, A3, c3, ho, -, he, hli, hb⟩
    obtain rfl := ho.eq Ck.out_q1
    exact ⟨A3, c3, he, hU.trans (hb.mono hU.size)⟩

set_option maxHeartbeats 2000000 in
set_option maxRecDepth 20000 in
theorem alive11 (w : World) (hL : Ck.Laid w) : Calls Tryz.prog 5 #[] w fun e w' => e = .returned (.bool true) ∧ Below w.heap.size w w' := by
  have HL := Lib.hid hL
  have H1 : Hid (∀ U, Calls Tryz.prog 12 #[.agg #[.int .u8 14, .int .i64 0, .int .i64 0, .int .i64 0, .int .i64 0]] U (Ck.OneP Ck.oRet U)) := fun U => one11 Ck.oRet U
  have H2 : Hid (∀ U, Calls Tryz.prog 12 #[.agg #[.int .u8 14, .int .i64 0, .int .i64 1, .int .i64 0, .int .i64 0]] U (Ck.OneP Ck.oRetA U)) := fun U => one11 Ck.oRetA U
  have H3 : Hid (∀ U, Calls Tryz.prog 12 #[.agg #[.int .u8 10, .int .i64 0, .int .i64 0, .int .i64 0, .int .i64 1]] U (Ck.OneP Ck.oGo U)) := fun U => one11 Ck.oGo U
  clear hL
  go_enter Tryz.func5, Tryz.ntmps5
  go_wp2_with fail
  refine (H1.out _).mono ?_
  rintro e w1 ⟨A, n, rfl, hp, hb1⟩
  obtain ⟨V1, hV1⟩ : ∃ V, V = w1.alloc (.cells #[.slice A 1 1] 24) := ⟨_, rfl⟩
  have hbV1 : Below w1.heap.size w1 V1 := by rw [hV1]; exact Cd.fn1 _ _ _
  have HX : Hid (Cd.PBlk V1 w1.heap.size (.slice A 1 1)) := by show V1.heap[_]? = _; rw [hV1]; exact heap_alloc_new w1 _
  have HP := Lib.hid ((hp.below hbV1).mono hbV1.size)
  have HB := Lib.hid (hb1.trans (hbV1.mono hb1.size))
  have HLV := Lib.hid (HL.out.later HB.out)
  clear hp hb1 hbV1 H1 HL
  go_upto_region 2 with fail
  rw [← hV1]
  clear hV1
  generalize w1.heap.size = X1 at HX ⊢
  have p0 := HX.out.c0
  have HM : Hid (Calls Tryz.prog 6 #[.agg #[.slice A 1 1]] V1 fun e w' => ∃ i k : Nat, e = .returned (.tuple #[.int .i64 0, .int .i64 (i : Int), .int .i64 (k : Int)]) ∧ Below V1.heap.size V1 w') := may_of (Ck.one_rng (o := Ck.oRet) (by decide)) (Ck.m1 (by simp)) HP.out HLV.out (E := 0) (by rw [show Cd.fns [Ck.oneF Ck.oRet n] = Ck.p1 Ck.oRet from rfl, Ck.chk_a]) (Below.refl _ _)
  go_wp2_with fail
  refine HM.out.mono ?_
  rintro e w2 ⟨i2, k2, rfl, hb2⟩
  have HB2 := Lib.hid hb2
  clear hb2 HM p0
  go_wp2_with fail
  refine (H2.out _).mono ?_
  rintro e w3 ⟨A3, n3, rfl, hp3, hb3⟩
  have HM : Hid (Calls Tryz.prog 6 #[.agg #[.slice A3 1 1]] w3 fun e w' => ∃ i k : Nat, e = .returned (.tuple #[.int .i64 111, .int .i64 (i : Int), .int .i64 (k : Int)]) ∧ Below V1.heap.size V1 w') := may_of (Ck.one_rng (o := Ck.oRetA) (by decide)) (Ck.m1 (by simp)) hp3 (HLV.out.later (HB2.out.trans (hb3.mono HB2.out.size))) (E := 111) (by rw [show Cd.fns [Ck.oneF Ck.oRetA n3] = Ck.p1 Ck.oRetA from rfl, Ck.chk_b]) (HB2.out.trans (hb3.mono HB2.out.size))
  clear hp3 hb3 HB2 H2
  go_wp2_with fail
  refine HM.out.mono ?_
  rintro e w4 ⟨i4, k4, rfl, hb4⟩
  have HB4 := Lib.hid hb4
  clear hb4 HM
  go_wp2_with fail
  refine (H3.out _).mono ?_
  rintro e w5 ⟨A5, n5, rfl, hp5, hb5⟩
  have HM : Hid (Calls Tryz.prog 6 #[.agg #[.slice A5 1 1]] w5 fun e w' => ∃ i k : Nat, e = .returned (.tuple #[.int .i64 112, .int .i64 (i : Int), .int .i64 (k : Int)]) ∧ Below V1.heap.size V1 w') := may_of (Ck.one_rng (o := Ck.oGo) (by decide)) (Ck.m1 (by simp)) hp5 (HLV.out.later (HB4.out.trans (hb5.mono HB4.out.size))) (E := 112) (by rw [show Cd.fns [Ck.oneF Ck.oGo n5] = Ck.p1 Ck.oGo from rfl, Ck.chk_c]) (HB4.out.trans (hb5.mono HB4.out.size))
  clear hp5 hb5 HB4 H3
  go_wp2_with fail
  refine HM.out.mono ?_
  rintro e w6 ⟨i6, k6, rfl, hb6⟩
  have HB6 := Lib.hid hb6
  have HM : Hid (Calls Tryz.prog 6 #[.agg #[.slice none 0 0]] w6 fun e w' => ∃ i k : Nat, e = .returned (.tuple #[.int .i64 110, .int .i64 (i : Int), .int .i64 (k : Int)]) ∧ Below V1.heap.size V1 w') := may_of (l := []) (fun m hm => by simp at hm) (Ck.m1 (by simp)) (Ck.prog_nil _) (HLV.out.later hb6) (E := 110) Ck.chk_d hb6
  clear hb6
  go_wp2_with fail
  refine HM.out.mono ?_
  rintro e w7 ⟨i7, k7, rfl, hb7⟩
  have HB7 := Lib.hid hb7
  clear hb7 HM HB6
  obtain ⟨ad, hA, -, d0, d1, d2⟩ := Cd.fn_at ((HP.out.below HB7.out).mono HB7.out.size).fs (j := 0) (by simp)
  subst hA
  have HD : Hid (w7.cell? ad = some (.int .i64 1) ∧ w7.cell? ⟨ad.block, ad.off + 1, none⟩ = some (.int .i64 1) ∧ w7.cell? ⟨ad.block, ad.off + 2, none⟩ = some (.slice (some ⟨n, 0, none⟩) 1 1)) := ⟨d0, d1, d2⟩
  clear d0 d1 d2
  have HX7 := Lib.hid (HX.out.of_block (HB7.out.block _ HX.out.lt))
  obtain ⟨Wa, hWa⟩ : ∃ V, V = w7.alloc (.cells #[.int .u8 13, .int .i64 0, .int .i64 0, .int .i64 0, .int .i64 0, .int .u8 12, .int .i64 0, .int .i64 0, .int .i64 0, .int .i64 1] 44) := ⟨_, rfl⟩
  obtain ⟨Wb, hWb⟩ : ∃ V, V = Wa.alloc (.cells #[.int .i64 1, .int .i64 1, .slice (some ⟨n, 0, none⟩) 1 1, .int .i64 1, .int .i64 1, .slice (some ⟨w7.heap.size, 0, none⟩) 2 2] 41) := ⟨_, rfl⟩
  have hT := Ck.two_laid ((HP.out.below HB7.out).mono HB7.out.size) Ck.oJoin Ck.oFork hWa (l := [Ck.oneF Ck.oRet n, Ck.fm2 Ck.oJoin Ck.oFork w7.heap.size]) (by simp) hWb
  have HM : Hid (Calls Tryz.prog 6 #[.agg #[.slice (some ⟨w7.heap.size + 1, 0, none⟩) 2 2]] Wb fun e w' => e = .returned (.tuple #[.int .i64 113, .int .i64 1, .int .i64 1]) ∧ Below w7.heap.size w7 w') := by
    refine (kMay (some ⟨w7.heap.size + 1, 0, none⟩) 2 [Ck.oneF Ck.oRet n, Ck.fm2 Ck.oJoin Ck.oFork w7.heap.size] Wb (fun m hm => by
      simp only [List.mem_cons, List.not_mem_nil, or_false] at hm
      rcases hm with rfl | rfl <;> exact Ck.small_rng rfl rfl (by rfl) (by first | exact (show 1 ≤ 2 from by decide) | exact (show 2 ≤ 2 from by decide))) (Ck.m1 (by simp)) hT.1 (HLV.out.later (HB7.out.trans (hT.2.mono HB7.out.size)))).mono ?_
    rintro e w' ⟨he, hb⟩
    rw [show Cd.fns [Ck.oneF Ck.oRet n, Ck.fm2 Ck.oJoin Ck.oFork w7.heap.size] = Ck.p2 from rfl, Ck.chk_e] at he
    exact ⟨he, hT.2.trans (hb.mono hT.2.size)⟩
  clear hT
  have p0 := HX7.out.c0
  have d0 := HD.out.1
  have d0' : w7.cell? (ad.add 0) = some (.int .i64 1) := HD.out.1
  have d1 := HD.out.2.1
  have d2 := HD.out.2.2
  go_wp2_with fail
  rw [← hWa, ← hWb]
  clear hWa hWb p0 d0 d0' d1 d2
  refine HM.out.mono ?_
  rintro e w8 ⟨rfl, hb8⟩
  have HB8 := Lib.hid (HB7.out.trans (hb8.mono HB7.out.size))
  have HD8 : Hid (w8.cell? ad = some (.int .i64 1) ∧ w8.cell? ⟨ad.block, ad.off + 1, none⟩ = some (.int .i64 1) ∧ w8.cell? ⟨ad.block, ad.off + 2, none⟩ = some (.slice (some ⟨n, 0, none⟩) 1 1)) := ⟨Ck.cell_keep HD.out.1 hb8, Ck.cell_keep HD.out.2.1 hb8, Ck.cell_keep HD.out.2.2 hb8⟩
  have HX8 := Lib.hid (HX7.out.of_block (hb8.block _ HX7.out.lt))
  clear hb8 HM HD HX7 HB7
  clear Wa Wb
  obtain ⟨Wa, hWa⟩ : ∃ V, V = w8.alloc (.cells #[.int .u8 12, .int .i64 0, .int .i64 0, .int .i64 0, .int .i64 1, .int .u8 14, .int .i64 0, .int .i64 0, .int .i64 0, .int .i64 0] 44) := ⟨_, rfl⟩
  obtain ⟨Wb, hWb⟩ : ∃ V, V = Wa.alloc (.cells #[.int .i64 1, .int .i64 1, .slice (some ⟨w8.heap.size, 0, none⟩) 2 2, .int .i64 1, .int .i64 1, .slice (some ⟨n, 0, none⟩) 1 1] 41) := ⟨_, rfl⟩
  obtain ⟨V, hV⟩ : ∃ V, V = Wb.alloc (.cells #[.slice (some ⟨w8.heap.size + 1, 0, none⟩) 2 2] 24) := ⟨_, rfl⟩
  have hT := Ck.two_laid ((HP.out.below HB8.out).mono HB8.out.size) Ck.oFork Ck.oRet hWa (l := [Ck.fm2 Ck.oFork Ck.oRet w8.heap.size, Ck.oneF Ck.oRet n]) (by simp) hWb
  have hbV : Below Wb.heap.size Wb V := by rw [hV]; exact Cd.fn1 _ _ _
  have h8V := hT.2.trans (hbV.mono hT.2.size)
  have hwb : Wb.heap.size = w8.heap.size + 1 + 1 := by rw [hWb, hWa]; simp
  have HQ : Hid (Cd.PBlk V (w8.heap.size + 1 + 1) (.slice (some ⟨w8.heap.size + 1, 0, none⟩) 2 2)) := by
    have : V.heap[Wb.heap.size]? = some (.cells #[.slice (some ⟨w8.heap.size + 1, 0, none⟩) 2 2] 24 (0, 0)) := by rw [hV]; exact heap_alloc_new Wb _
    rw [hwb] at this
    exact this
  have HXV := Lib.hid (HX8.out.of_block (h8V.block _ HX8.out.lt))
  have h1V := HB8.out.trans (h8V.mono HB8.out.size)
  have HK := Lib.hid (Ck.known ((HP.out.below h1V).mono h1V.size) ((hT.1.below hbV).mono hbV.size) rfl (HLV.out.later h1V))
  have HBV := Lib.hid (HB.out.trans (h1V.mono HB.out.size))
  clear hT hbV h8V hwb h1V HB8 HP HLV HB
  have hba := Cd.fn1 w8 #[.int .u8 12, .int .i64 0, .int .i64 0, .int .i64 0, .int .i64 1, .int .u8 14, .int .i64 0, .int .i64 0, .int .i64 0, .int .i64 0] 44
  have p0 := Ck.cell_keep HX8.out.c0 hba
  have d0 := Ck.cell_keep HD8.out.1 hba
  have d0' : (w8.alloc (.cells #[.int .u8 12, .int .i64 0, .int .i64 0, .int .i64 0, .int .i64 1, .int .u8 14, .int .i64 0, .int .i64 0, .int .i64 0, .int .i64 0] 44)).cell? (ad.add 0) = some (.int .i64 1) := d0
  have d1 := Ck.cell_keep HD8.out.2.1 hba
  have d2 := Ck.cell_keep HD8.out.2.2 hba
  clear hba
  go_upto_region 8 with fail
  rw [← hWa, ← hWb, ← hV]
  clear hWa hWb hV p0 d0 d0' d1 d2 HD8 HX8 HX
  clear Wa Wb
  generalize w8.heap.size + 1 + 1 = X2 at HQ ⊢
  generalize w8.heap.size + 1 = X3 at HQ HK ⊢
  have p0 := HXV.out.c0
  have q0 := HQ.out.c0
  go_wp2_with fail
  refine (HK.out.re0 _ (Below.refl _ _)).mono ?_
  rintro e w9 ⟨a, c9, rfl, hc9, hb9⟩
  have HB9 := Lib.hid hb9
  have HC9 := Lib.hid hc9
  clear p0 q0 hb9 hc9
  have p0 := (HXV.out.of_block (HB9.out.block _ HXV.out.lt)).c0
  go_wp2_with fail
  have h9a := HB9.out.alloc HB9.out.size (.cells #[.int .i64 5] 2)
  have HC9a := Lib.hid (Ck.cell_keep HC9.out (Cd.fn1 w9 #[.int .i64 5] 2))
  have HXa := Lib.hid (HXV.out.of_block (h9a.block _ HXV.out.lt))
  refine (HK.out.in1 _ _ _ h9a).mono ?_
  rintro e w10 ⟨rfl, hb10⟩
  have HB10 := Lib.hid (h9a.trans (hb10.mono h9a.size))
  have HC10 := Lib.hid (Ck.cell_keep HC9a.out hb10)
  clear hb10 p0 h9a
  have p0 := (HXV.out.of_block (HB10.out.block _ HXV.out.lt)).c0
  go_wp2_with fail
  refine (HK.out.in0 _ _ _ HB10.out).mono ?_
  rintro e w11 ⟨rfl, hb11⟩
  have HB11 := Lib.hid (HB10.out.trans (hb11.mono HB10.out.size))
  have c0 := Ck.cell_keep HC10.out hb11
  have c0' : w11.cell? (a.add 0) = some (.int .i64 1) := c0
  clear hb11 p0
  have q0 := (HQ.out.of_block (HB11.out.block _ HQ.out.lt)).c0
  go_wp2_with fail
  refine (HK.out.re1 _ HB11.out).mono ?_
  rintro e w12 ⟨A12, c12, rfl, hb12⟩
  have HB12 := Lib.hid hb12
  clear hb12 q0 c0 c0'
  go_wp2_with fail
  go_ret
  exact ⟨rfl, HBV.out.trans (HB12.out.mono HBV.out.size)⟩
end Go.Proofs.YtkigoidklonhcaaGreatDoor
