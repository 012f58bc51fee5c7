/-
  Which programs are the same; what is changed in a copy does not change the program (CodeTells).
-/
import Derived.Test.YtndgafjnifkghaaRows
import Derived.Test.YtndgafjnifkghaaL10W
import Derived.Test.YtndgafjnifkghaaCrK
import Derived.ProofKit
import Derived.OpenShut
import Derived.ShutString
namespace Go.Proofs.Ytndgafjnifkghaa.codeTells
open Go.ChangeShapes Go.WideShapes Go.ChangeAt Go.RowKit
open Go.ChangeMaps (open_string shut_string)

set_option maxHeartbeats 2000000 in
set_option maxRecDepth 20000 in
theorem walk (w : World) (l : List Cd.Fm) (A : Option Addr) (c : Nat) (pl : Cd.Prog w w.heap.size A l) (nl : l.length ≤ maxLen) (rl : ∀ m ∈ l, m.f.Rng) (r : List Cd.Fm) (A2 : Option Addr) (c2 : Nat) (pr : Cd.Prog w w.heap.size A2 r) (nr : r.length ≤ maxLen) (rr : ∀ m ∈ r, m.f.Rng) :
    Calls Try.prog 5 #[.agg #[.slice A l.length c], .agg #[.slice A2 r.length c2]] w fun e w' => e = .returned (.bool true) ∧ Below w.heap.size w w' := by
  obtain ⟨V, hV⟩ : ∃ V, V = w.alloc (.cells #[.slice A l.length c] 24) := ⟨_, rfl⟩
  have hVs : V.heap.size = w.heap.size + 1 := by rw [hV]; simp
  obtain ⟨W, hW⟩ : ∃ W, W = V.alloc (.cells #[.slice A2 r.length c2] 24) := ⟨_, rfl⟩
  have hb1 : Below w.heap.size w V := by rw [hV]; exact Cd.fn1 _ _ _
  have hb2 : Below V.heap.size V W := by rw [hW]; exact Cd.fn1 _ _ _
  have hb : Below w.heap.size w W := hb1.trans (hb2.mono hb1.size)
  have hF : W.heap[w.heap.size]? = some (.cells #[.slice A l.length c] 24 (0, 0)) := by
    rw [hb2.block _ (by rw [hVs]; omega), hV]
    exact heap_alloc_new w _
  have hG : W.heap[w.heap.size + 1]? = some (.cells #[.slice A2 r.length c2] 24 (0, 0)) := by
    rw [← hVs, hW]
    exact heap_alloc_new V _
  have HH1 : Hid (Cd.HeldP W A l) := Cd.HeldP.later ⟨pl, nl, rl⟩ hb
  have HH2 : Hid (Cd.HeldP W A2 r) := Cd.HeldP.later ⟨pr, nr, rr⟩ hb
  have HB := Lib.hid hb
  have HF := Lib.hid hF
  have HG := Lib.hid hG
  have c0 : W.cell? ⟨w.heap.size, 0, none⟩ = some (.slice A l.length c) := Cd.belCell (Below.refl _ _) hF
  have c1 : W.cell? ⟨w.heap.size + 1, 0, none⟩ = some (.slice A2 r.length c2) := Cd.belCell (Below.refl _ _) hG
  clear pl nl rl pr nr rr hVs hb1 hb2 hb hF hG
  go_enter Try.func5, Try.ntmps5
  go_upto_region 1 with fail
  rw [← hV, ← hW]
  clear hV hW
  clear V
  obtain ⟨X, hX⟩ : ∃ X, X = w.heap.size := ⟨_, rfl⟩
  obtain ⟨Y, hY⟩ : ∃ Y, Y = X + 1 := ⟨_, rfl⟩
  rw [← hX] at HF HG c0 c1 ⊢
  rw [← hY] at HG c1 ⊢
  clear hX hY
  go_wp2_with fail
  refine (heavy_at HH1.out c (Below.refl _ _)).mono ?_
  rintro e w1 ⟨b1, rfl, HV1, hb1⟩
  have H1 := Lib.hid hb1
  have d1 := Cd.belCell hb1 HG.out
  have a0 := Cd.belCell hb1 HF.out
  clear hb1 c0 c1
  cases b1 with
  | true =>
    go_wp2_with fail
    refine (alive10_at H1.out).mono ?_
    rintro e w2 ⟨rfl, hb2⟩
    have H2 := Lib.hid hb2
    clear hb2
    go_wp2_with fail
    go_ret
    exact ⟨rfl, HB.out.trans (H2.out.mono HB.out.size)⟩
  | false =>
    go_wp2_with fail
    refine (heavy_at HH2.out c2 H1.out).mono ?_
    rintro e w2 ⟨b2, rfl, _, hb2⟩
    have H2 := Lib.hid hb2
    have a0 := Cd.belCell hb2 HF.out
    clear hb2 d1
    cases b2 with
    | true =>
      go_wp2_with fail
      refine (alive10_at H2.out).mono ?_
      rintro e w3 ⟨rfl, hb3⟩
      have H3 := Lib.hid hb3
      clear hb3
      go_wp2_with fail
      go_ret
      exact ⟨rfl, HB.out.trans (H3.out.mono HB.out.size)⟩
    | false =>
      have HL := Lib.hid (HV1.out (by first | rfl | trivial))
      have HP2 := Lib.hid (HH1.out.later H2.out)
      have HC1 := Lib.hid (cCopy l (fun m hm => by have := HL.out.2 m hm; omega) (by have := HL.out.1; omega) A c w2 HP2.out.p)
      have HC2 : Hid (∀ U, Cd.HeldP U A l → Calls Try.prog 19 #[.agg #[.slice A l.length c]] U fun e w' => ∃ (ms : List Cd.Fm) (A' : Option Addr) (c' : Nat), e = .returned (.agg #[.slice A' ms.length c']) ∧ Cd.fns ms = Cd.fns l ∧ Cd.Rows w' U.heap.size A' c' ms ∧ Below U.heap.size U w') := fun U hU => rCopy10 l (fun m hm => by have := HL.out.2 m hm; omega) (by have := HL.out.1; omega) A c U hU.p
      clear HV1
      go_wp2_with fail
      refine HC1.out.mono ?_
      rintro e w3 ⟨ms, A3, c3, rfl, hms, hrs, hb3⟩
      -- the copy lies between w2's size and w3's
      obtain ⟨lo, hlo⟩ : ∃ lo, lo = w2.heap.size := ⟨_, rfl⟩
      obtain ⟨hi, hhi⟩ : ∃ hi, hi = w3.heap.size := ⟨_, rfl⟩
      obtain ⟨V3, hV3⟩ : ∃ V, V = w3.alloc (.cells #[.slice A3 ms.length c3] 24) := ⟨_, rfl⟩
      have hbV3 : Below w3.heap.size w3 V3 := by rw [hV3]; exact Cd.fn1 _ _ _
      have HF3 : Hid (Cd.PBlk V3 hi (.slice A3 ms.length c3)) := by show V3.heap[_]? = _; rw [hV3, hhi]; exact heap_alloc_new w3 _
      have HMS := Lib.hid hms
      have HR3 : Hid (Cd.Rows w3 lo A3 c3 ms ∧ hi = w3.heap.size ∧ Below w3.heap.size w3 V3 ∧ W.heap.size ≤ lo ∧ lo ≤ hi) := ⟨by rw [hlo]; exact hrs, hhi, hbV3, by rw [hlo]; exact H2.out.size, by rw [hlo, hhi]; exact hb3.size⟩
      have H3 : Hid (Below W.heap.size W V3) := by
        have h1 := hb3.trans (hbV3.mono hb3.size)
        exact H2.out.trans (h1.mono H2.out.size)
      have d0 := Cd.belCell H3.out HF.out
      clear hms hrs hb3 HC1 a0 HP2 H2 hlo
      go_upto_region 4 with fail
      rw [← hV3, ← hhi]
      clear hV3 hhi hbV3
      go_wp2_with fail
      refine (HC2.out V3 (HH1.out.later H3.out)).mono ?_
      rintro e w4 ⟨ns, A4, c4, rfl, hns, hrn, hb4⟩
      obtain ⟨Q, hQ⟩ : ∃ Q, Q = w4.heap.size := ⟨_, rfl⟩
      obtain ⟨V4, hV4⟩ : ∃ V, V = w4.alloc (.cells #[.slice A4 ns.length c4] 24) := ⟨_, rfl⟩
      have hbV4 : Below w4.heap.size w4 V4 := by rw [hV4]; exact Cd.fn1 _ _ _
      have H34 : Hid (Below V3.heap.size V3 V4) := hb4.trans (hbV4.mono hb4.size)
      have HF4 : Hid (Cd.PBlk V4 Q (.slice A4 ns.length c4) ∧ V3.heap.size ≤ Q) := ⟨by show V4.heap[_]? = _; rw [hV4, hQ]; exact heap_alloc_new w4 _, by rw [hQ]; exact hb4.size⟩
      have HNS := Lib.hid hns
      have HRN : Hid (Cd.Rows V4 V3.heap.size A4 c4 ns) := hrn.keep (fun i h1 h2 => hbV4.block i h2)
      clear hns hrn hb4 HC2 d0
      go_upto_region 5 with fail
      rw [← hV4, ← hQ]
      clear hV4 hbV4 hQ
      have H4 := Lib.hid (H3.out.trans (H34.out.mono H3.out.size))
      -- the copy's rows in V4
      have HRC : Hid (Cd.Rows V4 lo A3 c3 ms) := by
        have h1 : Below w3.heap.size w3 V4 := HR3.out.2.2.1.trans (H34.out.mono HR3.out.2.2.1.size)
        exact HR3.out.1.keep (fun i h1' h2 => h1.block i h2)
      have HRLT : Hid ((∀ k, (Value.slice A3 ms.length c3).ownBlock = some k → lo ≤ k ∧ k < hi) ∧ ∀ m ∈ ms, ∀ k, (Value.slice m.A m.f.ops.length m.c).ownBlock = some k → lo ≤ k ∧ k < hi) := by
        rw [HR3.out.2.1]
        exact ⟨HR3.out.1.fs.lt, fun m hm => (HR3.out.1.os m hm).lt⟩
      have HHC : Hid (Cd.HeldP V4 A3 ms) := ⟨HRC.out.prog, by rw [← Cd.fns_len ms, HMS.out, Cd.fns_len]; exact HH1.out.n, fun m hm => by
        have h1 : m.f ∈ Cd.fns l := by rw [← HMS.out]; exact List.mem_map_of_mem hm
        exact Cd.fns_rng HH1.out.r _ h1⟩
      have HHA := Lib.hid (HH1.out.later H4.out)
      have HHB := Lib.hid (HH2.out.later H4.out)
      obtain ⟨q, hq⟩ : ∃ q, q = Cd.eqFs (Cd.fns l) (Cd.fns r) := ⟨_, rfl⟩
      have K1 : Hid (∀ {U : World}, Below V4.heap.size V4 U → Calls Try.prog 20 #[.agg #[.slice A l.length c], .agg #[.slice A2 r.length c2]] U fun e w' => e = .returned (.bool q) ∧ Below V4.heap.size V4 w') := fun {U} hU => by rw [hq]; exact same_at HHA.out HHB.out c c2 hU
      have K2 : Hid (∀ {U : World}, Below V4.heap.size V4 U → Calls Try.prog 17 #[.agg #[.slice A l.length c], .agg #[.slice A2 r.length c2]] U fun e w' => e = .returned (.bool q) ∧ Below V4.heap.size V4 w') := fun {U} hU => by rw [hq]; exact rsame_at HHA.out HHB.out c c2 hU
      have K3 : Hid (∀ {U : World}, Below V4.heap.size V4 U → Calls Try.prog 20 #[.agg #[.slice A l.length c], .agg #[.slice A l.length c]] U fun e w' => e = .returned (.bool true) ∧ Below V4.heap.size V4 w') := fun {U} hU => by
        have := same_at HHA.out HHA.out c c hU
        rw [Cd.eqFs_refl] at this
        exact this
      have K4 : Hid (∀ {U : World}, Below V4.heap.size V4 U → Calls Try.prog 17 #[.agg #[.slice A3 ms.length c3], .agg #[.slice A l.length c]] U fun e w' => e = .returned (.bool true) ∧ Below V4.heap.size V4 w') := fun {U} hU => by
        have := rsame_at HHC.out HHA.out c3 c hU
        rw [HMS.out, Cd.eqFs_refl] at this
        exact this
      have hqq : (q != q) = false := by simp
      have z0 := Cd.belCell H4.out HF.out
      have z1 := Cd.belCell H4.out HG.out
      have z3 := (HF3.out.of_block (H34.out.block hi HF3.out.lt)).c0
      have HKEEP : Hid (∀ {U : World}, Below V4.heap.size V4 U → U.cell? ⟨X, 0, none⟩ = some (.slice A l.length c) ∧ U.cell? ⟨Y, 0, none⟩ = some (.slice A2 r.length c2) ∧ U.cell? ⟨hi, 0, none⟩ = some (.slice A3 ms.length c3) ∧ Below V4.heap.size V4 U) := fun h =>
        ⟨Cd.belCell (H4.out.trans (h.mono H4.out.size)) HF.out, Cd.belCell (H4.out.trans (h.mono H4.out.size)) HG.out, ((HF3.out.of_block (H34.out.block hi HF3.out.lt)).of_block (h.block hi (Nat.lt_of_lt_of_le HF3.out.lt H34.out.size))).c0, h⟩
      have bb := (Below.refl V4.heap.size V4).drew
      clear hq HHB HHC HH2
      go_region_held3 (fun wx => wx.cell? ⟨X, 0, none⟩ = some (.slice A l.length c) ∧ wx.cell? ⟨Y, 0, none⟩ = some (.slice A2 r.length c2) ∧ wx.cell? ⟨hi, 0, none⟩ = some (.slice A3 ms.length c3) ∧ Below V4.heap.size V4 wx)
        (first | with_reducible assumption | with_reducible exact HKEEP.out (by with_reducible assumption))
        (first
          | (go_at_call 20; with_reducible refine (K1.out (by with_reducible assumption)).mono ?_; rintro e y1 ⟨rfl, hy1⟩)
          | (go_at_call 17; with_reducible refine (K2.out (by with_reducible assumption)).mono ?_; rintro e y2 ⟨rfl, hy2⟩)
          | (go_at_call 20; with_reducible refine (K3.out (by with_reducible assumption)).mono ?_; rintro e y3 ⟨rfl, hy3⟩)
          | (go_at_call 17; with_reducible refine (K4.out (by with_reducible assumption)).mono ?_; rintro e y4 ⟨rfl, hy4⟩))
      simp only [Exit.then]
      go_at_K
      have HY := Lib.hid hy4
      have HHI : Hid (hi < V3.heap.size ∧ lo ≤ hi) := ⟨HF3.out.lt, HR3.out.2.2.2.2⟩
      have HLO : Hid (W.heap.size ≤ lo) := HR3.out.2.2.2.1
      have HWY : Hid (Below W.heap.size W y4) := H4.out.trans (hy4.mono H4.out.size)
      have HRY : Hid (Cd.Rows y4 lo A3 c3 ms) := HRC.out.keep (fun i h1 h2 => hy4.block i h2)
      have HRNY : Hid (Cd.Rows y4 V3.heap.size A4 c4 ns) := HRN.out.keep (fun i h1 h2 => hy4.block i h2)
      have HCELL : Hid (y4.cell? ⟨X, 0, none⟩ = some (.slice A l.length c) ∧ y4.cell? ⟨hi, 0, none⟩ = some (.slice A3 ms.length c3) ∧ y4.cell? ⟨Q, 0, none⟩ = some (.slice A4 ns.length c4)) :=
        ⟨(HKEEP.out hy4).1, (HKEEP.out hy4).2.2.1, (HF4.out.1.of_block (hy4.block Q HF4.out.1.lt)).c0⟩
      have hml : ms.length ≤ 60 := by rw [← Cd.fns_len ms, HMS.out, Cd.fns_len]; exact HL.out.1
      clear hy1 hy2 hy3 hy4 bb z0 z1 z3 K1 K2 K3 K4 HKEEP HRC HRN HHA H4 HY H34 HR3 hqq
      go_wp2_with fail
      go_loopw [7] (fun s7 wr => ∃ i : Nat, i ≤ ms.length ∧ s7 = .int .i64 i ∧ Hid (Cd.Mut lo hi y4 wr)) (fun s7 _ => ms.length - (intOf s7).toNat)
      case atStart => exact ⟨0, Nat.zero_le _, rfl, Cd.Mut.refl _ _ _⟩
      case round =>
        obtain ⟨i, hile, rfl, HM⟩ := hrel
        have x3 := HM.out.slc _ _ _ _ HCELL.out.2.1
        by_cases hlt : i < ms.length
        · have i0 : (0 : Int) ≤ (i : Int) := by omega
          have i1 : (i : Int) < (ms.length : Int) := by omega
          obtain ⟨ad, rfl, _, _, q0, q1, q2⟩ := Cd.row_fn HRY.out.fs hlt
          have hme := List.getElem_mem hlt
          have HRO := Lib.hid (HRY.out.os _ hme)
          have HBL := Lib.hid (HRLT.out.2 _ hme)
          have hmo : (ms[i]).f.ops.length ≤ 200 := by
            have h1 : (ms[i]).f ∈ Cd.fns l := by rw [← HMS.out]; exact List.mem_map_of_mem hme
            obtain ⟨m', hm', e⟩ := List.mem_map.1 h1
            rw [← e]
            exact HL.out.2 m' hm'
          generalize ms[i] = m at q0 q2 HRO HBL hmo
          have HQ0 := Lib.hid q0
          have HQ1 := Lib.hid q1
          have HQ2 := Lib.hid q2
          clear q0 q1 q2 hme hlt
          go_wp2_with fail
          clear x3
          go_loopw [8] (fun s8 wk => ∃ k : Nat, k ≤ m.f.ops.length ∧ s8 = .int .i64 k ∧ Hid (Cd.Mut lo hi y4 wk)) (fun s8 _ => m.f.ops.length - (intOf s8).toNat)
          case atStart => exact ⟨0, Nat.zero_le _, rfl, HM.out⟩
          case round =>
            rename World => wk
            obtain ⟨k, hk, rfl, HM2⟩ := hrel
            have x3 := HM2.out.slc _ _ _ _ HCELL.out.2.1
            have x2 := HM2.out.slc _ _ _ _ HQ2.out
            by_cases hkt : k < m.f.ops.length
            · have k0 : (0 : Int) ≤ (k : Int) := by omega
              have k1 : (k : Int) < (m.f.ops.length : Int) := by omega
              obtain ⟨adm, hAm, _, _, o0, o1⟩ := Cd.row_op HRO.out hkt
              rw [hAm] at x2
              obtain ⟨y, hy⟩ := HM2.out.int _ _ _ o0
              have hfz : wk.frozen? (adm.add (k * 5)) = false := by rw [HM2.out.frz]; exact o1
              have hbl := HBL.out (adm.add (k * 5)).block (by rw [hAm, Lies.add_block]; obtain ⟨e1, e2⟩ | ⟨g, cap, cur, e1, e2⟩ := HRO.out.2 <;> simp_all [Value.ownBlock])
              have HM3 := Lib.hid (HM2.out.set _ hbl hy 99)
              clear hkt hAm o0 o1 hbl
              go_wp2_with fail
              go_roundw
              case rel => exact ⟨k + 1, by omega, by go_num, HM3.out⟩
              case measure => simp [intOf]; omega
            · have k1 : ¬ (k : Int) < (m.f.ops.length : Int) := by omega
              obtain ⟨y, hy⟩ := HM2.out.int _ _ _ HQ0.out
              have hfz : wk.frozen? (ad.add (i * 3)) = false := by rw [HM2.out.frz]; exact HQ1.out
              have hbl := HRLT.out.1 (ad.add (i * 3)).block (by rw [Lies.add_block]; obtain ⟨e1, e2⟩ | ⟨g, cap, cur, e1, e2⟩ := HRY.out.fs.2 <;> simp_all [Value.ownBlock])
              have HM3 := Lib.hid (HM2.out.set _ hbl hy 99)
              clear hkt hbl
              go_wp2_with fail
              go_roundw
              case rel => exact ⟨i + 1, by omega, by go_num, HM3.out⟩
              case measure => simp [intOf]; omega
        · have i1 : ¬ (i : Int) < (ms.length : Int) := by omega
          have a0 := HM.out.slc _ _ _ _ HCELL.out.1
          have a4 := HM.out.slc _ _ _ _ HCELL.out.2.2
          have hsz := HM.out.size
          have hp1 : Cd.HeldP wr A l := ⟨(HH1.out.p.keep (fun p hp => (World.cell?_of_block (HM.out.out p.block (by have := HLO.out; omega))).trans (World.cell?_of_block (HWY.out.block p.block hp)))).mono (by have := HWY.out.size; omega), HH1.out.n, HH1.out.r⟩
          have hp2 : Cd.HeldP wr A4 ns := ⟨(HRNY.out.keep (w' := wr) (fun i h1 h2 => HM.out.out i (by have := HHI.out; omega))).prog, by rw [← Cd.fns_len ns, HNS.out, Cd.fns_len]; exact HH1.out.n, fun m hm => by
            have h1 : m.f ∈ Cd.fns l := by rw [← HNS.out]; exact List.mem_map_of_mem hm
            exact Cd.fns_rng HH1.out.r _ h1⟩
          have HSM : Hid (Calls Try.prog 17 #[.agg #[.slice A l.length c], .agg #[.slice A4 ns.length c4]] wr fun e w' => e = .returned (.bool true) ∧ Below wr.heap.size wr w') := by
            have := rsame_at hp1 hp2 c c4 (Below.refl _ _)
            rw [HNS.out, Cd.eqFs_refl] at this
            exact this
          have HE : Hid (Below w.heap.size w wr) := HB.out.trans ((HM.out.below HWY.out HLO.out).mono HB.out.size)
          clear hp1 hp2 hsz
          go_wp2_with fail
          refine HSM.out.mono ?_
          rintro e w6 ⟨rfl, hb6⟩
          have H6 := Lib.hid (HE.out.trans (hb6.mono HE.out.size))
          clear hb6
          go_wp2_with fail
          refine (alive10_at H6.out).mono ?_
          rintro e w7 ⟨rfl, hb7⟩
          have H7 := Lib.hid hb7
          clear hb7
          go_wp2_with fail
          go_ret
          exact ⟨rfl, H7.out⟩


/-! ### From the walk to the statement -/
theorem own : ownKnob Try.prog.godebug = none := by kernel_rfl

set_option maxRecDepth 20000 in
theorem contract (H : Type) (enc : TypeId × Value → H) (W : World) (base : Nat) (args : Array Value) (ds gs : List (DataW H)) (before : List MemPlace)
    (hval : ∀ (j : Nat) t v, Try.f5.params[j]? = some t → args[j]? = some v → Value.okWide Try.prog W .any base t v)
    (hW : DataW.Whole enc Try.prog Try.f5.params.toList Rows.codeTellsSpec.vars false W args.toList ds gs before) :
    Calls Try.prog 5 args W fun e W' => ∃ v, e = .returned v ∧ Rows.codeTellsSpec.post enc Try.prog Try.f5 false true false false W args v W' := by
  have hW' := hW
  obtain ⟨p, q, hA0, hV, rfl, hfz, hnd⟩ := hW
  have hA : DataW.TrodAll enc Try.prog W 0 (fun _ => true) true Try.f5.params.toList args.toList ds p := hA0
  rw [Try.params5] at hA hval
  obtain ⟨v0, vs0, d0, ds0, p0, q0, hargs, rfl, rfl, h0, r0⟩ := trodAll_cons hA
  obtain ⟨v1, vs1, d1, ds1, p1, q1, rfl, rfl, rfl, h1, r1⟩ := trodAll_cons r0
  obtain ⟨rfl, rfl, rfl⟩ := trodAll_nil r1
  obtain rfl : args = #[v0, v1] := by cases args; simp_all
  obtain ⟨rfl, rfl⟩ := trodVars_none hV
  have k0 := h0
  obtain ⟨fuel0, hf0⟩ := h0
  obtain ⟨xs0, A0, c0, hcs0, hn0, hl0, hb0⟩ := trod_prog10 hf0
  obtain rfl := prog_of10 (hval 0 24 v0 rfl rfl) hcs0
  have k1 := h1
  obtain ⟨fuel1, hf1⟩ := h1
  obtain ⟨xs1, A1, c1, hcs1, hn1, hl1, hb1⟩ := trod_prog10 hf1
  obtain rfl := prog_of10 (hval 1 24 v1 rfl rfl) hcs1
  clear hA0
  simp only [List.append_nil] at hW'
  refine (walk W xs0 A0 c0 hl0 hn0 hb0 xs1 A1 c1 hl1 hn1 hb1).mono fun e W' ⟨he, bel⟩ => ?_
  subst he
  exact ⟨_, rfl, _, _, _, [], _, [], hW', trodAll_mk1 (shut_bool Try.underlying4 _), (trodAll_cons_mk (Below.trod laidOut (by kernel_rfl) (of_decide_eq_true (by kernel_rfl)) k0 bel (fun x hx => DataW.trod_lt _ _ _ _ hf0 x hx)) (trodAll_cons_mk (Below.trod laidOut (by kernel_rfl) (of_decide_eq_true (by kernel_rfl)) k1 bel (fun x hx => DataW.trod_lt _ _ _ _ hf1 x hx)) trodAll_mk0)), rfl, bel.frame _, fun h => by cases h⟩

set_option maxRecDepth 100000 in
theorem lifted (os : Os) (started : os.Started) (H : Type) (enc : TypeId × Value → H) :
    ReturnsInHanded {} Try.checked os 5 .any (Rows.codeTellsSpec.pre6 enc Try.prog Try.f5 Rows.codeTellsRow.domain false) (Rows.codeTellsSpec.post enc Try.prog Try.f5 false true false false) := by
  refine returnsInHanded_of_change (C := Try.checked) own started (by kernel_rfl) Try.func5
    (ChangeSpec.witness6 (enc := enc) (C := Try.checked) false ⟨#[], #[.agg #[.slice none 0 0], .agg #[.slice none 0 0]], []⟩ 8 (by kernel_rfl) (by kernel_rfl) (by kernel_rfl) (by kernel_rfl)) ?_
  intro W base args ds gs before hval hW _ _
  exact contract H enc W base args ds gs before hval hW

theorem over : Rows.codeTellsRow.holds Try.pinned (OpenSpec.ofChange Rows.codeTellsSpec) :=
  OpenClaim.holds_of_wide 5 Try.f5 rfl rfl rfl rfl rfl rfl rfl ⟨rfl, rfl, rfl, rfl, rfl⟩ rfl rfl rfl rfl rfl (by kernel_rfl) Try.func5 (by kernel_rfl)
    (of_decide_eq_true (by kernel_rfl)) (by unfold Func.isWrapper; first | (rw [if_pos (by decide +kernel)]; kernel_rfl) | (rw [if_neg (by decide +kernel)]; exact ⟨rfl, rfl⟩))
    (fun os started H enc _ => lifted os started H enc)

/-- The statement. -/
theorem proved : Rows.CodeTellsSaid :=
  over

end Go.Proofs.Ytndgafjnifkghaa.codeTells
