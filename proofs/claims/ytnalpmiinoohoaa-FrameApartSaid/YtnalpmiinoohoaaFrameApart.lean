/-
  What is proved: for every two frames and every uint16 the law FrameApart of layer 4 returns true and changes nothing: frames are the same just if tag and text are; a frame of texts is that of them together; it has as many bytes as is told. No condition.
-/
import Derived.Test.YtnalpmiinoohoaaRows
import Derived.Test.YtnalpmiinoohoaaL04A
import Derived.Test.YtnalpmiinoohoaaFrameO
import Derived.Deep.DeepCutAuto
import Derived.BigQuiet
import Derived.Deep.RegionWith
import Derived.Deep.DrawnRows
import Derived.Deep.RegionHeld3
import Derived.ProofKit
import Derived.OpenShut
import Derived.ShutString
namespace Go.Proofs.Ytnalpmiinoohoaa.frameApart
open Go.ChangeShapes Go.WideShapes Go.ChangeAt Go.RowKit
open Go.ChangeMaps (open_string shut_string)

theorem fsz_len (tag : UInt8) (t : List UInt8) (h : t.length ≤ 131072) : Frame.fsz (t.length : Int) = ((Frame.raw tag t).length : Nat) := by
  unfold Frame.fsz
  rw [if_neg (by omega), Int.toNat_natCast, Frame.raw_length]
  omega
theorem raw_inj {g h : UInt8} {s t : List UInt8} (hs : s.length ≤ 131072) (ht : t.length ≤ 131072) (e : Frame.raw g s = Frame.raw h t) : g = h ∧ s = t := by
  have h1 := Frame.rd_raw g s [] 131072 hs (by omega)
  have h2 := Frame.rd_raw h t [] 131072 ht (by omega)
  rw [e, h2] at h1
  injection h1 with a1 a2
  injection a2 with a3 _
  exact ⟨a1.symm, a3.symm⟩
theorem cat_one (s : ByteArray) : catL [s] = s.data.toList := by unfold catL; simp
theorem cat_cut (s : ByteArray) (k : Nat) : catL [s.extract 0 k, ⟨#[]⟩, s.extract k s.size] = s.data.toList := by
  unfold catL
  rw [List.flatMap_cons, List.flatMap_cons, List.flatMap_cons, List.flatMap_nil, Lib.extract_data, Lib.extract_data]
  have : (s.data.toList.drop k).take (s.size - k) = s.data.toList.drop k := List.take_of_length_le (by simp)
  rw [this]
  simp
theorem lies_three (W : World) (B : Nat) (x y z : ByteArray) (h : W.cell? ⟨B, 0, none⟩ = some (.string x)) (h' : W.cell? ⟨B, 1, none⟩ = some (.string y)) (h'' : W.cell? ⟨B, 2, none⟩ = some (.string z)) (hB : B < W.heap.size) : Lies W W.heap.size (some ⟨B, 0, none⟩) (tcells [x, y, z]) := fun _ =>
  ⟨_, rfl, hB, fun j u hu => by
    have : j = 0 ∨ j = 1 ∨ j = 2 := by have := (List.getElem?_eq_some_iff.1 hu).1; simp [tcells] at this; omega
    rw [show tcells [x, y, z] = [.string x, .string y, .string z] from rfl] at hu
    rcases this with rfl | rfl | rfl
    · cases hu; exact h
    · cases hu; exact h'
    · cases hu; exact h''⟩

/-- Two texts, their frames, and which of them are alike. -/
def Alike (ga gb : UInt8) (sa sb F G : ByteArray) : Prop :=
  (((ga.toNat : Int) == (gb.toNat : Int)) = true ∧ (sa.toList == sb.toList) = true ∧ (F.toList == G.toList) = true) ∨
  (((ga.toNat : Int) == (gb.toNat : Int)) = false ∧ (F.toList == G.toList) = false) ∨
  (((ga.toNat : Int) == (gb.toNat : Int)) = true ∧ (sa.toList == sb.toList) = false ∧ (F.toList == G.toList) = false)
theorem alike (ga gb : UInt8) (sa sb F G : ByteArray) (ha : sa.size ≤ 131072) (hb : sb.size ≤ 131072) (hF : F = ⟨(Frame.raw ga sa.data.toList).toArray⟩) (hG : G = ⟨(Frame.raw gb sb.data.toList).toArray⟩) : Alike ga gb sa sb F G := by
  have hFG : F.toList = G.toList → ga = gb ∧ sa.data.toList = sb.data.toList := fun h => by
    rw [Lib.toList_data, Lib.toList_data, hF, hG] at h
    exact raw_inj (by simpa using ha) (by simpa using hb) h
  by_cases h1 : ga = gb
  · subst h1
    by_cases h2 : sa = sb
    · subst h2
      exact .inl ⟨by simp, by simp, by rw [hF, hG]; simp⟩
    · refine .inr (.inr ⟨by simp, ?_, ?_⟩)
      · rw [beq_eq_false_iff_ne]
        intro h
        rw [Lib.toList_data, Lib.toList_data] at h
        exact h2 (ByteArray.ext (Array.ext' h))
      · rw [beq_eq_false_iff_ne]
        intro h
        exact h2 (ByteArray.ext (Array.ext' (hFG h).2))
  · refine .inr (.inl ⟨?_, ?_⟩)
    · rw [beq_eq_false_iff_ne]
      intro h
      exact h1 (UInt8.toNat_inj.1 (by omega))
    · rw [beq_eq_false_iff_ne]
      intro h
      exact h1 (hFG h).1

set_option maxRecDepth 100000 in
set_option maxHeartbeats 8000000 in
theorem walk (ga : UInt8) (sa : ByteArray) (ha : sa.size ≤ maxLen) (gb : UInt8) (sb : ByteArray) (hb : sb.size ≤ maxLen) (x : Int) (x0 : 0 ≤ x) (x1 : x ≤ 65535) (w : World) :
    Calls Try.prog 7 #[.agg #[.int .u8 (ga.toNat : Int), .string sa], .agg #[.int .u8 (gb.toNat : Int), .string sb], .int .u16 x] w fun e w' => e = .returned (.bool true) ∧ Below w.heap.size w w' := by
  unfold maxLen at ha hb
  by_cases hbig : 1024 < sa.size
  · have hd : decide ((1024 : Int) < (sa.size : Int)) = true := by simp; omega
    clear hbig
    go_enter Try.func7, Try.ntmps7
    go_wp2_with fail
    refine (alive4_any _).mono ?_
    rintro e w1 ⟨rfl, hb1⟩
    go_wp2_with fail
    go_ret
    exact ⟨rfl, (((Below.refl _ _).alloc (Nat.le_refl _) _).alloc (by simp) _).trans (hb1.mono (by simp <;> omega))⟩
  have hd : decide ((1024 : Int) < (sa.size : Int)) = false := by simp; omega
  by_cases hbig2 : 1024 < sb.size
  · have hd2 : decide ((1024 : Int) < (sb.size : Int)) = true := by simp; omega
    clear hbig hbig2
    go_enter Try.func7, Try.ntmps7
    go_wp2_with fail
    refine (alive4_any _).mono ?_
    rintro e w1 ⟨rfl, hb1⟩
    go_wp2_with fail
    go_ret
    exact ⟨rfl, (((Below.refl _ _).alloc (Nat.le_refl _) _).alloc (by simp) _).trans (hb1.mono (by simp <;> omega))⟩
  have hd2 : decide ((1024 : Int) < (sb.size : Int)) = false := by simp; omega
  have hsa : sa.size ≤ 1024 := by omega
  have hsb : sb.size ≤ 1024 := by omega
  obtain ⟨F, hF⟩ : ∃ F : ByteArray, F = ⟨(Frame.raw ga sa.data.toList).toArray⟩ := ⟨_, rfl⟩
  obtain ⟨G, hG⟩ : ∃ G : ByteArray, G = ⟨(Frame.raw gb sb.data.toList).toArray⟩ := ⟨_, rfl⟩
  have HAL := alike ga gb sa sb F G (by omega) (by omega) hF hG
  have HFA : Hid (∀ (W : World) (B : Nat), W.cell? ⟨B, 0, none⟩ = some (.string sa) → B < W.heap.size → Calls Try.prog 9 #[.int .u8 (ga.toNat : Int), .slice (some ⟨B, 0, none⟩) 1 1] W fun e w' => e = .returned (.tuple #[.string F, .int .i64 0]) ∧ Below W.heap.size W w') := fun W B h hB => by
    have := fwrite_tail ga [sa] (some ⟨B, 0, none⟩) 1 W (lies_one W B _ h hB) (by simp [maxLen]) (by simp) (by rw [cat_one]; simp; omega)
    rw [cat_one, ← hF] at this
    exact this
  have HGB : Hid (∀ (W : World) (B : Nat), W.cell? ⟨B, 0, none⟩ = some (.string sb) → B < W.heap.size → Calls Try.prog 9 #[.int .u8 (gb.toNat : Int), .slice (some ⟨B, 0, none⟩) 1 1] W fun e w' => e = .returned (.tuple #[.string G, .int .i64 0]) ∧ Below W.heap.size W w') := fun W B h hB => by
    have := fwrite_tail gb [sb] (some ⟨B, 0, none⟩) 1 W (lies_one W B _ h hB) (by simp [maxLen]) (by simp) (by rw [cat_one]; simp; omega)
    rw [cat_one, ← hG] at this
    exact this
  obtain ⟨k, hk, hkn⟩ : ∃ k : Nat, x % ((sa.size : Int) + 1) = (k : Int) ∧ k ≤ sa.size :=
    ⟨(x % ((sa.size : Int) + 1)).toNat, by have := Int.emod_nonneg x (b := (sa.size : Int) + 1) (by omega); omega, by have := Int.emod_nonneg x (b := (sa.size : Int) + 1) (by omega); have := Int.emod_lt_of_pos x (b := (sa.size : Int) + 1) (by omega); omega⟩
  have HFC : Hid (∀ (W : World) (B : Nat), W.cell? ⟨B, 0, none⟩ = some (.string (sa.extract 0 k)) → W.cell? ⟨B, 1, none⟩ = some (.string ⟨#[]⟩) → W.cell? ⟨B, 2, none⟩ = some (.string (sa.extract k sa.size)) → B < W.heap.size →
      Calls Try.prog 9 #[.int .u8 (ga.toNat : Int), .slice (some ⟨B, 0, none⟩) 3 3] W fun e w' => e = .returned (.tuple #[.string F, .int .i64 0]) ∧ Below W.heap.size W w') := fun W B h h' h'' hB => by
    have := fwrite_tail ga [sa.extract 0 k, ⟨#[]⟩, sa.extract k sa.size] (some ⟨B, 0, none⟩) 3 W (lies_three W B _ _ _ h h' h'' hB) (by simp [maxLen]) (by simp) (by rw [cat_cut sa k]; simp; omega)
    rw [cat_cut sa k, ← hF] at this
    exact this
  have HSF : Hid (Frame.fsz (sa.size : Int) = (F.size : Int)) := by
    show _ = _
    have := fsz_len ga sa.data.toList (by simp <;> omega)
    have e : sa.data.toList.length = sa.size := by simp
    rw [e] at this
    rw [hF, mk_size]
    exact this
  have HSG : Hid (Frame.fsz (sb.size : Int) = (G.size : Int)) := by
    show _ = _
    have := fsz_len gb sb.data.toList (by simp <;> omega)
    have e : sb.data.toList.length = sb.size := by simp
    rw [e] at this
    rw [hG, mk_size]
    exact this
  have HK := Lib.hid hk
  have HAL' := Lib.hid HAL
  clear hF hG hbig hbig2 hk HAL
  have e0 : (0 : Int) ≤ (k : Int) := by omega
  have e1 : (k : Int) ≤ sa.size := by omega
  go_enter Try.func7, Try.ntmps7
  go_wp2_with fail
  refine (HFA.out _ _ (by simp [go_sem]) (by simp)).mono ?_
  rintro e w1 ⟨rfl, hb1⟩
  have a10 : w1.cell? ⟨w.heap.size, 0, none⟩ = some (.int .u8 (ga.toNat : Int)) := ((kept_cells hb1).1 _ _ (by simp <;> omega)).trans (by simp [go_sem])
  have a11 : w1.cell? ⟨w.heap.size, 1, none⟩ = some (.string sa) := ((kept_cells hb1).1 _ _ (by simp <;> omega)).trans (by simp [go_sem])
  have b10 : w1.cell? ⟨w.heap.size + 1, 0, none⟩ = some (.int .u8 (gb.toNat : Int)) := ((kept_cells hb1).1 _ _ (by simp <;> omega)).trans (by simp [go_sem])
  have b11 : w1.cell? ⟨w.heap.size + 1, 1, none⟩ = some (.string sb) := ((kept_cells hb1).1 _ _ (by simp <;> omega)).trans (by simp [go_sem])
  have z1 := hb1.size
  simp at z1
  have HB1 := Lib.hid (((((Below.refl w.heap.size w).alloc (Nat.le_refl _) _).alloc (by simp) _).alloc (by simp <;> omega) _).trans (hb1.mono (by simp <;> omega)))
  clear hb1
  go_wp2_with fail
  refine (HGB.out _ _ (by simp [go_sem]) (by simp)).mono ?_
  rintro e w2 ⟨rfl, hb2⟩
  have a20 : w2.cell? ⟨w.heap.size, 0, none⟩ = some (.int .u8 (ga.toNat : Int)) := ((kept_cells hb2).1 _ _ (by simp <;> omega)).trans ((World.cell?_alloc_lt _ _ _ (by simp <;> omega)).trans a10)
  have a21 : w2.cell? ⟨w.heap.size, 1, none⟩ = some (.string sa) := ((kept_cells hb2).1 _ _ (by simp <;> omega)).trans ((World.cell?_alloc_lt _ _ _ (by simp <;> omega)).trans a11)
  have b20 : w2.cell? ⟨w.heap.size + 1, 0, none⟩ = some (.int .u8 (gb.toNat : Int)) := ((kept_cells hb2).1 _ _ (by simp <;> omega)).trans ((World.cell?_alloc_lt _ _ _ (by simp <;> omega)).trans b10)
  have b21 : w2.cell? ⟨w.heap.size + 1, 1, none⟩ = some (.string sb) := ((kept_cells hb2).1 _ _ (by simp <;> omega)).trans ((World.cell?_alloc_lt _ _ _ (by simp <;> omega)).trans b11)
  have z2 := hb2.size
  simp at z2
  have HB2 := Lib.hid ((HB1.out.alloc (by omega) _).trans (hb2.mono (by simp <;> omega)))
  clear hb2 a10 a11 b10 b11
  go_upto_region 5 with fail
  go_cut [11] (fun v wx => v = .int .i64 (k : Int) ∧ wx = w2)
  case first =>
    go_wp2
    go_meet
    exact ⟨by rw [HK.out], rfl⟩
  case rest =>
    obtain ⟨rfl, hw⟩ := hcut
    have hw' := hw.symm
    subst hw'
    have l1 : w.heap.size < w2.heap.size := by omega
    have l2 : w.heap.size + 1 < w2.heap.size := by omega
    go_upto_region 6 with fail
    go_cut [12, 13] (fun u g wx => u = .string F ∧ g = .int .i64 0 ∧ Below w2.heap.size w2 wx)
    case first =>
      have hL2 : ∀ a : Nat, a < a + 1 + 1 := fun a => by omega
      go_region_with (go_at_call 9; refine (HFC.out _ _ (by simp [go_sem]) (by simp [go_sem]) (by simp [go_sem]) (by simp)).mono ?_; rintro e w3 ⟨rfl, hb3⟩)
      all_goals
        go_wp2
        go_meet
        refine ⟨rfl, rfl, ?_⟩
        have hU : Below w2.heap.size w2 w3 := by
          refine Below.trans ?_ (hb3.mono ?_)
          · repeat (first | with_reducible exact Below.refl _ _ | with_reducible refine Below.drew ?_ | with_reducible refine Below.alloc ?_ ?_ _)
            all_goals (first | exact Nat.le_refl _ | (simp; done) | (simp; omega))
          · first | exact Nat.le_refl _ | (simp; done) | (simp; omega)
        have hs1 := hU.size
        repeat (first | with_reducible exact hU | with_reducible refine Below.drew ?_ | with_reducible refine Below.alloc ?_ ?_ _)
        all_goals (first | exact hs1 | (simp; done) | (simp; omega))
    case rest =>
      obtain ⟨rfl, rfl, hbel⟩ := hcut
      have l3 := hbel.size
      have a30 : wc.cell? ⟨w.heap.size, 0, none⟩ = some (.int .u8 (ga.toNat : Int)) := ((kept_cells hbel).1 _ _ l1).trans a20
      have a31 : wc.cell? ⟨w.heap.size, 1, none⟩ = some (.string sa) := ((kept_cells hbel).1 _ _ l1).trans a21
      have b30 : wc.cell? ⟨w.heap.size + 1, 0, none⟩ = some (.int .u8 (gb.toNat : Int)) := ((kept_cells hbel).1 _ _ l2).trans b20
      have b31 : wc.cell? ⟨w.heap.size + 1, 1, none⟩ = some (.string sb) := ((kept_cells hbel).1 _ _ l2).trans b21
      have HB3 := Lib.hid (HB2.out.trans (hbel.mono (by omega)))
      clear hbel a20 a21 b20 b21
      rcases HAL'.out with ⟨q1, q2, q3⟩ | ⟨q1, q3⟩ | ⟨q1, q2, q3⟩
      all_goals
        go_wp2_with fail
        refine (fsize_any _ _ (by omega) (by omega)).mono ?_
        rw [HSF.out]
        rintro e w' ⟨rfl, rfl⟩
        go_wp2_with fail
        refine (fsize_any _ _ (by omega) (by omega)).mono ?_
        rw [HSG.out]
        rintro e w' ⟨rfl, rfl⟩
        go_wp2_with fail
        refine (alive4_any _).mono ?_
        rintro e w4 ⟨rfl, hb4⟩
        go_wp2_with fail
        go_ret
        exact ⟨rfl, HB3.out.trans (hb4.mono (by omega))⟩

/-! ### From the walk to the statement -/
theorem own : ownKnob Try.prog.godebug = none := by kernel_rfl

set_option maxRecDepth 20000 in
theorem contract (H : Type) (enc : TypeId × Value → H) (W : World) (base : Nat) (args : Array Value) (ds gs : List (DataW H)) (before : List MemPlace)
    (hval : ∀ (j : Nat) t v, Try.f7.params[j]? = some t → args[j]? = some v → Value.okWide Try.prog W .any base t v)
    (hW : DataW.Whole enc Try.prog Try.f7.params.toList Rows.frameApartSpec.vars false W args.toList ds gs before) :
    Calls Try.prog 7 args W fun e W' => ∃ v, e = .returned v ∧ Rows.frameApartSpec.post enc Try.prog Try.f7 false true false false W args v W' := by
  have hW' := hW
  obtain ⟨p, q, hA0, hV, rfl, hfz, hnd⟩ := hW
  have hA : DataW.TrodAll enc Try.prog W 0 (fun _ => true) true Try.f7.params.toList args.toList ds p := hA0
  rw [Try.params7] at hA hval
  obtain ⟨v0, vs0, d0, ds0, p0, q0, hargs, rfl, rfl, h0, r0⟩ := trodAll_cons hA
  obtain ⟨v1, vs1, d1, ds1, p1, q1, rfl, rfl, rfl, h1, r1⟩ := trodAll_cons r0
  obtain ⟨v2, vs2, d2, ds2, p2, q2, rfl, rfl, rfl, h2, r2⟩ := trodAll_cons r1
  obtain ⟨rfl, rfl, rfl⟩ := trodAll_nil r2
  obtain rfl : args = #[v0, v1, v2] := by cases args; simp_all
  obtain ⟨rfl, rfl⟩ := trodVars_none hV
  have k0 := h0
  obtain ⟨fuel0, hf0⟩ := h0
  obtain ⟨g0, s0, hcs0, hb0⟩ := trod_frame hf0
  obtain rfl := frame_of (hval 0 31 v0 rfl rfl) hcs0
  have k1 := h1
  obtain ⟨fuel1, hf1⟩ := h1
  obtain ⟨g1, s1, hcs1, hb1⟩ := trod_frame hf1
  obtain rfl := frame_of (hval 1 31 v1 rfl rfl) hcs1
  obtain ⟨a2, rfl, rfl, rfl, w2⟩ := open_int Try.underlying47 (hval 2 47 v2 rfl rfl) h2
  have b2 : 0 ≤ a2 ∧ a2 ≤ 65535 := by simpa [Lit.wf, IntKind.min, IntKind.max, IntKind.signed, IntKind.bits] using w2
  clear hA0
  simp only [List.append_nil] at hW'
  refine (walk g0 s0 hb0 g1 s1 hb1 a2 b2.1 b2.2 W).mono fun e W' ⟨he, bel⟩ => ?_
  subst he
  exact ⟨_, rfl, _, _, _, [], _, [], hW', trodAll_mk1 (shut_bool Try.underlying4 _), (trodAll_cons_mk (Below.trod laidOut (by kernel_rfl) (of_decide_eq_true (by kernel_rfl)) k0 bel (fun x hx => DataW.trod_lt _ _ _ _ hf0 x hx)) (trodAll_cons_mk (Below.trod laidOut (by kernel_rfl) (of_decide_eq_true (by kernel_rfl)) k1 bel (fun x hx => DataW.trod_lt _ _ _ _ hf1 x hx)) (trodAll_cons_mk (shut_int Try.underlying47 w2) trodAll_mk0))), rfl, bel.frame _, fun h => by cases h⟩

set_option maxRecDepth 100000 in
theorem lifted (os : Os) (started : os.Started) (H : Type) (enc : TypeId × Value → H) :
    ReturnsInHanded {} Try.checked os 7 .any (Rows.frameApartSpec.pre6 enc Try.prog Try.f7 Rows.frameApartRow.domain false) (Rows.frameApartSpec.post enc Try.prog Try.f7 false true false false) := by
  refine returnsInHanded_of_change (C := Try.checked) own started (by kernel_rfl) Try.func7
    (ChangeSpec.witness6 (enc := enc) (C := Try.checked) false ⟨#[], #[.agg #[.int .u8 0, .string ByteArray.empty], .agg #[.int .u8 0, .string ByteArray.empty], .int .u16 0], []⟩ 8 (by kernel_rfl) (by kernel_rfl) (by kernel_rfl) (by kernel_rfl)) ?_
  intro W base args ds gs before hval hW _ _
  exact contract H enc W base args ds gs before hval hW

theorem over : Rows.frameApartRow.holds Try.pinned (OpenSpec.ofChange Rows.frameApartSpec) :=
  OpenClaim.holds_of_wide 7 Try.f7 rfl rfl rfl rfl rfl rfl rfl ⟨rfl, rfl, rfl, rfl, rfl⟩ rfl rfl rfl rfl rfl (by kernel_rfl) Try.func7 (by kernel_rfl)
    (of_decide_eq_true (by kernel_rfl)) (by unfold Func.isWrapper; first | (rw [if_pos (by decide +kernel)]; kernel_rfl) | (rw [if_neg (by decide +kernel)]; exact ⟨rfl, rfl⟩))
    (fun os started H enc _ => lifted os started H enc)

/-- The statement. -/
theorem proved : Rows.FrameApartSaid :=
  over

end Go.Proofs.Ytnalpmiinoohoaa.frameApart
