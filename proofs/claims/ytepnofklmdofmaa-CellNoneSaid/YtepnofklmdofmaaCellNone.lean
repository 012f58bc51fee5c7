/-
  Law 15: what no memory answers; there is room for MaxCells.
-/
import Derived.Test.YtepnofklmdofmaaRows
import Derived.Test.YtepnofklmdofmaaCeF
import Derived.ProofKit
import Derived.OpenShut
import Derived.ShutString
namespace Go.Proofs.Ytepnofklmdofmaa.cellNone
open Go.ChangeShapes Go.WideShapes Go.ChangeAt Go.RowKit
open Go.ChangeMaps (open_string shut_string)

theorem made64 (n : Nat) (w : World) : Lies (w.alloc (.cells (madeCells #[.int .i64 0] n) 2)) (w.alloc (.cells (madeCells #[.int .i64 0] n) 2)).heap.size (some ⟨w.heap.size, 0, none⟩) (icells (List.replicate n 0)) := fun _ => by
  refine ⟨_, rfl, by simp, fun j u hu => ?_⟩
  rw [Ce.off_add, cell_of_row _ _ j _ _ _ (heap_alloc_new w _), ← hu, ← Array.getElem?_toList, toList_madeCells_one]
  simp [icells]
theorem lies1 (w : World) (a : Int) (T : TypeId) : Lies (w.alloc (.cells #[.int .i64 a] T)) (w.alloc (.cells #[.int .i64 a] T)).heap.size (some ⟨w.heap.size, 0, none⟩) (icells [a]) := fun _ =>
  ⟨⟨w.heap.size, 0, none⟩, rfl, by simp, fun j u hu => World.news_of_block (heap_alloc_new w (.cells #[.int .i64 a] T)) j u hu⟩
theorem fulls {L : List Int} (h : L.length = 65536) : Ce.moA [] L = 0 ∧ Ce.moE [] L = 0 ∧ Ce.moX [] L = L := by
  have : Ce.moR [] L = true := by unfold Ce.moR; rw [h]; exact decide_eq_true (by simp)
  unfold Ce.moE Ce.moX Ce.moA
  rw [this]
  exact ⟨rfl, rfl, rfl⟩
theorem no_more {L : List Int} (h : L.length = 65536) (v : Int) : Ce.moE L [v] = 6 ∧ Ce.moA L [v] = 0 ∧ Ce.moX L [v] = L := by
  have : Ce.moR L [v] = false := by unfold Ce.moR; rw [h]; exact decide_eq_false (by simp)
  unfold Ce.moE Ce.moX Ce.moA
  rw [this]
  exact ⟨rfl, rfl, rfl⟩
theorem none_more {L : List Int} (h : L.length = 65536) : Ce.moE L [] = 0 ∧ Ce.moX L [] = L := by
  have : Ce.moR L [] = true := by unfold Ce.moR; rw [h]; simp
  unfold Ce.moE Ce.moX
  rw [this]
  exact ⟨rfl, List.append_nil _⟩
set_option maxHeartbeats 1000000 in
set_option maxRecDepth 20000 in
theorem walk (at_ : Int) (_ : -9223372036854775808 ≤ at_) (_ : at_ ≤ 9223372036854775807) (v : Int) (_ : -9223372036854775808 ≤ v) (_ : v ≤ 9223372036854775807) (w : World) :
    Calls Try.prog 5 #[.int .i64 at_, .int .i64 v] w fun e w' => e = .returned (.bool true) ∧ Below w.heap.size w w' := by
  have hm64 : ∀ w : World, (Instr.makeSlice 28 (.int .i64 65536) (.int .i64 65536)).run Try.prog w = .ok (.slice (some ⟨w.heap.size, 0, none⟩) 65536 65536) (w.alloc (.cells (madeCells #[.int .i64 0] 65536) 2)) := fun w => run_make_row' (P := Try.prog) 28 2 (.int .i64 0) 8 Try.underlying28 Ce.i64Info rfl .i64 .i64 65536 (by omega) (by omega) w
  obtain ⟨V, hV⟩ : ∃ V, V = w.alloc (.cells #[.int .i64 v] 2) := ⟨_, rfl⟩
  have HB : Hid (Below w.heap.size w V) := by show Below _ _ _; rw [hV]; exact (Below.refl _ _).alloc (Nat.le_refl _) _
  go_enter Try.func5, Try.ntmps5
  go_wp2_with fail
  rw [← hV]
  clear hV
  refine (cmore_nil _ _).mono ?_
  rintro e w' ⟨rfl, rfl⟩
  go_wp2_with fail
  refine (cload_nil _ _).mono ?_
  rintro e w' ⟨rfl, rfl⟩
  go_wp2_with fail
  refine (cswap_nil _ _ _ _).mono ?_
  rintro e w' ⟨rfl, rfl⟩
  go_wp2_with fail
  refine (pm_new _).mono ?_
  rintro e w1 ⟨B, M, rfl, h1, hb1⟩
  obtain ⟨V1, hV1⟩ : ∃ W, W = w1.alloc (.cells (madeCells #[.int .i64 0] 65536) 2) := ⟨_, rfl⟩
  have hbV1 : Below w1.heap.size w1 V1 := by rw [hV1]; exact (Below.refl _ _).alloc (Nat.le_refl _) _
  have HB1 : Hid (Below w.heap.size w V1) := (HB.out.trans (hb1.mono HB.out.size)).trans (hbV1.mono (Nat.le_trans HB.out.size hb1.size))
  have hli : Lies V1 V1.heap.size (some ⟨w1.heap.size, 0, none⟩) (icells (List.replicate 65536 0)) := by rw [hV1]; exact made64 _ _
  obtain ⟨L, hL⟩ : ∃ L, L = List.replicate 65536 (0 : Int) := ⟨_, rfl⟩
  have hlen : L.length = 65536 := by rw [hL, List.length_replicate]
  rw [← hL] at hli
  clear hL
  have HLN := Lib.hid hlen
  have hc := pm_more (h1.below hbV1) (some ⟨w1.heap.size, 0, none⟩) L 65536 hli (by rw [hlen]; decide) (by decide)
  rw [(fulls hlen).1, (fulls hlen).2.1, (fulls hlen).2.2, hlen] at hc
  clear hlen hli
  have HC := Lib.hid hc
  have HK : Hid (∀ i, i < w.heap.size → i < V.heap.size) := fun i hi => Nat.lt_of_lt_of_le hi HB.out.size
  clear h1 hb1 hbV1 hc
  go_wp2_with fail
  rw [← hV1]
  clear hV1 hm64
  refine HC.out.mono ?_
  rintro e w2 ⟨rfl, h2, k2⟩
  have HB2 := Lib.hid (k2.below HB1.out HB1.out.size HK.out)
  obtain ⟨V2, hV2⟩ : ∃ W, W = w2.alloc (.cells #[.int .i64 v] 2) := ⟨_, rfl⟩
  have hbV2 : Below w2.heap.size w2 V2 := by rw [hV2]; exact (Below.refl _ _).alloc (Nat.le_refl _) _
  have HBV2 : Hid (Below w.heap.size w V2) := HB2.out.trans (hbV2.mono HB2.out.size)
  have hc := pm_more (h2.below hbV2) (some ⟨w2.heap.size, 0, none⟩) [v] 1 (by rw [hV2]; exact lies1 _ _ _) (by simp [maxLen]) (by rw [HLN.out]; decide)
  rw [(no_more HLN.out v).1, (no_more HLN.out v).2.1, (no_more HLN.out v).2.2] at hc
  have HC2 := Lib.hid hc
  clear h2 k2 hbV2 hc HC
  go_wp2_with fail
  rw [← hV2]
  clear hV2
  refine HC2.out.mono ?_
  rintro e w3 ⟨rfl, h3, k3⟩
  have HB3 := Lib.hid (k3.below HBV2.out HBV2.out.size HK.out)
  have hc := pm_more h3 none [] 0 (fun h => by simp [icells] at h) (by simp [maxLen]) (by rw [HLN.out]; decide)
  rw [(none_more HLN.out).1, (none_more HLN.out).2] at hc
  have HC3 := Lib.hid hc
  clear h3 k3 hc HC2
  go_wp2_with fail
  refine HC3.out.mono ?_
  rintro e w4 ⟨rfl, h4, k4⟩
  have HB4 := Lib.hid (k4.below HB3.out HB3.out.size HK.out)
  have hc := pm_len h4
  rw [HLN.out] at hc
  have HC4 := Lib.hid hc
  have H4 := Lib.hid h4
  clear h4 k4 hc HC3
  go_wp2_with fail
  refine (cstore_nil _ _ _).mono ?_
  rintro e w' ⟨rfl, rfl⟩
  go_wp2_with fail
  refine (clen_nil _).mono ?_
  rintro e w' ⟨rfl, rfl⟩
  go_wp2_with fail
  refine (csteps_nil _).mono ?_
  rintro e w' ⟨rfl, rfl⟩
  go_wp2_with fail
  refine HC4.out.mono ?_
  rintro e w5 ⟨rfl, hb5⟩
  have HB5 := Lib.hid (HB4.out.trans (hb5.mono HB4.out.size))
  clear hb5
  go_wp2_with fail
  refine (alive15_any _).mono ?_
  rintro e w6 ⟨rfl, hb6⟩
  have HB6 := Lib.hid (HB5.out.trans (hb6.mono HB5.out.size))
  clear hb6
  go_wp2_with fail
  go_ret
  exact ⟨rfl, HB6.out⟩

/-! ### From the walk to the statement -/
theorem own : ownKnob Try.prog.godebug = none := by kernel_rfl

set_option maxRecDepth 20000 in
theorem contract (H : Type) (enc : TypeId × Value → H) (W : World) (base : Nat) (args : Array Value) (ds gs : List (DataW H)) (before : List MemPlace)
    (hval : ∀ (j : Nat) t v, Try.f5.params[j]? = some t → args[j]? = some v → Value.okWide Try.prog W .any base t v)
    (hW : DataW.Whole enc Try.prog Try.f5.params.toList Rows.cellNoneSpec.vars false W args.toList ds gs before) :
    Calls Try.prog 5 args W fun e W' => ∃ v, e = .returned v ∧ Rows.cellNoneSpec.post enc Try.prog Try.f5 false true false false W args v W' := by
  have hW' := hW
  obtain ⟨p, q, hA0, hV, rfl, hfz, hnd⟩ := hW
  have hA : DataW.TrodAll enc Try.prog W 0 (fun _ => true) true Try.f5.params.toList args.toList ds p := hA0
  rw [Try.params5] at hA hval
  obtain ⟨v0, vs0, d0, ds0, p0, q0, hargs, rfl, rfl, h0, r0⟩ := trodAll_cons hA
  obtain ⟨v1, vs1, d1, ds1, p1, q1, rfl, rfl, rfl, h1, r1⟩ := trodAll_cons r0
  obtain ⟨rfl, rfl, rfl⟩ := trodAll_nil r1
  obtain rfl : args = #[v0, v1] := by cases args; simp_all
  obtain ⟨rfl, rfl⟩ := trodVars_none hV
  obtain ⟨a0, rfl, rfl, rfl, w0⟩ := open_int Try.underlying3 (hval 0 3 v0 rfl rfl) h0
  have b0 : -9223372036854775808 ≤ a0 ∧ a0 ≤ 9223372036854775807 := by simpa [Lit.wf, IntKind.min, IntKind.max, IntKind.signed, IntKind.bits] using w0
  obtain ⟨a1, rfl, rfl, rfl, w1⟩ := open_int Try.underlying2 (hval 1 2 v1 rfl rfl) h1
  have b1 : -9223372036854775808 ≤ a1 ∧ a1 ≤ 9223372036854775807 := by simpa [Lit.wf, IntKind.min, IntKind.max, IntKind.signed, IntKind.bits] using w1
  clear hA0
  simp only [List.append_nil] at hW'
  refine (walk a0 b0.1 b0.2 a1 b1.1 b1.2 W).mono fun e W' ⟨he, bel⟩ => ?_
  subst he
  exact ⟨_, rfl, _, _, _, [], _, [], hW', trodAll_mk1 (shut_bool Try.underlying4 _), (trodAll_cons_mk (shut_int Try.underlying3 w0) (trodAll_cons_mk (shut_int Try.underlying2 w1) trodAll_mk0)), rfl, bel.frame _, fun h => by cases h⟩

set_option maxRecDepth 100000 in
theorem lifted (os : Os) (started : os.Started) (H : Type) (enc : TypeId × Value → H) :
    ReturnsInHanded {} Try.checked os 5 .any (Rows.cellNoneSpec.pre6 enc Try.prog Try.f5 Rows.cellNoneRow.domain false) (Rows.cellNoneSpec.post enc Try.prog Try.f5 false true false false) := by
  refine returnsInHanded_of_change (C := Try.checked) own started (by kernel_rfl) Try.func5
    (ChangeSpec.witness6 (enc := enc) (C := Try.checked) false ⟨#[], #[.int .i64 0, .int .i64 0], []⟩ 8 (by kernel_rfl) (by kernel_rfl) (by kernel_rfl) (by kernel_rfl)) ?_
  intro W base args ds gs before hval hW _ _
  exact contract H enc W base args ds gs before hval hW

theorem over : Rows.cellNoneRow.holds Try.pinned (OpenSpec.ofChange Rows.cellNoneSpec) :=
  OpenClaim.holds_of_wide 5 Try.f5 rfl rfl rfl rfl rfl rfl rfl ⟨rfl, rfl, rfl, rfl, rfl⟩ rfl rfl rfl rfl rfl (by kernel_rfl) Try.func5 (by kernel_rfl)
    (of_decide_eq_true (by kernel_rfl)) (by unfold Func.isWrapper; first | (rw [if_pos (by decide +kernel)]; kernel_rfl) | (rw [if_neg (by decide +kernel)]; exact ⟨rfl, rfl⟩))
    (fun os started H enc _ => lifted os started H enc)

/-- The statement. -/
theorem proved : Rows.CellNoneSaid :=
  over

end Go.Proofs.Ytepnofklmdofmaa.cellNone
