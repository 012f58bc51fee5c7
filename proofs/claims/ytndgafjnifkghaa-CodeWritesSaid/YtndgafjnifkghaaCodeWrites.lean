/-
  Which programs have their form, and what their bytes are (CodeWrites).
-/
import Derived.Test.YtndgafjnifkghaaRows
import Derived.Test.YtndgafjnifkghaaL10W
import Derived.Test.YtndgafjnifkghaaCrF
import Derived.ProofKit
import Derived.OpenShut
import Derived.ShutString
namespace Go.Proofs.Ytndgafjnifkghaa.codeWrites
open Go.ChangeShapes Go.WideShapes Go.ChangeAt Go.RowKit
open Go.ChangeMaps (open_string shut_string)

theorem rmay_at {V U : World} {A : Option Addr} {l : List Cd.Fm} (h : Cd.HeldP V A l) (c : Nat) (hU : Below V.heap.size V U) :
    Calls Try.prog 14 #[.agg #[.slice A l.length c]] U fun e w' => e = .returned (.bool (Cd.pok (Cd.fns l))) ∧ Below V.heap.size V w' := by
  have h2 := h.later hU
  refine (rMay10 l h2.r h2.n A c U h2.p).mono ?_
  rintro e w' ⟨he, hb⟩
  exact ⟨he, hU.trans (hb.mono hU.size)⟩
theorem rencode_at {V U : World} {A : Option Addr} {l : List Cd.Fm} (h : Cd.HeldP V A l) (c : Nat) (hU : Below V.heap.size V U) :
    Calls Try.prog 12 #[.agg #[.slice A l.length c]] U fun e w' => e = .returned (.tuple #[.string ⟨(Cd.enc (Cd.fns l)).1.toArray⟩, .int .i64 (Cd.enc (Cd.fns l)).2]) ∧ Below V.heap.size V w' := by
  have h2 := h.later hU
  refine (rEncode10 l h2.r h2.n A c U h2.p).mono ?_
  rintro e w' ⟨he, hb⟩
  exact ⟨he, hU.trans (hb.mono hU.size)⟩

set_option maxHeartbeats 1000000 in
set_option maxRecDepth 20000 in
theorem walk (w : World) (l : List Cd.Fm) (A : Option Addr) (c : Nat) (pl : Cd.Prog w w.heap.size A l) (nl : l.length ≤ maxLen) (rl : ∀ m ∈ l, m.f.Rng) :
    Calls Try.prog 3 #[.agg #[.slice A l.length c]] w fun e w' => e = .returned (.bool true) ∧ Below w.heap.size w w' := by
  obtain ⟨W, hW⟩ : ∃ W, W = w.alloc (.cells #[.slice A l.length c] 24) := ⟨_, rfl⟩
  have hb : Below w.heap.size w W := by rw [hW]; exact Cd.fn1 _ _ _
  have hF : W.heap[w.heap.size]? = some (.cells #[.slice A l.length c] 24 (0, 0)) := by rw [hW]; exact heap_alloc_new w _
  have HH1 : Hid (Cd.HeldP W A l) := Cd.HeldP.later ⟨pl, nl, rl⟩ hb
  have HB := Lib.hid hb
  have HF := Lib.hid hF
  have c0 : W.cell? ⟨w.heap.size, 0, none⟩ = some (.slice A l.length c) := Cd.belCell (Below.refl _ _) hF
  clear pl nl rl hb hF
  have HE1 : Hid (∀ {U : World}, Below W.heap.size W U → Calls Try.prog 11 #[.agg #[.slice A l.length c]] U fun e w' => e = .returned (.tuple #[.string ⟨(Cd.enc (Cd.fns l)).1.toArray⟩, .int .i64 (Cd.enc (Cd.fns l)).2]) ∧ Below W.heap.size W w') := fun hU => encode_at HH1.out c hU
  have HE2 : Hid (∀ {U : World}, Below W.heap.size W U → Calls Try.prog 12 #[.agg #[.slice A l.length c]] U fun e w' => e = .returned (.tuple #[.string ⟨(Cd.enc (Cd.fns l)).1.toArray⟩, .int .i64 (Cd.enc (Cd.fns l)).2]) ∧ Below W.heap.size W w') := fun hU => rencode_at HH1.out c hU
  have HM1 : Hid (∀ {U : World}, Below W.heap.size W U → Calls Try.prog 13 #[.agg #[.slice A l.length c]] U fun e w' => e = .returned (.bool (Cd.pok (Cd.fns l))) ∧ Below W.heap.size W w') := fun hU => may_at HH1.out c hU
  have HM2 : Hid (∀ {U : World}, Below W.heap.size W U → Calls Try.prog 14 #[.agg #[.slice A l.length c]] U fun e w' => e = .returned (.bool (Cd.pok (Cd.fns l))) ∧ Below W.heap.size W w') := fun hU => rmay_at HH1.out c hU
  generalize (⟨(Cd.enc (Cd.fns l)).1.toArray⟩ : ByteArray) = S at HE1 HE2
  generalize (Cd.enc (Cd.fns l)).2 = s1 at HE1 HE2
  generalize Cd.pok (Cd.fns l) = q at HM1 HM2
  go_enter Try.func3, Try.ntmps3
  go_upto_region 1 with fail
  rw [← hW]
  clear hW
  obtain ⟨X, hX⟩ : ∃ X, X = w.heap.size := ⟨_, rfl⟩
  rw [← hX] at HF c0 ⊢
  clear hX
  go_wp2_with fail
  refine (heavy_at HH1.out c (Below.refl _ _)).mono ?_
  rintro e w1 ⟨b1, rfl, _, hb1⟩
  have H1 := Lib.hid hb1
  have d0 := Cd.belCell hb1 HF.out
  clear hb1 c0
  cases b1 with
  | true =>
    go_wp2_with fail
    refine (alive10_at H1.out).mono ?_
    rintro e w2 ⟨rfl, hb2⟩
    have H2 := Lib.hid hb2
    clear hb2
    go_wp2_with fail
    go_ret
    exact ⟨rfl, HB.out.trans (H2.out.mono HB.out.size)⟩
  | false =>
    go_wp2_with fail
    refine (HE1.out H1.out).mono ?_
    rintro e w2 ⟨rfl, hb2⟩
    have H2 := Lib.hid hb2
    have d0 := Cd.belCell hb2 HF.out
    clear hb2
    go_wp2_with fail
    refine (HE2.out H2.out).mono ?_
    rintro e w3 ⟨rfl, hb3⟩
    have H3 := Lib.hid hb3
    have d0 := Cd.belCell hb3 HF.out
    clear hb3 HE1 HE2
    go_upto_region 5 with fail
    have hsq : (S.toList == S.toList) = true := by simp
    have hqq : (s1 == s1) = true := by simp
    have hbb : (q == q) = true := by simp
    have bb := H3.out.drew
    have HK : Hid (∀ {U : World}, Below W.heap.size W U → U.cell? ⟨X, 0, none⟩ = some (.slice A l.length c) ∧ Below W.heap.size W U) := fun h => ⟨Cd.belCell h HF.out, h⟩
    go_region_held3 (fun wx => wx.cell? ⟨X, 0, none⟩ = some (.slice A l.length c) ∧ Below W.heap.size W wx)
      (first | with_reducible assumption | with_reducible exact HK.out (by with_reducible assumption))
      (first
        | (go_at_call 13; refine (HM1.out (by with_reducible assumption)).mono ?_; rintro e y1 ⟨rfl, hy1⟩)
        | (go_at_call 14; refine (HM2.out (by with_reducible assumption)).mono ?_; rintro e y2 ⟨rfl, hy2⟩)
        | (go_at_call 10; refine (alive10_at (V := W) (by with_reducible assumption)).mono ?_; rintro e y3 ⟨rfl, hy3⟩))
    go_wp2_with fail
    go_ret
    exact ⟨rfl, HB.out.trans (hy3.mono HB.out.size)⟩


/-! ### From the walk to the statement -/
theorem own : ownKnob Try.prog.godebug = none := by kernel_rfl

set_option maxRecDepth 20000 in
theorem contract (H : Type) (enc : TypeId × Value → H) (W : World) (base : Nat) (args : Array Value) (ds gs : List (DataW H)) (before : List MemPlace)
    (hval : ∀ (j : Nat) t v, Try.f3.params[j]? = some t → args[j]? = some v → Value.okWide Try.prog W .any base t v)
    (hW : DataW.Whole enc Try.prog Try.f3.params.toList Rows.codeWritesSpec.vars false W args.toList ds gs before) :
    Calls Try.prog 3 args W fun e W' => ∃ v, e = .returned v ∧ Rows.codeWritesSpec.post enc Try.prog Try.f3 false true false false W args v W' := by
  have hW' := hW
  obtain ⟨p, q, hA0, hV, rfl, hfz, hnd⟩ := hW
  have hA : DataW.TrodAll enc Try.prog W 0 (fun _ => true) true Try.f3.params.toList args.toList ds p := hA0
  rw [Try.params3] at hA hval
  obtain ⟨v0, vs0, d0, ds0, p0, q0, hargs, rfl, rfl, h0, r0⟩ := trodAll_cons hA
  obtain ⟨rfl, rfl, rfl⟩ := trodAll_nil r0
  obtain rfl : args = #[v0] := by cases args; simp_all
  obtain ⟨rfl, rfl⟩ := trodVars_none hV
  have k0 := h0
  obtain ⟨fuel0, hf0⟩ := h0
  obtain ⟨xs0, A0, c0, hcs0, hn0, hl0, hb0⟩ := trod_prog10 hf0
  obtain rfl := prog_of10 (hval 0 24 v0 rfl rfl) hcs0
  clear hA0
  simp only [List.append_nil] at hW'
  refine (walk W xs0 A0 c0 hl0 hn0 hb0).mono fun e W' ⟨he, bel⟩ => ?_
  subst he
  exact ⟨_, rfl, _, _, _, [], _, [], hW', trodAll_mk1 (shut_bool Try.underlying4 _), (trodAll_cons_mk (Below.trod laidOut (by kernel_rfl) (of_decide_eq_true (by kernel_rfl)) k0 bel (fun x hx => DataW.trod_lt _ _ _ _ hf0 x hx)) trodAll_mk0), rfl, bel.frame _, fun h => by cases h⟩

set_option maxRecDepth 100000 in
theorem lifted (os : Os) (started : os.Started) (H : Type) (enc : TypeId × Value → H) :
    ReturnsInHanded {} Try.checked os 3 .any (Rows.codeWritesSpec.pre6 enc Try.prog Try.f3 Rows.codeWritesRow.domain false) (Rows.codeWritesSpec.post enc Try.prog Try.f3 false true false false) := by
  refine returnsInHanded_of_change (C := Try.checked) own started (by kernel_rfl) Try.func3
    (ChangeSpec.witness6 (enc := enc) (C := Try.checked) false ⟨#[], #[.agg #[.slice none 0 0]], []⟩ 8 (by kernel_rfl) (by kernel_rfl) (by kernel_rfl) (by kernel_rfl)) ?_
  intro W base args ds gs before hval hW _ _
  exact contract H enc W base args ds gs before hval hW

theorem over : Rows.codeWritesRow.holds Try.pinned (OpenSpec.ofChange Rows.codeWritesSpec) :=
  OpenClaim.holds_of_wide 3 Try.f3 rfl rfl rfl rfl rfl rfl rfl ⟨rfl, rfl, rfl, rfl, rfl⟩ rfl rfl rfl rfl rfl (by kernel_rfl) Try.func3 (by kernel_rfl)
    (of_decide_eq_true (by kernel_rfl)) (by unfold Func.isWrapper; first | (rw [if_pos (by decide +kernel)]; kernel_rfl) | (rw [if_neg (by decide +kernel)]; exact ⟨rfl, rfl⟩))
    (fun os started H enc _ => lifted os started H enc)

/-- The statement. -/
theorem proved : Rows.CodeWritesSaid :=
  over

end Go.Proofs.Ytndgafjnifkghaa.codeWrites
