/-
  What is proved: for every int n, uint64 most and bool made the law WireNil of layer 3 returns true and changes nothing: what a reader answers that is nil, or that New did not make. No condition.
-/
import Derived.Test.YtpahajnojfhgdaaRows
import Derived.Test.YtpahajnojfhgdaaL03A
import Derived.Test.YtpahajnojfhgdaaWireZ
import Derived.ProofKit
import Derived.OpenShut
import Derived.ShutString
namespace Go.Proofs.Ytpahajnojfhgdaa.wireNil
open Go.ChangeShapes Go.WideShapes Go.ChangeAt Go.RowKit
open Go.ChangeMaps (open_string shut_string)

theorem later {B : Nat} {a b c : World} (h : Below B a b) (k : Below b.heap.size b c) (hB : B ≤ a.heap.size) : Below B a c := h.trans (k.mono (by have := h.size; omega))

set_option maxRecDepth 20000 in
set_option maxHeartbeats 4000000 in
/-- Behind the reader's making: whatever it is, if it is none. -/
theorem walk (n : Int) (_n0 : -9223372036854775808 ≤ n) (_n1 : n ≤ 9223372036854775807) (m : Int) (_m0 : 0 ≤ m) (_m1 : m ≤ 18446744073709551615) (b : Bool) (w : World) :
    Calls Try.prog 6 #[.int .i64 n, .int .u64 m, .bool b] w fun e w' => e = .returned (.bool true) ∧ Below w.heap.size w w' := by
  have hd1 : Wire.Dead (.pointer none) w := .inl rfl
  have D1 := Lib.hid hd1
  have hd2 : Wire.Dead (.pointer (some ⟨w.heap.size, 0, none⟩)) (w.alloc (.cells #[.bool false, .string ⟨#[]⟩, .int .i64 0] 60)) := .inr ⟨_, rfl, World.cell?_alloc_at _ _ _ _ rfl⟩
  have D2 := Lib.hid hd2
  clear hd1 hd2 _m0 _m1 _n0 _n1
  cases b
  all_goals
    go_enter Try.func6, Try.ntmps6
    go_wp2_with fail
    first | (refine (uint_dead _ _ _ D1.out).mono ?_; have D := D1; have hb0 := Below.refl w.heap.size w) | (refine (uint_dead _ _ _ D2.out).mono ?_; have D := D2; have hb0 := (Below.refl w.heap.size w).alloc (Nat.le_refl _) (.cells #[.bool false, .string ⟨#[]⟩, .int .i64 0] 60))
    clear D1 D2
    rintro e w1 ⟨rfl, hb⟩
    have d1 := Lib.hid (D.out.below hb)
    have hb1 := later hb0 hb (Nat.le_refl _)
    clear hb hb0 D
    go_wp2_with fail
    refine (int_dead _ _ _ _ d1.out).mono ?_
    rintro e w2 ⟨rfl, hb⟩
    have d2 := Lib.hid (d1.out.below hb)
    have hb2 := later hb1 hb (Nat.le_refl _)
    clear hb hb1 d1
    go_wp2_with fail
    refine (text_dead _ _ _ d2.out).mono ?_
    rintro e w3 ⟨rfl, hb⟩
    have d3 := Lib.hid (d2.out.below hb)
    have hb3 := later hb2 hb (Nat.le_refl _)
    clear hb hb2 d2
    go_wp2_with fail
    refine (bool_dead _ _ d3.out).mono ?_
    rintro e w4 ⟨rfl, hb⟩
    have d4 := Lib.hid (d3.out.below hb)
    have hb4 := later hb3 hb (Nat.le_refl _)
    clear hb hb3 d3
    go_wp2_with fail
    refine (count_dead _ _ _ d4.out).mono ?_
    rintro e w5 ⟨rfl, hb⟩
    have d5 := Lib.hid (d4.out.below hb)
    have hb5 := later hb4 hb (Nat.le_refl _)
    clear hb hb4 d4
    have k5 := hb5.size
    go_wp2_with fail
    refine (tag_dead _ _ _ (d5.out.alloc _) ⟨_, _, _, rfl⟩).mono ?_
    rintro e w6 ⟨rfl, hb⟩
    have d6 := Lib.hid ((d5.out.alloc _).below hb)
    have hb6 := later (hb5.alloc k5 _) hb (Nat.le_refl _)
    clear hb hb5 d5
    go_wp2_with fail
    refine (left_dead _ _ d6.out).mono ?_
    rintro e w' ⟨rfl, rfl⟩
    go_wp2_with fail
    refine (err_dead _ _ d6.out).mono ?_
    rintro e w' ⟨rfl, rfl⟩
    go_wp2_with fail
    refine (end_dead _ _ d6.out).mono ?_
    rintro e w' ⟨rfl, rfl⟩
    go_wp2_with fail
    refine (alive_any _).mono ?_
    rintro e w7 ⟨rfl, hb⟩
    have hb7 := later hb6 hb (Nat.le_refl _)
    go_wp2_with fail
    go_ret
    exact ⟨rfl, hb7⟩

/-! ### From the walk to the statement -/
theorem own : ownKnob Try.prog.godebug = none := by kernel_rfl

theorem contract (H : Type) (enc : TypeId × Value → H) (W : World) (base : Nat) (args : Array Value) (ds gs : List (DataW H)) (before : List MemPlace)
    (hval : ∀ (j : Nat) t v, Try.f6.params[j]? = some t → args[j]? = some v → Value.okWide Try.prog W .any base t v)
    (hW : DataW.Whole enc Try.prog Try.f6.params.toList Rows.wireNilSpec.vars false W args.toList ds gs before) :
    Calls Try.prog 6 args W fun e W' => ∃ v, e = .returned v ∧ Rows.wireNilSpec.post enc Try.prog Try.f6 false true false false W args v W' := by
  have hW' := hW
  obtain ⟨p, q, hA0, hV, rfl, hfz, hnd⟩ := hW
  have hA : DataW.TrodAll enc Try.prog W 0 (fun _ => true) true Try.f6.params.toList args.toList ds p := hA0
  rw [Try.params6] at hA hval
  obtain ⟨v0, vs0, d0, ds0, p0, q0, hargs, rfl, rfl, h0, r0⟩ := trodAll_cons hA
  obtain ⟨v1, vs1, d1, ds1, p1, q1, rfl, rfl, rfl, h1, r1⟩ := trodAll_cons r0
  obtain ⟨v2, vs2, d2, ds2, p2, q2, rfl, rfl, rfl, h2, r2⟩ := trodAll_cons r1
  obtain ⟨rfl, rfl, rfl⟩ := trodAll_nil r2
  obtain rfl : args = #[v0, v1, v2] := by cases args; simp_all
  obtain ⟨rfl, rfl⟩ := trodVars_none hV
  obtain ⟨a0, rfl, rfl, rfl, w0⟩ := open_int Try.underlying3 (hval 0 3 v0 rfl rfl) h0
  have b0 : -9223372036854775808 ≤ a0 ∧ a0 ≤ 9223372036854775807 := by simpa [Lit.wf, IntKind.min, IntKind.max, IntKind.signed, IntKind.bits] using w0
  obtain ⟨a1, rfl, rfl, rfl, w1⟩ := open_int Try.underlying28 (hval 1 28 v1 rfl rfl) h1
  have b1 : 0 ≤ a1 ∧ a1 ≤ 18446744073709551615 := by simpa [Lit.wf, IntKind.min, IntKind.max, IntKind.signed, IntKind.bits] using w1
  obtain ⟨a2, rfl, rfl, rfl⟩ := open_bool Try.underlying4 (hval 2 4 v2 rfl rfl) h2
  clear hA0
  simp only [List.append_nil] at hW'
  refine (walk a0 b0.1 b0.2 a1 b1.1 b1.2 a2 W).mono fun e W' ⟨he, bel⟩ => ?_
  subst he
  exact ⟨_, rfl, _, _, _, [], _, [], hW', trodAll_mk1 (shut_bool Try.underlying4 _), (trodAll_cons_mk (shut_int Try.underlying3 w0) (trodAll_cons_mk (shut_int Try.underlying28 w1) (trodAll_cons_mk (shut_bool Try.underlying4 a2) trodAll_mk0))), rfl, bel.frame _, fun h => by cases h⟩

set_option maxRecDepth 100000 in
theorem lifted (os : Os) (started : os.Started) (H : Type) (enc : TypeId × Value → H) :
    ReturnsInHanded {} Try.checked os 6 .any (Rows.wireNilSpec.pre6 enc Try.prog Try.f6 Rows.wireNilRow.domain false) (Rows.wireNilSpec.post enc Try.prog Try.f6 false true false false) := by
  refine returnsInHanded_of_change (C := Try.checked) own started (by kernel_rfl) Try.func6
    (ChangeSpec.witness6 (enc := enc) (C := Try.checked) false ⟨#[], #[.int .i64 0, .int .u64 0, .bool false], []⟩ 8 (by kernel_rfl) (by kernel_rfl) (by kernel_rfl) (by kernel_rfl)) ?_
  intro W base args ds gs before hval hW _ _
  exact contract H enc W base args ds gs before hval hW

theorem over : Rows.wireNilRow.holds Try.pinned (OpenSpec.ofChange Rows.wireNilSpec) :=
  OpenClaim.holds_of_wide 6 Try.f6 rfl rfl rfl rfl rfl rfl rfl ⟨rfl, rfl, rfl, rfl, rfl⟩ rfl rfl rfl rfl rfl (by kernel_rfl) Try.func6 (by kernel_rfl)
    (of_decide_eq_true (by kernel_rfl)) (by unfold Func.isWrapper; first | (rw [if_pos (by decide +kernel)]; kernel_rfl) | (rw [if_neg (by decide +kernel)]; exact ⟨rfl, rfl⟩))
    (fun os started H enc _ => lifted os started H enc)

/-- The statement. -/
theorem proved : Rows.WireNilSaid :=
  over

end Go.Proofs.Ytpahajnojfhgdaa.wireNil
