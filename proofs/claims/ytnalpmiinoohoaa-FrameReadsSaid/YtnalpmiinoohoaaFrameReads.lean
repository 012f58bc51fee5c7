/-
  What is proved: for every string and every int the law FrameReads of layer 4 returns true and changes nothing: which frame stands at the front of bytes, which ones one behind the other, or why there is none. No condition.
-/
import Derived.Test.YtnalpmiinoohoaaRows
import Derived.Test.YtnalpmiinoohoaaL04A
import Derived.Test.YtnalpmiinoohoaaFrameRs
import Derived.Test.YtnalpmiinoohoaaFrameSa
import Derived.BigQuiet
import Derived.ProofKit
import Derived.OpenShut
import Derived.ShutString
namespace Go.Proofs.Ytnalpmiinoohoaa.frameReads
open Go.ChangeShapes Go.WideShapes Go.ChangeAt Go.RowKit
open Go.ChangeMaps (open_string shut_string)

set_option maxRecDepth 20000 in
set_option maxHeartbeats 4000000 in
theorem walk (s : ByteArray) (hs : s.size ≤ maxLen) (most : Int) (m0 : -9223372036854775808 ≤ most) (m1 : most ≤ 9223372036854775807) (w : World) :
    Calls Try.prog 4 #[.string s, .int .i64 most] w fun e w' => e = .returned (.bool true) ∧ Below w.heap.size w w' := by
  unfold maxLen at hs
  have hm : (s.size : Int) ≤ 9223372036854775807 := by omega
  by_cases hbig : 2048 < (s.size : Int)
  · go_enter Try.func4, Try.ntmps4
    go_wp2_with fail
    refine (alive4_any _).mono ?_
    rintro e w1 ⟨rfl, hb1⟩
    go_wp2_with fail
    go_ret
    exact ⟨rfl, hb1⟩
  have hle : ¬ 2048 < (s.size : Int) := hbig
  have hs1 : s.size ≤ 1000000 := by omega
  obtain ⟨R, hR⟩ : ∃ R, R = Frame.rd s.data.toList most := ⟨_, rfl⟩
  have HA := Lib.hid (fun w => hR ▸ fread_any s most w hs1 m0)
  have HB := Lib.hid (fun w => hR ▸ frread_any s most w hs1 m0 m1)
  obtain ⟨Q, hQ⟩ : ∃ Q, Q = Frame.sc s.data.toList most := ⟨_, rfl⟩
  have HC := Lib.hid (fun w => hQ ▸ fscan_any s most w m0 hs1)
  have HD := Lib.hid (fun w => hQ ▸ frscan_any s most w m0 m1 hs1)
  have hql : Q.1.length ≤ maxLen := by
    rw [hQ]
    have := Frame.sc_len s.data.toList most
    simp at this
    unfold maxLen
    omega
  have HQL := Lib.hid hql
  clear hR hQ hql hbig
  obtain ⟨tg, tx, k, er⟩ := R
  obtain ⟨l, g, ge⟩ := Q
  go_enter Try.func4, Try.ntmps4
  go_wp2_with fail
  refine (HA.out _).mono ?_
  unfold Frame.val
  rintro e w1 ⟨rfl, hb1⟩
  have z1 := hb1.size
  have HB1 := Lib.hid hb1
  clear hb1
  go_wp2_with fail
  refine (HB.out _).mono ?_
  unfold Frame.val
  rintro e w2 ⟨rfl, hb2⟩
  have c20 : w2.cell? ⟨w1.heap.size, 0, none⟩ = some (.int .u8 (tg.toNat : Int)) := ((kept_cells hb2).1 _ _ (by simp)).trans (by simp [go_sem])
  have c21 : w2.cell? ⟨w1.heap.size, 1, none⟩ = some (.string ⟨tx.toArray⟩) := ((kept_cells hb2).1 _ _ (by simp)).trans (by simp [go_sem])
  have z2 := hb2.size
  simp at z2
  have HB2 := Lib.hid ((HB1.out.alloc z1 _).trans (hb2.mono (by simp; omega)))
  clear hb2
  go_wp2_with fail
  refine (HC.out _).mono ?_
  rintro e w3 ⟨A, cp, rfl, _, hl3, hb3⟩
  have c30 : w3.cell? ⟨w1.heap.size, 0, none⟩ = some (.int .u8 (tg.toNat : Int)) := ((kept_cells hb3).1 _ _ (by simp; omega)).trans ((World.cell?_alloc_lt _ _ _ (by simp; omega)).trans c20)
  have c31 : w3.cell? ⟨w1.heap.size, 1, none⟩ = some (.string ⟨tx.toArray⟩) := ((kept_cells hb3).1 _ _ (by simp; omega)).trans ((World.cell?_alloc_lt _ _ _ (by simp; omega)).trans c21)
  have d30 : w3.cell? ⟨w2.heap.size, 0, none⟩ = some (.int .u8 (tg.toNat : Int)) := ((kept_cells hb3).1 _ _ (by simp)).trans (by simp [go_sem])
  have d31 : w3.cell? ⟨w2.heap.size, 1, none⟩ = some (.string ⟨tx.toArray⟩) := ((kept_cells hb3).1 _ _ (by simp)).trans (by simp [go_sem])
  have z3 := hb3.size
  simp at z3
  have HB3 := Lib.hid ((HB2.out.alloc (by omega) _).trans (hb3.mono (by simp; omega)))
  have HL3 := Lib.hid hl3
  clear hb3 c20 c21 hl3
  go_wp2_with fail
  refine (HD.out _).mono ?_
  rintro e w4 ⟨A', cp', rfl, _, hl4, hb4⟩
  have c40 : w4.cell? ⟨w1.heap.size, 0, none⟩ = some (.int .u8 (tg.toNat : Int)) := ((kept_cells hb4).1 _ _ (by omega)).trans c30
  have c41 : w4.cell? ⟨w1.heap.size, 1, none⟩ = some (.string ⟨tx.toArray⟩) := ((kept_cells hb4).1 _ _ (by omega)).trans c31
  have d40 : w4.cell? ⟨w2.heap.size, 0, none⟩ = some (.int .u8 (tg.toNat : Int)) := ((kept_cells hb4).1 _ _ (by omega)).trans d30
  have d41 : w4.cell? ⟨w2.heap.size, 1, none⟩ = some (.string ⟨tx.toArray⟩) := ((kept_cells hb4).1 _ _ (by omega)).trans d31
  have z4 := hb4.size
  have HB4 := Lib.hid (HB3.out.trans (hb4.mono (by omega)))
  have HL34 := Lib.hid ((HL3.out.below hb4).mono z4)
  have HL4 := Lib.hid hl4
  clear hb4 c30 c31 d30 d31 hl4
  go_wp2_with fail
  refine (same_yes l A A' cp cp' _ HL34.out HL4.out HQL.out).mono ?_
  rintro e w5 ⟨rfl, hb5⟩
  have z5 := hb5.size
  have HB5 := Lib.hid (HB4.out.trans (hb5.mono (by omega)))
  clear hb5
  go_wp2_with fail
  refine (alive4_any _).mono ?_
  rintro e w6 ⟨rfl, hb6⟩
  have HB6 := Lib.hid (HB5.out.trans (hb6.mono (by omega)))
  clear hb6
  go_wp2_with fail
  go_ret
  exact ⟨rfl, HB6.out⟩

/-! ### From the walk to the statement -/
theorem own : ownKnob Try.prog.godebug = none := by kernel_rfl

set_option maxRecDepth 20000 in
theorem contract (H : Type) (enc : TypeId × Value → H) (W : World) (base : Nat) (args : Array Value) (ds gs : List (DataW H)) (before : List MemPlace)
    (hval : ∀ (j : Nat) t v, Try.f4.params[j]? = some t → args[j]? = some v → Value.okWide Try.prog W .any base t v)
    (hW : DataW.Whole enc Try.prog Try.f4.params.toList Rows.frameReadsSpec.vars false W args.toList ds gs before) :
    Calls Try.prog 4 args W fun e W' => ∃ v, e = .returned v ∧ Rows.frameReadsSpec.post enc Try.prog Try.f4 false true false false W args v W' := by
  have hW' := hW
  obtain ⟨p, q, hA0, hV, rfl, hfz, hnd⟩ := hW
  have hA : DataW.TrodAll enc Try.prog W 0 (fun _ => true) true Try.f4.params.toList args.toList ds p := hA0
  rw [Try.params4] at hA hval
  obtain ⟨v0, vs0, d0, ds0, p0, q0, hargs, rfl, rfl, h0, r0⟩ := trodAll_cons hA
  obtain ⟨v1, vs1, d1, ds1, p1, q1, rfl, rfl, rfl, h1, r1⟩ := trodAll_cons r0
  obtain ⟨rfl, rfl, rfl⟩ := trodAll_nil r1
  obtain rfl : args = #[v0, v1] := by cases args; simp_all
  obtain ⟨rfl, rfl⟩ := trodVars_none hV
  obtain ⟨a0, rfl, rfl, rfl, w0⟩ := open_string Try.underlying9 (hval 0 9 v0 rfl rfl) h0
  obtain ⟨a1, rfl, rfl, rfl, w1⟩ := open_int Try.underlying3 (hval 1 3 v1 rfl rfl) h1
  have b1 : -9223372036854775808 ≤ a1 ∧ a1 ≤ 9223372036854775807 := by simpa [Lit.wf, IntKind.min, IntKind.max, IntKind.signed, IntKind.bits] using w1
  clear hA0
  simp only [List.append_nil] at hW'
  refine (walk a0 w0 a1 b1.1 b1.2 W).mono fun e W' ⟨he, bel⟩ => ?_
  subst he
  exact ⟨_, rfl, _, _, _, [], _, [], hW', trodAll_mk1 (shut_bool Try.underlying4 _), (trodAll_cons_mk (shut_string Try.underlying9 w0) (trodAll_cons_mk (shut_int Try.underlying3 w1) trodAll_mk0)), rfl, bel.frame _, fun h => by cases h⟩

set_option maxRecDepth 100000 in
theorem lifted (os : Os) (started : os.Started) (H : Type) (enc : TypeId × Value → H) :
    ReturnsInHanded {} Try.checked os 4 .any (Rows.frameReadsSpec.pre6 enc Try.prog Try.f4 Rows.frameReadsRow.domain false) (Rows.frameReadsSpec.post enc Try.prog Try.f4 false true false false) := by
  refine returnsInHanded_of_change (C := Try.checked) own started (by kernel_rfl) Try.func4
    (ChangeSpec.witness6 (enc := enc) (C := Try.checked) false ⟨#[], #[.string ByteArray.empty, .int .i64 0], []⟩ 8 (by kernel_rfl) (by kernel_rfl) (by kernel_rfl) (by kernel_rfl)) ?_
  intro W base args ds gs before hval hW _ _
  exact contract H enc W base args ds gs before hval hW

theorem over : Rows.frameReadsRow.holds Try.pinned (OpenSpec.ofChange Rows.frameReadsSpec) :=
  OpenClaim.holds_of_wide 4 Try.f4 rfl rfl rfl rfl rfl rfl rfl ⟨rfl, rfl, rfl, rfl, rfl⟩ rfl rfl rfl rfl rfl (by kernel_rfl) Try.func4 (by kernel_rfl)
    (of_decide_eq_true (by kernel_rfl)) (by unfold Func.isWrapper; first | (rw [if_pos (by decide +kernel)]; kernel_rfl) | (rw [if_neg (by decide +kernel)]; exact ⟨rfl, rfl⟩))
    (fun os started H enc _ => lifted os started H enc)

/-- The statement. -/
theorem proved : Rows.FrameReadsSaid :=
  over

end Go.Proofs.Ytnalpmiinoohoaa.frameReads
