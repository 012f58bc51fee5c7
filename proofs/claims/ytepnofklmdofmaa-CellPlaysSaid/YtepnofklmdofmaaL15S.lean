/-
  Layer 15's steps, opened: a slice of Step reads as a list of them; heavy.
-/
import Derived.Test.YtepnofklmdofmaaOpen
import Derived.ProofKit
import Derived.BigQuiet
import Derived.Deep.QuietTactic
import Derived.Lib.Hide
import Derived.Test.YtepnofklmdofmaaProg
namespace Go.Proofs.Ytepnofklmdofmaa
open Go.ChangeShapes Go.WideShapes Go.RowKit Go.Deep

/-- A step, as the law is handed it. -/
structure StepC where
  act : Int
  at_ : Int
  v : Int
  old : Int
  l : List Int
  A : Option Addr
  c : Nat
  deriving Inhabited

def StepC.cells (x : StepC) : List Value := [.int .i64 x.act, .int .i64 x.at_, .int .i64 x.v, .int .i64 x.old, .slice x.A x.l.length x.c]

/-- What its parts are. -/
structure StepC.Ok (x : StepC) (w : World) : Prop where
  act : -9223372036854775808 ≤ x.act ∧ x.act ≤ 9223372036854775807
  at_ : -9223372036854775808 ≤ x.at_ ∧ x.at_ ≤ 9223372036854775807
  v : -9223372036854775808 ≤ x.v ∧ x.v ≤ 9223372036854775807
  old : -9223372036854775808 ≤ x.old ∧ x.old ≤ 9223372036854775807
  ll : Lies w w.heap.size x.A (icells x.l)
  len : x.l.length ≤ maxLen

theorem stc_cells : Try.prog.cellsOf 32 = 5 := by kernel_rfl
theorem stc_c1 : Try.prog.cellsOf 3 = 1 := by kernel_rfl
theorem stc_c2 : Try.prog.cellsOf 2 = 1 := by kernel_rfl
theorem stc_c4 : Try.prog.cellsOf 28 = 1 := by kernel_rfl

section
variable {H : Type} {enc : TypeId × Value → H} {w : World}

set_option maxRecDepth 100000 in
theorem trod_stc {fuel : Nat} {cs : List Value} {x : DataW H × List MemPlace} (h : DataW.trod enc Try.prog w 0 (fun _ => true) true fuel 32 cs = some x) : ∃ a : StepC, cs = a.cells ∧ a.Ok w := by
  obtain ⟨xs, m, _, _, hlen, hxl, hf⟩ := DataW.trod_struct Try.underlying32 h
  rw [stc_cells] at hlen
  match cs, hlen, xs, hxl with
  | [c0, c1, c2, c3, c4], _, [y0, y1, y2, y3, y4], _ =>
    have f0 : DataW.trod enc Try.prog w 0 (fun _ => true) true m 3 (List.take (Try.prog.cellsOf 3) [c0, c1, c2, c3, c4]) = some y0 := hf 0 _ rfl
    rw [stc_c1] at f0
    have f1 : DataW.trod enc Try.prog w 0 (fun _ => true) true m 3 (List.take (Try.prog.cellsOf 3) [c1, c2, c3, c4]) = some y1 := hf 1 _ rfl
    rw [stc_c1] at f1
    have f2 : DataW.trod enc Try.prog w 0 (fun _ => true) true m 2 (List.take (Try.prog.cellsOf 2) [c2, c3, c4]) = some y2 := hf 2 _ rfl
    rw [stc_c2] at f2
    have f3 : DataW.trod enc Try.prog w 0 (fun _ => true) true m 2 (List.take (Try.prog.cellsOf 2) [c3, c4]) = some y3 := hf 3 _ rfl
    rw [stc_c2] at f3
    have f4 : DataW.trod enc Try.prog w 0 (fun _ => true) true m 28 (List.take (Try.prog.cellsOf 28) [c4]) = some y4 := hf 4 _ rfl
    rw [stc_c4] at f4
    obtain ⟨a0, e0, _, w0⟩ := DataW.trod_int Try.underlying3 f0
    obtain ⟨a1, e1, _, w1⟩ := DataW.trod_int Try.underlying3 f1
    obtain ⟨a2, e2, _, w2⟩ := DataW.trod_int Try.underlying2 f2
    obtain ⟨a3, e3, _, w3⟩ := DataW.trod_int Try.underlying2 f3
    obtain ⟨ps, A, c, e4, hn, hl, _⟩ := trod_i64s Try.underlying28 Try.underlying2 stc_c2 f4
    have b0 : -9223372036854775808 ≤ a0 ∧ a0 ≤ 9223372036854775807 := by simpa [Lit.wf, IntKind.min, IntKind.max, IntKind.signed, IntKind.bits] using w0
    have b1 : -9223372036854775808 ≤ a1 ∧ a1 ≤ 9223372036854775807 := by simpa [Lit.wf, IntKind.min, IntKind.max, IntKind.signed, IntKind.bits] using w1
    have b2 : -9223372036854775808 ≤ a2 ∧ a2 ≤ 9223372036854775807 := by simpa [Lit.wf, IntKind.min, IntKind.max, IntKind.signed, IntKind.bits] using w2
    have b3 : -9223372036854775808 ≤ a3 ∧ a3 ≤ 9223372036854775807 := by simpa [Lit.wf, IntKind.min, IntKind.max, IntKind.signed, IntKind.bits] using w3
    refine ⟨⟨a0, a1, a2, a3, ps, A, c⟩, ?_, ⟨b0, b1, b2, b3, hl, hn⟩⟩
    have e0' : c0 = .int .i64 a0 := by simpa using e0
    have e1' : c1 = .int .i64 a1 := by simpa using e1
    have e2' : c2 = .int .i64 a2 := by simpa using e2
    have e3' : c3 = .int .i64 a3 := by simpa using e3
    have e4' : c4 = .slice A ps.length c := by simpa using e4
    unfold StepC.cells
    simp only []
    rw [e0', e1', e2', e3', e4']

/-- A slice of them. -/
def LiesC (w : World) (B : Nat) (A : Option Addr) (l : List StepC) : Prop :=
  0 < l.length → ∃ ad, A = some ad ∧ ad.block < B ∧ ∀ j (hj : j < l.length) i u, (l[j].cells)[i]? = some u → w.cell? ((ad.add (j * 5)).add i) = some u

theorem LiesC.below {w' : World} {B : Nat} {A : Option Addr} {l : List StepC} (h : LiesC w B A l) (hb : Below B w w') : LiesC w' B A l := fun hn => by
  obtain ⟨ad, e, hl, hc⟩ := h hn
  exact ⟨ad, e, hl, fun j hj i u hu => (hb.cell (by rw [Lies.add_block, Lies.add_block]; exact hl)).trans (hc j hj i u hu)⟩

theorem trod_stepsc {fuel : Nat} {cs : List Value} {x : DataW H × List MemPlace} (h : DataW.trod enc Try.prog w 0 (fun _ => true) true fuel 22 cs = some x) :
    ∃ (l : List StepC) (A : Option Addr) (c : Nat), cs = [.slice A l.length c] ∧ l.length ≤ maxLen ∧ LiesC w w.heap.size A l ∧ ∀ a ∈ l, a.Ok w := by
  obtain ⟨l, A, c, hcs, hn, hl⟩ := open_any Try.underlying22 h (fun cs' a => cs' = StepC.cells a ∧ a.Ok w) (fun cs' n y hy => trod_stc hy)
  refine ⟨l, A, c, hcs, hn, fun h0 => ?_, fun a ha => ?_⟩
  · obtain ⟨ad, hA, hb, hj⟩ := hl h0 (by rw [stc_cells]; decide)
    refine ⟨ad, hA, hb, fun j hjl i u hu => ?_⟩
    obtain ⟨cs', ⟨rfl, _⟩, _, hc⟩ := hj j hjl
    rw [stc_cells] at hc
    exact hc i u hu
  · obtain ⟨j, hj, rfl⟩ := List.getElem_of_mem ha
    obtain ⟨_, _, _, hjj⟩ := hl (by omega) (by rw [stc_cells]; decide)
    obtain ⟨cs', ⟨_, hq⟩, _⟩ := hjj j hj
    exact hq
end

theorem stc_off (p : Addr) (i : Nat) (h : i ≠ 0) : p.add i = ⟨p.block, p.off + i, none⟩ := by unfold Addr.add; rw [if_neg h]
/-- One's cells, as a walk asks for them. -/
theorem stc_at {w : World} {l : List StepC} {k : Nat} (hk : k < l.length) (p : Addr) (hc : ∀ i u, (l[k].cells)[i]? = some u → w.cell? (p.add i) = some u) :
    w.cell? p = some (.int .i64 l[k].act) ∧ w.cell? ⟨p.block, p.off + 1, none⟩ = some (.int .i64 l[k].at_) ∧ w.cell? ⟨p.block, p.off + 2, none⟩ = some (.int .i64 l[k].v) ∧
    w.cell? ⟨p.block, p.off + 3, none⟩ = some (.int .i64 l[k].old) ∧ w.cell? ⟨p.block, p.off + 4, none⟩ = some (.slice l[k].A l[k].l.length l[k].c) := by
  refine ⟨hc 0 _ rfl, ?_, ?_, ?_, ?_⟩
  · rw [← stc_off p 1 (by omega)]; exact hc 1 _ rfl
  · rw [← stc_off p 2 (by omega)]; exact hc 2 _ rfl
  · rw [← stc_off p 3 (by omega)]; exact hc 3 _ rfl
  · rw [← stc_off p 4 (by omega)]; exact hc 4 _ rfl

/-! ### heavy -/
/-- What heavy tells. -/
def HeavyC (l : List StepC) (w : World) (e : Ending) (w' : World) : Prop := ∃ b : Bool, e = .returned (.bool b) ∧ (b = false → l.length ≤ 300 ∧ ∀ x ∈ l, x.l.length ≤ 16384) ∧ Below w.heap.size w w'

set_option maxHeartbeats 2000000 in
set_option maxRecDepth 20000 in
theorem heavyc (l : List StepC) (A : Option Addr) (c : Nat) (w : World) (la : LiesC w w.heap.size A l) (nl : l.length ≤ maxLen) :
    Calls Try.prog 6 #[.slice A l.length c] w (HeavyC l w) := by
  unfold maxLen at nl
  have LA := Lib.hid la
  clear la
  go_enter Try.func6, Try.ntmps6
  go_wp2_with fail
  go_loopw [3, 4] (fun nn i wr => ∃ (k z : Nat), k ≤ l.length ∧ k ≤ 400 ∧ z ≤ k * 1048576 ∧ i = .int .i64 k ∧ nn = .int .i64 z ∧ Hid (∀ x ∈ l.take k, min x.l.length 1048576 ≤ z) ∧ Hid (Below w.heap.size w wr)) (fun _ i _ => l.length - (intOf i).toNat)
  case atStart => exact ⟨0, 0, Nat.zero_le _, Nat.zero_le _, Nat.zero_le _, rfl, rfl, fun x hx => by simp at hx, Below.refl _ _⟩
  case round =>
    obtain ⟨k, z, hk, hk4, hz, rfl, rfl, HS, HB⟩ := hrel
    by_cases hlt : k < l.length
    · by_cases h400 : k < 400
      · obtain ⟨ad, rfl, hadb, hc⟩ := (LA.out.below HB.out) (by omega)
        obtain ⟨q0, q1, q2, q3, q4⟩ := stc_at hlt (ad.add (k * 5)) (hc k hlt)
        have hki : (k : Int) < (l.length : Int) := by omega
        have hk0 : (0 : Int) ≤ (k : Int) := by omega
        have hk4i : (k : Int) < 400 := by omega
        have HS2 : Hid (∀ x ∈ l.take (k + 1), min x.l.length 1048576 ≤ z + min l[k].l.length 1048576) := fun x hx => by
          rw [List.take_succ_eq_append_getElem hlt] at hx
          rcases List.mem_append.1 hx with hx | hx
          · have := HS.out x hx
            omega
          · rw [List.mem_singleton.1 hx]; omega
        generalize l[k] = a at q0 q1 q2 q3 q4 HS2
        clear hc
        obtain ⟨m, hm⟩ : ∃ m, m = a.l.length := ⟨_, rfl⟩
        rw [← hm] at q4 HS2
        clear hm
        obtain ⟨y, hy⟩ : ∃ y, y = min m 1048576 := ⟨_, rfl⟩
        rw [← hy] at HS2
        have hw : IntKind.i64.wrap ((z : Int) + (y : Int)) = ((z + y : Nat) : Int) := by rw [IntKind.wrap_i64]; omega
        have HY : Hid (y ≤ 1048576) := by show _ ≤ _; omega
        have HY2 : Hid ((if (1048576 : Int) < (m : Int) then (1048576 : Int) else (m : Int)) = (y : Int)) := by
          show _ = _
          split <;> omega
        clear hy hw
        go_wp2_with fail
        rw [HY2.out]
        go_roundw
        case rel => exact ⟨k + 1, z + y, by omega, by omega, by have := HY.out; omega, by go_num, by go_num, HS2.out, HB.out⟩
        case measure => simp [intOf]; omega
      · have hki : (k : Int) < (l.length : Int) := by omega
        have hk4i : ¬ ((k : Int) < 400) := by omega
        have hd : (300 : Int) < (l.length : Int) := by omega
        clear h400
        go_wp2_with fail
        go_ret
        exact ⟨true, rfl, (fun h => by cases h), HB.out⟩
    · have hki : ¬ ((k : Int) < (l.length : Int)) := by omega
      by_cases h300 : 300 < l.length
      · have hd : (300 : Int) < (l.length : Int) := by omega
        clear h300
        go_wp2_with fail
        go_ret
        exact ⟨true, rfl, (fun h => by cases h), HB.out⟩
      · have hd : ¬ (300 : Int) < (l.length : Int) := by omega
        have HL : Hid (l.length ≤ 300 ∧ ∀ x ∈ l, min x.l.length 1048576 ≤ z) := by
          refine ⟨by omega, ?_⟩
          have := HS.out
          rw [List.take_of_length_le (by omega)] at this
          exact this
        clear h300
        go_wp2_with fail
        go_ret
        refine ⟨decide ((16384 : Int) < z), rfl, (fun h => ⟨HL.out.1, fun x hx => ?_⟩), HB.out⟩
        have h1 := HL.out.2 x hx
        have h2 := of_decide_eq_false h
        omega
end Go.Proofs.Ytepnofklmdofmaa
