/-
  Layer 9's steps, opened: a slice of Step reads as a list of them; heavy.
-/
import Derived.Test.YtfhengihdlojmaaPkJ
import Derived.Test.YtfhengihdlojmaaOpen
import Derived.ProofKit
import Derived.BigQuiet
import Derived.Deep.QuietTactic
import Derived.Test.YtfhengihdlojmaaProg
namespace Go.Proofs.Ytfhengihdlojmaa
open Go.ChangeShapes Go.WideShapes Go.RowKit Go.Deep

/-- A step, as the law is handed it. -/
structure StepG where
  act : Int
  a : Int
  b : Int
  n : Int
  m : Int
  s : ByteArray
  tos : List Int
  A : Option Addr
  c : Nat
  deriving Inhabited

def StepG.cells (x : StepG) : List Value := [.int .i64 x.act, .int .i64 x.a, .int .i64 x.b, .int .u64 x.n, .int .u64 x.m, .string x.s, .slice x.A x.tos.length x.c]

/-- What its parts are. -/
structure StepG.Ok (x : StepG) (w : World) : Prop where
  act : -9223372036854775808 ≤ x.act ∧ x.act ≤ 9223372036854775807
  a : -9223372036854775808 ≤ x.a ∧ x.a ≤ 9223372036854775807
  b : -9223372036854775808 ≤ x.b ∧ x.b ≤ 9223372036854775807
  n : 0 ≤ x.n ∧ x.n < 18446744073709551616
  m : 0 ≤ x.m ∧ x.m < 18446744073709551616
  s : x.s.size ≤ maxLen
  ltos : Lies w w.heap.size x.A (icells x.tos)
  len : x.tos.length ≤ maxLen

theorem stg_cells : Try.prog.cellsOf 35 = 7 := by kernel_rfl
theorem stg_c1 : Try.prog.cellsOf 3 = 1 := by kernel_rfl
theorem stg_c2 : Try.prog.cellsOf 28 = 1 := by kernel_rfl
theorem stg_c3 : Try.prog.cellsOf 9 = 1 := by kernel_rfl
theorem stg_c4 : Try.prog.cellsOf 33 = 1 := by kernel_rfl

section
variable {H : Type} {enc : TypeId × Value → H} {w : World}

set_option maxRecDepth 100000 in
theorem trod_stg {fuel : Nat} {cs : List Value} {x : DataW H × List MemPlace} (h : DataW.trod enc Try.prog w 0 (fun _ => true) true fuel 35 cs = some x) : ∃ a : StepG, cs = a.cells ∧ a.Ok w := by
  obtain ⟨xs, m, _, _, hlen, hxl, hf⟩ := DataW.trod_struct Try.underlying35 h
  rw [stg_cells] at hlen
  match cs, hlen, xs, hxl with
  | [c0, c1, c2, c3, c4, c5, c6], _, [y0, y1, y2, y3, y4, y5, y6], _ =>
    have f0 : DataW.trod enc Try.prog w 0 (fun _ => true) true m 3 (List.take (Try.prog.cellsOf 3) [c0, c1, c2, c3, c4, c5, c6]) = some y0 := hf 0 _ rfl
    rw [stg_c1] at f0
    have f1 : DataW.trod enc Try.prog w 0 (fun _ => true) true m 3 (List.take (Try.prog.cellsOf 3) [c1, c2, c3, c4, c5, c6]) = some y1 := hf 1 _ rfl
    rw [stg_c1] at f1
    have f2 : DataW.trod enc Try.prog w 0 (fun _ => true) true m 3 (List.take (Try.prog.cellsOf 3) [c2, c3, c4, c5, c6]) = some y2 := hf 2 _ rfl
    rw [stg_c1] at f2
    have f3 : DataW.trod enc Try.prog w 0 (fun _ => true) true m 28 (List.take (Try.prog.cellsOf 28) [c3, c4, c5, c6]) = some y3 := hf 3 _ rfl
    rw [stg_c2] at f3
    have f4 : DataW.trod enc Try.prog w 0 (fun _ => true) true m 28 (List.take (Try.prog.cellsOf 28) [c4, c5, c6]) = some y4 := hf 4 _ rfl
    rw [stg_c2] at f4
    have f5 : DataW.trod enc Try.prog w 0 (fun _ => true) true m 9 (List.take (Try.prog.cellsOf 9) [c5, c6]) = some y5 := hf 5 _ rfl
    rw [stg_c3] at f5
    have f6 : DataW.trod enc Try.prog w 0 (fun _ => true) true m 33 (List.take (Try.prog.cellsOf 33) [c6]) = some y6 := hf 6 _ rfl
    rw [stg_c4] at f6
    obtain ⟨a0, e0, _, w0⟩ := DataW.trod_int Try.underlying3 f0
    obtain ⟨a1, e1, _, w1⟩ := DataW.trod_int Try.underlying3 f1
    obtain ⟨a2, e2, _, w2⟩ := DataW.trod_int Try.underlying3 f2
    obtain ⟨a3, e3, _, w3⟩ := DataW.trod_int Try.underlying28 f3
    obtain ⟨a4, e4, _, w4⟩ := DataW.trod_int Try.underlying28 f4
    obtain ⟨a5, e5, _, w5⟩ := DataW.trod_string Try.underlying9 f5
    obtain ⟨ps, A, c, e6, hn, hl, _⟩ := trod_i64s Try.underlying33 Try.underlying3 stg_c1 f6
    have b0 : -9223372036854775808 ≤ a0 ∧ a0 ≤ 9223372036854775807 := by simpa [Lit.wf, IntKind.min, IntKind.max, IntKind.signed, IntKind.bits] using w0
    have b1 : -9223372036854775808 ≤ a1 ∧ a1 ≤ 9223372036854775807 := by simpa [Lit.wf, IntKind.min, IntKind.max, IntKind.signed, IntKind.bits] using w1
    have b2 : -9223372036854775808 ≤ a2 ∧ a2 ≤ 9223372036854775807 := by simpa [Lit.wf, IntKind.min, IntKind.max, IntKind.signed, IntKind.bits] using w2
    have b3 : 0 ≤ a3 ∧ a3 ≤ 18446744073709551615 := by simpa [Lit.wf, IntKind.min, IntKind.max, IntKind.signed, IntKind.bits] using w3
    have b4 : 0 ≤ a4 ∧ a4 ≤ 18446744073709551615 := by simpa [Lit.wf, IntKind.min, IntKind.max, IntKind.signed, IntKind.bits] using w4
    refine ⟨⟨a0, a1, a2, a3, a4, a5, ps, A, c⟩, ?_, ⟨b0, b1, b2, ⟨b3.1, Int.lt_of_le_of_lt b3.2 (by decide)⟩, ⟨b4.1, Int.lt_of_le_of_lt b4.2 (by decide)⟩, w5, hl, hn⟩⟩
    have e0' : c0 = .int .i64 a0 := by simpa using e0
    have e1' : c1 = .int .i64 a1 := by simpa using e1
    have e2' : c2 = .int .i64 a2 := by simpa using e2
    have e3' : c3 = .int .u64 a3 := by simpa using e3
    have e4' : c4 = .int .u64 a4 := by simpa using e4
    have e5' : c5 = .string a5 := by simpa using e5
    have e6' : c6 = .slice A ps.length c := by simpa using e6
    unfold StepG.cells
    simp only []
    rw [e0', e1', e2', e3', e4', e5', e6']

/-- A slice of them. -/
def LiesG (w : World) (B : Nat) (A : Option Addr) (l : List StepG) : Prop :=
  0 < l.length → ∃ ad, A = some ad ∧ ad.block < B ∧ ∀ j (hj : j < l.length) i u, (l[j].cells)[i]? = some u → w.cell? ((ad.add (j * 7)).add i) = some u

theorem LiesG.below {w' : World} {B : Nat} {A : Option Addr} {l : List StepG} (h : LiesG w B A l) (hb : Below B w w') : LiesG w' B A l := fun hn => by
  obtain ⟨ad, e, hl, hc⟩ := h hn
  exact ⟨ad, e, hl, fun j hj i u hu => (hb.cell (by rw [Lies.add_block, Lies.add_block]; exact hl)).trans (hc j hj i u hu)⟩

theorem trod_stepsg {fuel : Nat} {cs : List Value} {x : DataW H × List MemPlace} (h : DataW.trod enc Try.prog w 0 (fun _ => true) true fuel 22 cs = some x) :
    ∃ (l : List StepG) (A : Option Addr) (c : Nat), cs = [.slice A l.length c] ∧ l.length ≤ maxLen ∧ LiesG w w.heap.size A l ∧ ∀ a ∈ l, a.Ok w := by
  obtain ⟨l, A, c, hcs, hn, hl⟩ := open_any Try.underlying22 h (fun cs' a => cs' = StepG.cells a ∧ a.Ok w) (fun cs' n y hy => trod_stg hy)
  refine ⟨l, A, c, hcs, hn, fun h0 => ?_, fun a ha => ?_⟩
  · obtain ⟨ad, hA, hb, hj⟩ := hl h0 (by rw [stg_cells]; decide)
    refine ⟨ad, hA, hb, fun j hjl i u hu => ?_⟩
    obtain ⟨cs', ⟨rfl, _⟩, _, hc⟩ := hj j hjl
    rw [stg_cells] at hc
    exact hc i u hu
  · obtain ⟨j, hj, rfl⟩ := List.getElem_of_mem ha
    obtain ⟨_, _, _, hjj⟩ := hl (by omega) (by rw [stg_cells]; decide)
    obtain ⟨cs', ⟨_, hq⟩, _⟩ := hjj j hj
    exact hq
end

theorem stg_off (p : Addr) (i : Nat) (h : i ≠ 0) : p.add i = ⟨p.block, p.off + i, none⟩ := by unfold Addr.add; rw [if_neg h]
/-- One's cells, as a walk asks for them. -/
theorem stg_at {w : World} {l : List StepG} {k : Nat} (hk : k < l.length) (p : Addr) (hc : ∀ i u, (l[k].cells)[i]? = some u → w.cell? (p.add i) = some u) :
    w.cell? p = some (.int .i64 l[k].act) ∧ w.cell? ⟨p.block, p.off + 1, none⟩ = some (.int .i64 l[k].a) ∧ w.cell? ⟨p.block, p.off + 2, none⟩ = some (.int .i64 l[k].b) ∧
    w.cell? ⟨p.block, p.off + 3, none⟩ = some (.int .u64 l[k].n) ∧ w.cell? ⟨p.block, p.off + 4, none⟩ = some (.int .u64 l[k].m) ∧ w.cell? ⟨p.block, p.off + 5, none⟩ = some (.string l[k].s) ∧
    w.cell? ⟨p.block, p.off + 6, none⟩ = some (.slice l[k].A l[k].tos.length l[k].c) := by
  refine ⟨hc 0 _ rfl, ?_, ?_, ?_, ?_, ?_, ?_⟩
  · rw [← stg_off p 1 (by omega)]; exact hc 1 _ rfl
  · rw [← stg_off p 2 (by omega)]; exact hc 2 _ rfl
  · rw [← stg_off p 3 (by omega)]; exact hc 3 _ rfl
  · rw [← stg_off p 4 (by omega)]; exact hc 4 _ rfl
  · rw [← stg_off p 5 (by omega)]; exact hc 5 _ rfl
  · rw [← stg_off p 6 (by omega)]; exact hc 6 _ rfl

/-! ### heavy -/
/-- What heavy tells. -/
def HeavyG (l : List StepG) (w : World) (e : Ending) (w' : World) : Prop := ∃ b : Bool, e = .returned (.bool b) ∧ (b = false → l.length ≤ 150 ∧ ∀ x ∈ l, x.tos.length ≤ 40) ∧ Below w.heap.size w w'

set_option maxHeartbeats 2000000 in
set_option maxRecDepth 20000 in
theorem heavyg (l : List StepG) (A : Option Addr) (c : Nat) (w : World) (la : LiesG w w.heap.size A l) (nl : l.length ≤ maxLen) :
    Calls Try.prog 4 #[.slice A l.length c] w (HeavyG l w) := by
  unfold maxLen at nl
  have LA := Lib.hid la
  clear la
  go_enter Try.func4, Try.ntmps4
  go_wp2_with fail
  go_loopw [3, 4] (fun nn i wr => ∃ (k : Nat) (z : Int), k ≤ l.length ∧ k ≤ 300 ∧ i = .int .i64 k ∧ nn = .int .i64 z ∧ Hid (∀ x ∈ l.take k, x.tos.length ≤ 40) ∧ Hid (Below w.heap.size w wr)) (fun _ i _ => l.length - (intOf i).toNat)
  case atStart => exact ⟨0, 0, Nat.zero_le _, Nat.zero_le _, rfl, rfl, fun x hx => by simp at hx, Below.refl _ _⟩
  case round =>
    obtain ⟨k, z, hk, hk4, rfl, rfl, HS, HB⟩ := hrel
    by_cases hlt : k < l.length
    · by_cases h400 : k < 300
      · obtain ⟨ad, rfl, hadb, hc⟩ := (LA.out.below HB.out) (by omega)
        obtain ⟨q0, q1, q2, q3, q4, q5, q6⟩ := stg_at hlt (ad.add (k * 7)) (hc k hlt)
        have hki : (k : Int) < (l.length : Int) := by omega
        have hk0 : (0 : Int) ≤ (k : Int) := by omega
        have hk4i : (k : Int) < 300 := by omega
        have HS2 : Hid (l[k].tos.length ≤ 40 → ∀ x ∈ l.take (k + 1), x.tos.length ≤ 40) := fun h x hx => by
          rw [List.take_succ_eq_append_getElem hlt] at hx
          rcases List.mem_append.1 hx with hx | hx
          · exact HS.out x hx
          · rw [List.mem_singleton.1 hx]; exact h
        generalize l[k] = a at q0 q1 q2 q3 q4 q5 q6 HS2
        clear hc
        by_cases h40 : a.tos.length ≤ 40
        · have d40 : ¬ ((40 : Int) < (a.tos.length : Int)) := by omega
          have HS3 := Lib.hid (HS2.out h40)
          clear HS HS2 h40
          go_wp2_with fail
          go_roundw
          case rel => exact ⟨k + 1, _, by omega, by omega, by go_num, rfl, HS3.out, HB.out⟩
          case measure => simp [intOf]; omega
        · have d40 : (40 : Int) < (a.tos.length : Int) := by omega
          clear HS HS2 h40
          go_wp2_with fail
          go_ret
          exact ⟨true, rfl, (fun h => by cases h), HB.out⟩
      · have hki : (k : Int) < (l.length : Int) := by omega
        have hk4i : ¬ ((k : Int) < 300) := by omega
        have hd : decide ((150 : Int) < (l.length : Int)) = true := by simp; omega
        clear h400
        go_wp2_with fail
        go_ret
        exact ⟨true, rfl, (fun h => by cases h), HB.out⟩
    · have hki : ¬ ((k : Int) < (l.length : Int)) := by omega
      by_cases h300 : 150 < l.length
      · have hd : decide ((150 : Int) < (l.length : Int)) = true := by simp; omega
        clear h300
        go_wp2_with fail
        go_ret
        exact ⟨true, rfl, (fun h => by cases h), HB.out⟩
      · have hd : decide ((150 : Int) < (l.length : Int)) = false := by simp; omega
        have HL : Hid (l.length ≤ 150 ∧ ∀ x ∈ l, x.tos.length ≤ 40) := by
          refine ⟨by omega, ?_⟩
          have := HS.out
          rw [List.take_of_length_le (by omega)] at this
          exact this
        clear h300
        go_wp2_with fail
        go_ret
        exact ⟨decide (131072 < z), rfl, (fun _ => HL.out), HB.out⟩
end Go.Proofs.Ytfhengihdlojmaa
