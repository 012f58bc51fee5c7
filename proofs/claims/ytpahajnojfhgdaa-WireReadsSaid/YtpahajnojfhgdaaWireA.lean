/-
  A law's calls, opened: a slice of Ask reads as a list of them.
-/
import Derived.Test.YtpahajnojfhgdaaWireO
namespace Go.Proofs.Ytpahajnojfhgdaa
open Go.ChangeShapes Go.WideShapes Go.RowKit Go.Deep

/-- A call, as the law is handed it. -/
structure AskV where
  act : Nat
  most : Nat
  least : Int
  high : Int
  n : Int
  of : List Nat
  A : Option Addr
  c : Nat
  deriving Inhabited

def AskV.cells (a : AskV) : List Value := [.int .u8 (a.act : Int), .int .u64 (a.most : Int), .int .i64 a.least, .int .i64 a.high, .int .i64 a.n, .slice a.A a.of.length a.c]

/-- What its parts are. -/
structure AskV.Ok (a : AskV) (w : World) : Prop where
  act : a.act < 256
  most : a.most < 18446744073709551616
  least : -9223372036854775808 ≤ a.least ∧ a.least ≤ 9223372036854775807
  high : -9223372036854775808 ≤ a.high ∧ a.high ≤ 9223372036854775807
  n : -9223372036854775808 ≤ a.n ∧ a.n ≤ 9223372036854775807
  of : Lies w w.heap.size a.A (u64s a.of)
  len : a.of.length ≤ maxLen

theorem ask_cells : Try.prog.cellsOf 45 = 6 := by kernel_rfl
theorem ask_c5 : Try.prog.cellsOf 5 = 1 := by kernel_rfl
theorem ask_c28 : Try.prog.cellsOf 28 = 1 := by kernel_rfl
theorem ask_c2 : Try.prog.cellsOf 2 = 1 := by kernel_rfl
theorem ask_c3 : Try.prog.cellsOf 3 = 1 := by kernel_rfl
theorem ask_c22 : Try.prog.cellsOf 22 = 1 := by kernel_rfl

section
variable {H : Type} {enc : TypeId × Value → H} {w : World}

theorem trod_i64 {fuel : Nat} {t : TypeId} {v : Value} {x : DataW H × List MemPlace} (ht : Try.prog.underlying t = some (.int .i64)) (h : DataW.trod enc Try.prog w 0 (fun _ => true) true fuel t [v] = some x) :
    ∃ m : Int, v = .int .i64 m ∧ -9223372036854775808 ≤ m ∧ m ≤ 9223372036854775807 := by
  obtain ⟨m, hm, _, hw⟩ := DataW.trod_int ht h
  exact ⟨m, by simpa using hm, by simpa [Lit.wf, IntKind.min, IntKind.max, IntKind.signed, IntKind.bits] using hw⟩

theorem trod_ask {fuel : Nat} {cs : List Value} {x : DataW H × List MemPlace} (h : DataW.trod enc Try.prog w 0 (fun _ => true) true fuel 45 cs = some x) : ∃ a : AskV, cs = a.cells ∧ a.Ok w := by
  obtain ⟨xs, m, _, _, hlen, hxl, hf⟩ := DataW.trod_struct Try.underlying45 h
  rw [ask_cells] at hlen
  match cs, hlen, xs, hxl with
  | [c0, c1, c2, c3, c4, c5], _, [y0, y1, y2, y3, y4, y5], _ =>
    have f0 : DataW.trod enc Try.prog w 0 (fun _ => true) true m 5 (List.take (Try.prog.cellsOf 5) [c0, c1, c2, c3, c4, c5]) = some y0 := hf 0 _ rfl
    rw [ask_c5] at f0
    have f1 : DataW.trod enc Try.prog w 0 (fun _ => true) true m 28 (List.take (Try.prog.cellsOf 28) [c1, c2, c3, c4, c5]) = some y1 := hf 1 _ rfl
    rw [ask_c28] at f1
    have f2 : DataW.trod enc Try.prog w 0 (fun _ => true) true m 2 (List.take (Try.prog.cellsOf 2) [c2, c3, c4, c5]) = some y2 := hf 2 _ rfl
    rw [ask_c2] at f2
    have f3 : DataW.trod enc Try.prog w 0 (fun _ => true) true m 2 (List.take (Try.prog.cellsOf 2) [c3, c4, c5]) = some y3 := hf 3 _ rfl
    rw [ask_c2] at f3
    have f4 : DataW.trod enc Try.prog w 0 (fun _ => true) true m 3 (List.take (Try.prog.cellsOf 3) [c4, c5]) = some y4 := hf 4 _ rfl
    rw [ask_c3] at f4
    have f5 : DataW.trod enc Try.prog w 0 (fun _ => true) true m 22 (List.take (Try.prog.cellsOf 22) [c5]) = some y5 := hf 5 _ rfl
    rw [ask_c22] at f5
    obtain ⟨a0, e0, _, w0⟩ := DataW.trod_int Try.underlying5 f0
    obtain ⟨a1, e1, _, w1⟩ := DataW.trod_int Try.underlying28 f1
    obtain ⟨a2, rfl, b2⟩ := trod_i64 Try.underlying2 f2
    obtain ⟨a3, rfl, b3⟩ := trod_i64 Try.underlying2 f3
    obtain ⟨a4, rfl, b4⟩ := trod_i64 Try.underlying3 f4
    obtain ⟨of, A, c, e5, hn, hl, _⟩ := trod_u64s Try.underlying22 Try.underlying28 ask_c28 f5
    have b0 : 0 ≤ a0 ∧ a0 ≤ 255 := by simpa [Lit.wf, IntKind.min, IntKind.max, IntKind.signed, IntKind.bits] using w0
    have b1 : 0 ≤ a1 ∧ a1 ≤ 18446744073709551615 := by simpa [Lit.wf, IntKind.min, IntKind.max, IntKind.signed, IntKind.bits] using w1
    refine ⟨⟨a0.toNat, a1.toNat, a2, a3, a4, of, A, c⟩, ?_, ⟨by show a0.toNat < 256; omega, by show a1.toNat < _; omega, b2, b3, b4, hl, hn⟩⟩
    have e0' : c0 = .int .u8 a0 := by simpa using e0
    have e1' : c1 = .int .u64 a1 := by simpa using e1
    have e5' : c5 = .slice A of.length c := by simpa using e5
    unfold AskV.cells
    simp only []
    rw [e0', e1', e5', Int.toNat_of_nonneg b0.1, Int.toNat_of_nonneg b1.1]

/-- A slice of them. -/
def LiesA (w : World) (B : Nat) (A : Option Addr) (l : List AskV) : Prop :=
  0 < l.length → ∃ ad, A = some ad ∧ ad.block < B ∧ ∀ j (hj : j < l.length) i u, (l[j].cells)[i]? = some u → w.cell? ((ad.add (j * 6)).add i) = some u

theorem LiesA.below {w' : World} {B : Nat} {A : Option Addr} {l : List AskV} (h : LiesA w B A l) (hb : Below B w w') : LiesA w' B A l := fun hn => by
  obtain ⟨ad, e, hl, hc⟩ := h hn
  exact ⟨ad, e, hl, fun j hj i u hu => (hb.cell (by rw [Lies.add_block, Lies.add_block]; exact hl)).trans (hc j hj i u hu)⟩

theorem trod_asks {fuel : Nat} {cs : List Value} {x : DataW H × List MemPlace} (h : DataW.trod enc Try.prog w 0 (fun _ => true) true fuel 37 cs = some x) :
    ∃ (l : List AskV) (A : Option Addr) (c : Nat), cs = [.slice A l.length c] ∧ l.length ≤ maxLen ∧ LiesA w w.heap.size A l ∧ ∀ a ∈ l, a.Ok w := by
  obtain ⟨l, A, c, hcs, hn, hl⟩ := open_any Try.underlying37 h (fun cs' a => cs' = AskV.cells a ∧ a.Ok w) (fun cs' n y hy => trod_ask hy)
  refine ⟨l, A, c, hcs, hn, fun h0 => ?_, fun a ha => ?_⟩
  · obtain ⟨ad, hA, hb, hj⟩ := hl h0 (by rw [ask_cells]; decide)
    refine ⟨ad, hA, hb, fun j hjl i u hu => ?_⟩
    obtain ⟨cs', ⟨rfl, _⟩, _, hc⟩ := hj j hjl
    rw [ask_cells] at hc
    exact hc i u hu
  · obtain ⟨j, hj, rfl⟩ := List.getElem_of_mem ha
    obtain ⟨_, _, _, hjj⟩ := hl (by omega) (by rw [ask_cells]; decide)
    obtain ⟨cs', ⟨_, hq⟩, _⟩ := hjj j hj
    exact hq
end
end Go.Proofs.Ytpahajnojfhgdaa
