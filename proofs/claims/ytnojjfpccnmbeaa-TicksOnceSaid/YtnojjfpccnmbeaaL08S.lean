/-
  Layer 8's steps, opened: a slice of Step reads as a list of them; heavy, near.
-/
import Derived.Test.YtnojjfpccnmbeaaTpR
import Derived.Test.YtnojjfpccnmbeaaOpen
import Derived.ProofKit
import Derived.BigQuiet
import Derived.Deep.QuietTactic
import Derived.Test.YtnojjfpccnmbeaaProg
namespace Go.Proofs.Ytnojjfpccnmbeaa
open Go.ChangeShapes Go.WideShapes Go.RowKit Go.Deep

/-- A step, as the law is handed it. -/
structure StepT where
  act : Int
  key : ByteArray
  other : ByteArray
  t : Int
  deriving Inhabited

def StepT.cells (a : StepT) : List Value := [.int .i64 a.act, .string a.key, .string a.other, .int .i64 a.t]

/-- What its parts are. -/
structure StepT.Ok (a : StepT) : Prop where
  act : -9223372036854775808 ≤ a.act ∧ a.act ≤ 9223372036854775807
  key : a.key.size ≤ maxLen
  other : a.other.size ≤ maxLen
  t : -9223372036854775808 ≤ a.t ∧ a.t ≤ 9223372036854775807

theorem stt_cells : Try.prog.cellsOf 32 = 4 := by kernel_rfl
theorem stt_c1 : Try.prog.cellsOf 3 = 1 := by kernel_rfl
theorem stt_c2 : Try.prog.cellsOf 9 = 1 := by kernel_rfl
theorem stt_c3 : Try.prog.cellsOf 2 = 1 := by kernel_rfl

section
variable {H : Type} {enc : TypeId × Value → H} {w : World}

set_option maxRecDepth 100000 in
theorem trod_stt {fuel : Nat} {cs : List Value} {x : DataW H × List MemPlace} (h : DataW.trod enc Try.prog w 0 (fun _ => true) true fuel 32 cs = some x) : ∃ a : StepT, cs = a.cells ∧ a.Ok := by
  obtain ⟨xs, m, _, _, hlen, hxl, hf⟩ := DataW.trod_struct Try.underlying32 h
  rw [stt_cells] at hlen
  match cs, hlen, xs, hxl with
  | [c0, c1, c2, c3], _, [y0, y1, y2, y3], _ =>
    have f0 : DataW.trod enc Try.prog w 0 (fun _ => true) true m 3 (List.take (Try.prog.cellsOf 3) [c0, c1, c2, c3]) = some y0 := hf 0 _ rfl
    rw [stt_c1] at f0
    have f1 : DataW.trod enc Try.prog w 0 (fun _ => true) true m 9 (List.take (Try.prog.cellsOf 9) [c1, c2, c3]) = some y1 := hf 1 _ rfl
    rw [stt_c2] at f1
    have f2 : DataW.trod enc Try.prog w 0 (fun _ => true) true m 9 (List.take (Try.prog.cellsOf 9) [c2, c3]) = some y2 := hf 2 _ rfl
    rw [stt_c2] at f2
    have f3 : DataW.trod enc Try.prog w 0 (fun _ => true) true m 2 (List.take (Try.prog.cellsOf 2) [c3]) = some y3 := hf 3 _ rfl
    rw [stt_c3] at f3
    obtain ⟨a0, e0, _, w0⟩ := DataW.trod_int Try.underlying3 f0
    obtain ⟨a1, e1, _, w1⟩ := DataW.trod_string Try.underlying9 f1
    obtain ⟨a2, e2, _, w2⟩ := DataW.trod_string Try.underlying9 f2
    obtain ⟨a3, e3, _, w3⟩ := DataW.trod_int Try.underlying2 f3
    have b0 : -9223372036854775808 ≤ a0 ∧ a0 ≤ 9223372036854775807 := by simpa [Lit.wf, IntKind.min, IntKind.max, IntKind.signed, IntKind.bits] using w0
    have b3 : -9223372036854775808 ≤ a3 ∧ a3 ≤ 9223372036854775807 := by simpa [Lit.wf, IntKind.min, IntKind.max, IntKind.signed, IntKind.bits] using w3
    refine ⟨⟨a0, a1, a2, a3⟩, ?_, ⟨b0, w1, w2, b3⟩⟩
    have e0' : c0 = .int .i64 a0 := by simpa using e0
    have e1' : c1 = .string a1 := by simpa using e1
    have e2' : c2 = .string a2 := by simpa using e2
    have e3' : c3 = .int .i64 a3 := by simpa using e3
    unfold StepT.cells
    simp only []
    rw [e0', e1', e2', e3']

/-- A slice of them. -/
def LiesT (w : World) (B : Nat) (A : Option Addr) (l : List StepT) : Prop :=
  0 < l.length → ∃ ad, A = some ad ∧ ad.block < B ∧ ∀ j (hj : j < l.length) i u, (l[j].cells)[i]? = some u → w.cell? ((ad.add (j * 4)).add i) = some u

theorem LiesT.below {w' : World} {B : Nat} {A : Option Addr} {l : List StepT} (h : LiesT w B A l) (hb : Below B w w') : LiesT w' B A l := fun hn => by
  obtain ⟨ad, e, hl, hc⟩ := h hn
  exact ⟨ad, e, hl, fun j hj i u hu => (hb.cell (by rw [Lies.add_block, Lies.add_block]; exact hl)).trans (hc j hj i u hu)⟩

theorem trod_stepst {fuel : Nat} {cs : List Value} {x : DataW H × List MemPlace} (h : DataW.trod enc Try.prog w 0 (fun _ => true) true fuel 22 cs = some x) :
    ∃ (l : List StepT) (A : Option Addr) (c : Nat), cs = [.slice A l.length c] ∧ l.length ≤ maxLen ∧ LiesT w w.heap.size A l ∧ ∀ a ∈ l, a.Ok := by
  obtain ⟨l, A, c, hcs, hn, hl⟩ := open_any Try.underlying22 h (fun cs' a => cs' = StepT.cells a ∧ a.Ok) (fun cs' n y hy => trod_stt hy)
  refine ⟨l, A, c, hcs, hn, fun h0 => ?_, fun a ha => ?_⟩
  · obtain ⟨ad, hA, hb, hj⟩ := hl h0 (by rw [stt_cells]; decide)
    refine ⟨ad, hA, hb, fun j hjl i u hu => ?_⟩
    obtain ⟨cs', ⟨rfl, _⟩, _, hc⟩ := hj j hjl
    rw [stt_cells] at hc
    exact hc i u hu
  · obtain ⟨j, hj, rfl⟩ := List.getElem_of_mem ha
    obtain ⟨_, _, _, hjj⟩ := hl (by omega) (by rw [stt_cells]; decide)
    obtain ⟨cs', ⟨_, hq⟩, _⟩ := hjj j hj
    exact hq
end

theorem stt_off (p : Addr) (i : Nat) (h : i ≠ 0) : p.add i = ⟨p.block, p.off + i, none⟩ := by unfold Addr.add; rw [if_neg h]
/-- One's cells, as a walk asks for them. -/
theorem stt_at {w : World} {l : List StepT} {k : Nat} (hk : k < l.length) (p : Addr) (hc : ∀ i u, (l[k].cells)[i]? = some u → w.cell? (p.add i) = some u) :
    w.cell? p = some (.int .i64 l[k].act) ∧ w.cell? ⟨p.block, p.off + 1, none⟩ = some (.string l[k].key) ∧ w.cell? ⟨p.block, p.off + 2, none⟩ = some (.string l[k].other) ∧
    w.cell? ⟨p.block, p.off + 3, none⟩ = some (.int .i64 l[k].t) := by
  refine ⟨hc 0 _ rfl, ?_, ?_, ?_⟩
  · rw [← stt_off p 1 (by omega)]; exact hc 1 _ rfl
  · rw [← stt_off p 2 (by omega)]; exact hc 2 _ rfl
  · rw [← stt_off p 3 (by omega)]; exact hc 3 _ rfl

/-! ### heavy, near -/
/-- What heavy tells. -/
def HeavyT (l : List StepT) (w : World) (e : Ending) (w' : World) : Prop := ∃ b : Bool, e = .returned (.bool b) ∧ (b = false → l.length ≤ 300) ∧ Below w.heap.size w w'

set_option maxHeartbeats 2000000 in
set_option maxRecDepth 20000 in
theorem heavyt (l : List StepT) (A : Option Addr) (c : Nat) (w : World) (la : LiesT w w.heap.size A l) (nl : l.length ≤ maxLen) :
    Calls Try.prog 8 #[.slice A l.length c] w (HeavyT l w) := by
  unfold maxLen at nl
  have LA := Lib.hid la
  clear la
  go_enter Try.func8, Try.ntmps8
  go_wp2_with fail
  go_loopw [3, 4] (fun nn i wr => ∃ (k : Nat) (z : Int), k ≤ l.length ∧ k ≤ 400 ∧ i = .int .i64 k ∧ nn = .int .i64 z ∧ Hid (Below w.heap.size w wr)) (fun _ i _ => l.length - (intOf i).toNat)
  case atStart => exact ⟨0, 0, Nat.zero_le _, Nat.zero_le _, rfl, rfl, Below.refl _ _⟩
  case round =>
    obtain ⟨k, z, hk, hk4, rfl, rfl, HB⟩ := hrel
    by_cases hlt : k < l.length
    · by_cases h400 : k < 400
      · obtain ⟨ad, rfl, hadb, hc⟩ := (LA.out.below HB.out) (by omega)
        obtain ⟨q0, q1, q2, q3⟩ := stt_at hlt (ad.add (k * 4)) (hc k hlt)
        have hki : (k : Int) < (l.length : Int) := by omega
        have hk0 : (0 : Int) ≤ (k : Int) := by omega
        have hk4i : (k : Int) < 400 := by omega
        generalize l[k] = a at q0 q1 q2 q3
        clear hc
        go_wp2_with fail
        go_quiet (fail)
        go_wp2_with fail
        go_roundw
        case rel => exact ⟨k + 1, _, by omega, by omega, by go_num, rfl, below_drewN HB.out _⟩
        case measure => simp [intOf]; omega
      · have hki : (k : Int) < (l.length : Int) := by omega
        have hk4i : ¬ ((k : Int) < 400) := by omega
        have hd : decide ((300 : Int) < (l.length : Int)) = true := by simp; omega
        clear h400
        go_wp2_with fail
        go_ret
        exact ⟨true, rfl, (fun h => by cases h), HB.out⟩
    · have hki : ¬ ((k : Int) < (l.length : Int)) := by omega
      by_cases h300 : 300 < l.length
      · have hd : decide ((300 : Int) < (l.length : Int)) = true := by simp; omega
        clear h300
        go_wp2_with fail
        go_ret
        exact ⟨true, rfl, (fun h => by cases h), HB.out⟩
      · have hd : decide ((300 : Int) < (l.length : Int)) = false := by simp; omega
        have HL : Hid (l.length ≤ 300) := by show l.length ≤ 300; omega
        clear h300
        go_wp2_with fail
        go_ret
        exact ⟨decide (16384 < z), rfl, (fun _ => HL.out), HB.out⟩

/-- A tick not far behind now, as the law reckons it. -/
def nearT (c t : Int) : Int := wrap64 (c + bits BinOp.and IntKind.i64 t 65535)
theorem neart (c t : Int) (w : World) : Calls Try.prog 12 #[.int .i64 c, .int .i64 t] w fun e w' => e = .returned (.int .i64 (nearT c t)) ∧ w = w' := by
  go_enter Try.func12, Try.ntmps12
  go_wp2_with fail
  go_ret
  exact ⟨rfl, rfl⟩
end Go.Proofs.Ytnojjfpccnmbeaa
