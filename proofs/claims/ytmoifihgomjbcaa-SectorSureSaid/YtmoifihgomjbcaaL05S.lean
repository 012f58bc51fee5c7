/-
  Layer 5's steps, opened: a slice of Step reads as a list of them; Heavy, written.
-/
import Derived.Test.YtmoifihgomjbcaaOpen
import Derived.Test.YtmoifihgomjbcaaSecM
import Derived.ProofKit
import Derived.BigQuiet
import Derived.Deep.QuietTactic
namespace Go.Proofs.Ytmoifihgomjbcaa
open Go.ChangeShapes Go.WideShapes Go.RowKit Go.Deep

/-- A step, as the law is handed it. -/
structure StepV where
  act : Nat
  k : Int
  t : ByteArray
  ps : List Int
  A : Option Addr
  c : Nat
  deriving Inhabited

def StepV.cells (a : StepV) : List Value := [.int .u8 (a.act : Int), .int .i64 a.k, .string a.t, .slice a.A a.ps.length a.c]

/-- What its parts are. -/
structure StepV.Ok (a : StepV) (w : World) : Prop where
  act : a.act < 256
  k : -9223372036854775808 ≤ a.k ∧ a.k ≤ 9223372036854775807
  t : a.t.size ≤ maxLen
  ps : Lies w w.heap.size a.A (icells a.ps)
  len : a.ps.length ≤ maxLen

theorem stp_cells : Try.prog.cellsOf 32 = 4 := by kernel_rfl
theorem stp_c0 : Try.prog.cellsOf 5 = 1 := by kernel_rfl
theorem stp_c1 : Try.prog.cellsOf 3 = 1 := by kernel_rfl
theorem stp_c2 : Try.prog.cellsOf 9 = 1 := by kernel_rfl
theorem stp_c3 : Try.prog.cellsOf 23 = 1 := by kernel_rfl

section
variable {H : Type} {enc : TypeId × Value → H} {w : World}

set_option maxRecDepth 100000 in
theorem trod_stp {fuel : Nat} {cs : List Value} {x : DataW H × List MemPlace} (h : DataW.trod enc Try.prog w 0 (fun _ => true) true fuel 32 cs = some x) : ∃ a : StepV, cs = a.cells ∧ a.Ok w := by
  obtain ⟨xs, m, _, _, hlen, hxl, hf⟩ := DataW.trod_struct Try.underlying32 h
  rw [stp_cells] at hlen
  match cs, hlen, xs, hxl with
  | [c0, c1, c2, c3], _, [y0, y1, y2, y3], _ =>
    have f0 : DataW.trod enc Try.prog w 0 (fun _ => true) true m 5 (List.take (Try.prog.cellsOf 5) [c0, c1, c2, c3]) = some y0 := hf 0 _ rfl
    rw [stp_c0] at f0
    have f1 : DataW.trod enc Try.prog w 0 (fun _ => true) true m 3 (List.take (Try.prog.cellsOf 3) [c1, c2, c3]) = some y1 := hf 1 _ rfl
    rw [stp_c1] at f1
    have f2 : DataW.trod enc Try.prog w 0 (fun _ => true) true m 9 (List.take (Try.prog.cellsOf 9) [c2, c3]) = some y2 := hf 2 _ rfl
    rw [stp_c2] at f2
    have f3 : DataW.trod enc Try.prog w 0 (fun _ => true) true m 23 (List.take (Try.prog.cellsOf 23) [c3]) = some y3 := hf 3 _ rfl
    rw [stp_c3] at f3
    obtain ⟨a0, e0, _, w0⟩ := DataW.trod_int Try.underlying5 f0
    obtain ⟨a1, e1, _, w1⟩ := DataW.trod_int Try.underlying3 f1
    obtain ⟨a2, e2, _, w2⟩ := DataW.trod_string Try.underlying9 f2
    obtain ⟨ps, A, c, e3, hn, hl, _⟩ := trod_i64s Try.underlying23 Try.underlying3 stp_c1 f3
    have b0 : 0 ≤ a0 ∧ a0 ≤ 255 := by simpa [Lit.wf, IntKind.min, IntKind.max, IntKind.signed, IntKind.bits] using w0
    have b1 : -9223372036854775808 ≤ a1 ∧ a1 ≤ 9223372036854775807 := by simpa [Lit.wf, IntKind.min, IntKind.max, IntKind.signed, IntKind.bits] using w1
    refine ⟨⟨a0.toNat, a1, a2, ps, A, c⟩, ?_, ⟨by show a0.toNat < 256; omega, b1, w2, hl, hn⟩⟩
    have e0' : c0 = .int .u8 a0 := by simpa using e0
    have e1' : c1 = .int .i64 a1 := by simpa using e1
    have e2' : c2 = .string a2 := by simpa using e2
    have e3' : c3 = .slice A ps.length c := by simpa using e3
    unfold StepV.cells
    simp only []
    rw [e0', e1', e2', e3', Int.toNat_of_nonneg b0.1]

/-- A slice of them. -/
def LiesS (w : World) (B : Nat) (A : Option Addr) (l : List StepV) : Prop :=
  0 < l.length → ∃ ad, A = some ad ∧ ad.block < B ∧ ∀ j (hj : j < l.length) i u, (l[j].cells)[i]? = some u → w.cell? ((ad.add (j * 4)).add i) = some u

theorem LiesS.below {w' : World} {B : Nat} {A : Option Addr} {l : List StepV} (h : LiesS w B A l) (hb : Below B w w') : LiesS w' B A l := fun hn => by
  obtain ⟨ad, e, hl, hc⟩ := h hn
  exact ⟨ad, e, hl, fun j hj i u hu => (hb.cell (by rw [Lies.add_block, Lies.add_block]; exact hl)).trans (hc j hj i u hu)⟩

theorem trod_steps {fuel : Nat} {cs : List Value} {x : DataW H × List MemPlace} (h : DataW.trod enc Try.prog w 0 (fun _ => true) true fuel 22 cs = some x) :
    ∃ (l : List StepV) (A : Option Addr) (c : Nat), cs = [.slice A l.length c] ∧ l.length ≤ maxLen ∧ LiesS w w.heap.size A l ∧ ∀ a ∈ l, a.Ok w := by
  obtain ⟨l, A, c, hcs, hn, hl⟩ := open_any Try.underlying22 h (fun cs' a => cs' = StepV.cells a ∧ a.Ok w) (fun cs' n y hy => trod_stp hy)
  refine ⟨l, A, c, hcs, hn, fun h0 => ?_, fun a ha => ?_⟩
  · obtain ⟨ad, hA, hb, hj⟩ := hl h0 (by rw [stp_cells]; decide)
    refine ⟨ad, hA, hb, fun j hjl i u hu => ?_⟩
    obtain ⟨cs', ⟨rfl, _⟩, _, hc⟩ := hj j hjl
    rw [stp_cells] at hc
    exact hc i u hu
  · obtain ⟨j, hj, rfl⟩ := List.getElem_of_mem ha
    obtain ⟨_, _, _, hjj⟩ := hl (by omega) (by rw [stp_cells]; decide)
    obtain ⟨cs', ⟨_, hq⟩, _⟩ := hjj j hj
    exact hq
end

theorem stp_off (p : Addr) (i : Nat) (h : i ≠ 0) : p.add i = ⟨p.block, p.off + i, none⟩ := by unfold Addr.add; rw [if_neg h]
/-- One's cells, as a walk asks for them. -/
theorem stp_at {w : World} {l : List StepV} {k : Nat} (hk : k < l.length) (p : Addr) (hc : ∀ i u, (l[k].cells)[i]? = some u → w.cell? (p.add i) = some u) :
    w.cell? p = some (.int .u8 (l[k].act : Int)) ∧ w.cell? ⟨p.block, p.off + 1, none⟩ = some (.int .i64 l[k].k) ∧ w.cell? ⟨p.block, p.off + 2, none⟩ = some (.string l[k].t) ∧
    w.cell? ⟨p.block, p.off + 3, none⟩ = some (.slice l[k].A l[k].ps.length l[k].c) := by
  refine ⟨hc 0 _ rfl, ?_, ?_, ?_⟩
  · rw [← stp_off p 1 (by omega)]; exact hc 1 _ rfl
  · rw [← stp_off p 2 (by omega)]; exact hc 2 _ rfl
  · rw [← stp_off p 3 (by omega)]; exact hc 3 _ rfl

/-! ### Heavy -/
def StepV.big (a : StepV) : Bool := decide (1024 < a.t.size) || decide (300 < a.ps.length)
def heavyB (l : List StepV) : Bool := decide (200 < l.length) || l.any StepV.big
theorem heavy_no {l : List StepV} (h : heavyB l = false) : l.length ≤ 200 ∧ ∀ a ∈ l, a.t.size ≤ 1024 ∧ a.ps.length ≤ 300 := by
  unfold heavyB at h
  simp only [Bool.or_eq_false_iff, decide_eq_false_iff_not, List.any_eq_false] at h
  refine ⟨by omega, fun a ha => ?_⟩
  have := h.2 a ha
  simp [StepV.big] at this
  omega

set_option maxHeartbeats 1000000 in
set_option maxRecDepth 20000 in
theorem heavy_any (l : List StepV) (A : Option Addr) (c B : Nat) (w : World) (la : LiesS w B A l) (nl : l.length ≤ maxLen) :
    Calls Try.prog 6 #[.slice A l.length c] w fun e w' => e = .returned (.bool (heavyB l)) ∧ w = w' := by
  unfold maxLen at nl
  have LA := Lib.hid la
  clear la
  by_cases h200 : 200 < l.length
  · have HE : Hid (heavyB l = true) := by show _ = _; unfold heavyB; rw [decide_eq_true h200]; rfl
    have d1 : decide ((200 : Int) < (l.length : Int)) = true := by simp; omega
    go_enter Try.func6, Try.ntmps6
    go_wp2_with fail
    go_ret
    rw [HE.out]
    exact ⟨rfl, rfl⟩
  · have d1 : decide ((200 : Int) < (l.length : Int)) = false := by simp; omega
    go_enter Try.func6, Try.ntmps6
    go_wp2_with fail
    go_loop [3] (fun i => ∃ k : Nat, k ≤ l.length ∧ i = .int .i64 k ∧ (l.take k).any StepV.big = false) (fun i => l.length - (intOf i).toNat)
    case atStart => exact ⟨0, Nat.zero_le _, rfl, by simp⟩
    case round =>
      obtain ⟨k, hk, rfl, hno⟩ := hrel
      have HN := Lib.hid hno
      clear hno
      by_cases hlt : k < l.length
      · obtain ⟨ad, rfl, _, hc⟩ := LA.out (by omega)
        obtain ⟨q0, q1, q2, q3⟩ := stp_at hlt (ad.add (k * 4)) (hc k hlt)
        have HS : Hid ((l.take (k + 1)).any StepV.big = l[k].big) := by
          show _ = _
          rw [List.take_succ_eq_append_getElem hlt, List.any_append, HN.out]
          simp
        have HB : Hid (l[k].big = true → heavyB l = true) := fun h => by
          unfold heavyB
          rw [Bool.or_eq_true]
          exact .inr (List.any_eq_true.2 ⟨_, List.getElem_mem hlt, h⟩)
        have hki : (k : Int) < (l.length : Int) := by omega
        clear hc
        by_cases h1 : 1024 < l[k].t.size
        · have e1 : decide ((1024 : Int) < (l[k].t.size : Int)) = true := by simp; omega
          have HE : Hid (heavyB l = true) := HB.out (by unfold StepV.big; simp [h1])
          clear h1
          go_wp2_with fail
          go_ret
          rw [HE.out]
          exact ⟨rfl, rfl⟩
        · have e1 : decide ((1024 : Int) < (l[k].t.size : Int)) = false := by simp; omega
          by_cases h2 : 300 < l[k].ps.length
          · have e2 : decide ((300 : Int) < (l[k].ps.length : Int)) = true := by simp; omega
            have HE : Hid (heavyB l = true) := HB.out (by unfold StepV.big; simp [h2])
            clear h1 h2
            go_wp2_with fail
            go_ret
            rw [HE.out]
            exact ⟨rfl, rfl⟩
          · have e2 : decide ((300 : Int) < (l[k].ps.length : Int)) = false := by simp; omega
            have HE : Hid ((l.take (k + 1)).any StepV.big = false) := HS.out.trans (by unfold StepV.big; simp; omega)
            clear h1 h2
            go_wp2_with fail
            go_round
            case rel => exact ⟨k + 1, by omega, by go_num, HE.out⟩
            case measure => simp [intOf]; omega
      · have HE : Hid (heavyB l = false) := by
          show _ = _
          have := HN.out
          rw [List.take_of_length_le (by omega)] at this
          unfold heavyB
          rw [this, decide_eq_false h200]; rfl
        go_wp2_with fail
        go_ret
        rw [HE.out]
        exact ⟨rfl, rfl⟩
end Go.Proofs.Ytmoifihgomjbcaa
