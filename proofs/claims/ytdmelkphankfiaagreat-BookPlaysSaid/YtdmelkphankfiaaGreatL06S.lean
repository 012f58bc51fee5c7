/-
  Layer 6's steps, opened: a slice of Step reads as a list of them; Heavy.
-/
import Derived.Test.YtdmelkphankfiaaGreatOpen
import Derived.Test.YtdmelkphankfiaaGreatLowSecA
import Derived.ProofKit
import Derived.BigQuiet
import Derived.Deep.QuietTactic
namespace Go.Proofs.YtdmelkphankfiaaGreat
open Go.ChangeShapes Go.WideShapes Go.RowKit Go.Deep

/-- A step, as the law is handed it. -/
structure StepB where
  act : Nat
  ts : List ByteArray
  T : Option Addr
  tc : Nat
  n : Int
  ps : List Int
  A : Option Addr
  c : Nat
  deriving Inhabited

def StepB.cells (a : StepB) : List Value := [.int .u8 (a.act : Int), .slice a.T a.ts.length a.tc, .int .i64 a.n, .slice a.A a.ps.length a.c]

/-- What its parts are. -/
structure StepB.Ok (a : StepB) (w : World) : Prop where
  act : a.act < 256
  n : -9223372036854775808 ≤ a.n ∧ a.n ≤ 9223372036854775807
  ts : Lies w w.heap.size a.T (tcells a.ts)
  tlen : a.ts.length ≤ maxLen
  tsz : ∀ x ∈ a.ts, x.size ≤ maxLen
  ps : Lies w w.heap.size a.A (icells a.ps)
  len : a.ps.length ≤ maxLen

theorem stb_cells : Tryz.prog.cellsOf 41 = 4 := by kernel_rfl
theorem stb_c0 : Tryz.prog.cellsOf 5 = 1 := by kernel_rfl
theorem stb_c1 : Tryz.prog.cellsOf 38 = 1 := by kernel_rfl
theorem stb_c2 : Tryz.prog.cellsOf 3 = 1 := by kernel_rfl
theorem stb_c3 : Tryz.prog.cellsOf 39 = 1 := by kernel_rfl
theorem stb_c4 : Tryz.prog.cellsOf 9 = 1 := by kernel_rfl

section
variable {H : Type} {enc : TypeId × Value → H} {w : World}

set_option maxRecDepth 100000 in
theorem trod_stb {fuel : Nat} {cs : List Value} {x : DataW H × List MemPlace} (h : DataW.trod enc Tryz.prog w 0 (fun _ => true) true fuel 41 cs = some x) : ∃ a : StepB, cs = a.cells ∧ a.Ok w := by
  obtain ⟨xs, m, _, _, hlen, hxl, hf⟩ := DataW.trod_struct Tryz.underlying41 h
  rw [stb_cells] at hlen
  match cs, hlen, xs, hxl with
  | [c0, c1, c2, c3], _, [y0, y1, y2, y3], _ =>
    have f0 : DataW.trod enc Tryz.prog w 0 (fun _ => true) true m 5 (List.take (Tryz.prog.cellsOf 5) [c0, c1, c2, c3]) = some y0 := hf 0 _ rfl
    rw [stb_c0] at f0
    have f1 : DataW.trod enc Tryz.prog w 0 (fun _ => true) true m 38 (List.take (Tryz.prog.cellsOf 38) [c1, c2, c3]) = some y1 := hf 1 _ rfl
    rw [stb_c1] at f1
    have f2 : DataW.trod enc Tryz.prog w 0 (fun _ => true) true m 3 (List.take (Tryz.prog.cellsOf 3) [c2, c3]) = some y2 := hf 2 _ rfl
    rw [stb_c2] at f2
    have f3 : DataW.trod enc Tryz.prog w 0 (fun _ => true) true m 39 (List.take (Tryz.prog.cellsOf 39) [c3]) = some y3 := hf 3 _ rfl
    rw [stb_c3] at f3
    obtain ⟨a0, e0, _, w0⟩ := DataW.trod_int Tryz.underlying5 f0
    obtain ⟨ts, T, tc, e1, tn, tl, tz⟩ := trod_strs Tryz.underlying38 Tryz.underlying9 stb_c4 f1
    obtain ⟨a2, e2, _, w2⟩ := DataW.trod_int Tryz.underlying3 f2
    obtain ⟨ps, A, c, e3, hn, hl, _⟩ := trod_i64s Tryz.underlying39 Tryz.underlying3 stb_c2 f3
    have b0 : 0 ≤ a0 ∧ a0 ≤ 255 := by simpa [Lit.wf, IntKind.min, IntKind.max, IntKind.signed, IntKind.bits] using w0
    have b2 : -9223372036854775808 ≤ a2 ∧ a2 ≤ 9223372036854775807 := by simpa [Lit.wf, IntKind.min, IntKind.max, IntKind.signed, IntKind.bits] using w2
    refine ⟨⟨a0.toNat, ts, T, tc, a2, ps, A, c⟩, ?_, ⟨by show a0.toNat < 256; omega, b2, tl, tn, tz, hl, hn⟩⟩
    have e0' : c0 = .int .u8 a0 := by simpa using e0
    have e1' : c1 = .slice T ts.length tc := by simpa using e1
    have e2' : c2 = .int .i64 a2 := by simpa using e2
    have e3' : c3 = .slice A ps.length c := by simpa using e3
    unfold StepB.cells
    simp only []
    rw [e0', e1', e2', e3', Int.toNat_of_nonneg b0.1]

/-- A slice of them. -/
def LiesB (w : World) (B : Nat) (A : Option Addr) (l : List StepB) : Prop :=
  0 < l.length → ∃ ad, A = some ad ∧ ad.block < B ∧ ∀ j (hj : j < l.length) i u, (l[j].cells)[i]? = some u → w.cell? ((ad.add (j * 4)).add i) = some u

theorem LiesB.below {w' : World} {B : Nat} {A : Option Addr} {l : List StepB} (h : LiesB w B A l) (hb : Below B w w') : LiesB w' B A l := fun hn => by
  obtain ⟨ad, e, hl, hc⟩ := h hn
  exact ⟨ad, e, hl, fun j hj i u hu => (hb.cell (by rw [Lies.add_block, Lies.add_block]; exact hl)).trans (hc j hj i u hu)⟩

theorem trod_stepsb {fuel : Nat} {cs : List Value} {x : DataW H × List MemPlace} (h : DataW.trod enc Tryz.prog w 0 (fun _ => true) true fuel 22 cs = some x) :
    ∃ (l : List StepB) (A : Option Addr) (c : Nat), cs = [.slice A l.length c] ∧ l.length ≤ maxLen ∧ LiesB w w.heap.size A l ∧ ∀ a ∈ l, a.Ok w := by
  obtain ⟨l, A, c, hcs, hn, hl⟩ := open_any Tryz.underlying22 h (fun cs' a => cs' = StepB.cells a ∧ a.Ok w) (fun cs' n y hy => trod_stb hy)
  refine ⟨l, A, c, hcs, hn, fun h0 => ?_, fun a ha => ?_⟩
  · obtain ⟨ad, hA, hb, hj⟩ := hl h0 (by rw [stb_cells]; decide)
    refine ⟨ad, hA, hb, fun j hjl i u hu => ?_⟩
    obtain ⟨cs', ⟨rfl, _⟩, _, hc⟩ := hj j hjl
    rw [stb_cells] at hc
    exact hc i u hu
  · obtain ⟨j, hj, rfl⟩ := List.getElem_of_mem ha
    obtain ⟨_, _, _, hjj⟩ := hl (by omega) (by rw [stb_cells]; decide)
    obtain ⟨cs', ⟨_, hq⟩, _⟩ := hjj j hj
    exact hq
end

theorem stb_off (p : Addr) (i : Nat) (h : i ≠ 0) : p.add i = ⟨p.block, p.off + i, none⟩ := by unfold Addr.add; rw [if_neg h]
/-- One's cells, as a walk asks for them. -/
theorem stb_at {w : World} {l : List StepB} {k : Nat} (hk : k < l.length) (p : Addr) (hc : ∀ i u, (l[k].cells)[i]? = some u → w.cell? (p.add i) = some u) :
    w.cell? p = some (.int .u8 (l[k].act : Int)) ∧ w.cell? ⟨p.block, p.off + 1, none⟩ = some (.slice l[k].T l[k].ts.length l[k].tc) ∧ w.cell? ⟨p.block, p.off + 2, none⟩ = some (.int .i64 l[k].n) ∧
    w.cell? ⟨p.block, p.off + 3, none⟩ = some (.slice l[k].A l[k].ps.length l[k].c) := by
  refine ⟨hc 0 _ rfl, ?_, ?_, ?_⟩
  · rw [← stb_off p 1 (by omega)]; exact hc 1 _ rfl
  · rw [← stb_off p 2 (by omega)]; exact hc 2 _ rfl
  · rw [← stb_off p 3 (by omega)]; exact hc 3 _ rfl

/-! ### Heavy -/
/-- Not too much. -/
def StepB.Small (a : StepB) : Prop := a.ts.length ≤ 20 ∧ a.ps.length ≤ 300 ∧ ∀ x ∈ a.ts, x.size ≤ 262144

/-- What Heavy tells. -/
def HeavyOut (l : List StepB) (w : World) (e : Ending) (w' : World) : Prop := ∃ b : Bool, e = .returned (.bool b) ∧ (b = false → l.length ≤ 100 ∧ ∀ a ∈ l, a.Small) ∧ w = w'

set_option maxHeartbeats 2000000 in
set_option maxRecDepth 20000 in
theorem heavyb (l : List StepB) (A : Option Addr) (c B : Nat) (w : World) (la : LiesB w B A l) (nl : l.length ≤ maxLen) (hts : ∀ a ∈ l, Lies w w.heap.size a.T (tcells a.ts) ∧ a.ts.length ≤ maxLen ∧ a.ps.length ≤ maxLen ∧ ∀ x ∈ a.ts, x.size ≤ maxLen) :
    Calls Tryz.prog 4 #[.slice A l.length c] w (HeavyOut l w) := by
  unfold maxLen at nl
  have LA := Lib.hid la
  have HT := Lib.hid hts
  clear la hts
  by_cases h100 : 100 < l.length
  · have d1 : decide ((100 : Int) < (l.length : Int)) = true := by simp; omega
    go_enter Tryz.func4, Tryz.ntmps4
    go_wp2_with fail
    go_ret
    exact ⟨true, rfl, (fun h => by cases h), rfl⟩
  · have d1 : decide ((100 : Int) < (l.length : Int)) = false := by simp; omega
    have hl100 : l.length ≤ 100 := by omega
    have hl100i : (l.length : Int) ≤ 100 := by omega
    clear h100
    go_enter Tryz.func4, Tryz.ntmps4
    go_wp2_with fail
    go_loop [3, 4] (fun nn i => ∃ k m : Nat, k ≤ l.length ∧ i = .int .i64 k ∧ nn = .int .i64 m ∧ m ≤ k * 5243200 ∧ Hid (∀ a ∈ l.take k, a.Small)) (fun _ i => l.length - (intOf i).toNat)
    case atStart => exact ⟨0, 0, Nat.zero_le _, rfl, rfl, Nat.zero_le _, fun a ha => by simp at ha⟩
    case round =>
      obtain ⟨k, m, hk, rfl, rfl, hm, HN⟩ := hrel
      by_cases hlt : k < l.length
      · obtain ⟨ad, rfl, _, hc⟩ := LA.out (by omega)
        obtain ⟨q0, q1, q2, q3⟩ := stb_at hlt (ad.add (k * 4)) (hc k hlt)
        obtain ⟨t1, t2, t3, t4⟩ := HT.out l[k] (List.getElem_mem hlt)
        have HTL := Lib.hid t1
        have HTZ := Lib.hid t4
        unfold maxLen at t2 t3
        have HTK := Lib.hid (List.take_succ_eq_append_getElem hlt)
        have hki : (k : Int) < (l.length : Int) := by omega
        have hk0 : (0 : Int) ≤ (k : Int) := by omega
        have hmi : (m : Int) ≤ 524320000 := by omega
        generalize l[k] = a at q0 q1 q2 q3 t2 t3 HTL HTZ HTK
        clear hc t1 t4
        by_cases h1 : 20 < a.ts.length
        · have e1 : decide ((20 : Int) < (a.ts.length : Int)) = true := by simp; omega
          clear h1
          go_wp2_with fail
          go_ret
          exact ⟨true, rfl, (fun h => by cases h), rfl⟩
        · have e1 : decide ((20 : Int) < (a.ts.length : Int)) = false := by simp; omega
          by_cases h2 : 300 < a.ps.length
          · have e2 : decide ((300 : Int) < (a.ps.length : Int)) = true := by simp; omega
            clear h1 h2
            go_wp2_with fail
            go_ret
            exact ⟨true, rfl, (fun h => by cases h), rfl⟩
          · have e2 : decide ((300 : Int) < (a.ps.length : Int)) = false := by simp; omega
            have h20 : a.ts.length ≤ 20 := by omega
            have h300 : a.ps.length ≤ 300 := by omega
            clear h1 h2
            go_wp2_with fail
            go_loop [3, 5] (fun nn j => ∃ q mm : Nat, q ≤ a.ts.length ∧ j = .int .i64 q ∧ nn = .int .i64 mm ∧ mm ≤ m + q * 262160 ∧ Hid (∀ x ∈ a.ts.take q, x.size ≤ 262144)) (fun _ j => a.ts.length - (intOf j).toNat)
            case atStart => exact ⟨0, m, Nat.zero_le _, rfl, rfl, Nat.le_add_right .., fun x hx => by simp at hx⟩
            case round =>
              obtain ⟨q, mm, hq, rfl, rfl, hmm, HQ⟩ := hrel
              by_cases hqt : q < a.ts.length
              · obtain ⟨bd, hT, _, hcx⟩ := HTL.out.at_ (tcells_at hqt)
                rw [hT] at q1
                have HTQ := Lib.hid (List.take_succ_eq_append_getElem hqt)
                have hxz := HTZ.out a.ts[q] (List.getElem_mem hqt)
                unfold maxLen at hxz
                have hqi : (q : Int) < (a.ts.length : Int) := by omega
                have hq0 : (0 : Int) ≤ (q : Int) := by omega
                have hmmi : (mm : Int) ≤ 600000000 := by omega
                generalize a.ts[q] = x at hcx HTQ hxz
                by_cases h3 : 262144 < x.size
                · have e3 : decide ((262144 : Int) < (x.size : Int)) = true := by simp; omega
                  clear h3
                  go_wp2_with fail
                  go_ret
                  exact ⟨true, rfl, (fun h => by cases h), rfl⟩
                · have e3 : decide ((262144 : Int) < (x.size : Int)) = false := by simp; omega
                  have HX : Hid (∀ y ∈ a.ts.take (q + 1), y.size ≤ 262144) := fun y hy => by
                    rw [HTQ.out] at hy
                    rcases List.mem_append.1 hy with hy | hy
                    · exact HQ.out y hy
                    · rw [List.mem_singleton.1 hy]; omega
                  have hxi : (x.size : Int) ≤ 262144 := by omega
                  clear h3
                  go_wp2_with fail
                  go_round
                  case rel => exact ⟨q + 1, mm + 16 + x.size, by omega, by go_num, by go_num, by omega, HX.out⟩
                  case measure => simp [intOf]; omega
              · have HX : Hid (∀ y ∈ l.take (k + 1), y.Small) := fun y hy => by
                  rw [HTK.out] at hy
                  rcases List.mem_append.1 hy with hy | hy
                  · exact HN.out y hy
                  · rw [List.mem_singleton.1 hy]
                    refine ⟨h20, h300, fun x hx => HQ.out x ?_⟩
                    rwa [List.take_of_length_le (by omega)]
                go_wp2_with fail
                go_round
                case rel => exact ⟨k + 1, mm, by omega, by go_num, by go_num, by omega, HX.out⟩
                case measure => simp [intOf]; omega
      · have HE : Hid (∀ a ∈ l, a.Small) := by
          have := HN.out
          rwa [List.take_of_length_le (by omega)] at this
        have hl := hl100
        by_cases hf : 262144 < m
        · have e4 : decide ((262144 : Int) < (m : Int)) = true := by simp; omega
          clear hf
          go_wp2_with fail
          go_ret
          exact ⟨true, rfl, (fun h => by cases h), rfl⟩
        · have e4 : decide ((262144 : Int) < (m : Int)) = false := by simp; omega
          clear hf
          go_wp2_with fail
          go_ret
          exact ⟨false, rfl, (fun _ => ⟨hl, HE.out⟩), rfl⟩
end Go.Proofs.YtdmelkphankfiaaGreat
