/-
  Plain facts of frames read one behind the other, step by step. Imports nothing of the dump.
-/
import Derived.Test.YtnalpmiinoohoaaFrameM
namespace Go.Proofs.Ytnalpmiinoohoaa

namespace Frame
/-- What reading tells. -/
abbrev Told := UInt8 × List UInt8 × Nat × Nat

def stepsF : Nat → List UInt8 → Int → List Told
  | 0, _, _ => []
  | k + 1, s, most =>
    if s = [] then []
    else if (rd s most).2.2.2 ≠ 0 then [rd s most]
    else rd s most :: stepsF k (s.drop (rd s most).2.2.1) most

theorem stepsF_succ (k : Nat) (s : List UInt8) (most : Int) : stepsF (k + 1) s most =
    if s = [] then []
    else if (rd s most).2.2.2 ≠ 0 then [rd s most]
    else rd s most :: stepsF k (s.drop (rd s most).2.2.1) most := rfl

theorem stepsF_nil (k : Nat) (most : Int) : stepsF k [] most = [] := by
  cases k with
  | zero => rfl
  | succ k => rw [stepsF_succ, if_pos rfl]

theorem stepsF_fuel (most : Int) : ∀ (k j : Nat) (s : List UInt8), s.length ≤ k → s.length ≤ j → stepsF k s most = stepsF j s most := by
  intro k
  induction k with
  | zero =>
    intro j s h _
    have : s = [] := List.eq_nil_of_length_eq_zero (by omega)
    subst this
    rw [stepsF_nil, stepsF_nil]
  | succ k ih =>
    intro j s h hj
    match j with
    | 0 =>
      have : s = [] := List.eq_nil_of_length_eq_zero (by omega)
      subst this
      rw [stepsF_nil, stepsF_nil]
    | j + 1 =>
      rw [stepsF_succ, stepsF_succ]
      by_cases h0 : s = []
      · rw [if_pos h0, if_pos h0]
      · rw [if_neg h0, if_neg h0]
        by_cases he : (rd s most).2.2.2 ≠ 0
        · rw [if_pos he, if_pos he]
        · rw [if_neg he, if_neg he]
          have hl := rd_le s most (by omega)
          rw [ih j (s.drop (rd s most).2.2.1) (by rw [List.length_drop]; omega) (by rw [List.length_drop]; omega)]

/-- All that reading tells, one behind the other. -/
def steps (s : List UInt8) (most : Int) : List Told := stepsF s.length s most
theorem steps_nil (most : Int) : steps [] most = [] := rfl
theorem steps_bad {s : List UInt8} {most : Int} (h : s ≠ []) (he : (rd s most).2.2.2 ≠ 0) : steps s most = [rd s most] := by
  have hp : 0 < s.length := List.length_pos_iff.2 h
  unfold steps
  rw [stepsF_fuel most s.length (s.length + 1) s (by omega) (by omega), stepsF_succ, if_neg h, if_pos he]
theorem steps_ok {s : List UInt8} {most : Int} (h : s ≠ []) (he : (rd s most).2.2.2 = 0) : steps s most = rd s most :: steps (s.drop (rd s most).2.2.1) most := by
  have hp : 0 < s.length := List.length_pos_iff.2 h
  unfold steps
  rw [stepsF_fuel most s.length (s.length + 1) s (by omega) (by omega), stepsF_succ, if_neg h, if_neg (by omega)]
  rw [stepsF_fuel most s.length (s.drop (rd s most).2.2.1).length _ (by rw [List.length_drop]; omega) (by omega)]

theorem stepsF_len (most : Int) : ∀ (k : Nat) (s : List UInt8), (stepsF k s most).length ≤ k := by
  intro k
  induction k with
  | zero => intro s; exact Nat.zero_le _
  | succ k ih =>
    intro s
    rw [stepsF_succ]
    split
    · exact Nat.zero_le _
    · split
      · simp
      · rw [List.length_cons]
        have := ih (s.drop (rd s most).2.2.1)
        omega
theorem steps_len (s : List UInt8) (most : Int) : (steps s most).length ≤ s.length := stepsF_len most _ s

/-- The frames that were told, how many bytes they have. -/
def frames (l : List Told) : List (UInt8 × List UInt8) := l.map fun r => (r.1, r.2.1)
def bytes (l : List Told) : Nat := (l.map fun r => r.2.2.1).sum
/-- None of them is a fault. -/
def allOk (l : List Told) : Prop := ∀ r ∈ l, r.2.2.2 = 0

theorem frames_snoc (l : List Told) (x : Told) : frames (l ++ [x]) = frames l ++ [(x.1, x.2.1)] := by unfold frames; simp
theorem frames_len (l : List Told) : (frames l).length = l.length := by unfold frames; simp
theorem bytes_snoc (l : List Told) (x : Told) : bytes (l ++ [x]) = bytes l + x.2.2.1 := by unfold bytes; simp
theorem allOk_snoc {l : List Told} {x : Told} (h : allOk l) (hx : x.2.2.2 = 0) : allOk (l ++ [x]) := by
  intro r hr
  rcases List.mem_append.1 hr with h1 | h1
  · exact h r h1
  · rw [List.mem_singleton.1 h1]; exact hx
theorem allOk_nil : allOk [] := fun _ h => by simp at h

theorem scan_nil (k : Nat) (most : Int) : scan k [] most = ([], 0, 0) := by
  cases k with
  | zero => rfl
  | succ k => rw [scan_succ, if_pos rfl]

theorem scan_stop (most : Int) : ∀ (k : Nat) (s : List UInt8) (pre : List Told) (x : Told) (rest : List Told), stepsF k s most = pre ++ x :: rest → allOk pre → x.2.2.2 ≠ 0 → scan k s most = (frames pre, bytes pre, x.2.2.2) := by
  intro k
  induction k with
  | zero => intro s pre x rest h; cases pre <;> cases h
  | succ k ih =>
    intro s pre x rest h hok hx
    rw [stepsF_succ] at h
    rw [scan_succ]
    by_cases h0 : s = []
    · rw [if_pos h0] at h; cases pre <;> cases h
    · rw [if_neg h0] at h ⊢
      by_cases he : (rd s most).2.2.2 ≠ 0
      · rw [if_pos he] at h
        rw [if_pos he]
        cases pre with
        | nil =>
          rw [List.nil_append, List.cons.injEq] at h
          rw [← h.1]
          rfl
        | cons p pre =>
          rw [List.cons_append, List.cons.injEq] at h
          cases pre <;> cases h.2
      · rw [if_neg he] at h
        rw [if_neg he]
        cases pre with
        | nil =>
          rw [List.nil_append, List.cons.injEq] at h
          rw [h.1] at he
          exact absurd hx he
        | cons p pre =>
          rw [List.cons_append, List.cons.injEq] at h
          rw [ih _ pre x rest h.2 (fun r hr => hok r (by simp [hr])) hx, h.1]
          unfold frames bytes
          simp

theorem scan_done (most : Int) : ∀ (k : Nat) (s : List UInt8) (pre : List Told), stepsF k s most = pre → allOk pre → scan k s most = (frames pre, bytes pre, 0) := by
  intro k
  induction k with
  | zero => intro s pre h _; rw [← h]; rfl
  | succ k ih =>
    intro s pre h hok
    rw [stepsF_succ] at h
    rw [scan_succ]
    by_cases h0 : s = []
    · rw [if_pos h0] at h ⊢; rw [← h]; rfl
    · rw [if_neg h0] at h ⊢
      by_cases he : (rd s most).2.2.2 ≠ 0
      · rw [if_pos he] at h
        have := hok (rd s most) (by rw [← h]; simp)
        exact absurd this he
      · rw [if_neg he] at h
        rw [if_neg he]
        cases pre with
        | nil => cases h
        | cons p pre =>
          rw [List.cons.injEq] at h
          rw [ih _ pre h.2 (fun r hr => hok r (by simp [hr])), h.1]
          unfold frames bytes
          simp

/-- What is scanned of bytes. -/
def sc (s : List UInt8) (most : Int) : List (UInt8 × List UInt8) × Nat × Nat := scan s.length s most
theorem sc_stop {s : List UInt8} {most : Int} {pre : List Told} {x : Told} {rest : List Told} (h : steps s most = pre ++ x :: rest) (hok : allOk pre) (hx : x.2.2.2 ≠ 0) : sc s most = (frames pre, bytes pre, x.2.2.2) :=
  scan_stop most _ s pre x rest h hok hx
theorem sc_done {s : List UInt8} {most : Int} {pre : List Told} (h : steps s most = pre) (hok : allOk pre) : sc s most = (frames pre, bytes pre, 0) :=
  scan_done most _ s pre h hok

theorem scan_len (most : Int) : ∀ (k : Nat) (s : List UInt8), (scan k s most).1.length ≤ k := by
  intro k
  induction k with
  | zero => intro s; exact Nat.zero_le _
  | succ k ih =>
    intro s
    rw [scan_succ]
    split
    · exact Nat.zero_le _
    · split
      · exact Nat.zero_le _
      · have := ih (s.drop (rd s most).2.2.1)
        simp
        exact this
theorem sc_len (s : List UInt8) (most : Int) : (sc s most).1.length ≤ s.length := scan_len most _ s

/-- How many bytes frames that were told have: those that stand there. -/
theorem bytes_le (most : Int) : ∀ (k : Nat) (s : List UInt8) (pre rest : List Told), stepsF k s most = pre ++ rest → allOk pre → bytes pre ≤ s.length := by
  intro k
  induction k with
  | zero => intro s pre rest h _; cases pre with
    | nil => exact Nat.zero_le _
    | cons p pre => cases h
  | succ k ih =>
    intro s pre rest h hok
    cases pre with
    | nil => exact Nat.zero_le _
    | cons p pre =>
      rw [stepsF_succ] at h
      by_cases h0 : s = []
      · rw [if_pos h0] at h; cases h
      · rw [if_neg h0] at h
        by_cases he : (rd s most).2.2.2 ≠ 0
        · rw [if_pos he, List.cons_append, List.cons.injEq] at h
          have := hok p (by simp)
          rw [← h.1] at this
          exact absurd this he
        · rw [if_neg he, List.cons_append, List.cons.injEq] at h
          have h1 := ih _ pre rest h.2 (fun r hr => hok r (by simp [hr]))
          have h2 := rd_le s most (by omega)
          rw [List.length_drop] at h1
          have e : bytes (p :: pre) = p.2.2.1 + bytes pre := by unfold bytes; simp
          rw [e, ← h.1]
          omega

/-- What is scanned of frames and a beginning of one more. -/
theorem sc_flat (most : Int) (l : List (UInt8 × List UInt8)) (r : List UInt8) (hf : ∀ f ∈ l, f.2.length ≤ 131072 ∧ (f.2.length : Int) ≤ most) (hr : r = [] ∨ (rd r most).2.2.2 ≠ 0) :
    sc (flat l ++ r) most = (l, (flat l).length, if r = [] then 0 else (rd r most).2.2.2) := by
  have hlen : l.length ≤ (flat l).length := by
    clear hf hr
    induction l with
    | nil => exact Nat.zero_le _
    | cons f l ih =>
      have e : flat (f :: l) = raw f.1 f.2 ++ flat l := by unfold flat; rw [List.flatMap_cons]
      rw [e, List.length_append, raw_length, List.length_cons]
      omega
  unfold sc
  rw [scan_flat most l _ r hf (by rw [List.length_append]; omega)]
  rcases hr with rfl | hr
  · rw [scan_nil]; simp
  · by_cases h0 : r = []
    · subst h0; rw [scan_nil]; simp
    · have hp : 0 < r.length := List.length_pos_iff.2 h0
      obtain ⟨m, hm⟩ : ∃ m, (flat l ++ r).length - l.length = m + 1 := ⟨(flat l ++ r).length - l.length - 1, by rw [List.length_append]; omega⟩
      rw [hm, scan_succ, if_neg h0, if_pos hr, if_neg h0]
      simp
end Frame
end Go.Proofs.Ytnalpmiinoohoaa
