/-
  Plain facts of disks: bytes written into a row of bytes; what a disk is, and what its calls make of it. No program.
-/
import Derived.Lib.Hide
import Derived.Lib.AppendStr
import Derived.RowKit
namespace Go.Proofs.Ytmoifihgomjbcaa.Sec
open Go

/-- ys laid over xs from o on. -/
def spl {α : Type} (xs : List α) (o : Nat) (ys : List α) : List α := xs.take o ++ (ys ++ xs.drop (o + ys.length))

section
variable {α β : Type} {xs ys : List α} {o : Nat}
theorem spl_len (h : o + ys.length ≤ xs.length) : (spl xs o ys).length = xs.length := by
  simp only [spl, List.length_append, List.length_take, List.length_drop]
  omega
theorem spl_get (h : o + ys.length ≤ xs.length) (j : Nat) : (spl xs o ys)[j]? = if o ≤ j ∧ j < o + ys.length then ys[j - o]? else xs[j]? := by
  unfold spl
  by_cases h1 : j < o
  · rw [List.getElem?_append_left (by simp; omega), List.getElem?_take, if_pos h1, if_neg (by omega)]
  · have hl : (xs.take o).length = o := by simp; omega
    rw [List.getElem?_append_right (by omega), hl]
    by_cases h2 : j < o + ys.length
    · rw [List.getElem?_append_left (by omega), if_pos ⟨by omega, h2⟩]
    · rw [List.getElem?_append_right (by omega), List.getElem?_drop, if_neg (by omega)]
      congr 1
      omega
theorem spl_map (f : α → β) : (spl xs o ys).map f = spl (xs.map f) o (ys.map f) := by simp [spl]
theorem spl_nil : spl xs o [] = xs := by simp [spl]
end

/-- Bytes as cells. -/
def cel (xs : List UInt8) : List Value := xs.map fun b : UInt8 => Value.int .u8 (b.toNat : Int)
theorem cel_len (xs : List UInt8) : (cel xs).length = xs.length := by simp [cel]
theorem cel_one (xs : List UInt8) : ∀ v ∈ cel xs, v.oneCell' = true := by
  intro v hv
  obtain ⟨b, _, rfl⟩ := List.mem_map.1 hv
  rfl
theorem cel_str (s : ByteArray) : Lib.strCells s = cel s.data.toList := rfl
theorem cel_drop (xs : List UInt8) (n : Nat) : (cel xs).drop n = cel (xs.drop n) := by simp [cel]
theorem cel_take (xs : List UInt8) (n : Nat) : (cel xs).take n = cel (xs.take n) := by simp [cel]
theorem cel_app (xs ys : List UInt8) : cel (xs ++ ys) = cel xs ++ cel ys := by simp [cel]
theorem cel_spl (xs : List UInt8) (o : Nat) (ys : List UInt8) : cel (spl xs o ys) = spl (cel xs) o (cel ys) := spl_map _
theorem cel_get (xs : List UInt8) (j : Nat) (h : j < xs.length) : (cel xs)[j]? = some (.int .u8 (xs[j].toNat : Int)) := by
  unfold cel
  rw [List.getElem?_map, List.getElem?_eq_getElem h]
  rfl
theorem cel_rep (n : Nat) : cel (List.replicate n 0) = List.replicate n (.int .u8 0) := by simp [cel]

/-- A loose write as cells, and several of them. -/
def wcell (x : Nat × List UInt8) : List Value := .int .i64 (x.1 : Int) :: cel x.2
def wcels : List (Nat × List UInt8) → List Value
  | [] => []
  | x :: r => wcell x ++ wcels r
theorem wcels_app (a b : List (Nat × List UInt8)) : wcels (a ++ b) = wcels a ++ wcels b := by
  induction a with
  | nil => rfl
  | cons x r ih => simp [wcels, ih]
theorem wcell_len (x : Nat × List UInt8) : (wcell x).length = x.2.length + 1 := by simp [wcell, cel_len]
theorem wcell_one (x : Nat × List UInt8) : ∀ v ∈ wcell x, v.oneCell' = true := by
  intro v hv
  rcases List.mem_cons.1 hv with rfl | hv
  · rfl
  · exact cel_one _ v hv
theorem wcels_len (l : List (Nat × List UInt8)) (h : ∀ x ∈ l, x.2.length = 128) : (wcels l).length = l.length * 129 := by
  induction l with
  | nil => rfl
  | cons x r ih =>
    rw [wcels, List.length_append, wcell_len, ih (fun y hy => h y (List.mem_cons_of_mem _ hy)), h x (List.mem_cons_self ..), List.length_cons]
    omega
theorem wcels_at (l : List (Nat × List UInt8)) (h : ∀ x ∈ l, x.2.length = 128) (i : Nat) (hi : i < l.length) (j : Nat) (hj : j < 129) :
    (wcels l)[i * 129 + j]? = (wcell l[i])[j]? := by
  induction l generalizing i with
  | nil => simp at hi
  | cons x r ih =>
    have hx := h x (List.mem_cons_self ..)
    have hl := wcell_len x
    rw [wcels]
    cases i with
    | zero =>
      rw [List.getElem?_append_left (by omega)]
      simp
    | succ i =>
      rw [List.getElem?_append_right (by omega), hl, hx]
      have := ih (fun y hy => h y (List.mem_cons_of_mem _ hy)) i (by simpa using hi)
      rw [show (i + 1) * 129 + j - (128 + 1) = i * 129 + j by omega]
      simpa using this

/-- A text as a sector. -/
def pad (t : List UInt8) : List UInt8 := t ++ List.replicate (128 - t.length) 0
theorem pad_len {t : List UInt8} (h : t.length ≤ 128) : (pad t).length = 128 := by simp [pad]; omega
theorem pad_get {t : List UInt8} (j : Nat) (hj : j < 128) : (pad t)[j]? = some (if j < t.length then t.getD j 0 else 0) := by
  unfold pad
  by_cases h : j < t.length
  · rw [List.getElem?_append_left h, if_pos h, List.getD_eq_getElem?_getD, List.getElem?_eq_getElem h]
    rfl
  · rw [List.getElem?_append_right (by omega), if_neg h, List.getElem?_replicate, if_pos (by omega)]

/-- A disk. -/
structure St where
  n : Nat
  good : List UInt8
  now : List UInt8
  loose : List (Nat × List UInt8)
  lit : Bool
  left : Nat

namespace St
def still (s : St) : Bool := s.lit && s.left == 0
def burn (s : St) : St := { s with left := if s.lit then s.left - 1 else s.left }
def put (s : St) (k : Nat) (x : List UInt8) : St := { s with now := spl s.now (k * 128) x, loose := s.loose ++ [(k, x)] }
/-- One loose write of which m bytes stay. -/
def one (g : List UInt8 × List UInt8) (x : Nat × List UInt8) (m : Nat) : List UInt8 × List UInt8 :=
  let good := spl g.1 (x.1 * 128) (x.2.take m)
  (good, spl g.2 (x.1 * 128) ((good.drop (x.1 * 128)).take 128))
/-- Behind the first i loose writes. -/
def upto (s : St) (m : Nat → Nat) : Nat → List UInt8 × List UInt8
  | 0 => (s.good, s.now)
  | i + 1 => one (upto s m i) (s.loose.getD i (0, [])) (m i)
def settle (s : St) (m : Nat → Nat) : St := { s with good := (s.upto m s.loose.length).1, now := (s.upto m s.loose.length).2, loose := [] }
def part (s : St) (m : Nat → Nat) (i : Nat) : St := { s with good := (s.upto m i).1, now := (s.upto m i).2 }

/-- Which disks there are. -/
structure Ok (s : St) : Prop where
  n1 : 1 ≤ s.n
  n2 : s.n ≤ 4096
  good : s.good.length = s.n * 128
  now : s.now.length = s.n * 128
  at_ : ∀ x ∈ s.loose, x.1 < s.n
  len : ∀ x ∈ s.loose, x.2.length = 128
  left : s.left ≤ 9223372036854775807
  /-- A sector of which nothing is loose is read as it is for good. -/
  same : ∀ j, j < s.n * 128 → (∀ x ∈ s.loose, x.1 ≠ j / 128) → s.now[j]? = s.good[j]?

def fresh (n : Nat) : St := ⟨n, List.replicate (n * 128) 0, List.replicate (n * 128) 0, [], false, 0⟩
theorem fresh_ok {n : Nat} (h1 : 1 ≤ n) (h2 : n ≤ 4096) : (fresh n).Ok :=
  ⟨h1, h2, by simp [fresh], by simp [fresh], by simp [fresh], by simp [fresh], by simp [fresh], fun _ _ _ => rfl⟩

theorem Ok.burn {s : St} (h : s.Ok) : s.burn.Ok :=
  ⟨h.n1, h.n2, h.good, h.now, h.at_, h.len, by have := h.left; simp only [St.burn]; split <;> omega, h.same⟩
theorem Ok.fuse {s : St} (h : s.Ok) (b : Bool) {n : Nat} (hn : n ≤ 9223372036854775807) : ({ s with lit := b, left := n } : St).Ok :=
  ⟨h.n1, h.n2, h.good, h.now, h.at_, h.len, hn, h.same⟩

theorem Ok.put {s : St} (h : s.Ok) {k : Nat} (hk : k < s.n) {x : List UInt8} (hx : x.length = 128) : (s.put k x).Ok := by
  have hfit : k * 128 + x.length ≤ s.now.length := by rw [h.now, hx]; omega
  refine ⟨h.n1, h.n2, h.good, (spl_len hfit).trans h.now, ?_, ?_, h.left, ?_⟩
  · intro y hy
    rcases List.mem_append.1 hy with hy | hy
    · exact h.at_ y hy
    · rw [List.mem_singleton.1 hy]; exact hk
  · intro y hy
    rcases List.mem_append.1 hy with hy | hy
    · exact h.len y hy
    · rw [List.mem_singleton.1 hy]; exact hx
  · intro j hj hno
    show (spl s.now (k * 128) x)[j]? = s.good[j]?
    have h1 : k ≠ j / 128 := hno (k, x) (by simp [St.put])
    rw [spl_get hfit, if_neg (by omega)]
    exact h.same j hj fun y hy => hno y (by simp [St.put, hy])

theorem getD_mem {l : List (Nat × List UInt8)} {i : Nat} (h : i < l.length) : l.getD i (0, []) = l[i] ∧ l.getD i (0, []) ∈ l := by
  have : l.getD i (0, []) = l[i] := by rw [List.getD_eq_getElem?_getD, List.getElem?_eq_getElem h]; rfl
  exact ⟨this, by rw [this]; exact List.getElem_mem h⟩

theorem upto_len {s : St} (h : s.Ok) (m : Nat → Nat) (i : Nat) (hi : i ≤ s.loose.length) : (s.upto m i).1.length = s.n * 128 ∧ (s.upto m i).2.length = s.n * 128 := by
  induction i with
  | zero => exact ⟨h.good, h.now⟩
  | succ i ih =>
    obtain ⟨h1, h2⟩ := ih (by omega)
    have hm := (getD_mem (l := s.loose) (i := i) (by omega)).2
    have hk := h.at_ _ hm
    have hx := h.len _ hm
    have hg : (spl (s.upto m i).1 ((s.loose.getD i (0, [])).1 * 128) ((s.loose.getD i (0, [])).2.take (m i))).length = s.n * 128 := by
      rw [spl_len, h1]
      rw [List.length_take, h1]; omega
    refine ⟨hg, ?_⟩
    show (spl _ _ _).length = _
    rw [spl_len, h2]
    rw [List.length_take, List.length_drop, hg, h2]
    omega

/-- What is for good and what is read, byte by byte, behind one write more. -/
theorem upto_good {s : St} (h : s.Ok) (m : Nat → Nat) (i : Nat) (hi : i < s.loose.length) (j : Nat) :
    (s.upto m (i + 1)).1[j]? = if (s.loose.getD i (0, [])).1 * 128 ≤ j ∧ j < (s.loose.getD i (0, [])).1 * 128 + Nat.min (m i) 128 then (s.loose.getD i (0, [])).2[j - (s.loose.getD i (0, [])).1 * 128]? else (s.upto m i).1[j]? := by
  obtain ⟨h1, _⟩ := upto_len h m i (by omega)
  have hm := (getD_mem (l := s.loose) (i := i) hi).2
  have hk := h.at_ _ hm
  have hx := h.len _ hm
  have hl : ((s.loose.getD i (0, [])).2.take (m i)).length = Nat.min (m i) 128 := by rw [List.length_take, hx]
  have hmin : Nat.min (m i) 128 ≤ 128 := Nat.min_le_right ..
  have hmin2 : Nat.min (m i) 128 ≤ m i := Nat.min_le_left ..
  show (spl _ _ _)[j]? = _
  rw [spl_get (by rw [hl, h1]; omega), hl]
  split
  · rw [List.getElem?_take, if_pos (by omega)]
  · rfl
theorem upto_now {s : St} (h : s.Ok) (m : Nat → Nat) (i : Nat) (hi : i < s.loose.length) (j : Nat) :
    (s.upto m (i + 1)).2[j]? = if (s.loose.getD i (0, [])).1 * 128 ≤ j ∧ j < (s.loose.getD i (0, [])).1 * 128 + 128 then (s.upto m (i + 1)).1[j]? else (s.upto m i).2[j]? := by
  obtain ⟨_, h2⟩ := upto_len h m i (by omega)
  obtain ⟨h1, _⟩ := upto_len h m (i + 1) (by omega)
  have hm := (getD_mem (l := s.loose) (i := i) hi).2
  have hk := h.at_ _ hm
  have hl : (((s.upto m (i + 1)).1.drop ((s.loose.getD i (0, [])).1 * 128)).take 128).length = 128 := by rw [List.length_take, List.length_drop, h1]; omega
  show (spl (s.upto m i).2 ((s.loose.getD i (0, [])).1 * 128) (((s.upto m (i + 1)).1.drop ((s.loose.getD i (0, [])).1 * 128)).take 128))[j]? = _
  rw [spl_get (by rw [hl, h2]; omega), hl]
  split
  · rw [List.getElem?_take, if_pos (by omega), List.getElem?_drop]
    congr 1
    omega
  · rfl

/-- Behind all of them what is read is what is for good. -/
theorem upto_same {s : St} (h : s.Ok) (m : Nat → Nat) (i : Nat) (hi : i ≤ s.loose.length) (j : Nat) (hj : j < s.n * 128)
    (hno : ∀ x ∈ s.loose.drop i, x.1 ≠ j / 128) : (s.upto m i).2[j]? = (s.upto m i).1[j]? := by
  induction i with
  | zero => exact h.same j hj (by simpa using hno)
  | succ i ih =>
    have hm := getD_mem (l := s.loose) (i := i) (by omega)
    have hk := h.at_ _ hm.2
    rw [upto_now h m i (by omega)]
    split
    · rfl
    · have hmin : Nat.min (m i) 128 ≤ 128 := Nat.min_le_right ..
      rw [upto_good h m i (by omega), if_neg (by omega)]
      refine ih (by omega) fun x hx => ?_
      rw [List.drop_eq_getElem_cons (by omega)] at hx
      rcases List.mem_cons.1 hx with rfl | hx
      · rw [← hm.1]; omega
      · exact hno x hx

theorem Ok.settle {s : St} (h : s.Ok) (m : Nat → Nat) : (s.settle m).Ok := by
  obtain ⟨h1, h2⟩ := upto_len h m s.loose.length (Nat.le_refl _)
  exact ⟨h.n1, h.n2, h1, h2, by simp [St.settle], by simp [St.settle], h.left, fun j hj _ => upto_same h m _ (Nat.le_refl _) j hj (by simp)⟩

/-- Where nothing is loose, nothing turns. -/
theorem settle_none {s : St} (h : s.loose = []) (m : Nat → Nat) : s.settle m = s := by
  cases s
  simp only at h
  subst h
  rfl
/-- With nothing loose what is read is what is for good. -/
theorem Ok.read {s : St} (h : s.Ok) (hl : s.loose = []) : s.now = s.good := by
  apply List.ext_getElem?
  intro j
  by_cases hj : j < s.n * 128
  · exact h.same j hj (by simp [hl])
  · rw [List.getElem?_eq_none (by rw [h.now]; omega), List.getElem?_eq_none (by rw [h.good]; omega)]

/-- Each byte for good is one that was, or that some loose write wrote there. -/
theorem upto_old {s : St} (h : s.Ok) (m : Nat → Nat) (i : Nat) (hi : i ≤ s.loose.length) (j : Nat) :
    (s.upto m i).1[j]? = s.good[j]? ∨ ∃ x ∈ s.loose, x.1 = j / 128 ∧ (s.upto m i).1[j]? = x.2[j % 128]? := by
  induction i with
  | zero => exact .inl rfl
  | succ i ih =>
    have hm := getD_mem (l := s.loose) (i := i) (by omega)
    have hmin : Nat.min (m i) 128 ≤ 128 := Nat.min_le_right ..
    rw [upto_good h m i (by omega)]
    split
    · exact .inr ⟨_, hm.2, by omega, by congr 1; omega⟩
    · exact ih (by omega)
/-- All stays: what is for good is what was read. -/
theorem upto_all {s : St} (h : s.Ok) (m m' : Nat → Nat) (hm : ∀ i, i < s.loose.length → Nat.min (m i) 128 = Nat.min (m' i) 128) (i : Nat) (hi : i ≤ s.loose.length) : s.upto m i = s.upto m' i := by
  induction i with
  | zero => rfl
  | succ i ih =>
    have hx := h.len _ (getD_mem (l := s.loose) (i := i) (by omega)).2
    have e : (s.loose.getD i (0, [])).2.take (m i) = (s.loose.getD i (0, [])).2.take (m' i) := by
      have := hm i (by omega)
      rw [List.take_eq_take_iff, hx]
      simpa [Nat.min_comm] using this
    show one _ _ _ = one _ _ _
    unfold one
    rw [ih (by omega), e]
theorem settle_all {s : St} (h : s.Ok) (m m' : Nat → Nat) (hm : ∀ i, i < s.loose.length → Nat.min (m i) 128 = Nat.min (m' i) 128) : s.settle m = s.settle m' := by
  unfold St.settle
  rw [upto_all h m m' hm _ (Nat.le_refl _)]
/-- Nothing stays: what is for good stays. -/
theorem upto_zero {s : St} (m : Nat → Nat) (hm : ∀ i, i < s.loose.length → m i = 0) (i : Nat) (hi : i ≤ s.loose.length) : (s.upto m i).1 = s.good := by
  induction i with
  | zero => rfl
  | succ i ih =>
    show spl _ _ _ = _
    rw [hm i (by omega), List.take_zero, spl_nil]
    exact ih (by omega)
end St
end Go.Proofs.Ytmoifihgomjbcaa.Sec
