/-
  Plain facts of disks: bytes written into a row of bytes; what a disk is, and what its calls make of it. No program.
  What a disk is in memory, and the contracts of sector's small calls.
  Contracts of sector.New, Fuse, Len, Loose, padded.
  Contracts of sector's put and Write.
  Contracts of sector's calls of no disk.
-/
import Derived.Lib.Hide
import Derived.Lib.AppendStr
import Derived.RowKit
import Derived.Test.YtpmhpibbdcifnaaGreatChecked
import Derived.ProofKit
import Derived.BigQuiet
import Derived.Deep.QuietTactic
import Derived.Deep.MidRow
import Derived.Deep.RegionHeld3
import Derived.Deep.RegionHeldLaw
import Derived.Deep.AppendLies
import Derived.Deep.DrawnRows
import Derived.Shelf.Spec.SlicesInsert
import Derived.Great.BuildSlice
import Derived.BigRegion
import Derived.Laws.MakeOwn
import Derived.OwnWalk
import Derived.Lib.BufferWrite
import Derived.Lib.SlBuf
import Derived.Laws.CopyOwn
section
namespace Go.Proofs.YtpmhpibbdcifnaaGreat.Sec
open Go

/-- ys laid over xs from o on. -/
def spl {α : Type} (xs : List α) (o : Nat) (ys : List α) : List α := xs.take o ++ (ys ++ xs.drop (o + ys.length))

section
variable {α β : Type} {xs ys : List α} {o : Nat}
theorem spl_len (h : o + ys.length ≤ xs.length) : (spl xs o ys).length = xs.length := by
  simp only [spl, List.length_append, List.length_take, List.length_drop]
  omega
theorem spl_get (h : o + ys.length ≤ xs.length) (j : Nat) : (spl xs o ys)[j]? = if o ≤ j ∧ j < o + ys.length then ys[j - o]? else xs[j]? := by
  unfold spl
  by_cases h1 : j < o
  · rw [List.getElem?_append_left (by simp; omega), List.getElem?_take, if_pos h1, if_neg (by omega)]
  · have hl : (xs.take o).length = o := by simp; omega
    rw [List.getElem?_append_right (by omega), hl]
    by_cases h2 : j < o + ys.length
    · rw [List.getElem?_append_left (by omega), if_pos ⟨by omega, h2⟩]
    · rw [List.getElem?_append_right (by omega), List.getElem?_drop, if_neg (by omega)]
      congr 1
      omega
theorem spl_map (f : α → β) : (spl xs o ys).map f = spl (xs.map f) o (ys.map f) := by simp [spl]
theorem spl_nil : spl xs o [] = xs := by simp [spl]
end

/-- Bytes as cells. -/
def cel (xs : List UInt8) : List Value := xs.map fun b : UInt8 => Value.int .u8 (b.toNat : Int)
theorem cel_len (xs : List UInt8) : (cel xs).length = xs.length := by simp [cel]
theorem cel_one (xs : List UInt8) : ∀ v ∈ cel xs, v.oneCell' = true := by
  intro v hv
  obtain ⟨b, _, rfl⟩ := List.mem_map.1 hv
  rfl
theorem cel_str (s : ByteArray) : Lib.strCells s = cel s.data.toList := rfl
theorem cel_drop (xs : List UInt8) (n : Nat) : (cel xs).drop n = cel (xs.drop n) := by simp [cel]
theorem cel_take (xs : List UInt8) (n : Nat) : (cel xs).take n = cel (xs.take n) := by simp [cel]
theorem cel_app (xs ys : List UInt8) : cel (xs ++ ys) = cel xs ++ cel ys := by simp [cel]
theorem cel_spl (xs : List UInt8) (o : Nat) (ys : List UInt8) : cel (spl xs o ys) = spl (cel xs) o (cel ys) := spl_map _
theorem cel_get (xs : List UInt8) (j : Nat) (h : j < xs.length) : (cel xs)[j]? = some (.int .u8 (xs[j].toNat : Int)) := by
  unfold cel
  rw [List.getElem?_map, List.getElem?_eq_getElem h]
  rfl
theorem cel_rep (n : Nat) : cel (List.replicate n 0) = List.replicate n (.int .u8 0) := by simp [cel]

/-- A loose write as cells, and several of them. -/
def wcell (x : Nat × List UInt8) : List Value := .int .i64 (x.1 : Int) :: cel x.2
def wcels : List (Nat × List UInt8) → List Value
  | [] => []
  | x :: r => wcell x ++ wcels r
theorem wcels_app (a b : List (Nat × List UInt8)) : wcels (a ++ b) = wcels a ++ wcels b := by
  induction a with
  | nil => rfl
  | cons x r ih => simp [wcels, ih]
theorem wcell_len (x : Nat × List UInt8) : (wcell x).length = x.2.length + 1 := by simp [wcell, cel_len]
theorem wcell_one (x : Nat × List UInt8) : ∀ v ∈ wcell x, v.oneCell' = true := by
  intro v hv
  rcases List.mem_cons.1 hv with rfl | hv
  · rfl
  · exact cel_one _ v hv
theorem wcels_len (l : List (Nat × List UInt8)) (h : ∀ x ∈ l, x.2.length = 128) : (wcels l).length = l.length * 129 := by
  induction l with
  | nil => rfl
  | cons x r ih =>
    rw [wcels, List.length_append, wcell_len, ih (fun y hy => h y (List.mem_cons_of_mem _ hy)), h x (List.mem_cons_self ..), List.length_cons]
    omega
theorem wcels_at (l : List (Nat × List UInt8)) (h : ∀ x ∈ l, x.2.length = 128) (i : Nat) (hi : i < l.length) (j : Nat) (hj : j < 129) :
    (wcels l)[i * 129 + j]? = (wcell l[i])[j]? := by
  induction l generalizing i with
  | nil => simp at hi
  | cons x r ih =>
    have hx := h x (List.mem_cons_self ..)
    have hl := wcell_len x
    rw [wcels]
    cases i with
    | zero =>
      rw [List.getElem?_append_left (by omega)]
      simp
    | succ i =>
      rw [List.getElem?_append_right (by omega), hl, hx]
      have := ih (fun y hy => h y (List.mem_cons_of_mem _ hy)) i (by simpa using hi)
      rw [show (i + 1) * 129 + j - (128 + 1) = i * 129 + j by omega]
      simpa using this

/-- A text as a sector. -/
def pad (t : List UInt8) : List UInt8 := t ++ List.replicate (128 - t.length) 0
theorem pad_len {t : List UInt8} (h : t.length ≤ 128) : (pad t).length = 128 := by simp [pad]; omega
theorem pad_get {t : List UInt8} (j : Nat) (hj : j < 128) : (pad t)[j]? = some (if j < t.length then t.getD j 0 else 0) := by
  unfold pad
  by_cases h : j < t.length
  · rw [List.getElem?_append_left h, if_pos h, List.getD_eq_getElem?_getD, List.getElem?_eq_getElem h]
    rfl
  · rw [List.getElem?_append_right (by omega), if_neg h, List.getElem?_replicate, if_pos (by omega)]

/-- A disk. -/
structure St where
  n : Nat
  good : List UInt8
  now : List UInt8
  loose : List (Nat × List UInt8)
  lit : Bool
  left : Nat

namespace St
def still (s : St) : Bool := s.lit && s.left == 0
def burn (s : St) : St := { s with left := if s.lit then s.left - 1 else s.left }
def put (s : St) (k : Nat) (x : List UInt8) : St := { s with now := spl s.now (k * 128) x, loose := s.loose ++ [(k, x)] }
/-- One loose write of which m bytes stay. -/
def one (g : List UInt8 × List UInt8) (x : Nat × List UInt8) (m : Nat) : List UInt8 × List UInt8 :=
  let good := spl g.1 (x.1 * 128) (x.2.take m)
  (good, spl g.2 (x.1 * 128) ((good.drop (x.1 * 128)).take 128))
/-- Behind the first i loose writes. -/
def upto (s : St) (m : Nat → Nat) : Nat → List UInt8 × List UInt8
  | 0 => (s.good, s.now)
  | i + 1 => one (upto s m i) (s.loose.getD i (0, [])) (m i)
def settle (s : St) (m : Nat → Nat) : St := { s with good := (s.upto m s.loose.length).1, now := (s.upto m s.loose.length).2, loose := [] }
def part (s : St) (m : Nat → Nat) (i : Nat) : St := { s with good := (s.upto m i).1, now := (s.upto m i).2 }

/-- Which disks there are. -/
structure Ok (s : St) : Prop where
  n1 : 1 ≤ s.n
  n2 : s.n ≤ 4096
  good : s.good.length = s.n * 128
  now : s.now.length = s.n * 128
  at_ : ∀ x ∈ s.loose, x.1 < s.n
  len : ∀ x ∈ s.loose, x.2.length = 128
  left : s.left ≤ 9223372036854775807
  /-- A sector of which nothing is loose is read as it is for good. -/
  same : ∀ j, j < s.n * 128 → (∀ x ∈ s.loose, x.1 ≠ j / 128) → s.now[j]? = s.good[j]?

def fresh (n : Nat) : St := ⟨n, List.replicate (n * 128) 0, List.replicate (n * 128) 0, [], false, 0⟩
theorem fresh_ok {n : Nat} (h1 : 1 ≤ n) (h2 : n ≤ 4096) : (fresh n).Ok :=
  ⟨h1, h2, by simp [fresh], by simp [fresh], by simp [fresh], by simp [fresh], by simp [fresh], fun _ _ _ => rfl⟩

theorem Ok.burn {s : St} (h : s.Ok) : s.burn.Ok :=
  ⟨h.n1, h.n2, h.good, h.now, h.at_, h.len, by have := h.left; simp only [St.burn]; split <;> omega, h.same⟩
theorem Ok.fuse {s : St} (h : s.Ok) (b : Bool) {n : Nat} (hn : n ≤ 9223372036854775807) : ({ s with lit := b, left := n } : St).Ok :=
  ⟨h.n1, h.n2, h.good, h.now, h.at_, h.len, hn, h.same⟩

theorem Ok.put {s : St} (h : s.Ok) {k : Nat} (hk : k < s.n) {x : List UInt8} (hx : x.length = 128) : (s.put k x).Ok := by
  have hfit : k * 128 + x.length ≤ s.now.length := by rw [h.now, hx]; omega
  refine ⟨h.n1, h.n2, h.good, (spl_len hfit).trans h.now, ?_, ?_, h.left, ?_⟩
  · intro y hy
    rcases List.mem_append.1 hy with hy | hy
    · exact h.at_ y hy
    · rw [List.mem_singleton.1 hy]; exact hk
  · intro y hy
    rcases List.mem_append.1 hy with hy | hy
    · exact h.len y hy
    · rw [List.mem_singleton.1 hy]; exact hx
  · intro j hj hno
    show (spl s.now (k * 128) x)[j]? = s.good[j]?
    have h1 : k ≠ j / 128 := hno (k, x) (by simp [St.put])
    rw [spl_get hfit, if_neg (by omega)]
    exact h.same j hj fun y hy => hno y (by simp [St.put, hy])

theorem getD_mem {l : List (Nat × List UInt8)} {i : Nat} (h : i < l.length) : l.getD i (0, []) = l[i] ∧ l.getD i (0, []) ∈ l := by
  have : l.getD i (0, []) = l[i] := by rw [List.getD_eq_getElem?_getD, List.getElem?_eq_getElem h]; rfl
  exact ⟨this, by rw [this]; exact List.getElem_mem h⟩

theorem upto_len {s : St} (h : s.Ok) (m : Nat → Nat) (i : Nat) (hi : i ≤ s.loose.length) : (s.upto m i).1.length = s.n * 128 ∧ (s.upto m i).2.length = s.n * 128 := by
  induction i with
  | zero => exact ⟨h.good, h.now⟩
  | succ i ih =>
    obtain ⟨h1, h2⟩ := ih (by omega)
    have hm := (getD_mem (l := s.loose) (i := i) (by omega)).2
    have hk := h.at_ _ hm
    have hx := h.len _ hm
    have hg : (spl (s.upto m i).1 ((s.loose.getD i (0, [])).1 * 128) ((s.loose.getD i (0, [])).2.take (m i))).length = s.n * 128 := by
      rw [spl_len, h1]
      rw [List.length_take, h1]; omega
    refine ⟨hg, ?_⟩
    show (spl _ _ _).length = _
    rw [spl_len, h2]
    rw [List.length_take, List.length_drop, hg, h2]
    omega

/-- What is for good and what is read, byte by byte, behind one write more. -/
theorem upto_good {s : St} (h : s.Ok) (m : Nat → Nat) (i : Nat) (hi : i < s.loose.length) (j : Nat) :
    (s.upto m (i + 1)).1[j]? = if (s.loose.getD i (0, [])).1 * 128 ≤ j ∧ j < (s.loose.getD i (0, [])).1 * 128 + Nat.min (m i) 128 then (s.loose.getD i (0, [])).2[j - (s.loose.getD i (0, [])).1 * 128]? else (s.upto m i).1[j]? := by
  obtain ⟨h1, _⟩ := upto_len h m i (by omega)
  have hm := (getD_mem (l := s.loose) (i := i) hi).2
  have hk := h.at_ _ hm
  have hx := h.len _ hm
  have hl : ((s.loose.getD i (0, [])).2.take (m i)).length = Nat.min (m i) 128 := by rw [List.length_take, hx]
  have hmin : Nat.min (m i) 128 ≤ 128 := Nat.min_le_right ..
  have hmin2 : Nat.min (m i) 128 ≤ m i := Nat.min_le_left ..
  show (spl _ _ _)[j]? = _
  rw [spl_get (by rw [hl, h1]; omega), hl]
  split
  · rw [List.getElem?_take, if_pos (by omega)]
  · rfl
theorem upto_now {s : St} (h : s.Ok) (m : Nat → Nat) (i : Nat) (hi : i < s.loose.length) (j : Nat) :
    (s.upto m (i + 1)).2[j]? = if (s.loose.getD i (0, [])).1 * 128 ≤ j ∧ j < (s.loose.getD i (0, [])).1 * 128 + 128 then (s.upto m (i + 1)).1[j]? else (s.upto m i).2[j]? := by
  obtain ⟨_, h2⟩ := upto_len h m i (by omega)
  obtain ⟨h1, _⟩ := upto_len h m (i + 1) (by omega)
  have hm := (getD_mem (l := s.loose) (i := i) hi).2
  have hk := h.at_ _ hm
  have hl : (((s.upto m (i + 1)).1.drop ((s.loose.getD i (0, [])).1 * 128)).take 128).length = 128 := by rw [List.length_take, List.length_drop, h1]; omega
  show (spl (s.upto m i).2 ((s.loose.getD i (0, [])).1 * 128) (((s.upto m (i + 1)).1.drop ((s.loose.getD i (0, [])).1 * 128)).take 128))[j]? = _
  rw [spl_get (by rw [hl, h2]; omega), hl]
  split
  · rw [List.getElem?_take, if_pos (by omega), List.getElem?_drop]
    congr 1
    omega
  · rfl

/-- Behind all of them what is read is what is for good. -/
theorem upto_same {s : St} (h : s.Ok) (m : Nat → Nat) (i : Nat) (hi : i ≤ s.loose.length) (j : Nat) (hj : j < s.n * 128)
    (hno : ∀ x ∈ s.loose.drop i, x.1 ≠ j / 128) : (s.upto m i).2[j]? = (s.upto m i).1[j]? := by
  induction i with
  | zero => exact h.same j hj (by simpa using hno)
  | succ i ih =>
    have hm := getD_mem (l := s.loose) (i := i) (by omega)
    have hk := h.at_ _ hm.2
    rw [upto_now h m i (by omega)]
    split
    · rfl
    · have hmin : Nat.min (m i) 128 ≤ 128 := Nat.min_le_right ..
      rw [upto_good h m i (by omega), if_neg (by omega)]
      refine ih (by omega) fun x hx => ?_
      rw [List.drop_eq_getElem_cons (by omega)] at hx
      rcases List.mem_cons.1 hx with rfl | hx
      · rw [← hm.1]; omega
      · exact hno x hx

theorem Ok.settle {s : St} (h : s.Ok) (m : Nat → Nat) : (s.settle m).Ok := by
  obtain ⟨h1, h2⟩ := upto_len h m s.loose.length (Nat.le_refl _)
  exact ⟨h.n1, h.n2, h1, h2, by simp [St.settle], by simp [St.settle], h.left, fun j hj _ => upto_same h m _ (Nat.le_refl _) j hj (by simp)⟩

/-- Where nothing is loose, nothing turns. -/
theorem settle_none {s : St} (h : s.loose = []) (m : Nat → Nat) : s.settle m = s := by
  cases s
  simp only at h
  subst h
  rfl
/-- With nothing loose what is read is what is for good. -/
theorem Ok.read {s : St} (h : s.Ok) (hl : s.loose = []) : s.now = s.good := by
  apply List.ext_getElem?
  intro j
  by_cases hj : j < s.n * 128
  · exact h.same j hj (by simp [hl])
  · rw [List.getElem?_eq_none (by rw [h.now]; omega), List.getElem?_eq_none (by rw [h.good]; omega)]

/-- Each byte for good is one that was, or that some loose write wrote there. -/
theorem upto_old {s : St} (h : s.Ok) (m : Nat → Nat) (i : Nat) (hi : i ≤ s.loose.length) (j : Nat) :
    (s.upto m i).1[j]? = s.good[j]? ∨ ∃ x ∈ s.loose, x.1 = j / 128 ∧ (s.upto m i).1[j]? = x.2[j % 128]? := by
  induction i with
  | zero => exact .inl rfl
  | succ i ih =>
    have hm := getD_mem (l := s.loose) (i := i) (by omega)
    have hmin : Nat.min (m i) 128 ≤ 128 := Nat.min_le_right ..
    rw [upto_good h m i (by omega)]
    split
    · exact .inr ⟨_, hm.2, by omega, by congr 1; omega⟩
    · exact ih (by omega)
/-- All stays: what is for good is what was read. -/
theorem upto_all {s : St} (h : s.Ok) (m m' : Nat → Nat) (hm : ∀ i, i < s.loose.length → Nat.min (m i) 128 = Nat.min (m' i) 128) (i : Nat) (hi : i ≤ s.loose.length) : s.upto m i = s.upto m' i := by
  induction i with
  | zero => rfl
  | succ i ih =>
    have hx := h.len _ (getD_mem (l := s.loose) (i := i) (by omega)).2
    have e : (s.loose.getD i (0, [])).2.take (m i) = (s.loose.getD i (0, [])).2.take (m' i) := by
      have := hm i (by omega)
      rw [List.take_eq_take_iff, hx]
      simpa [Nat.min_comm] using this
    show one _ _ _ = one _ _ _
    unfold one
    rw [ih (by omega), e]
theorem settle_all {s : St} (h : s.Ok) (m m' : Nat → Nat) (hm : ∀ i, i < s.loose.length → Nat.min (m i) 128 = Nat.min (m' i) 128) : s.settle m = s.settle m' := by
  unfold St.settle
  rw [upto_all h m m' hm _ (Nat.le_refl _)]
/-- Nothing stays: what is for good stays. -/
theorem upto_zero {s : St} (m : Nat → Nat) (hm : ∀ i, i < s.loose.length → m i = 0) (i : Nat) (hi : i ≤ s.loose.length) : (s.upto m i).1 = s.good := by
  induction i with
  | zero => rfl
  | succ i ih =>
    show spl _ _ _ = _
    rw [hm i (by omega), List.take_zero, spl_nil]
    exact ih (by omega)
end St
end Go.Proofs.YtpmhpibbdcifnaaGreat.Sec
end

section
namespace Go.Proofs.YtpmhpibbdcifnaaGreat
open Go.RowKit

namespace Sec
/-- Where a disk lies: its own block, the two rows of sectors, the slice of what is loose; lo: none of it lies below. -/
structure Bl where
  lo : Nat
  b : Nat
  s : Nat
  m : Nat
  v : Value
def Bl.ptr (D : Bl) : Value := .pointer (some ⟨D.b, 0, none⟩)
/-- The disk's own cells. -/
def own (D : Bl) (s : St) : Array Value := #[.slice (some ⟨D.s, 0, none⟩) s.n s.n, .slice (some ⟨D.m, 0, none⟩) s.n s.n, D.v, .bool s.lit, .int .i64 (s.left : Int)]
structure At (D : Bl) (s : St) (w : World) : Prop where
  ob : w.heap[D.b]? = some (.cells (own D s) 69 (0, 0))
  good : w.heap[D.s]? = some (.cells (cel s.good).toArray 91 (0, 0))
  now : w.heap[D.m]? = some (.cells (cel s.now).toArray 91 (0, 0))
  row : w.ownsRow D.lo 93 129 D.v s.loose.length (wcels s.loose)
  lo1 : D.lo ≤ D.b
  lo2 : D.lo ≤ D.s
  lo3 : D.lo ≤ D.m
  ne1 : D.b ≠ D.s
  ne2 : D.b ≠ D.m
  ne3 : D.s ≠ D.m
  ne4 : D.v.ownBlock ≠ some D.b
  ne5 : D.v.ownBlock ≠ some D.s
  ne6 : D.v.ownBlock ≠ some D.m
/-- None of a disk's blocks. -/
def Bl.off (D : Bl) (i : Nat) : Prop := i ≠ D.b ∧ i ≠ D.s ∧ i ≠ D.m ∧ some i ≠ D.v.ownBlock
/-- A call that works on the disk at D, which is at D' behind it: nothing else of what was there turns. -/
structure Moves (D D' : Bl) (w w' : World) : Prop where
  os : w'.os = w.os
  tape : w'.tape = w.tape
  output : w'.output = w.output
  size : w.heap.size ≤ w'.heap.size
  block : ∀ i, i < w.heap.size → D.off i → w'.heap[i]? = w.heap[i]?
  lo : D'.lo = D.lo
  b : D'.b = D.b
  s : D'.s = D.s
  m : D'.m = D.m
  v : ∀ i, i < w.heap.size → some i ≠ D.v.ownBlock → some i ≠ D'.v.ownBlock
theorem Moves.refl (D : Bl) (w : World) : Moves D D w w := ⟨rfl, rfl, rfl, Nat.le_refl _, fun _ _ _ => rfl, rfl, rfl, rfl, rfl, fun _ _ h => h⟩
theorem Moves.trans {D D' D'' : Bl} {w w' w'' : World} (h : Moves D D' w w') (k : Moves D' D'' w' w'') : Moves D D'' w w'' :=
  ⟨k.os.trans h.os, k.tape.trans h.tape, k.output.trans h.output, Nat.le_trans h.size k.size,
    fun i hi ho => (k.block i (Nat.lt_of_lt_of_le hi h.size) ⟨by rw [h.b]; exact ho.1, by rw [h.s]; exact ho.2.1, by rw [h.m]; exact ho.2.2.1, h.v i hi ho.2.2.2⟩).trans (h.block i hi ho),
    k.lo.trans h.lo, k.b.trans h.b, k.s.trans h.s, k.m.trans h.m, fun i hi ho => k.v i (Nat.lt_of_lt_of_le hi h.size) (h.v i hi ho)⟩
theorem lt_of_heap {w : World} {b : Nat} {o : Obj} (h : w.heap[b]? = some o) : b < w.heap.size := by
  rcases Nat.lt_or_ge b w.heap.size with hlt | hge
  · exact hlt
  · rw [Array.getElem?_eq_none hge] at h; cases h
section
variable {D D' : Bl} {s s' : St} {w w' : World}
theorem At.ltb (h : At D s w) : D.b < w.heap.size := lt_of_heap h.ob
theorem At.lts (h : At D s w) : D.s < w.heap.size := lt_of_heap h.good
theorem At.ltm (h : At D s w) : D.m < w.heap.size := lt_of_heap h.now
theorem At.low (h : At D s w) {i : Nat} (hi : i < D.lo) : D.off i := by
  refine ⟨by have := h.lo1; omega, by have := h.lo2; omega, by have := h.lo3; omega, fun e => ?_⟩
  have := (h.row.lt i e.symm).1
  omega
theorem Moves.below (h : Moves D D' w w') (ha : At D s w) : Below D.lo w w' :=
  ⟨h.os, h.tape, h.output, h.size, fun i hi => h.block i (by have := ha.ltb; have := ha.lo1; omega) (ha.low hi)⟩
theorem grown_of_below (hb : Below w.heap.size w w') (row : Option Nat) : w.grownBy w' row := ⟨hb.os, hb.tape, hb.output, hb.size, fun k hk _ => hb.block k hk⟩
theorem At.below (h : At D s w) (hb : Below w.heap.size w w') : At D s w' :=
  ⟨(hb.block _ h.ltb).trans h.ob, (hb.block _ h.lts).trans h.good, (hb.block _ h.ltm).trans h.now, h.row.kept (grown_of_below hb none) (by cases D.v.ownBlock <;> simp), h.lo1, h.lo2, h.lo3, h.ne1, h.ne2, h.ne3, h.ne4, h.ne5, h.ne6⟩
theorem Moves.of_below (hb : Below w.heap.size w w') : Moves D D w w' := ⟨hb.os, hb.tape, hb.output, hb.size, fun i hi _ => hb.block i hi, rfl, rfl, rfl, rfl, fun _ _ h => h⟩
theorem At.drew (h : At D s w) : At D s w.drew := h.below (Below.refl _ _).drew
theorem At.cell (h : At D s w) (j : Nat) : w.cell? ⟨D.b, j, none⟩ = (own D s)[j]? := cell_of_row w D.b j _ _ _ h.ob
theorem At.fro (h : At D s w) (j : Nat) : w.frozen? ⟨D.b, j, none⟩ = false := frozen_of_row w D.b j _ _ h.ob
theorem At.c0 (h : At D s w) : w.cell? ⟨D.b, 0, none⟩ = some (.slice (some ⟨D.s, 0, none⟩) s.n s.n) := h.cell 0
theorem At.c1 (h : At D s w) : w.cell? ⟨D.b, 1, none⟩ = some (.slice (some ⟨D.m, 0, none⟩) s.n s.n) := h.cell 1
theorem At.c2 (h : At D s w) : w.cell? ⟨D.b, 2, none⟩ = some D.v := h.cell 2
theorem At.c3 (h : At D s w) : w.cell? ⟨D.b, 3, none⟩ = some (.bool s.lit) := h.cell 3
theorem At.c4 (h : At D s w) : w.cell? ⟨D.b, 4, none⟩ = some (.int .i64 (s.left : Int)) := h.cell 4
/-- The loose slice's value, opened: its length. -/
theorem At.v_eq (h : At D s w) : ∃ A c, D.v = .slice A s.loose.length c := by
  rcases h.row.2 with ⟨e, h0⟩ | ⟨g, cap, _, e, _⟩
  · exact ⟨none, 0, by rw [e, h0]⟩
  · exact ⟨_, cap, e⟩
/-- The fuse's cells turn. -/
theorem At.fuse (h : At D s w) (lit : Bool) (left : Nat) (w' : World) (hw : w'.heap[D.b]? = some (.cells (own D { s with lit := lit, left := left }) 69 (0, 0)))
    (hg : w.grownBy w' (some D.b)) : At D { s with lit := lit, left := left } w' ∧ Moves D D w w' :=
  ⟨⟨hw, (hg.block _ h.lts (by simpa using h.ne1.symm)).trans h.good, (hg.block _ h.ltm (by simpa using h.ne2.symm)).trans h.now, h.row.kept hg (.inr h.ne4), h.lo1, h.lo2, h.lo3, h.ne1, h.ne2, h.ne3, h.ne4, h.ne5, h.ne6⟩,
   ⟨hg.os, hg.tape, hg.output, hg.size, fun i hi ho => hg.block i hi (by simpa using ho.1), rfl, rfl, rfl, rfl, fun _ _ h => h⟩⟩
end
/-- Behind a call that works on a disk. -/
def Behind (D : Bl) (s : St) (w w' : World) : Prop := ∃ D', At D' s w' ∧ Moves D D' w w'
/-- Where a disk is. -/
theorem grown_set (w : World) (B i : Nat) (u : Value) : w.grownBy (w.setCell ⟨B, i, none⟩ u) (some B) :=
  ⟨rfl, rfl, rfl, by simp [World.setCell], fun k _ hne => Below.heap_setCell _ _ _ _ (by intro h; exact hne (by rw [h]))⟩
theorem grown_trans {a b c : World} {row : Option Nat} (h : a.grownBy b row) (k : b.grownBy c row) : a.grownBy c row :=
  ⟨k.os.trans h.os, k.tape.trans h.tape, k.output.trans h.output, Nat.le_trans h.size k.size, fun i hi hne => (k.block i (by have := h.size; omega) hne).trans (h.block i hi hne)⟩
end Sec

set_option maxHeartbeats 400000 in
theorem sec_has_yes (D : Sec.Bl) (s : Sec.St) (w : World) (h : Sec.At D s w) (k : Nat) (hk : k < s.n) :
    Calls Tryz.prog 47 #[D.ptr, .int .i64 (k : Int)] w fun e w' => e = .returned (.bool true) ∧ w = w' := by
  have c0 := h.c0
  have h1 : decide ((0 : Int) ≤ (k : Int)) = true := by simp
  have h2 : decide (k < s.n) = true := by simpa using hk
  have hk' : (k : Int) < (s.n : Int) := by omega
  clear h
  unfold Sec.Bl.ptr
  go_enter Tryz.func47, Tryz.ntmps47
  go_wp2
  go_ret
  exact ⟨rfl, rfl⟩

set_option maxHeartbeats 400000 in
theorem sec_has_no (D : Sec.Bl) (s : Sec.St) (w : World) (h : Sec.At D s w) (k : Int) (hk : k < 0 ∨ (s.n : Int) ≤ k) :
    Calls Tryz.prog 47 #[D.ptr, .int .i64 k] w fun e w' => e = .returned (.bool false) ∧ w = w' := by
  have c0 := h.c0
  clear h
  unfold Sec.Bl.ptr
  by_cases h0 : k < 0
  · have h1 : decide ((0 : Int) ≤ k) = false := by simpa using h0
    clear hk
    go_enter Tryz.func47, Tryz.ntmps47
    go_wp2
    go_ret
    exact ⟨rfl, rfl⟩
  · have h1 : decide ((0 : Int) ≤ k) = true := by simpa using Int.not_lt.1 h0
    have h2 : decide (k < (s.n : Int)) = false := by simp; omega
    clear hk
    go_enter Tryz.func47, Tryz.ntmps47
    go_wp2
    go_ret
    exact ⟨rfl, rfl⟩

set_option maxHeartbeats 400000 in
theorem sec_is (D : Sec.Bl) (s : Sec.St) (w : World) (h : Sec.At D s w) (hs : s.Ok) :
    Calls Tryz.prog 27 #[D.ptr] w fun e w' => e = .returned (.bool true) ∧ w = w' := by
  have H := Lib.hid h
  have HS := Lib.hid hs
  clear h hs
  have e : D.ptr = .pointer (some ⟨D.b, 0, none⟩) := rfl
  rw [e]
  clear e
  go_enter Tryz.func27, Tryz.ntmps27
  go_wp2_with fail
  refine (sec_has_yes D s _ H.out 0 (by have := HS.out.n1; omega)).mono ?_
  rintro e w' ⟨rfl, rfl⟩
  go_wp2_with fail
  go_ret
  exact ⟨rfl, rfl⟩

set_option maxHeartbeats 400000 in
theorem sec_is_nil (w : World) :
    Calls Tryz.prog 27 #[.pointer none] w fun e w' => e = .returned (.bool false) ∧ w = w' := by
  go_enter Tryz.func27, Tryz.ntmps27
  go_wp2
  go_ret
  exact ⟨rfl, rfl⟩

set_option maxHeartbeats 400000 in
theorem sec_still (D : Sec.Bl) (s : Sec.St) (w : World) (h : Sec.At D s w) (b : Bool) (hb : s.still = b) :
    Calls Tryz.prog 67 #[.pointer (some ⟨D.b, 3, none⟩)] w fun e w' => e = .returned (.bool b) ∧ w = w' := by
  have c3 := h.c3
  have c4 := h.c4
  clear h
  unfold Sec.St.still at hb
  cases hl : s.lit with
  | false =>
    rw [hl] at hb c3
    obtain rfl : b = false := by simpa using hb.symm
    clear hb
    go_enter Tryz.func67, Tryz.ntmps67
    go_wp2
    go_ret
    exact ⟨rfl, rfl⟩
  | true =>
    rw [hl] at hb c3
    have hq : ((s.left : Int) == 0) = b := by
      rw [← hb]
      simp only [Bool.true_and]
      rw [Bool.eq_iff_iff]
      simp
    clear hb hl
    generalize s.left = n at c4 hq
    go_enter Tryz.func67, Tryz.ntmps67
    cases b
    · go_wp2
      go_ret
      exact ⟨rfl, rfl⟩
    · go_wp2
      go_ret
      exact ⟨rfl, rfl⟩

set_option maxHeartbeats 400000 in
theorem sec_burn (D : Sec.Bl) (s : Sec.St) (w : World) (h : Sec.At D s w) (hs : s.Ok) (hb : s.still = false) :
    Calls Tryz.prog 68 #[.pointer (some ⟨D.b, 3, none⟩)] w fun e w' => e = .returned (.tuple #[]) ∧ Sec.At D s.burn w' ∧ Sec.Moves D D w w' := by
  have c3 := h.c3
  have c4 := h.c4
  have f4 := h.fro 4
  have hlim := hs.left
  have H := Lib.hid h
  clear h hs
  cases hl : s.lit with
  | false =>
    rw [hl] at c3
    have e : s.burn = s := by cases s; simp only at hl; subst hl; rfl
    rw [e]
    clear e hl hb
    go_enter Tryz.func68, Tryz.ntmps68
    go_wp2
    go_end0
    exact ⟨rfl, H.out, Sec.Moves.refl _ _⟩
  | true =>
    rw [hl] at c3
    have hn : 1 ≤ s.left := by
      unfold Sec.St.still at hb
      rw [hl] at hb
      simp at hb
      omega
    have e : s.burn = { s with lit := s.lit, left := s.left - 1 } := by unfold Sec.St.burn; rw [hl]; rfl
    have E := Lib.hid e
    have HL := Lib.hid hl
    have hc : ((s.left : Int) - 1) = ((s.left - 1 : Nat) : Int) := by omega
    have HC := Lib.hid hc
    clear e hl hb hc
    go_enter Tryz.func68, Tryz.ntmps68
    go_wp2
    go_end0
    rw [HC.out, E.out]
    refine ⟨rfl, H.out.fuse _ _ _ ?_ (Sec.grown_set _ _ _ _)⟩
    rw [heap_setCell_same _ _ _ _ _ _ H.out.ob]
    rfl
end Go.Proofs.YtpmhpibbdcifnaaGreat
end

section
namespace Go.Proofs.YtpmhpibbdcifnaaGreat
open Go.RowKit

theorem sec_cells : (Tryz.prog.info? 91).map (fun i => (i.zero, i.size, i.bytes)) = some (some (.agg (Array.replicate 128 (.int .u8 0))), 128, 128) := by kernel_rfl
theorem Sec.mod_made (n : Nat) : madeCells (Array.replicate 128 (Value.int .u8 0)) (n * 128) = (Sec.cel (List.replicate (n * 128) 0)).toArray := by
  rw [Sec.cel_rep]
  apply Array.ext
  · simp [madeCells]
  · intro i h1 h2
    have h : i % 128 < 128 := Nat.mod_lt _ (by omega)
    simp only [madeCells, Array.getElem_map, Array.getElem_range, Array.size_replicate, List.getElem_toArray, List.getElem_replicate]
    rw [getElem!_pos _ _ (by simpa using h), Array.getElem_replicate]
theorem sec_make (n : Nat) (hn : n ≤ 4096) (w : World) : (Instr.makeSlice 62 (.int .i64 (n : Int)) (.int .i64 (n : Int))).run Tryz.prog w = .ok (.slice (some ⟨w.heap.size, 0, none⟩) n n) (w.alloc (.cells (Sec.cel (List.replicate (n * 128) 0)).toArray 91)) := by
  obtain ⟨i, hi, hz⟩ := Option.map_eq_some_iff.1 sec_cells
  simp only [Prod.mk.injEq] at hz
  obtain ⟨h1, h2, h3⟩ := hz
  have hr := run_make (P := Tryz.prog) w 62 91 i _ Tryz.underlying62 hi h1 .i64 .i64 n n (by omega) (Int.le_refl _) (by rw [h3]; omega) (by omega)
  rw [hr, h2, ← Sec.mod_made]
  simp [Value.cells]

theorem Sec.three (w : World) (a b c : Obj) : ((((w.alloc a).alloc b).alloc c).drew).heap[w.heap.size]? = some a ∧ ((((w.alloc a).alloc b).alloc c).drew).heap[w.heap.size + 1]? = some b ∧ ((((w.alloc a).alloc b).alloc c).drew).heap[w.heap.size + 1 + 1]? = some c := by
  refine ⟨?_, ?_, ?_⟩
  · rw [heap_drew, Below.heap_alloc _ _ _ (by simp; omega), Below.heap_alloc _ _ _ (by simp)]
    exact heap_alloc_new w a
  · rw [heap_drew, Below.heap_alloc _ _ _ (by simp)]
    exact heap_alloc2_new w a b
  · rw [heap_drew]
    have h := heap_alloc_new ((w.alloc a).alloc b) c
    have e : ((w.alloc a).alloc b).heap.size = w.heap.size + 1 + 1 := by simp
    rwa [e] at h

/-- A new disk. -/
def Sec.Made (n : Nat) (w : World) (e : Ending) (w' : World) : Prop := ∃ D : Sec.Bl, e = .returned (.tuple #[D.ptr, .int .i64 0]) ∧ Sec.At D (Sec.St.fresh n) w' ∧ Below w.heap.size w w' ∧ D.lo = w.heap.size

theorem Sec.made_a (n : Nat) (w W : World) (S M B : Nat) (hS : S = w.heap.size ∧ M = w.heap.size + 1 ∨ M = w.heap.size ∧ S = w.heap.size + 1) (hB : B = w.heap.size + 1 + 1)
    (h1 : W.heap[S]? = some (.cells (Sec.cel (List.replicate (n * 128) 0)).toArray 91 (0, 0))) (h2 : W.heap[M]? = some (.cells (Sec.cel (List.replicate (n * 128) 0)).toArray 91 (0, 0)))
    (h3 : W.heap[B]? = some (.cells #[.slice (some ⟨S, 0, none⟩) n n, .slice (some ⟨M, 0, none⟩) n n, .slice none 0 0, .bool false, .int .i64 0] 69 (0, 0)))
    (hb : Below w.heap.size w W) : Sec.Made n w (.returned (.tuple #[.pointer (some ⟨B, 0, none⟩), .int .i64 0])) W :=
  ⟨⟨w.heap.size, B, S, M, .slice none 0 0⟩, rfl, ⟨h3, h1, h2, World.ownsRow_nil _ _ _ _, by simp only; omega, by simp only; omega, by simp only; omega, by simp only; omega, by simp only; omega, by simp only; omega, by simp [Value.ownBlock], by simp [Value.ownBlock], by simp [Value.ownBlock]⟩, hb, rfl⟩

set_option maxHeartbeats 1000000 in
set_option maxRecDepth 20000 in
theorem sec_new (n : Nat) (w : World) (h1 : 1 ≤ n) (h2 : n ≤ 4096) :
    Calls Tryz.prog 13 #[.int .i64 (n : Int)] w (Sec.Made n w) := by
  have hmk := sec_make n h2
  have d1 : decide ((n : Int) < 1) = false := by simp; omega
  have d2 : decide ((4096 : Int) < (n : Int)) = false := by simp; omega
  go_enter Tryz.func13, Tryz.ntmps13
  go_wp2
  go_region
  · go_wp2
    go_ret2
    obtain ⟨t1, t2, t3⟩ := Sec.three w (.cells (Sec.cel (List.replicate (n * 128) 0)).toArray 91) (.cells (Sec.cel (List.replicate (n * 128) 0)).toArray 91) (.cells #[.slice (some ⟨w.heap.size, 0, none⟩) n n, .slice (some ⟨w.heap.size + 1, 0, none⟩) n n, .slice none 0 0, .bool false, .int .i64 0] 69)
    exact Sec.made_a n w _ w.heap.size (w.heap.size + 1) (w.heap.size + 1 + 1) (.inl ⟨rfl, rfl⟩) rfl t1 t2 t3 ((((Below.refl _ _).alloc (Nat.le_refl _) _).alloc (by simp) _).alloc (by simp; omega) _).drew
  · go_wp2
    go_ret2
    obtain ⟨t1, t2, t3⟩ := Sec.three w (.cells (Sec.cel (List.replicate (n * 128) 0)).toArray 91) (.cells (Sec.cel (List.replicate (n * 128) 0)).toArray 91) (.cells #[.slice (some ⟨w.heap.size + 1, 0, none⟩) n n, .slice (some ⟨w.heap.size, 0, none⟩) n n, .slice none 0 0, .bool false, .int .i64 0] 69)
    exact Sec.made_a n w _ (w.heap.size + 1) w.heap.size (w.heap.size + 1 + 1) (.inr ⟨rfl, rfl⟩) rfl t2 t1 t3 ((((Below.refl _ _).alloc (Nat.le_refl _) _).alloc (by simp) _).alloc (by simp; omega) _).drew

set_option maxHeartbeats 400000 in
theorem sec_new_bad (n : Int) (w : World) (h : n < 1 ∨ 4096 < n) :
    Calls Tryz.prog 13 #[.int .i64 n] w fun e w' => e = .returned (.tuple #[.pointer none, .int .i64 2]) ∧ w = w' := by
  by_cases h1 : n < 1
  · have d1 : decide (n < 1) = true := by simpa using h1
    clear h
    go_enter Tryz.func13, Tryz.ntmps13
    go_wp2
    go_ret2
    exact ⟨rfl, rfl⟩
  · have d1 : decide (n < 1) = false := by simpa using h1
    have d2 : decide ((4096 : Int) < n) = true := by simp; omega
    clear h
    go_enter Tryz.func13, Tryz.ntmps13
    go_wp2
    go_ret2
    exact ⟨rfl, rfl⟩

set_option maxHeartbeats 400000 in
theorem sec_len (D : Sec.Bl) (s : Sec.St) (w : World) (h : Sec.At D s w) (hs : s.Ok) :
    Calls Tryz.prog 30 #[D.ptr] w fun e w' => e = .returned (.int .i64 (s.n : Int)) ∧ w = w' := by
  have c0 := h.c0
  have H := Lib.hid h
  have HS := Lib.hid hs
  clear h hs
  have e : D.ptr = .pointer (some ⟨D.b, 0, none⟩) := rfl
  rw [e]
  clear e
  go_enter Tryz.func30, Tryz.ntmps30
  go_wp2_with fail
  refine (sec_is D s _ H.out HS.out).mono ?_
  rintro e w' ⟨rfl, rfl⟩
  go_wp2_with fail
  go_ret
  exact ⟨rfl, rfl⟩

/-! ### A text as a sector -/
theorem sec_arrlen : Tryz.prog.arrayLen 91 = 128 := by kernel_rfl
theorem sec_arrelem : Tryz.prog.elem 91 = 5 := by kernel_rfl
theorem sec_slice (a : Addr) (w : World) : (Instr.sliceAt 91 (.pointer (some a)) none none none).run Tryz.prog w = .ok (.slice (some a) 128 128) w := by
  rw [run_sliceAt_array_all w 91 a (by rw [sec_arrlen, sec_arrelem]; exact Tryz.underlying91), sec_arrlen, sec_arrelem, Tryz.sizeOf5]
  obtain ⟨b, o, sp⟩ := a
  simp [Result.andThen, slicedAt, Addr.add]
theorem sec_slice_h (b o m : Nat) (hm : m ≤ 128) (w : World) : (Instr.sliceAt 91 (.pointer (some ⟨b, o, none⟩)) none (some (.int .i64 (m : Int))) none).run Tryz.prog w = .ok (.slice (some ⟨b, o, none⟩) m 128) w := by
  rw [run_sliceAt_array_h w 91 ⟨b, o, none⟩ (by rw [sec_arrlen, sec_arrelem]; exact Tryz.underlying91) .i64 (m : Int) (by omega) (by rw [sec_arrlen]; omega), sec_arrlen, sec_arrelem, Tryz.sizeOf5]
  simp [Result.andThen, slicedAt, Addr.add]
theorem sec_zero (w : World) : (zeroValue 91).run Tryz.prog w = .ok (.agg (Array.replicate 128 (.int .u8 0))) w := by kernel_rfl
theorem sec_size : (Tryz.prog.info? 91).map (·.size) = some 128 := by kernel_rfl
theorem byte_size : (Tryz.prog.info? 5).map (·.size) = some 1 := by kernel_rfl
def Sec.zeros : Array Value := (Sec.cel (List.replicate 128 0)).toArray
theorem Sec.zeros_eq : Array.replicate 128 (Value.int .u8 0) = Sec.zeros := by unfold Sec.zeros; rw [Sec.cel_rep]; exact (List.toArray_replicate ..).symm
theorem Sec.zeros_ne : ¬ Sec.zeros = #[] := by
  intro h
  have := congrArg Array.size h
  simp [Sec.zeros, Sec.cel_len] at this
theorem Sec.zeros_size : Sec.zeros.size = 128 := by simp [Sec.zeros, Sec.cel_len]
theorem Sec.pad_cells (t : ByteArray) : (Sec.zeros.toList.take 0 ++ Lib.byteCells t.data.toList ++ Sec.zeros.toList.drop (0 + t.size)).toArray = (Sec.cel (Sec.pad t.data.toList)).toArray := by
  have hl : t.data.toList.length = t.size := rfl
  have e : Lib.byteCells t.data.toList = Sec.cel t.data.toList := rfl
  rw [e]
  unfold Sec.zeros Sec.pad
  simp only [List.take_zero, List.nil_append, Nat.zero_add]
  rw [Sec.cel_drop, Sec.cel_app, List.drop_replicate, hl]

set_option maxHeartbeats 1000000 in
set_option maxRecDepth 20000 in
theorem sec_padded (t : ByteArray) (w : World) (h : t.size ≤ 128) :
    Calls Tryz.prog 102 #[.string t] w fun e w' => e = .returned (.agg (Sec.cel (Sec.pad t.data.toList)).toArray) ∧ Below w.heap.size w w' := by
  have hz : ∀ w : World, (zeroValue 91).run Tryz.prog w = .ok (.agg Sec.zeros) w := fun w => by rw [← Sec.zeros_eq]; exact sec_zero w
  have hne := Sec.zeros_ne
  have hsl := sec_slice ⟨w.heap.size, 0, none⟩
  have hp : (Sec.pad t.data.toList).length = 128 := Sec.pad_len h
  have HI : Hid ((Tryz.prog.info? 91).map (·.size) = some (Sec.cel (Sec.pad t.data.toList)).toArray.size) := by
    show _ = _
    rw [sec_size]; simp [Sec.cel_len, hp]
  have HO : Hid ((Sec.cel (Sec.pad t.data.toList)).toArray.all (·.oneCell') = true) := all_oneCell_toArray (Sec.cel_one _)
  have HZ : Hid ((w.alloc (.cells Sec.zeros 91)).heap[w.heap.size]? = some (.cells Sec.zeros 91 (0, 0))) := heap_alloc_new w _
  have HR : Hid (∀ ty, (Builtin.copy_ #[94, 9] ty #[.slice (some ⟨w.heap.size, 0, none⟩) 128 128, .string t]).run Tryz.prog (w.alloc (.cells Sec.zeros 91)) = .ok (goInt t.size) ((w.alloc (.cells Sec.zeros 91)).setRow w.heap.size (Sec.cel (Sec.pad t.data.toList)).toArray)) := fun ty => by
    rw [Lib.run_copy_row_string _ _ _ _ 5 w.heap.size 0 128 128 t Sec.zeros 91 Tryz.underlying94 byte_size HZ.out h (by rw [Sec.zeros_size]; omega), Sec.pad_cells t]
  have HP := Lib.hid hp
  clear hp
  go_enter Tryz.func102, Tryz.ntmps102
  go_wp2_with (first
    | refine Lib.wpList_copy_run _ rfl (.tmp 3) (.tmp 4) 94 9 rfl _ _ rfl rfl (HR.out _) ?_
    | refine wpList_load_row rfl 91 (.tmp 2) rfl w.heap.size rfl 91 (Sec.cel (Sec.pad t.data.toList)).toArray (0, 0) (.array 128 5) (setRow_heap _ _ _ _ _ _ HZ.out) Tryz.underlying91 rfl HI.out ?_
    | refine wpList_store_row rfl 91 (.tmp 2) (.tmp 6) rfl w.heap.size (Sec.cel (Sec.pad t.data.toList)).toArray rfl rfl 91 (Sec.cel (Sec.pad t.data.toList)).toArray (setRow_heap _ _ _ _ _ _ HZ.out) HI.out rfl HO.out ?_)
  refine bodyPost_ret (v := .agg (Sec.cel (Sec.pad t.data.toList)).toArray) (results_cell_row Tryz.results102 _ _ w.heap.size 91 (Sec.cel (Sec.pad t.data.toList)).toArray (0, 0) (.array 128 5) rfl (setRow_heap _ _ _ _ _ _ (setRow_heap _ _ _ _ _ _ HZ.out)) Tryz.underlying91 rfl HI.out) rfl ⟨rfl, ?_⟩
  exact below_setRow (below_setRow ((Below.refl _ _).alloc (Nat.le_refl _) _) (Nat.le_refl _) _) (Nat.le_refl _) _
end Go.Proofs.YtpmhpibbdcifnaaGreat
end

section
namespace Go.Proofs.YtpmhpibbdcifnaaGreat
open Go.RowKit
attribute [local go_sem ↓] Go.wp_at_zero Go.wp_at_succ

/-! ### Rows of cells that are written -/
theorem Sec.spl_cons (cur : List Value) (o : Nat) (v : Value) (r : List Value) (h : o + (r.length + 1) ≤ cur.length) : Sec.spl (cur.set o v) (o + 1) r = Sec.spl cur o (v :: r) := by
  unfold Sec.spl
  have e1 : (cur.set o v).take (o + 1) = cur.take o ++ [v] := by
    rw [List.take_succ_eq_append_getElem (by simp; omega)]
    simp [List.take_set_of_le]
  have e2 : (cur.set o v).drop (o + 1 + r.length) = cur.drop (o + (v :: r).length) := by
    rw [List.drop_set_of_lt (by omega)]
    congr 1
    simp only [List.length_cons]
    omega
  rw [e1, e2]
  simp
theorem Sec.heap_setCells (b : Nat) (t : TypeId) : ∀ (vs : List Value) (o : Nat) (w : World) (cur : List Value), w.heap[b]? = some (.cells cur.toArray t (0, 0)) → o + vs.length ≤ cur.length →
    (w.setCells b o vs).heap[b]? = some (.cells (Sec.spl cur o vs).toArray t (0, 0))
  | [], o, w, cur, h, _ => by rw [Sec.spl_nil]; exact h
  | v :: r, o, w, cur, h, hl => by
    simp only [List.length_cons] at hl
    rw [World.setCells, Sec.heap_setCells b t r (o + 1) _ (cur.set o v) (by rw [heap_setCell_same w b o _ t v h]; simp) (by simp; omega), Sec.spl_cons _ _ _ _ (by omega)]
theorem Sec.grown_setCells (b : Nat) : ∀ (vs : List Value) (o : Nat) (w : World), w.grownBy (w.setCells b o vs) (some b)
  | [], _, _ => ⟨rfl, rfl, rfl, Nat.le_refl _, fun _ _ _ => rfl⟩
  | v :: r, o, w => Sec.grown_trans (Sec.grown_set w b o v) (Sec.grown_setCells b r (o + 1) _)

namespace Sec
variable {D : Bl} {s : St} {w w' : World}
theorem Moves.of_grown {row : Option Nat} (hg : w.grownBy w' row) (hr : ∀ i, D.off i → some i ≠ row) : Moves D D w w' :=
  ⟨hg.os, hg.tape, hg.output, hg.size, fun i hi ho => hg.block i hi (hr i ho), rfl, rfl, rfl, rfl, fun _ _ h => h⟩
theorem At.now_set (h : At D s w) (hg : w.grownBy w' (some D.m)) (x : List UInt8) (hx : w'.heap[D.m]? = some (.cells (cel x).toArray 91 (0, 0))) :
    At D { s with now := x } w' ∧ Moves D D w w' :=
  ⟨⟨(hg.block _ h.ltb (by simpa using h.ne2)).trans h.ob, (hg.block _ h.lts (by simpa using h.ne3)).trans h.good, hx, h.row.kept hg (.inr h.ne6), h.lo1, h.lo2, h.lo3, h.ne1, h.ne2, h.ne3, h.ne4, h.ne5, h.ne6⟩,
   .of_grown hg fun i ho e => ho.2.2.1 (Option.some.inj e)⟩
theorem At.good_set (h : At D s w) (hg : w.grownBy w' (some D.s)) (x : List UInt8) (hx : w'.heap[D.s]? = some (.cells (cel x).toArray 91 (0, 0))) :
    At D { s with good := x } w' ∧ Moves D D w w' :=
  ⟨⟨(hg.block _ h.ltb (by simpa using h.ne1)).trans h.ob, hx, (hg.block _ h.ltm (by simpa using h.ne3.symm)).trans h.now, h.row.kept hg (.inr h.ne5), h.lo1, h.lo2, h.lo3, h.ne1, h.ne2, h.ne3, h.ne4, h.ne5, h.ne6⟩,
   .of_grown hg fun i ho e => ho.2.1 (Option.some.inj e)⟩
/-- The slice of what is loose turns: into v, which owns l, in the old one's row or in a new block. -/
theorem At.row_set (h : At D s w) {w1 : World} (hg : w.grownBy w1 D.v.ownBlock) (v : Value) (l : List (Nat × List UInt8)) (hown : w1.ownsRow D.lo 93 129 v l.length (wcels l))
    (hat : v.ownBlock = D.v.ownBlock ∨ ∀ i, v.ownBlock = some i → w.heap.size ≤ i) : Sec.At { D with v := v } { s with loose := l } (w1.setCell ⟨D.b, 2, none⟩ v) ∧ Moves D { D with v := v } w (w1.setCell ⟨D.b, 2, none⟩ v) := by
  have hv : ∀ i, i < w.heap.size → some i ≠ D.v.ownBlock → some i ≠ v.ownBlock := fun i hi hne e => by
    rcases hat with hat | hat
    · exact hne (e.trans hat)
    · have := hat i e.symm
      omega
  have hb : w1.heap[D.b]? = some (.cells (own D s) 69 (0, 0)) := (hg.block _ h.ltb (fun e => h.ne4 e.symm)).trans h.ob
  have hg2 := grown_set w1 D.b 2 v
  have hsz := hg.size
  refine ⟨⟨?_, ?_, ?_, hown.kept hg2 (.inr fun e => hv D.b h.ltb (fun e => h.ne4 e.symm) e.symm), h.lo1, h.lo2, h.lo3, h.ne1, h.ne2, h.ne3, ?_, ?_, ?_⟩, ⟨hg2.os.trans hg.os, hg2.tape.trans hg.tape, hg2.output.trans hg.output, Nat.le_trans hg.size hg2.size, ?_, rfl, rfl, rfl, rfl, hv⟩⟩
  · rw [heap_setCell_same _ _ _ _ _ _ hb]; rfl
  · exact (hg2.block D.s (by have := h.lts; omega) (by simpa using h.ne1.symm)).trans ((hg.block _ h.lts (fun e => h.ne5 e.symm)).trans h.good)
  · exact (hg2.block D.m (by have := h.ltm; omega) (by simpa using h.ne2.symm)).trans ((hg.block _ h.ltm (fun e => h.ne6 e.symm)).trans h.now)
  · exact fun e => hv D.b h.ltb (fun e => h.ne4 e.symm) e.symm
  · exact fun e => hv D.s h.lts (fun e => h.ne5 e.symm) e.symm
  · exact fun e => hv D.m h.ltm (fun e => h.ne6 e.symm) e.symm
  · intro i hi ho
    exact (hg2.block _ (by omega) (by simpa using ho.1)).trans (hg.block _ hi ho.2.2.2)
/-- What a sector is read as, and that it may be written. -/
theorem At.there_now (h : At D s w) (hs : s.Ok) {k : Nat} (hk : k < s.n) : w.there D.m (k * 128) 128 := fun j hj => by
  rw [cell_of_row w D.m _ _ _ _ h.now, frozen_of_row w D.m _ _ _ h.now]
  refine ⟨?_, rfl⟩
  have := hs.now
  rw [Array.getElem?_eq_getElem (by simp [cel_len, this]; omega)]
  rfl
theorem At.there_good (h : At D s w) (hs : s.good.length = s.n * 128) {k : Nat} (hk : k < s.n) : w.there D.s (k * 128) 128 := fun j hj => by
  rw [cell_of_row w D.s _ _ _ _ h.good, frozen_of_row w D.s _ _ _ h.good]
  refine ⟨?_, rfl⟩
  rw [Array.getElem?_eq_getElem (by simp [cel_len, hs]; omega)]
  rfl
theorem range_of_row {w : World} {b : Nat} {t : TypeId} {xs : List UInt8} (h : w.heap[b]? = some (.cells (cel xs).toArray t (0, 0))) (o n : Nat) : w.rangeAt b o (cel ((xs.drop o).take n)) := fun j v hv => by
  rw [cell_of_row w b _ _ _ _ h]
  have hj : j < (cel ((xs.drop o).take n)).length := (List.getElem?_eq_some_iff.1 hv).1
  rw [cel_len, List.length_take, List.length_drop] at hj
  rw [← cel_take, ← cel_drop, List.getElem?_take, if_pos (by omega), List.getElem?_drop] at hv
  simpa using hv
end Sec

/-! ### A write as a struct, and in a slice of its own -/
theorem Sec.fill_cons (place : Nat → Option (Nat × Nat)) (cells : List Value) (i : Nat) (v : Value) (rest : List (Nat × Value)) (off size : Nat) (hp : place i = some (off, size)) (hs : v.cells.size = size) (hfit : off + size ≤ cells.length) :
    Instr.fill place cells.toArray ((i, v) :: rest) = Instr.fill place (Sec.spl cells off v.cells.toList).toArray rest := by
  have hl : v.cells.toList.length = size := by simpa using hs
  obtain ⟨g1, g2⟩ := Great.foldl_set off v.cells.toList 0 cells.toArray
  conv => lhs; unfold Instr.fill
  simp only [hp]
  rw [if_neg (by simp [hs]; omega)]
  congr 1
  rw [← Array.foldl_toList, Array.toList_zipIdx]
  apply Array.ext_getElem?
  intro k
  rw [g2 k, hl]
  simp only [Nat.add_zero, List.size_toArray, List.getElem?_toArray]
  rw [Sec.spl_get (by rw [hl]; exact hfit), hl]
  by_cases h : off ≤ k ∧ k < off + size
  · rw [if_pos ⟨h.1, h.2, by omega⟩, if_pos h]
  · rw [if_neg (by omega), if_neg h]
theorem Sec.spl_all {cells ys : List Value} (h : cells.length = ys.length) : Sec.spl cells 0 ys = ys := by
  unfold Sec.spl
  rw [List.take_zero, List.nil_append, Nat.zero_add, List.drop_of_length_le (by omega), List.append_nil]
theorem Sec.spl_two {cells ys : List Value} (a : Value) (h : cells.length = ys.length + 1) : Sec.spl (Sec.spl cells 0 [a]) 1 ys = a :: ys := by
  unfold Sec.spl
  cases cells with
  | nil => simp at h
  | cons c r =>
    have hr : r.length = ys.length := by simpa using h
    simp [hr]
    omega
theorem sec_places : (match Tryz.prog.underlying 93 with
    | some (.struct fields) => fields.toList.mapM (fun f => (Tryz.prog.info? f.type).map fun i => (f.offset, i.size))
    | _ => none) = some [(0, 1), (1, 128)] := by kernel_rfl
theorem sec_wzero : (Tryz.prog.info? 93).map (fun i => (i.zero.map (·.cells.size), i.size, i.bytes)) = some (some 129, 129, 136) := by kernel_rfl
theorem sec_build (k : Nat) (x : List UInt8) (hx : x.length = 128) (w : World) : (Instr.build 93 #[(0, .int .i64 (k : Int)), (1, .agg (Sec.cel x).toArray)]).run Tryz.prog w = .ok (.agg (Sec.wcell (k, x)).toArray) w := by
  refine run_build w _ _ _ ?_
  obtain ⟨i, hi, hz⟩ := Option.map_eq_some_iff.1 sec_wzero
  simp only [Prod.mk.injEq] at hz
  obtain ⟨z, hz1, hz2⟩ := Option.map_eq_some_iff.1 hz.1
  have hp := sec_places
  unfold Program.built
  rw [hi]
  cases hu : Tryz.prog.underlying 93 with
  | none => rw [hu] at hp; cases hp
  | some d =>
    rw [hu] at hp
    cases d <;> first | cases hp | skip
    simp only [hz1, hp]
    have hzl : z.cells = z.cells.toList.toArray := Array.toArray_toList.symm
    have hzn : z.cells.toList.length = 129 := by rw [Array.length_toList, hz2]
    have hzs : (Sec.spl z.cells.toList 0 (Value.int .i64 (k : Int)).cells.toList).length = 129 := by
      rw [Sec.spl_len (by rw [hzn]; show 0 + 1 ≤ 129; omega), hzn]
    rw [hzl, Sec.fill_cons _ _ 0 _ _ 0 1 rfl rfl (by omega), Sec.fill_cons _ _ 1 _ _ 1 128 rfl (by simp [Value.cells, Sec.cel_len, hx]) (by rw [hzs]; omega)]
    show some _ = _
    rw [show (Value.int IntKind.i64 (k : Int)).cells.toList = [.int .i64 (k : Int)] from rfl, show (Value.agg (Sec.cel x).toArray).cells.toList = Sec.cel x by simp [Value.cells], Sec.spl_two _ (by rw [hzn, Sec.cel_len, hx])]
    rfl
theorem sec_buildSlice (k : Nat) (x : List UInt8) (hx : x.length = 128) (w : World) : (Instr.buildSlice 63 1 #[(0, .agg (Sec.wcell (k, x)).toArray)]).run Tryz.prog w = .ok (.slice (some ⟨w.heap.size, 0, none⟩) 1 1) (w.alloc (.cells (Sec.wcell (k, x)).toArray 93)) := by
  obtain ⟨i, hi, hz⟩ := Option.map_eq_some_iff.1 sec_wzero
  simp only [Prod.mk.injEq] at hz
  obtain ⟨z, hz1, hz2⟩ := Option.map_eq_some_iff.1 hz.1
  have hl : (Sec.wcell (k, x)).length = 129 := by rw [Sec.wcell_len]; simp [hx]
  refine run_buildSlice w _ _ 1 _ _ i z Tryz.underlying63 hi hz1 (by rw [hz.2.1]; decide) (by rw [hz.2.1]; decide) ?_
  rw [hz.2.1, hz2]
  have e : ((Array.range (1 * 129)).map (z.cells[· % 129]!)) = ((Array.range (1 * 129)).map (z.cells[· % 129]!)).toList.toArray := Array.toArray_toList.symm
  rw [e]
  show Instr.fill _ _ [(0, _)] = _
  rw [Sec.fill_cons _ _ 0 _ _ 0 129 rfl (by simp [Value.cells, hl]) (by simp)]
  show some _ = _
  rw [show (Value.agg (Sec.wcell (k, x)).toArray).cells.toList = Sec.wcell (k, x) by simp [Value.cells], Sec.spl_all (by simp [hl])]
/-- The same, as a walk lays it open: the zero value, and the fold over the part's cells. -/
def Sec.wzeros : Array Value := (Sec.wcell (0, List.replicate 128 0)).toArray
theorem sec_wzeros (w : World) : (zeroValue 93).run Tryz.prog w = .ok (.agg Sec.wzeros) w := by kernel_rfl
theorem Sec.wzeros_size : Sec.wzeros.size = 129 := by
  unfold Sec.wzeros
  rw [List.size_toArray, Sec.wcell_len]
  simp
theorem Sec.wzeros_ne : ¬ Sec.wzeros = #[] := by
  intro h
  have := congrArg Array.size h
  rw [Sec.wzeros_size] at this
  simp at this
theorem Sec.wfold (k : Nat) (x : List UInt8) (hx : x.length = 128) : List.foldl (fun (cs : Array Value) (x : Value × Nat) => cs.setIfInBounds (1 + x.snd) x.fst) (Sec.wzeros.setIfInBounds 0 (.int .i64 (k : Int))) (Sec.cel x).zipIdx = (Sec.wcell (k, x)).toArray := by
  obtain ⟨g1, g2⟩ := Great.foldl_set 1 (Sec.cel x) 0 (Sec.wzeros.setIfInBounds 0 (.int .i64 (k : Int)))
  have hl : (Sec.cel x).length = 128 := by rw [Sec.cel_len, hx]
  apply Array.ext_getElem?
  intro j
  rw [g2 j]
  simp only [Array.size_setIfInBounds, Sec.wzeros_size, hl, Sec.wcell, List.getElem?_toArray, Nat.add_zero]
  by_cases h0 : j = 0
  · subst h0
    rw [if_neg (by omega)]
    simp [Sec.wzeros_size]
  · obtain ⟨i, rfl⟩ : ∃ i, j = i + 1 := ⟨j - 1, by omega⟩
    by_cases h : i < 128
    · rw [if_pos (by omega), List.getElem?_cons_succ, Nat.add_sub_cancel]
    · rw [if_neg (by omega), List.getElem?_cons_succ, List.getElem?_eq_none (by omega), Array.getElem?_eq_none (by rw [Array.size_setIfInBounds, Sec.wzeros_size]; omega)]
theorem Sec.wfold_all (ys : List Value) (n : Nat) (hy : ys.length = n) (a : Array Value) (ha : a.size = n) : List.foldl (fun (cs : Array Value) (x : Value × Nat) => cs.setIfInBounds x.snd x.fst) a ys.zipIdx = ys.toArray := by
  obtain ⟨g1, g2⟩ := Great.foldl_set 0 ys 0 a
  simp only [Nat.zero_add, Nat.sub_zero] at g1 g2
  apply Array.ext_getElem?
  intro j
  have e : ys.toArray[j]? = ys[j]? := List.getElem?_toArray ..
  rw [g2 j, e]
  by_cases h : j < n
  · rw [if_pos (by omega)]
  · rw [if_neg (by omega), Array.getElem?_eq_none (by omega), List.getElem?_eq_none (by omega)]
end Go.Proofs.YtpmhpibbdcifnaaGreat
end

section
namespace Go.Proofs.YtpmhpibbdcifnaaGreat
open Go.RowKit

set_option maxHeartbeats 400000 in
theorem sec_write_nil (k : Int) (t : ByteArray) (w : World) :
    Calls Tryz.prog 89 #[.pointer none, .int .i64 k, .string t] w fun e w' => e = .returned (.int .i64 1) ∧ w = w' := by
  go_enter Tryz.func89, Tryz.ntmps89
  go_wp2_with fail
  refine (sec_is_nil _).mono ?_
  rintro e w' ⟨rfl, rfl⟩
  go_wp2_with fail
  go_ret
  exact ⟨rfl, rfl⟩

set_option maxHeartbeats 400000 in
theorem sec_sync_nil  (w : World) :
    Calls Tryz.prog 44 #[.pointer none] w fun e w' => e = .returned (.int .i64 1) ∧ w = w' := by
  go_enter Tryz.func44, Tryz.ntmps44
  go_wp2_with fail
  refine (sec_is_nil _).mono ?_
  rintro e w' ⟨rfl, rfl⟩
  go_wp2_with fail
  go_ret
  exact ⟨rfl, rfl⟩

set_option maxHeartbeats 400000 in
theorem sec_read_nil (k : Int) (w : World) :
    Calls Tryz.prog 70 #[.pointer none, .int .i64 k] w fun e w' => e = .returned (.tuple #[.string ByteArray.empty, .int .i64 1]) ∧ w = w' := by
  go_enter Tryz.func70, Tryz.ntmps70
  go_wp2_with fail
  refine (sec_is_nil _).mono ?_
  rintro e w' ⟨rfl, rfl⟩
  go_wp2_with fail
  go_ret2
  exact ⟨rfl, rfl⟩

set_option maxHeartbeats 400000 in
theorem sec_crash_nil (A : Option Addr) (n c : Nat) (w : World) :
    Calls Tryz.prog 14 #[.pointer none, .slice A n c] w fun e w' => e = .returned (.int .i64 1) ∧ Below w.heap.size w w' := by
  go_enter Tryz.func14, Tryz.ntmps14
  go_wp2_with fail
  refine (sec_is_nil _).mono ?_
  rintro e w' ⟨rfl, rfl⟩
  go_wp2_with fail
  go_ret
  exact ⟨rfl, (Below.refl _ _).alloc (Nat.le_refl _) _⟩

set_option maxHeartbeats 400000 in
theorem sec_len_nil  (w : World) :
    Calls Tryz.prog 30 #[.pointer none] w fun e w' => e = .returned (.int .i64 0) ∧ w = w' := by
  go_enter Tryz.func30, Tryz.ntmps30
  go_wp2_with fail
  refine (sec_is_nil _).mono ?_
  rintro e w' ⟨rfl, rfl⟩
  go_wp2_with fail
  go_ret
  exact ⟨rfl, rfl⟩

end Go.Proofs.YtpmhpibbdcifnaaGreat
end
