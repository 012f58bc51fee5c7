/-
  Layer 11, plainly: what functions reach; rows of bools in memory.
-/
import Derived.Test.YtepnofklmdofmaaGreatDoorLowChI
namespace Go.Proofs.YtepnofklmdofmaaGreatDoor
open Go.RowKit

namespace Ck
open Cd
/-- The bools l are block B. -/
def Bits (B : Nat) (l : List Bool) (w : World) : Prop := ∀ i (h : i < l.length), w.cell? ⟨B, i, none⟩ = some (.bool l[i]) ∧ w.frozen? ⟨B, i, none⟩ = false
theorem Bits.set {B : Nat} {l : List Bool} {w : World} (h : Bits B l w) (q : Nat) (hq : q < l.length) (v : Bool) : Bits B (l.set q v) (w.setCell ⟨B, q, none⟩ (.bool v)) := by
  intro i hi
  have hi' : i < l.length := by simpa using hi
  refine ⟨?_, by rw [World.frozen?_setCell]; exact (h i hi').2⟩
  by_cases e : i = q
  · subst e
    rw [World.cell?_setCell_same _ _ _ (h i hi').1, List.getElem_set_self]
  · rw [World.cell?_setCell_other _ _ _ _ (by intro hh; injection hh with _ h2 _; omega), List.getElem_set_ne (fun h => e h.symm)]
    exact (h i hi').1
theorem Bits.keep {B : Nat} {l : List Bool} {w w' : World} (h : Bits B l w) (he : w'.heap[B]? = w.heap[B]?) : Bits B l w' := fun i hi => ⟨(World.cell?_of_block he).trans (h i hi).1, by
  have := (h i hi).2
  unfold World.frozen? at this ⊢
  rw [he]
  exact this⟩

/-- Does function i begin function j? -/
def Beg (p : List FnV) (i j : Nat) : Prop := ∃ f, p[i]? = some f ∧ ∃ o ∈ f.ops, o.k = 12 ∧ o.n = (j : Int)
inductive Rch (p : List FnV) (fn : Nat) : Nat → Prop
  | one {j : Nat} (h : Beg p fn j) : Rch p fn j
  | more {i j : Nat} (h : Rch p fn i) (hb : Beg p i j) : Rch p fn j
theorem Rch.trans {p : List FnV} {a b c : Nat} (h : Rch p a b) (h2 : Rch p b c) : Rch p a c := by
  induction h2 with
  | one hb => exact .more h hb
  | more _ hb ih => exact .more ih hb
/-- Only what is reached is marked. -/
def Sound (p : List FnV) (fn : Nat) (L : List Bool) : Prop := ∀ j : Nat, L[j]? = some true → Rch p fn j
/-- What the first function and the marked ones begin is marked. -/
def Closed (p : List FnV) (fn : Nat) (L : List Bool) : Prop := ∀ i j, (i = fn ∨ L[i]? = some true) → Beg p i j → L[j]? = some true
theorem Closed.all {p : List FnV} {fn : Nat} {L : List Bool} (h : Closed p fn L) {j : Nat} (hr : Rch p fn j) : L[j]? = some true := by
  induction hr with
  | one hb => exact h _ _ (.inl rfl) hb
  | more _ hb ih => exact h _ _ (.inr ih) hb
theorem reach_eq {p : List FnV} {fn : Nat} {L M : List Bool} (hl : L.length = M.length) (h1 : Sound p fn L) (h2 : Closed p fn L) (h3 : Sound p fn M) (h4 : Closed p fn M) : L = M := by
  refine List.ext_getElem hl fun i hi hi' => ?_
  have a : L[i]? = some true → M[i]? = some true := fun h => h4.all (h1 _ h)
  have b : M[i]? = some true → L[i]? = some true := fun h => h2.all (h3 _ h)
  rw [List.getElem?_eq_getElem hi, List.getElem?_eq_getElem hi'] at a b
  cases hx : L[i] <;> cases hy : M[i] <;> simp_all

/-- What mark does. -/
structure Mk (p : List FnV) (fn : Nat) (R L : List Bool) : Prop where
  len : L.length = R.length
  cnt : L.count false ≤ R.count false
  ext : ∀ j : Nat, R[j]? = some true → L[j]? = some true
  new : ∀ j : Nat, L[j]? = some true → R[j]? = some true ∨ Rch p fn j
  cls : ∀ i : Nat, L[i]? = some true → R[i]? = some true ∨ ∀ j, Beg p i j → L[j]? = some true
theorem Mk.refl (p : List FnV) (fn : Nat) (R : List Bool) : Mk p fn R R := ⟨rfl, Nat.le_refl _, fun _ h => h, fun _ h => .inl h, fun _ h => .inl h⟩
theorem set_true {R : List Bool} {t j : Nat} (ht : t < R.length) : (R.set t true)[j]? = some true ↔ R[j]? = some true ∨ j = t := by
  by_cases e : t = j
  · subst e
    simp [ht]
  · rw [List.getElem?_set_ne e]
    constructor
    · exact .inl
    · rintro (h | h)
      · exact h
      · exact absurd h.symm e
theorem set_count {R : List Bool} {t : Nat} (ht : t < R.length) (h : R[t] = false) : (R.set t true).count false + 1 = R.count false := by
  induction R generalizing t with
  | nil => simp at ht
  | cons x R ih =>
    cases t with
    | zero =>
      have : x = false := h
      subst this
      simp
    | succ t =>
      have ht' : t < R.length := by simpa using ht
      have := ih ht' (by simpa using h)
      rw [List.set_cons_succ]
      cases x
      · simp; omega
      · simpa using this
theorem Mk.step {p : List FnV} {fn t : Nat} {R L M : List Bool} (h : Mk p fn R L) (hb : Beg p fn t) (ht : t < L.length) (hf : L[t] = false) (h2 : Mk p t (L.set t true) M) (hd : ∀ j, Beg p t j → M[j]? = some true) : Mk p fn R M := by
  refine ⟨by rw [h2.len, List.length_set, h.len], ?_, fun j hj => h2.ext j ((set_true ht).2 (.inl (h.ext j hj))), fun j hj => ?_, fun i hi => ?_⟩
  · have := set_count ht hf
    have := h2.cnt
    have := h.cnt
    omega
  · rcases h2.new j hj with h3 | h3
    · rcases (set_true ht).1 h3 with h4 | rfl
      · exact h.new j h4
      · exact .inr (.one hb)
    · exact .inr ((Rch.one hb).trans h3)
  · rcases h2.cls i hi with h3 | h3
    · rcases (set_true ht).1 h3 with h4 | rfl
      · rcases h.cls i h4 with h5 | h5
        · exact .inl h5
        · exact .inr fun j hj => h2.ext j ((set_true ht).2 (.inl (h5 j hj)))
      · exact .inr hd
    · exact .inr h3
theorem Mk.sound {p : List FnV} {fn n : Nat} {L : List Bool} (h : Mk p fn (List.replicate n false) L) (hd : ∀ j, Beg p fn j → L[j]? = some true) : L.length = n ∧ Sound p fn L ∧ Closed p fn L := by
  have hn : ∀ j, (List.replicate n false)[j]? ≠ some true := fun j e => by
    rw [List.getElem?_replicate] at e
    split at e <;> simp at e
  refine ⟨by rw [h.len, List.length_replicate], fun j hj => ?_, fun i j hi hb => ?_⟩
  · rcases h.new j hj with h1 | h1
    · exact absurd h1 (hn j)
    · exact h1
  · rcases hi with rfl | hi
    · exact hd j hb
    · rcases h.cls i hi with h1 | h1
      · exact absurd h1 (hn i)
      · exact h1 j hb

/-- Where the marks are. -/
def idxT (L : List Bool) : Nat → List Int
  | 0 => []
  | k + 1 => idxT L k ++ if L[k]? = some true then [(k : Int)] else []
def idx (L : List Bool) : List Int := idxT L L.length
theorem idxT_len (L : List Bool) (k : Nat) : (idxT L k).length ≤ k := by
  induction k with
  | zero => exact Nat.zero_le _
  | succ k ih =>
    unfold idxT
    split <;> simp <;> omega

/-- What the document's rounds keep, from L0 on. -/
structure Rd (p : List FnV) (fn : Nat) (L0 L : List Bool) : Prop where
  len : L.length = L0.length
  ext : ∀ j : Nat, L0[j]? = some true → L[j]? = some true
  snd : Sound p fn L
  cnt : L = L0 ∨ L.count false < L0.count false
theorem Rd.refl {p : List FnV} {fn : Nat} {L : List Bool} (h : Sound p fn L) : Rd p fn L L := ⟨rfl, fun _ h => h, h, .inl rfl⟩
theorem set_same {R : List Bool} {t : Nat} (ht : t < R.length) (h : R[t] = true) : R.set t true = R := by
  rw [← h]
  exact List.set_getElem_self ht
theorem Rd.step {p : List FnV} {fn i t : Nat} {L0 L : List Bool} (h : Rd p fn L0 L) (hi : i = fn ∨ L[i]? = some true) (hb : Beg p i t) (ht : t < L.length) : Rd p fn L0 (L.set t true) := by
  refine ⟨by rw [List.length_set, h.len], fun j hj => (set_true ht).2 (.inl (h.ext j hj)), fun j hj => ?_, ?_⟩
  · rcases (set_true ht).1 hj with h1 | rfl
    · exact h.snd j h1
    · rcases hi with rfl | hi
      · exact .one hb
      · exact .more (h.snd i hi) hb
  · cases hx : L[t] with
    | true => rw [set_same ht hx]; exact h.cnt
    | false =>
      have := set_count ht hx
      rcases h.cnt with h1 | h1
      · subst h1; exact .inr (by omega)
      · exact .inr (by omega)
/-- A whole round. -/
theorem Rd.round {p : List FnV} {fn r : Nat} {L0 L : List Bool} (h : Rd p fn L0 L) (h0 : Sound p fn L0) (hr : Closed p fn L0 ∨ L0.count false + r ≤ L0.length) (hall : ∀ i j, (i = fn ∨ L0[i]? = some true) → Beg p i j → L[j]? = some true) : Closed p fn L ∨ L.count false + (r + 1) ≤ L.length := by
  rcases hr with hc | hc
  · refine .inl fun i j hi hb => ?_
    have : Rch p fn j := by
      rcases hi with rfl | hi
      · exact .one hb
      · exact .more (h.snd i hi) hb
    exact h.ext j (hc.all this)
  · rcases h.cnt with h1 | h1
    · subst h1
      exact .inl hall
    · exact .inr (by rw [h.len]; omega)
theorem full_closed {p : List FnV} {fn : Nat} {L : List Bool} (hp : ∀ i j, Beg p i j → j < L.length) (h : Closed p fn L ∨ L.count false + L.length ≤ L.length) : Closed p fn L := by
  rcases h with h | h
  · exact h
  · intro i j _ hb
    have hj := hp i j hb
    have h0 : L.count false = 0 := by omega
    rw [List.count_eq_zero] at h0
    rw [List.getElem?_eq_getElem hj]
    cases hx : L[j] with
    | true => rfl
    | false => exact absurd (hx ▸ List.getElem_mem hj) h0

/-- Where a program can be run, each fork names a function that is there. -/
theorem opsE_zero {p : List FnV} {f : FnV} {l : List OpV} {k : Nat} (h : (opsE p f l k).1 = 0) : ∀ o ∈ l, opE p f o = 0 := by
  induction l generalizing k with
  | nil => intro o ho; simp at ho
  | cons x l ih =>
    unfold opsE at h
    split at h
    · rename_i h0
      intro o ho
      rcases List.mem_cons.1 ho with rfl | ho
      · exact h0
      · exact ih h o ho
    · rename_i h0
      exact absurd h h0
theorem fnsE_all {p l : List FnV} {k : Nat} (h : (fnsE p l k).1 = 0) : ∀ f ∈ l, (fnE p f).1 = 0 := by
  induction l generalizing k with
  | nil => intro o ho; simp at ho
  | cons x l ih =>
    unfold fnsE at h
    split at h
    · rename_i h0
      intro o ho
      rcases List.mem_cons.1 ho with rfl | ho
      · exact h0
      · exact ih h o ho
    · rename_i h0
      exact absurd h h0
theorem chk_fork {p : List FnV} (h : (chk p).1 = 0) : ∀ f ∈ p, ∀ o ∈ f.ops, o.k = 12 → 0 ≤ o.n ∧ o.n < (p.length : Int) := by
  intro f hf o ho hk
  have h1 := (chk_some h)
  have h2 : (fnsE p p 0).1 = 0 := by rw [← chk_go h1.2 (List.ne_nil_of_length_pos h1.1)]; exact h
  have h3 := fnsE_all h2 f hf
  have h4 : (opsE p f f.ops 0).1 = 0 := by
    unfold fnE at h3
    split at h3
    · cases (show (110 : Nat) = 0 from h3)
    · split at h3
      · assumption
      · exact h3
  have h5 := opsE_zero h4 o ho
  unfold opE at h5
  split at h5
  · split at h5
    · rename_i ht
      unfold tgtOk at ht
      rw [if_neg (by omega), if_pos hk] at ht
      unfold inN at ht
      simp only [Bool.and_eq_true, decide_eq_true_eq] at ht
      exact ht
    · cases (show (112 : Nat) = 0 from h5)
  · cases (show (111 : Nat) = 0 from h5)
theorem chk_beg {p : List FnV} (h : (chk p).1 = 0) : ∀ i j, Beg p i j → j < p.length := by
  rintro i j ⟨f, hf, o, ho, hk, hn⟩
  have := (chk_fork h f (List.mem_of_getElem? hf) o ho hk).2
  omega
end Ck
end Go.Proofs.YtepnofklmdofmaaGreatDoor
