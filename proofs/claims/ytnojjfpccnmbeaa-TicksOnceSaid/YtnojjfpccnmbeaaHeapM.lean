/-
  Plain facts of a heap in a list: what container/heap's up and down make of it. No program.
-/
import Derived.ProofKit
namespace Go.Proofs.Ytnojjfpccnmbeaa.Heap
universe u
variable {α : Type u}

/-- Two elements change places. -/
def sw (l : List α) (i j : Nat) : List α :=
  match l[i]?, l[j]? with
  | some a, some b => (l.set i b).set j a
  | _, _ => l
theorem sw_len (l : List α) (i j : Nat) : (sw l i j).length = l.length := by
  unfold sw
  split
  · rw [List.length_set, List.length_set]
  · rfl
theorem sw_get {l : List α} {i j : Nat} (hi : i < l.length) (hj : j < l.length) (k : Nat) : (sw l i j)[k]? = if k = j then l[i]? else if k = i then l[j]? else l[k]? := by
  have e : sw l i j = (l.set i l[j]).set j l[i] := by
    unfold sw
    rw [List.getElem?_eq_getElem hi, List.getElem?_eq_getElem hj]
  rw [e]
  by_cases h1 : k = j
  · subst h1
    rw [List.getElem?_set_self (by rw [List.length_set]; exact hj), if_pos rfl, List.getElem?_eq_getElem hi]
  · rw [List.getElem?_set_ne (fun h => h1 h.symm), if_neg h1]
    by_cases h2 : k = i
    · subst h2
      rw [List.getElem?_set_self hi, if_pos rfl, List.getElem?_eq_getElem hj]
    · rw [List.getElem?_set_ne (fun h => h2 h.symm), if_neg h2]
theorem sw_perm {l : List α} {i j : Nat} (hi : i < l.length) (hj : j < l.length) : (sw l i j).Perm l := by
  have h := Array.swap_perm (xs := l.toArray) (i := i) (j := j) (by simpa using hi) (by simpa using hj)
  have e : (l.toArray.swap i j (by simpa using hi) (by simpa using hj)).toList = sw l i j := by
    apply List.ext_getElem?
    intro k
    rw [sw_get hi hj, Array.getElem?_toList, Array.getElem?_swap]
    simp only [List.getElem_toArray, List.getElem?_toArray, List.getElem?_eq_getElem hi, List.getElem?_eq_getElem hj]
    by_cases h1 : k = j
    · subst h1; simp
    · have h1' : ¬ j = k := fun h => h1 h.symm
      by_cases h2 : k = i
      · subst h2
        simp [h1, h1']
      · have h2' : ¬ i = k := fun h => h2 h.symm
        simp [h1, h2, h1', h2']
  have h2 := Array.perm_iff_toList_perm.1 h
  rw [e] at h2
  simpa using h2

/-- The order: a strict one, of which 'not less' goes on. -/
structure Ord (lt : α → α → Bool) : Prop where
  asym : ∀ a b, lt a b = true → lt b a = false
  trans : ∀ a b c, lt b a = false → lt c b = false → lt c a = false
/-- In their places k and m, not the wrong way round. -/
def le (lt : α → α → Bool) (l : List α) (k m : Nat) : Prop := ∀ a b, l[k]? = some a → l[m]? = some b → lt b a = false
def par (k : Nat) : Nat := (k - 1) / 2
/-- A heap, of the first n. -/
def Heap (lt : α → α → Bool) (l : List α) (n : Nat) : Prop := ∀ k, 0 < k → k < n → le lt l (par k) k
/-- A heap but for what stands at j against its parent; what stands under j is right against that parent. -/
structure Rise (lt : α → α → Bool) (l : List α) (n j : Nat) : Prop where
  rest : ∀ k, 0 < k → k < n → k ≠ j → le lt l (par k) k
  over : ∀ k, 0 < k → k < n → par k = j → 0 < j → le lt l (par j) k
/-- A heap but for what stands at i against its children. -/
structure Sink (lt : α → α → Bool) (l : List α) (n i : Nat) : Prop where
  rest : ∀ k, 0 < k → k < n → par k ≠ i → le lt l (par k) k
  over : ∀ k, 0 < k → k < n → par k = i → 0 < i → le lt l (par i) k
section
variable {lt : α → α → Bool} {l : List α} {n i j : Nat}
theorem par_lt {k : Nat} (h : 0 < k) : par k < k := by unfold par; omega
/-- The root is the least. -/
theorem Heap.root (o : Ord lt) (h : Heap lt l n) (hn : n ≤ l.length) : ∀ k, k < n → le lt l 0 k := by
  intro k
  induction k using Nat.strongRecOn with
  | _ k ih =>
    intro hk a b ha hb
    by_cases h0 : k = 0
    · subst h0
      rw [ha] at hb
      obtain rfl := Option.some.inj hb
      cases e : lt a a with
      | false => rfl
      | true => rw [o.asym a a e] at e; cases e
    · have hp := par_lt (by omega : 0 < k)
      obtain ⟨c, hc⟩ : ∃ c, l[par k]? = some c := ⟨_, List.getElem?_eq_getElem (by omega)⟩
      exact o.trans a c b (ih (par k) hp (by omega) a c ha hc) (h k (by omega) hk c b hc hb)
theorem Rise.done (h : Rise lt l n j) (hj : j = 0 ∨ le lt l (par j) j) : Heap lt l n := fun k h0 hk => by
  by_cases e : k = j
  · subst e
    rcases hj with hj | hj
    · omega
    · exact hj
  · exact h.rest k h0 hk e
theorem Sink.done (h : Sink lt l n i) (hi : ∀ k, 0 < k → k < n → par k = i → le lt l i k) : Heap lt l n := fun k h0 hk => by
  by_cases e : par k = i
  · rw [e]; exact hi k h0 hk e
  · exact h.rest k h0 hk e
/-- One step up. -/
theorem Rise.up (o : Ord lt) (h : Rise lt l n j) (hn : n ≤ l.length) (hj : 0 < j) (hjn : j < n) {a b : α} (ha : l[j]? = some a) (hb : l[par j]? = some b) (hlt : lt a b = true) : Rise lt (sw l (par j) j) n (par j) := by
  have hp := par_lt hj
  have g := fun k => sw_get (l := l) (i := par j) (j := j) (by omega) (by omega) k
  have gj : (sw l (par j) j)[j]? = some b := by rw [g, if_pos rfl, hb]
  have gp : (sw l (par j) j)[par j]? = some a := by rw [g, if_neg (by omega), if_pos rfl, ha]
  have go : ∀ k, k ≠ j → k ≠ par j → (sw l (par j) j)[k]? = l[k]? := fun k h1 h2 => by rw [g, if_neg h1, if_neg h2]
  refine ⟨fun k h0 hk hne => ?_, fun k h0 hk hpk h0j => ?_⟩
  · intro x y hx hy
    by_cases e : k = j
    · subst e
      rw [gp] at hx
      rw [gj] at hy
      obtain rfl := Option.some.inj hx
      obtain rfl := Option.some.inj hy
      exact o.asym _ _ hlt
    · rw [go k e hne] at hy
      by_cases e2 : par k = j
      · rw [e2, gj] at hx
        obtain rfl := Option.some.inj hx
        exact h.over k h0 hk e2 hj b y hb hy
      · by_cases e3 : par k = par j
        · rw [e3, gp] at hx
          obtain rfl := Option.some.inj hx
          have h1 := h.rest k h0 hk e
          rw [e3] at h1
          exact o.trans _ b _ (o.asym _ _ hlt) (h1 b y hb hy)
        · rw [go _ e2 e3] at hx
          exact h.rest k h0 hk e x y hx hy
  · intro x y hx hy
    have hpp := par_lt h0j
    rw [go _ (by omega) (by omega)] at hx
    have hxb : lt b x = false := h.rest (par j) h0j (by omega) (by omega) x b hx hb
    by_cases e : k = j
    · subst e
      rw [gj] at hy
      obtain rfl := Option.some.inj hy
      exact hxb
    · have hkp := par_lt h0
      rw [go k e (by omega)] at hy
      have h1 := h.rest k h0 hk e
      rw [hpk] at h1
      exact o.trans _ b _ hxb (h1 b y hb hy)
/-- One step down: c is the child that is not greater than the other one. -/
theorem Sink.down (o : Ord lt) (h : Sink lt l n i) (hn : n ≤ l.length) {c : Nat} (hc0 : 0 < c) (hcn : c < n) (hpc : par c = i) {a b : α} (ha : l[i]? = some a) (hb : l[c]? = some b) (hlt : lt b a = true) (hmin : ∀ k, 0 < k → k < n → par k = i → le lt l c k) : Sink lt (sw l i c) n c := by
  have hp := par_lt hc0
  have g := fun k => sw_get (l := l) (i := i) (j := c) (by omega) (by omega) k
  have gc : (sw l i c)[c]? = some a := by rw [g, if_pos rfl, ha]
  have gi : (sw l i c)[i]? = some b := by rw [g, if_neg (by omega), if_pos rfl, hb]
  have go : ∀ k, k ≠ c → k ≠ i → (sw l i c)[k]? = l[k]? := fun k h1 h2 => by rw [g, if_neg h1, if_neg h2]
  refine ⟨fun k h0 hk hne => ?_, fun k h0 hk hpk _ => ?_⟩
  · intro x y hx hy
    have hkp := par_lt h0
    by_cases e : k = c
    · subst e
      rw [hpc, gi] at hx
      rw [gc] at hy
      obtain rfl := Option.some.inj hx
      obtain rfl := Option.some.inj hy
      exact o.asym _ _ hlt
    · by_cases e2 : par k = i
      · rw [e2, gi] at hx
        obtain rfl := Option.some.inj hx
        rw [go k e (by omega)] at hy
        exact hmin k h0 hk e2 b y hb hy
      · rw [go (par k) hne e2] at hx
        by_cases e3 : k = i
        · subst e3
          rw [gi] at hy
          obtain rfl := Option.some.inj hy
          exact h.over c hc0 hcn hpc h0 x b hx hb
        · rw [go k e e3] at hy
          exact h.rest k h0 hk e2 x y hx hy
  · intro x y hx hy
    have hkp := par_lt h0
    rw [hpc, gi] at hx
    obtain rfl := Option.some.inj hx
    rw [go k (by omega) (by omega)] at hy
    have h1 := h.rest k h0 hk (by omega)
    rw [hpk] at h1
    exact h1 b y hb hy
/-- What is put in the last place of a heap. -/
theorem Heap.rise (h : Heap lt l n) (x : α) (hl : l.length = n) : Rise lt (l ++ [x]) (n + 1) n :=
  ⟨fun k h0 hk hne a b ha hb => by
    have hp := par_lt h0
    rw [List.getElem?_append_left (by omega)] at ha hb
    exact h k h0 (by omega) a b ha hb, fun k h0 hk hpk h0j => by
    have hp := par_lt h0
    omega⟩
/-- A heap of which one place is set anew is one but for what that is against its children, or against its parent. -/
theorem Heap.set (o : Ord lt) (h : Heap lt l n) (hi : i < n) (hn : n ≤ l.length) (x : α) : Sink lt (l.set i x) n i ∨ Rise lt (l.set i x) n i := by
  have g : ∀ k, k ≠ i → (l.set i x)[k]? = l[k]? := fun k hk => by rw [List.getElem?_set, if_neg (fun e => hk e.symm)]
  have gi : (l.set i x)[i]? = some x := by rw [List.getElem?_set, if_pos rfl, if_pos (by omega)]
  have hov : ∀ k, 0 < k → k < n → par k = i → 0 < i → le lt (l.set i x) (par i) k := fun k h0 hk hpk h0i a b ha hb => by
    have h1 := par_lt h0
    have h2 := par_lt h0i
    rw [g _ (by omega)] at ha hb
    obtain ⟨c, hc⟩ : ∃ c, l[i]? = some c := ⟨_, List.getElem?_eq_getElem (by omega)⟩
    have h3 := h k h0 hk
    rw [hpk] at h3
    exact o.trans a c b (h i h0i hi a c ha hc) (h3 c b hc hb)
  by_cases hup : i = 0 ∨ le lt (l.set i x) (par i) i
  · refine .inl ⟨fun k h0 hk hne => ?_, hov⟩
    by_cases e : k = i
    · subst e
      rcases hup with h1 | h1
      · omega
      · exact h1
    · intro a b ha hb
      rw [g _ hne] at ha
      rw [g _ e] at hb
      exact h k h0 hk a b ha hb
  · refine .inr ⟨fun k h0 hk hne => ?_, hov⟩
    intro a b ha hb
    rw [g _ hne] at hb
    by_cases e : par k = i
    · rw [e, gi] at ha
      obtain rfl := Option.some.inj ha
      -- it is less than its parent, which is not greater than k
      have hi0 : 0 < i := Nat.pos_of_ne_zero fun e => hup (.inl e)
      have h2 := par_lt hi0
      obtain ⟨p, hp⟩ : ∃ p, l[par i]? = some p := ⟨_, List.getElem?_eq_getElem (by omega)⟩
      have hxp : lt x p = true := by
        cases hc : lt x p with
        | true => rfl
        | false =>
          refine absurd (.inr fun a b ha hb => ?_) hup
          rw [g _ (by omega), hp] at ha
          rw [gi] at hb
          obtain rfl := Option.some.inj ha
          obtain rfl := Option.some.inj hb
          exact hc
      have h3 := hov k h0 hk e hi0 p b (by rw [g _ (by omega)]; exact hp) (by rw [g _ hne]; exact hb)
      exact o.trans x p b (o.asym _ _ hxp) h3
    · rw [g _ e] at ha
      exact h k h0 hk a b ha hb
theorem Heap.less (h : Heap lt l n) {m : Nat} (hm : m ≤ n) : Heap lt l m := fun k h0 hk => h k h0 (by omega)
end
end Go.Proofs.Ytnojjfpccnmbeaa.Heap
