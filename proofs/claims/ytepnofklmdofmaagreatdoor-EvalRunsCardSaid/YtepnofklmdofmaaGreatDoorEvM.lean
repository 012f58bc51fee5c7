/-
  Layer 13, plainly: what a task and its children come to.
-/
import Derived.Test.YtepnofklmdofmaaGreatDoorChM
import Derived.Test.YtepnofklmdofmaaGreatDoorBrM
namespace Go.Proofs.YtepnofklmdofmaaGreatDoor
open Go.RowKit

namespace Ev
open Cd
/-- What an op makes of two numbers. -/
def calcV (k : Nat) (a b : Int) : Option Int :=
  if k = 2 then some a
  else if k = 3 then some (IntKind.i64.wrap (a + b))
  else if k = 4 then some (IntKind.i64.wrap (a - b))
  else if k = 5 then some (IntKind.i64.wrap (a * b))
  else if k = 6 then (if b = 0 then none else some (IntKind.i64.wrap (a.tdiv b)))
  else if k = 7 then (if b = 0 then none else some (a.tmod b))
  else if k = 8 then some (if a < b then 1 else 0)
  else some (if a = b then 1 else 0)
structure Tsk where
  path : ByteArray
  fn : Int
  args : List Int
  fuel : Nat
structure Res where
  val : Int
  err : Int
structure Dn where
  t : Tsk
  r : Res
  kids : Nat
/-- A task under way: its registers, the next op, what is left, how many children it had, of those that are not joined: the fork's register and what it came to; all children's children that are told of so far. -/
structure St where
  regs : List Int
  at_ : Nat
  left : Nat
  kids : Nat
  wts : List (Int × Res)
  done : List Dn
def fnOf (p : List FnV) (t : Tsk) : FnV := p[t.fn.toNat]?.getD default
def opAt (p : List FnV) (t : Tsk) (s : St) : OpV := (fnOf p t).ops[s.at_]?.getD default
def rgAt (l : List Int) (i : Int) : Int := l[i.toNat]?.getD 0
def start (p : List FnV) (t : Tsk) : St := ⟨t.args ++ List.replicate ((fnOf p t).regs.toNat - t.args.length) 0, 0, t.fuel, 0, [], []⟩
def fin (t : Tsk) (s : St) (r : Res) : Res × List Dn := (r, ⟨t, r, s.kids⟩ :: s.done)
/-- The first error of some children. -/
def kidsE (l : List (Int × Res)) : Int := ((l.find? fun x => decide (x.2.err ≠ 0)).map fun x => x.2.err).getD 0
def joined (l : List (Int × Res)) (r : List Int) : List Int := l.foldl (fun r x => r.set x.1.toNat x.2.val) r
/-- The child that a fork begins, behind the fork's own cost. -/
def kid (p : List FnV) (t : Tsk) (s : St) (o : OpV) : Tsk := ⟨Br.kidT t.path (s.kids + 1), o.n, (s.regs.drop o.a.toNat).take (Ck.argN p o).toNat, (s.left - 1) / 2⟩
/-- A plain op: registers and the next op; none: it can't. -/
def plain (s : St) (o : OpV) : Option St :=
  if o.k = 1 then some { s with regs := s.regs.set o.d.toNat o.n }
  else if o.k = 10 then some { s with at_ := o.n.toNat }
  else if o.k = 11 then some (if rgAt s.regs o.a ≠ 0 then { s with at_ := o.n.toNat } else s)
  else (calcV o.k (rgAt s.regs o.a) (if o.k = 2 then 0 else rgAt s.regs o.b)).map fun x => { s with regs := s.regs.set o.d.toNat x }
/-- A task and its children, each behind its parent, in at most n ops of each. -/
def run : Nat → List FnV → Tsk → St → Res × List Dn
  | 0, _, t, s => fin t s ⟨0, 130⟩
  | n + 1, p, t, s =>
    if s.left = 0 then fin t s ⟨0, 130⟩
    else
      let o := opAt p t s
      let s1 : St := { s with left := s.left - 1, at_ := s.at_ + 1 }
      if o.k = 12 then
        if 16 ≤ s.kids then fin t s1 ⟨0, 132⟩
        else if Br.kidOk t.path (s.kids + 1) = false then fin t s1 ⟨0, 133⟩
        else
          let x := run n p (kid p t s o) (start p (kid p t s o))
          run n p t { s1 with left := s.left - 1 - (s.left - 1) / 2, kids := s.kids + 1, wts := s.wts ++ [(o.d, x.1)], done := s.done ++ x.2 }
      else if o.k = 13 ∨ o.k = 14 then
        if kidsE s.wts ≠ 0 then fin t s1 ⟨0, kidsE s.wts⟩
        else if o.k = 14 then fin t s1 ⟨rgAt (joined s.wts s.regs) o.a, 0⟩
        else run n p t { s1 with regs := joined s.wts s.regs, wts := [] }
      else match plain s1 o with
        | none => fin t s1 ⟨0, 131⟩
        | some s2 => run n p t s2
theorem plain_left {s s2 : St} {o : OpV} (h : plain s o = some s2) : s2.left = s.left ∧ s2.kids = s.kids ∧ s2.wts = s.wts ∧ s2.done = s.done := by
  unfold plain at h
  split at h
  · obtain rfl := Option.some.inj h
    exact ⟨rfl, rfl, rfl, rfl⟩
  · split at h
    · obtain rfl := Option.some.inj h
      exact ⟨rfl, rfl, rfl, rfl⟩
    · split at h
      · obtain rfl := Option.some.inj h
        split <;> exact ⟨rfl, rfl, rfl, rfl⟩
      · obtain ⟨x, _, rfl⟩ := Option.map_eq_some_iff.1 h
        exact ⟨rfl, rfl, rfl, rfl⟩
/-- More rounds than fuel change nothing. -/
theorem run_succ (p : List FnV) : ∀ (n : Nat) (t : Tsk) (s : St), s.left < n → run (n + 1) p t s = run n p t s := by
  intro n
  induction n with
  | zero => intro t s h; omega
  | succ n ih =>
    intro t s h
    rw [run, run]
    by_cases h0 : s.left = 0
    · rw [if_pos h0, if_pos h0]
    · rw [if_neg h0, if_neg h0]
      have hk : (start p (kid p t s (opAt p t s))).left < n := by
        show (s.left - 1) / 2 < n
        omega
      simp only []
      split
      · split
        · rfl
        · split
          · rfl
          · rw [ih _ _ hk, ih _ _ (by show s.left - 1 - (s.left - 1) / 2 < n; omega)]
      · split
        · split
          · rfl
          · split
            · rfl
            · exact ih _ _ (by show s.left - 1 < n; omega)
        · split
          · rfl
          · rename_i s2 hp
            exact ih _ _ (by rw [(plain_left hp).1]; show s.left - 1 < n; omega)
theorem run_more (p : List FnV) (n m : Nat) (t : Tsk) (s : St) (h : s.left < n) : run (n + m) p t s = run n p t s := by
  induction m with
  | zero => rfl
  | succ m ih => rw [← ih, ← Nat.add_assoc]; exact run_succ p _ t s (by omega)
/-- What a task comes to, and all that are told of it. -/
def doT (p : List FnV) (t : Tsk) : Res × List Dn := run (t.fuel + 1) p t (start p t)
theorem doT_run (p : List FnV) (t : Tsk) (n : Nat) (h : t.fuel < n) : run n p t (start p t) = doT p t := by
  obtain ⟨m, rfl⟩ : ∃ m, n = t.fuel + 1 + m := ⟨n - (t.fuel + 1), by omega⟩
  exact run_more p (t.fuel + 1) m t (start p t) (Nat.lt_succ_self _)
/-- There are at most as many as were told of, one more, and what was left. -/
theorem run_len (p : List FnV) : ∀ (n : Nat) (t : Tsk) (s : St), (run n p t s).2.length ≤ s.done.length + 1 + s.left := by
  intro n
  induction n with
  | zero => intro t s; simp [run, fin]
  | succ n ih =>
    intro t s
    have hf : ∀ (s1 : St) (r : Res), s1.done = s.done → (fin t s1 r).2.length ≤ s.done.length + 1 + s.left := fun s1 r h => by
      show (_ :: s1.done).length ≤ _
      rw [List.length_cons, h]
      omega
    rw [run]
    by_cases h0 : s.left = 0
    · rw [if_pos h0]
      exact hf s _ rfl
    · rw [if_neg h0]
      simp only []
      split
      · split
        · exact hf _ _ rfl
        · split
          · exact hf _ _ rfl
          · have h1 := ih (kid p t s (opAt p t s)) (start p (kid p t s (opAt p t s)))
            have h2 : (start p (kid p t s (opAt p t s))).left = (s.left - 1) / 2 := rfl
            have h3 : (start p (kid p t s (opAt p t s))).done = [] := rfl
            rw [h2, h3] at h1
            refine Nat.le_trans (ih _ _) ?_
            show (s.done ++ _).length + 1 + (s.left - 1 - (s.left - 1) / 2) ≤ _
            rw [List.length_append]
            simp only [List.length_nil] at h1
            omega
      · split
        · split
          · exact hf _ _ rfl
          · split
            · exact hf _ _ rfl
            · refine Nat.le_trans (ih _ _) ?_
              show s.done.length + 1 + (s.left - 1) ≤ _
              omega
        · split
          · exact hf _ _ rfl
          · rename_i s2 hp
            obtain ⟨e1, _, _, e4⟩ := plain_left hp
            refine Nat.le_trans (ih _ _) ?_
            rw [e1, e4]
            show s.done.length + 1 + (s.left - 1) ≤ _
            omega
/-- At most fuel + 1 tasks. -/
theorem doT_len (p : List FnV) (t : Tsk) : (doT p t).2.length ≤ t.fuel + 1 := by
  have h := run_len p (t.fuel + 1) t (start p t)
  have h1 : (start p t).left = t.fuel := rfl
  have h2 : (start p t).done = [] := rfl
  rw [h1, h2] at h
  simp only [List.length_nil] at h
  unfold doT
  omega
/-- A task's list: itself, then what each of its children is told to be, one behind the other. -/
theorem run_form (p : List FnV) : ∀ (n : Nat) (t : Tsk) (s : St), s.left < n → ∃ cs : List Tsk,
    (run n p t s).2 = ⟨t, (run n p t s).1, s.kids + cs.length⟩ :: (s.done ++ cs.flatMap fun c => (doT p c).2) ∧
    ∀ (i : Nat) (h : i < cs.length), cs[i].path = Br.kidT t.path (((s.kids + i : Nat) : Int) + 1) ∧ Br.kidOk t.path (((s.kids + i : Nat) : Int) + 1) = true ∧ s.kids + i < 16 ∧ 2 * cs[i].fuel < s.left := by
  intro n
  induction n with
  | zero => intro t s h; omega
  | succ n ih =>
    intro t s h
    have hf : ∀ (s1 : St) (r : Res), s1.done = s.done → s1.kids = s.kids → ∃ cs : List Tsk, (fin t s1 r).2 = ⟨t, (fin t s1 r).1, s.kids + cs.length⟩ :: (s.done ++ cs.flatMap fun c => (doT p c).2) ∧
        ∀ (i : Nat) (h : i < cs.length), cs[i].path = Br.kidT t.path (((s.kids + i : Nat) : Int) + 1) ∧ Br.kidOk t.path (((s.kids + i : Nat) : Int) + 1) = true ∧ s.kids + i < 16 ∧ 2 * cs[i].fuel < s.left := fun s1 r h1 h2 =>
      ⟨[], by unfold fin; rw [h1, h2]; simp, fun i h => by simp at h⟩
    have hs : ∀ (s2 : St), s2.left = s.left - 1 → s2.done = s.done → s2.kids = s.kids → ¬ s.left = 0 → ∃ cs : List Tsk, (run n p t s2).2 = ⟨t, (run n p t s2).1, s.kids + cs.length⟩ :: (s.done ++ cs.flatMap fun c => (doT p c).2) ∧
        ∀ (i : Nat) (h : i < cs.length), cs[i].path = Br.kidT t.path (((s.kids + i : Nat) : Int) + 1) ∧ Br.kidOk t.path (((s.kids + i : Nat) : Int) + 1) = true ∧ s.kids + i < 16 ∧ 2 * cs[i].fuel < s.left := fun s2 h1 h2 h3 h0 => by
      obtain ⟨cs, e, hc⟩ := ih t s2 (by omega)
      rw [h2, h3] at e
      refine ⟨cs, e, fun i hi => ?_⟩
      have := hc i hi
      rw [h1, h3] at this
      exact ⟨this.1, this.2.1, this.2.2.1, by omega⟩
    rw [run]
    by_cases h0 : s.left = 0
    · rw [if_pos h0]
      exact hf s _ rfl rfl
    · rw [if_neg h0]
      simp only []
      split
      · split
        · exact hf _ _ rfl rfl
        · rename_i hk
          split
          · exact hf _ _ rfl rfl
          · rename_i hok
            have hl : (start p (kid p t s (opAt p t s))).left < n := by
              show (s.left - 1) / 2 < n
              omega
            have hx : run n p (kid p t s (opAt p t s)) (start p (kid p t s (opAt p t s))) = doT p (kid p t s (opAt p t s)) := doT_run p _ n hl
            rw [hx]
            obtain ⟨cs, e, hc⟩ := ih t { regs := s.regs, at_ := s.at_ + 1, left := s.left - 1 - (s.left - 1) / 2, kids := s.kids + 1, wts := s.wts ++ [((opAt p t s).d, (doT p (kid p t s (opAt p t s))).1)], done := s.done ++ (doT p (kid p t s (opAt p t s))).2 } (by show s.left - 1 - (s.left - 1) / 2 < n; omega)
            refine ⟨kid p t s (opAt p t s) :: cs, ?_, fun i hi => ?_⟩
            · rw [e, List.flatMap_cons, List.append_assoc, List.length_cons, show s.kids + 1 + cs.length = s.kids + (cs.length + 1) by omega]
            · cases i with
              | zero => exact ⟨rfl, by simpa using hok, by show s.kids + 0 < 16; omega, by show 2 * ((s.left - 1) / 2) < s.left; omega⟩
              | succ i =>
                have := hc i (by simpa using hi)
                simp only [] at this
                rw [show s.kids + 1 + i = s.kids + (i + 1) by omega] at this
                refine ⟨this.1, this.2.1, this.2.2.1, ?_⟩
                have h4 := this.2.2.2
                show 2 * (cs[i]'(by simpa using hi)).fuel < s.left
                omega
      · split
        · split
          · exact hf _ _ rfl rfl
          · split
            · exact hf _ _ rfl rfl
            · exact hs _ rfl rfl rfl h0
        · split
          · exact hf _ _ rfl rfl
          · rename_i s2 hp
            obtain ⟨e1, e2, _, e4⟩ := plain_left hp
            exact hs s2 e1 e4 e2 h0
theorem doT_form (p : List FnV) (t : Tsk) : ∃ cs : List Tsk, (doT p t).2 = ⟨t, (doT p t).1, cs.length⟩ :: (cs.flatMap fun c => (doT p c).2) ∧
    ∀ (i : Nat) (h : i < cs.length), cs[i].path = Br.kidT t.path ((i : Int) + 1) ∧ Br.kidOk t.path ((i : Int) + 1) = true ∧ i < 16 ∧ 2 * cs[i].fuel < t.fuel := by
  obtain ⟨cs, e, h⟩ := run_form p (t.fuel + 1) t (start p t) (Nat.lt_succ_self _)
  have h1 : (start p t).kids = 0 := rfl
  have h2 : (start p t).done = [] := rfl
  have h3 : (start p t).left = t.fuel := rfl
  rw [h1, h2, List.nil_append, Nat.zero_add] at e
  refine ⟨cs, e, fun i hi => ?_⟩
  have := h i hi
  rw [h1, h3, Nat.zero_add] at this
  exact this
/-! Parts. -/
theorem flat_at {α β : Type} (f : α → List β) : ∀ (l : List α) (k : Nat), k < (l.flatMap f).length → ∃ (i k' : Nat) (hi : i < l.length), k' < (f l[i]).length ∧ (l.flatMap f).drop k = (f l[i]).drop k' ++ (l.drop (i + 1)).flatMap f := by
  intro l
  induction l with
  | nil => intro k h; simp at h
  | cons a l ih =>
    intro k h
    rw [List.flatMap_cons] at h ⊢
    by_cases hk : k < (f a).length
    · refine ⟨0, k, by simp, hk, ?_⟩
      rw [List.drop_append, show k - (f a).length = 0 by omega, List.drop_zero]
      rfl
    · obtain ⟨i, k', hi, h1, h2⟩ := ih (k - (f a).length) (by rw [List.length_append] at h; omega)
      refine ⟨i + 1, k', by simpa using hi, h1, ?_⟩
      rw [List.drop_append, List.drop_eq_nil_of_le (by omega), List.nil_append, h2]
      rfl
def bs (s : ByteArray) : List UInt8 := s.data.toList
theorem kid_bs {s : ByteArray} {n : Int} (h : Br.kidOk s n = true) : bs (Br.kidT s n) = bs s ++ [UInt8.ofNat n.toNat] := by
  unfold bs Br.kidT
  rw [if_pos h]
  simp
/-- All of a task's list lies under it. -/
theorem doT_pre (p : List FnV) : ∀ (N : Nat) (t : Tsk), t.fuel < N → ∀ d ∈ (doT p t).2, bs t.path <+: bs d.t.path := by
  intro N
  induction N with
  | zero => intro t h; omega
  | succ N ih =>
    intro t h d hd
    obtain ⟨cs, e, hc⟩ := doT_form p t
    rw [e] at hd
    rcases List.mem_cons.1 hd with rfl | hd
    · exact List.prefix_refl _
    · obtain ⟨c, hcm, hd⟩ := List.mem_flatMap.1 hd
      obtain ⟨i, hi, rfl⟩ := List.mem_iff_getElem.1 hcm
      obtain ⟨h1, h2, _, h4⟩ := hc i hi
      have := ih cs[i] (by omega) d hd
      rw [h1, kid_bs h2] at this
      exact (List.prefix_append _ _).trans this
/-- What is told of a task is, from there on, what the task itself is told to be; and what comes behind does not lie under it. -/
theorem parts (p : List FnV) : ∀ (N : Nat) (t : Tsk), t.fuel < N → ∀ (k : Nat) (d : Dn) (tl : List Dn), (doT p t).2.drop k = d :: tl →
    ∃ rest, d :: tl = (doT p d.t).2 ++ rest ∧ d.r = (doT p d.t).1 ∧ ∀ z ∈ rest, ¬ bs d.t.path <+: bs z.t.path := by
  intro N
  induction N with
  | zero => intro t h; omega
  | succ N ih =>
    intro t h k d tl hd
    obtain ⟨cs, e, hc⟩ := doT_form p t
    cases k with
    | zero =>
      rw [List.drop_zero] at hd
      have hh : d = ⟨t, (doT p t).1, cs.length⟩ := by
        rw [e] at hd
        exact (List.cons.inj hd).1.symm
      refine ⟨[], ?_, ?_, fun z hz => by simp at hz⟩
      · rw [List.append_nil, ← hd, hh]
      · rw [hh]
    | succ k =>
      rw [e, List.drop_succ_cons] at hd
      have hk : k < (cs.flatMap fun c => (doT p c).2).length := by
        apply Classical.byContradiction
        intro hn
        rw [List.drop_eq_nil_of_le (by omega)] at hd
        cases hd
      obtain ⟨i, k', hi, hk', h2⟩ := flat_at (fun c => (doT p c).2) cs k hk
      rw [h2] at hd
      have hdc : (doT p cs[i]).2.drop k' = (doT p cs[i]).2[k'] :: (doT p cs[i]).2.drop (k' + 1) := List.drop_eq_getElem_cons hk'
      rw [hdc, List.cons_append] at hd
      obtain ⟨hd1, hd2⟩ := List.cons.inj hd
      rw [hd1] at hdc
      obtain ⟨h3, h4, _, h6⟩ := hc i hi
      obtain ⟨rest, e3, e4, e5⟩ := ih cs[i] (by omega) k' d _ hdc
      refine ⟨rest ++ (cs.drop (i + 1)).flatMap (fun c => (doT p c).2), ?_, e4, ?_⟩
      · rw [← List.append_assoc, ← e3, List.cons_append, hd2]
      · intro z hz hpre
        rcases List.mem_append.1 hz with hz | hz
        · exact e5 z hz hpre
        · obtain ⟨c, hcm, hz⟩ := List.mem_flatMap.1 hz
          obtain ⟨j, hj, rfl⟩ := List.mem_iff_getElem.1 hcm
          rw [List.getElem_drop] at hz
          have hj2 : i + 1 + j < cs.length := by rw [List.length_drop] at hj; omega
          obtain ⟨g3, g4, g5, g6⟩ := hc (i + 1 + j) hj2
          have q1 := doT_pre p N cs[i] (by omega) d (by rw [← hd1]; exact List.getElem_mem hk')
          have q2 := doT_pre p N cs[i + 1 + j] (by omega) z hz
          rw [h3, kid_bs h4] at q1
          rw [g3, kid_bs g4] at q2
          have q3 := List.prefix_of_prefix_length_le (q1.trans hpre) q2 (by simp)
          have q4 := q3.eq_of_length (by simp)
          have q5 := List.cons.inj (List.append_cancel_left q4)
          have q6 := congrArg UInt8.toNat q5.1
          rw [UInt8.toNat_ofNat', UInt8.toNat_ofNat'] at q6
          omega
/-! Those first that come ahead. -/
theorem lt_longer (a : List UInt8) (x : UInt8) (r : List UInt8) : a < a ++ x :: r := by
  induction a with
  | nil => exact List.nil_lt_cons _ _
  | cons b a ih =>
    rw [List.cons_append, List.cons_lt_cons_iff]
    exact .inr ⟨rfl, ih⟩
theorem lt_fork (s : List UInt8) {x y : UInt8} (h : x < y) (r r2 : List UInt8) : s ++ x :: r < s ++ y :: r2 := by
  induction s with
  | nil => exact List.cons_lt_cons_iff.2 (.inl h)
  | cons b s ih =>
    rw [List.cons_append, List.cons_append, List.cons_lt_cons_iff]
    exact .inr ⟨rfl, ih⟩
theorem rising (p : List FnV) : ∀ (N : Nat) (t : Tsk), t.fuel < N → (doT p t).2.Pairwise fun a b => bs a.t.path < bs b.t.path := by
  intro N
  induction N with
  | zero => intro t h; omega
  | succ N ih =>
    intro t h
    obtain ⟨cs, e, hc⟩ := doT_form p t
    have hu : ∀ (i : Nat) (hi : i < cs.length), ∀ d ∈ (doT p cs[i]).2, ∃ r, bs d.t.path = bs t.path ++ UInt8.ofNat (i + 1) :: r := fun i hi d hd => by
      obtain ⟨h1, h2, _, h4⟩ := hc i hi
      have := doT_pre p N cs[i] (by omega) d hd
      rw [h1, kid_bs h2] at this
      obtain ⟨r, hr⟩ := this
      refine ⟨r, ?_⟩
      rw [← hr, List.append_assoc, show ((i : Int) + 1).toNat = i + 1 by omega]
      rfl
    rw [e, List.pairwise_cons]
    refine ⟨fun d hd => ?_, ?_⟩
    · obtain ⟨c, hcm, hd⟩ := List.mem_flatMap.1 hd
      obtain ⟨i, hi, rfl⟩ := List.mem_iff_getElem.1 hcm
      obtain ⟨r, hr⟩ := hu i hi d hd
      rw [hr]
      exact lt_longer _ _ _
    · rw [List.pairwise_flatMap]
      refine ⟨fun c hcm => ?_, ?_⟩
      · obtain ⟨i, hi, rfl⟩ := List.mem_iff_getElem.1 hcm
        exact ih cs[i] (by have := (hc i hi).2.2.2; omega)
      · rw [List.pairwise_iff_getElem]
        intro i j hi hj hij x hx y hy
        obtain ⟨r, hr⟩ := hu i hi x hx
        obtain ⟨r2, hr2⟩ := hu j hj y hy
        rw [hr, hr2]
        refine lt_fork _ ?_ _ _
        have g1 := (hc i hi).2.2.1
        have g2 := (hc j hj).2.2.1
        rw [UInt8.lt_iff_toNat_lt, UInt8.toNat_ofNat', UInt8.toNat_ofNat']
        omega
/-! A program that begins with another function. -/
def shO (o : OpV) : OpV := if o.k = 12 then { o with n := o.n + 1 } else o
def shF (f : FnV) : FnV := { f with ops := f.ops.map shO }
def begun (p : List FnV) (fn : Nat) : List FnV := shF (p[fn]?.getD default) :: p.map shF
theorem shF_default : shF default = default := rfl
theorem shO_default : shO default = default := rfl
theorem shO_k (o : OpV) : (shO o).k = o.k ∧ (shO o).d = o.d ∧ (shO o).a = o.a ∧ (shO o).b = o.b ∧ (o.k ≠ 12 → (shO o).n = o.n) := by
  unfold shO
  split
  · rename_i h
    exact ⟨rfl, rfl, rfl, rfl, fun h2 => absurd h h2⟩
  · exact ⟨rfl, rfl, rfl, rfl, fun _ => rfl⟩
theorem begun_at (p : List FnV) (fn : Nat) {n : Int} (h : 0 ≤ n) : (begun p fn)[(n + 1).toNat]?.getD default = shF (p[n.toNat]?.getD default) := by
  unfold begun
  rw [show (n + 1).toNat = n.toNat + 1 by omega, List.getElem?_cons_succ, List.getElem?_map]
  cases p[n.toNat]? <;> rfl
/-- The same task, begun as the first one of a program. -/
structure Sim (P : List UInt8) (p q : List FnV) (t t' : Tsk) : Prop where
  path : bs t.path = P ++ bs t'.path
  args : t'.args = t.args
  fuel : t'.fuel = t.fuel
  fn : fnOf q t' = shF (fnOf p t)
def SimD (P : List UInt8) (d d' : Dn) : Prop := bs d.t.path = P ++ bs d'.t.path ∧ d'.r = d.r ∧ d'.kids = d.kids ∧ d'.t.fuel = d.t.fuel ∧ d'.t.args = d.t.args
inductive SimL (P : List UInt8) : List Dn → List Dn → Prop
  | nil : SimL P [] []
  | cons {d d' : Dn} {l l' : List Dn} : SimD P d d' → SimL P l l' → SimL P (d :: l) (d' :: l')
theorem SimL.append {P : List UInt8} {a a' b b' : List Dn} (h : SimL P a a') (k : SimL P b b') : SimL P (a ++ b) (a' ++ b') := by
  induction h with
  | nil => exact k
  | cons h _ ih => exact .cons h ih
theorem SimL.len {P : List UInt8} {a a' : List Dn} (h : SimL P a a') : a.length = a'.length := by
  induction h with
  | nil => rfl
  | cons h _ ih => simp [ih]
theorem SimL.at_ {P : List UInt8} {a a' : List Dn} (h : SimL P a a') : ∀ (i : Nat) (h1 : i < a.length) (h2 : i < a'.length), SimD P a[i] a'[i] := by
  induction h with
  | nil => intro i h1; simp at h1
  | cons h _ ih =>
    intro i h1 h2
    cases i with
    | zero => exact h
    | succ i => exact ih i (by simpa using h1) (by simpa using h2)
theorem kidOk_sim {a b : ByteArray} {P : List UInt8} (h : bs a = P ++ bs b) (hs : (bs a).length < 12) (hm : Br.mayL (bs a) = true) (n : Int) : Br.kidOk a n = Br.kidOk b n := by
  have sa : a.size = (bs a).length := (Array.length_toList (xs := a.data)).symm
  have sb : b.size = (bs b).length := (Array.length_toList (xs := b.data)).symm
  have hl : (bs b).length ≤ (bs a).length := by rw [h, List.length_append]; omega
  have hmb : Br.mayL (bs b) = true := by
    unfold Br.mayL at hm ⊢
    rw [Bool.and_eq_true, decide_eq_true_eq] at hm ⊢
    refine ⟨by omega, ?_⟩
    have := hm.2
    rw [h, List.all_append, Bool.and_eq_true] at this
    exact this.2
  have ma : Br.may a = true := hm
  have mb : Br.may b = true := hmb
  unfold Br.kidOk
  rw [ma, mb, decide_eq_false (show ¬ a.size = 12 by omega), decide_eq_false (show ¬ b.size = 12 by omega)]
theorem plain_sim {s s' : St} {o : OpV} (hk : o.k ≠ 12) (h1 : s'.regs = s.regs) (h2 : s'.at_ = s.at_) (h3 : s'.left = s.left) (h4 : s'.kids = s.kids) (h5 : s'.wts = s.wts) :
    (plain s o = none ∧ plain s' (shO o) = none) ∨ ∃ u u', plain s o = some u ∧ plain s' (shO o) = some u' ∧ u'.regs = u.regs ∧ u'.at_ = u.at_ ∧ u'.left = u.left ∧ u'.kids = u.kids ∧ u'.wts = u.wts ∧ u'.done = s'.done ∧ u.done = s.done := by
  have e : shO o = o := by unfold shO; rw [if_neg hk]
  rw [e]
  unfold plain
  split
  · exact .inr ⟨_, _, rfl, rfl, by rw [h1], h2, h3, h4, h5, rfl, rfl⟩
  · split
    · exact .inr ⟨_, _, rfl, rfl, h1, rfl, h3, h4, h5, rfl, rfl⟩
    · split
      · rw [h1]
        split
        · exact .inr ⟨_, _, rfl, rfl, rfl, rfl, h3, h4, h5, rfl, rfl⟩
        · exact .inr ⟨_, _, rfl, rfl, h1, h2, h3, h4, h5, rfl, rfl⟩
      · rw [h1]
        cases calcV o.k (rgAt s.regs o.a) (if o.k = 2 then 0 else rgAt s.regs o.b) with
        | none => exact .inl ⟨rfl, rfl⟩
        | some x => exact .inr ⟨_, _, rfl, rfl, rfl, h2, h3, h4, h5, rfl, rfl⟩
theorem run_done (p : List FnV) (n : Nat) (t : Tsk) (s : St) (h : s.left < n) : ∀ d ∈ s.done, d ∈ (run n p t s).2 := fun d hd => by
  obtain ⟨cs, e, _⟩ := run_form p n t s h
  rw [e]
  exact List.mem_cons_of_mem _ (List.mem_append_left _ hd)
theorem run_self (p : List FnV) (n : Nat) (t : Tsk) (s : St) (h : s.left < n) : ∃ d ∈ (run n p t s).2, d.t = t := by
  obtain ⟨cs, e, _⟩ := run_form p n t s h
  rw [e]
  exact ⟨_, List.mem_cons_self, rfl⟩
theorem argN_sim (p : List FnV) (fn : Nat) {o : OpV} (h : o.k = 12) (hn : 0 ≤ o.n) : Ck.argN (begun p fn) (shO o) = Ck.argN p o := by
  have e : (shO o).n = o.n + 1 := by unfold shO; rw [if_pos h]
  unfold Ck.argN
  rw [e, begun_at p fn hn]
  rfl
theorem opAt_sim {P : List UInt8} {p q : List FnV} {t t' : Tsk} {s s' : St} (h : Sim P p q t t') (ha : s'.at_ = s.at_) : opAt q t' s' = shO (opAt p t s) := by
  unfold opAt
  rw [h.fn, ha]
  show ((fnOf p t).ops.map shO)[s.at_]?.getD default = _
  rw [List.getElem?_map]
  cases (fnOf p t).ops[s.at_]? <;> rfl
theorem sim_run {P : List UInt8} {p : List FnV} {fn : Nat} (hp : ∀ f ∈ p, ∀ o ∈ f.ops, o.k = 12 → 0 ≤ o.n) : ∀ (n : Nat) (t t' : Tsk) (s s' : St), s.left < n → Sim P p (begun p fn) t t' → s'.regs = s.regs → s'.at_ = s.at_ → s'.left = s.left → s'.kids = s.kids → s'.wts = s.wts → SimL P s.done s'.done →
    (∀ d ∈ (run n p t s).2, (bs d.t.path).length < 12 ∧ Br.mayL (bs d.t.path) = true) → (run n (begun p fn) t' s').1 = (run n p t s).1 ∧ SimL P (run n p t s).2 (run n (begun p fn) t' s').2 := by
  intro n
  induction n with
  | zero => intro t t' s s' h; omega
  | succ n ih =>
    intro t t' s s' hl hS e1 e2 e3 e4 e5 hD hdeep
    have hf : ∀ (s1 s1' : St) (r : Res), s1.kids = s.kids → s1'.kids = s'.kids → s1.done = s.done → s1'.done = s'.done → (fin t' s1' r).1 = (fin t s1 r).1 ∧ SimL P (fin t s1 r).2 (fin t' s1' r).2 := fun s1 s1' r g1 g2 g3 g4 => by
      refine ⟨rfl, ?_⟩
      unfold fin
      rw [g1, g2, g3, g4, e4]
      exact .cons ⟨hS.path, rfl, rfl, hS.fuel, hS.args⟩ hD
    obtain ⟨dt, hdt, edt⟩ := run_self p (n + 1) t s hl
    have hdp := hdeep dt hdt
    rw [edt] at hdp
    have ho := opAt_sim (s := s) (s' := s') hS e2
    obtain ⟨k1, k2, k3, k4, k5⟩ := shO_k (opAt p t s)
    rw [run] at hdeep
    rw [run, run]
    by_cases h0 : s.left = 0
    · rw [if_pos h0, if_pos (by rw [e3]; exact h0)]
      exact hf _ _ _ rfl rfl rfl rfl
    · rw [if_neg h0] at hdeep
      rw [if_neg h0, if_neg (by rw [e3]; exact h0)]
      simp only [] at hdeep ⊢
      rw [ho, k1, k2, k3, e1, e2, e3, e4, e5]
      by_cases h12 : (opAt p t s).k = 12
      · rw [if_pos h12] at hdeep ⊢
        rw [if_pos h12]
        by_cases h16 : 16 ≤ s.kids
        · rw [if_pos h16, if_pos h16]
          exact hf _ _ _ rfl e4.symm rfl rfl
        · rw [if_neg h16] at hdeep ⊢
          rw [if_neg h16]
          have hko := kidOk_sim hS.path hdp.1 hdp.2 ((s.kids : Int) + 1)
          rw [← hko]
          by_cases hk : Br.kidOk t.path ((s.kids : Int) + 1) = false
          · rw [if_pos hk, if_pos hk]
            exact hf _ _ _ rfl e4.symm rfl rfl
          · rw [if_neg hk] at hdeep ⊢
            rw [if_neg hk]
            have hk' : Br.kidOk t.path ((s.kids : Int) + 1) = true := by simpa using hk
            have hn0 : 0 ≤ (opAt p t s).n := by
              unfold opAt at h12 ⊢
              cases hx : (fnOf p t).ops[s.at_]? with
              | none => exact Int.le_refl _
              | some o =>
                rw [hx] at h12
                have hf : fnOf p t ∈ p := by
                  unfold fnOf at hx ⊢
                  cases hy : p[t.fn.toNat]? with
                  | none => rw [hy] at hx; cases hx
                  | some f => exact List.mem_of_getElem? hy
                exact hp _ hf o (List.mem_of_getElem? hx) h12
            have hfuel : (kid p t s (opAt p t s)).fuel = (s.left - 1) / 2 := rfl
            have hkS : Sim P p (begun p fn) (kid p t s (opAt p t s)) (kid (begun p fn) t' s' (shO (opAt p t s))) := by
              refine ⟨?_, ?_, ?_, ?_⟩
              · show bs (Br.kidT t.path _) = P ++ bs (Br.kidT t'.path _)
                rw [e4, kid_bs hk', kid_bs (by rw [← hko]; exact hk'), hS.path, List.append_assoc]
              · show (s'.regs.drop (shO (opAt p t s)).a.toNat).take (Ck.argN (begun p fn) (shO (opAt p t s))).toNat = _
                rw [e1, k3, argN_sim p fn h12 hn0]
                rfl
              · show (s'.left - 1) / 2 = _
                rw [e3, hfuel]
              · show (begun p fn)[(shO (opAt p t s)).n.toNat]?.getD default = _
                rw [show (shO (opAt p t s)).n = (opAt p t s).n + 1 by unfold shO; rw [if_pos h12], begun_at p fn hn0]
                rfl
            have hll : (start p (kid p t s (opAt p t s))).left < n := by
              show (s.left - 1) / 2 < n
              omega
            have hl2 : s.left - 1 - (s.left - 1) / 2 < n := by omega
            have hsub := ih (kid p t s (opAt p t s)) (kid (begun p fn) t' s' (shO (opAt p t s))) (start p (kid p t s (opAt p t s))) (start (begun p fn) (kid (begun p fn) t' s' (shO (opAt p t s)))) hll hkS (by unfold start; simp only []; rw [hkS.args, hkS.fn]; rfl) rfl hkS.fuel rfl rfl .nil
              (fun d hd => hdeep d (run_done p n t _ hl2 d (List.mem_append_right _ hd)))
            rw [hsub.1]
            refine ih t t' _ _ hl2 hS rfl rfl rfl rfl rfl ?_ hdeep
            exact hD.append hsub.2
      · rw [if_neg h12] at hdeep ⊢
        rw [if_neg h12]
        by_cases h13 : (opAt p t s).k = 13 ∨ (opAt p t s).k = 14
        · rw [if_pos h13] at hdeep ⊢
          rw [if_pos h13]
          by_cases hke : kidsE s.wts ≠ 0
          · rw [if_pos hke, if_pos hke]
            exact hf _ _ _ rfl e4.symm rfl rfl
          · rw [if_neg hke] at hdeep ⊢
            rw [if_neg hke]
            by_cases h14 : (opAt p t s).k = 14
            · rw [if_pos h14, if_pos h14]
              exact hf _ _ _ rfl e4.symm rfl rfl
            · rw [if_neg h14] at hdeep ⊢
              rw [if_neg h14]
              exact ih t t' _ _ (by show s.left - 1 < n; omega) hS rfl rfl rfl rfl rfl hD hdeep
        · rw [if_neg h13] at hdeep ⊢
          rw [if_neg h13]
          rcases plain_sim (s := { s with left := s.left - 1, at_ := s.at_ + 1 }) (s' := { s' with regs := s.regs, left := s.left - 1, at_ := s.at_ + 1, kids := s.kids, wts := s.wts }) h12 rfl rfl rfl rfl rfl with ⟨g1, g2⟩ | ⟨u, u', g1, g2, g3, g4, g5, g6, g7, g8, g9⟩
          · rw [g1, g2]
            exact hf _ _ _ rfl e4.symm rfl rfl
          · rw [g1] at hdeep
            rw [g1, g2]
            have hu := (plain_left g1).1
            exact ih t t' u u' (by rw [hu]; show s.left - 1 < n; omega) hS g3 g4 g5 g6 g7 (by rw [g8, g9]; exact hD) hdeep
/-- A task's part of a tree is the tree of a program that begins with it. -/
theorem sim_doT {p : List FnV} (hp : ∀ f ∈ p, ∀ o ∈ f.ops, o.k = 12 → 0 ≤ o.n) (t : Tsk) (hdeep : ∀ d ∈ (doT p t).2, (bs d.t.path).length < 12 ∧ Br.mayL (bs d.t.path) = true) :
    (doT (begun p t.fn.toNat) ⟨⟨#[]⟩, 0, t.args, t.fuel⟩).1 = (doT p t).1 ∧ SimL (bs t.path) (doT p t).2 (doT (begun p t.fn.toNat) ⟨⟨#[]⟩, 0, t.args, t.fuel⟩).2 := by
  have hS : Sim (bs t.path) p (begun p t.fn.toNat) t ⟨⟨#[]⟩, 0, t.args, t.fuel⟩ := ⟨(List.append_nil _).symm, rfl, rfl, rfl⟩
  exact sim_run hp (t.fuel + 1) t _ (start p t) (start _ _) (Nat.lt_succ_self _) hS (by unfold start; simp only []; rw [hS.fn]; rfl) rfl rfl rfl rfl .nil hdeep
/-- All paths of a tree are paths. -/
theorem doT_may (p : List FnV) : ∀ (N : Nat) (t : Tsk), t.fuel < N → Br.mayL (bs t.path) = true → ∀ d ∈ (doT p t).2, Br.mayL (bs d.t.path) = true := by
  intro N
  induction N with
  | zero => intro t h; omega
  | succ N ih =>
    intro t h hm d hd
    obtain ⟨cs, e, hc⟩ := doT_form p t
    rw [e] at hd
    rcases List.mem_cons.1 hd with rfl | hd
    · exact hm
    · obtain ⟨c, hcm, hd⟩ := List.mem_flatMap.1 hd
      obtain ⟨i, hi, rfl⟩ := List.mem_iff_getElem.1 hcm
      obtain ⟨h1, h2, h3, h4⟩ := hc i hi
      refine ih cs[i] (by omega) ?_ d hd
      rw [h1, kid_bs h2]
      have hs : t.path.size ≠ 12 := by
        have := h2
        unfold Br.kidOk at this
        simp only [Bool.and_eq_true, Bool.not_eq_true', decide_eq_false_iff_not] at this
        exact this.2.2
      have sa : t.path.size = (bs t.path).length := (Array.length_toList (xs := t.path.data)).symm
      unfold Br.mayL at hm ⊢
      rw [Bool.and_eq_true, decide_eq_true_eq] at hm ⊢
      refine ⟨by rw [List.length_append, List.length_singleton]; omega, ?_⟩
      rw [List.all_append, hm.2]
      show (true && ([UInt8.ofNat ((i : Int) + 1).toNat].all Br.okB)) = true
      simp only [List.all_cons, List.all_nil, Bool.and_true, Bool.true_and]
      unfold Br.okB
      rw [UInt8.toNat_ofNat', Bool.and_eq_true, decide_eq_true_eq, decide_eq_true_eq]
      omega
end Ev
end Go.Proofs.YtepnofklmdofmaaGreatDoor
