/-
  Layer 13, plainly: a program that begins with another function is as good as it was.
  Layer 13, plainly: what holds of a program that has no fault; one op of a task.
-/
import Derived.Test.YtepnofklmdofmaaGreatDoorEvM
import Derived.Test.YtepnofklmdofmaaGreatDoorChL
import Derived.Test.YtepnofklmdofmaaGreatDoorEvF
import Derived.Test.YtepnofklmdofmaaGreatDoorLowCdI
section
namespace Go.Proofs.YtepnofklmdofmaaGreatDoor
open Go.RowKit

namespace Ev
open Cd Ck
theorem opE_parts {p : List FnV} {f : FnV} {o : OpV} : opE p f o = 0 ↔ regsOk o f.regs = true ∧ tgtOk p.length f o = true ∧ argOk p f o = true := by
  unfold opE
  cases regsOk o f.regs <;> cases tgtOk p.length f o <;> cases argOk p f o <;> simp
theorem opE_begun {p : List FnV} {fn : Nat} {f : FnV} {o : OpV} (ho : o.k = 12 → 0 ≤ o.n) (h : opE p f o = 0) : opE (begun p fn) (shF f) (shO o) = 0 := by
  obtain ⟨k1, k2, k3, k4, k5⟩ := shO_k o
  obtain ⟨h1, h2, h3⟩ := opE_parts.1 h
  refine opE_parts.2 ⟨?_, ?_, ?_⟩
  · unfold regsOk at h1 ⊢
    rw [k1, k2, k3, k4]
    exact h1
  · unfold tgtOk at h2 ⊢
    rw [k1]
    have hl : (shF f).ops.length = f.ops.length := List.length_map ..
    rw [hl]
    by_cases e1 : o.k = 10 ∨ o.k = 11
    · rw [if_pos e1] at h2 ⊢
      rw [k5 (by omega)]
      exact h2
    · rw [if_neg e1] at h2 ⊢
      by_cases e2 : o.k = 12
      · rw [if_pos e2] at h2 ⊢
        rw [show (shO o).n = o.n + 1 by unfold shO; rw [if_pos e2]]
        unfold inN at h2 ⊢
        rw [Bool.and_eq_true, decide_eq_true_eq, decide_eq_true_eq] at h2 ⊢
        have : (begun p fn).length = p.length + 1 := by unfold begun; rw [List.length_cons, List.length_map]
        rw [this]
        omega
      · rw [if_neg e2]
  · unfold argOk at h3 ⊢
    rw [k1]
    by_cases e2 : o.k = 12
    · rw [if_pos e2] at h3 ⊢
      rw [argN_sim p fn e2 (ho e2), k3]
      exact h3
    · rw [if_neg e2]
theorem fnE_begun {p : List FnV} {fn : Nat} {f : FnV} (hf : ∀ o ∈ f.ops, o.k = 12 → 0 ≤ o.n) (h : (fnE p f).1 = 0) : (fnE (begun p fn) (shF f)).1 = 0 := by
  unfold fnE at h ⊢
  have hr : (shF f).regs = f.regs ∧ (shF f).args = f.args := ⟨rfl, rfl⟩
  rw [hr.1, hr.2]
  by_cases h1 : f.regs < f.args
  · rw [if_pos h1] at h
    exact absurd h (by decide)
  · rw [if_neg h1] at h ⊢
    by_cases h2 : (opsE p f f.ops 0).1 = 0
    · rw [if_pos h2] at h
      have h3 := opsE_zero h2
      have h4 : opsE (begun p fn) (shF f) (shF f).ops 0 = (0, 0) := opsE_no (fun i hi => by
        have hi2 : i < f.ops.length := by
          have : (shF f).ops.length = f.ops.length := List.length_map ..
          omega
        have : (shF f).ops[i] = shO f.ops[i] := List.getElem_map ..
        rw [this]
        exact opE_begun (hf _ (List.getElem_mem hi2)) (h3 _ (List.getElem_mem hi2)))
      rw [h4, if_pos rfl]
      unfold endE at h ⊢
      have h5 : (shF f).ops.getLast? = f.ops.getLast?.map shO := List.getLast?_map ..
      rw [h5]
      cases hl : f.ops.getLast? with
      | none => rw [hl] at h; exact h
      | some o =>
        rw [hl] at h
        simp only [Option.map_some] at h ⊢
        rw [(shO_k o).1]
        by_cases he : ends o.k = true
        · rw [if_pos he]
        · rw [if_neg he] at h
          exact absurd h (by show ¬ (113 : Nat) = 0; decide)
    · rw [if_neg h2] at h
      exact absurd h h2
theorem ok_begun {f : FnV} (h : f.ok = true) : (shF f).ok = true := by
  unfold FnV.ok at h ⊢
  simp only [Bool.and_eq_true, decide_eq_true_eq, List.all_eq_true] at h ⊢
  refine ⟨⟨h.1.1, ?_⟩, ?_⟩
  · have : (shF f).ops.length = f.ops.length := List.length_map ..
    rw [this]
    exact h.1.2
  · intro o ho
    obtain ⟨o', ho', rfl⟩ := List.mem_map.1 ho
    have h1 := h.2 o' ho'
    unfold shO
    split
    · rename_i e
      unfold OpV.ok OpV.bare OpV.less at h1 ⊢
      simp only [] at h1 ⊢
      rw [e] at h1 ⊢
      exact h1
    · exact h1
theorem fork_begun {p : List FnV} (h : (chk p).1 = 0) : ∀ f ∈ p, ∀ o ∈ f.ops, o.k = 12 → 0 ≤ o.n := fun f hf o ho hk => (chk_fork h f hf o ho hk).1
theorem chk_begun {p : List FnV} {fn : Nat} (h : (chk p).1 = 0) (hl : p.length < 16) (hfn : fn < p.length) : (chk (begun p fn)).1 = 0 := by
  have hne : p ≠ [] := fun e => by rw [e] at hfn; simp at hfn
  have hp : pok p = true := by
    cases hq : pok p with
    | true => rfl
    | false =>
      unfold chk at h
      rw [hq] at h
      exact absurd h (by show ¬ (8 : Nat) = 0; decide)
  have hall : ∀ f ∈ p, (fnE p f).1 = 0 := by
    unfold chk at h
    rw [if_pos hp, if_neg hne] at h
    exact fnsE_all h
  have hpb : pok (begun p fn) = true := by
    unfold pok at hp ⊢
    rw [Bool.and_eq_true, decide_eq_true_eq, List.all_eq_true] at hp ⊢
    have hlb : (begun p fn).length = p.length + 1 := by unfold begun; rw [List.length_cons, List.length_map]
    refine ⟨by omega, fun f hf => ?_⟩
    unfold begun at hf
    rcases List.mem_cons.1 hf with rfl | hf
    · rw [List.getElem?_eq_getElem hfn]
      exact ok_begun (hp.2 _ (List.getElem_mem hfn))
    · obtain ⟨f', hf', rfl⟩ := List.mem_map.1 hf
      exact ok_begun (hp.2 _ hf')
  unfold chk
  rw [if_pos hpb, if_neg (by unfold begun; simp)]
  rw [fnsE_no (fun i hi => ?_)]
  have hm : (begun p fn)[i] ∈ begun p fn := List.getElem_mem hi
  have key : ∀ g ∈ p, (fnE (begun p fn) (shF g)).1 = 0 := fun g hg => fnE_begun (fork_begun h g hg) (hall g hg)
  generalize (begun p fn)[i] = g at hm
  unfold begun at hm
  rcases List.mem_cons.1 hm with rfl | hm
  · rw [List.getElem?_eq_getElem hfn]
    exact key _ (List.getElem_mem hfn)
  · obtain ⟨g', hg', rfl⟩ := List.mem_map.1 hm
    exact key _ hg'
end Ev
end Go.Proofs.YtepnofklmdofmaaGreatDoor
end

section
namespace Go.Proofs.YtepnofklmdofmaaGreatDoor
open Go.RowKit

namespace Ev
open Cd Ck
structure GoodO (p : List FnV) (f : FnV) (o : OpV) : Prop where
  k : 1 ≤ o.k ∧ o.k ≤ 14
  nat : ∃ d a b : Nat, o.d = (d : Int) ∧ o.a = (a : Int) ∧ o.b = (b : Int) ∧ d ≤ 16 ∧ a ≤ 16 ∧ b ≤ 16
  d : hD o.k = true → o.d < f.regs
  a : hA o.k = true → o.k ≠ 12 → o.a < f.regs
  b : hB o.k = true → o.b < f.regs
  tgt : o.k = 10 ∨ o.k = 11 → ∃ n : Nat, o.n = (n : Int) ∧ n < f.ops.length
  fork : o.k = 12 → ∃ n : Nat, o.n = (n : Int) ∧ n < p.length ∧ (argN p o ≤ 0 ∨ o.a + argN p o ≤ f.regs)
structure GoodF (p : List FnV) (f : FnV) : Prop where
  regs : ∃ n : Nat, f.regs = (n : Int) ∧ n ≤ 16
  args : ∃ n : Nat, f.args = (n : Int) ∧ (n : Int) ≤ f.regs
  len : f.ops.length ≤ 64
  pos : 0 < f.ops.length
  ops : ∀ (i : Nat) (h : i < f.ops.length), GoodO p f f.ops[i] ∧ (f.ops[i].k ≠ 10 → f.ops[i].k ≠ 14 → i + 1 < f.ops.length)
theorem good_op {p : List FnV} {f : FnV} {o : OpV} (ho : o.ok = true) (h : opE p f o = 0) : GoodO p f o := by
  obtain ⟨h1, h2, h3⟩ := opE_parts.1 h
  obtain ⟨r1, r2, r3⟩ := OpV.ok_reg ho
  rw [reg_iff] at r1 r2 r3
  have hk : isK o.k = true := by
    unfold OpV.ok at ho
    simp only [Bool.and_eq_true] at ho
    exact ho.1.1
  unfold regsOk at h1
  simp only [Bool.and_eq_true, Bool.or_eq_true, Bool.and_eq_false_iff, decide_eq_true_eq, Bool.not_eq_eq_eq_not, Bool.not_true, Bool.not_false] at h1
  unfold isK at hk
  rw [Bool.and_eq_true, decide_eq_true_eq, decide_eq_true_eq] at hk
  refine ⟨hk, ⟨o.d.toNat, o.a.toNat, o.b.toNat, by omega, by omega, by omega, by omega, by omega, by omega⟩, fun e => ?_, fun e e2 => ?_, fun e => ?_, fun e => ?_, fun e => ?_⟩
  · rcases h1.1 with h | h
    · rw [e] at h; cases h
    · exact h
  · rcases h1.2.1 with h | h
    · rcases h with h | h
      · rw [e] at h; cases h
      · exact absurd h e2
    · exact h
  · rcases h1.2.2 with h | h
    · rw [e] at h; cases h
    · exact h
  · unfold tgtOk inN at h2
    rw [if_pos e, Bool.and_eq_true, decide_eq_true_eq, decide_eq_true_eq] at h2
    exact ⟨o.n.toNat, by omega, by omega⟩
  · unfold tgtOk inN at h2
    rw [if_neg (by omega), if_pos e, Bool.and_eq_true, decide_eq_true_eq, decide_eq_true_eq] at h2
    unfold argOk at h3
    rw [if_pos e, Bool.or_eq_true, decide_eq_true_eq, decide_eq_true_eq] at h3
    exact ⟨o.n.toNat, by omega, by omega, h3⟩
theorem good_of {p : List FnV} (h : (chk p).1 = 0) : ∀ f ∈ p, GoodF p f := by
  intro f hf
  have h1 := chk_some h
  have h2 : (fnsE p p 0).1 = 0 := by rw [← chk_go h1.2 (List.ne_nil_of_length_pos h1.1)]; exact h
  have h3 := fnsE_all h2 f hf
  have hp := h1.2
  unfold pok at hp
  rw [Bool.and_eq_true, decide_eq_true_eq, List.all_eq_true] at hp
  obtain ⟨⟨y1, e1, hy1⟩, ⟨y2, e2, hy2⟩, h64, hops⟩ := FnV.ok_parts (hp.2 f hf)
  unfold fnE at h3
  split at h3
  · cases (show (110 : Nat) = 0 from h3)
  · rename_i har
    split at h3
    · rename_i ho
      have h5 := opsE_zero ho
      unfold endE at h3
      cases hl : f.ops.getLast? with
      | none =>
        rw [hl] at h3
        cases (show (113 : Nat) = 0 from h3)
      | some o =>
        rw [hl] at h3
        have hne : f.ops ≠ [] := fun e => by rw [e] at hl; cases hl
        have hpos := List.length_pos_iff.2 hne
        have hend : o.k = 10 ∨ o.k = 14 := by
          simp only [] at h3
          split at h3
          · rename_i he
            unfold ends at he
            rw [Bool.or_eq_true, decide_eq_true_eq, decide_eq_true_eq] at he
            exact he
          · cases (show (113 : Nat) = 0 from h3)
        refine ⟨⟨y2, e2, hy2⟩, ⟨y1, e1, by omega⟩, h64, hpos, fun i hi => ⟨good_op (hops _ (List.getElem_mem hi)) (h5 _ (List.getElem_mem hi)), fun n1 n2 => ?_⟩⟩
        apply Classical.byContradiction
        intro hn
        have : i = f.ops.length - 1 := by omega
        subst this
        rw [List.getLast?_eq_getElem?, List.getElem?_eq_getElem (by omega)] at hl
        have := Option.some.inj hl
        rw [this] at n1 n2
        omega
    · rename_i ho
      exact absurd h3 ho
/-- A task may be begun. -/
structure TOk (p : List FnV) (t : Tsk) : Prop where
  fn : ∃ n : Nat, t.fn = (n : Int) ∧ n < p.length
  args : (t.args.length : Int) = (fnOf p t).args
  path : Br.may t.path = true
  fuel : t.fuel ≤ 65536
theorem TOk.mem {p : List FnV} {t : Tsk} (h : TOk p t) : fnOf p t ∈ p := by
  obtain ⟨n, e, hn⟩ := h.fn
  unfold fnOf
  rw [e, Int.toNat_natCast, List.getElem?_eq_getElem hn]
  exact List.getElem_mem hn
structure SOk (p : List FnV) (t : Tsk) (s : St) : Prop where
  regs : (s.regs.length : Int) = (fnOf p t).regs
  at_ : s.at_ < (fnOf p t).ops.length
  kids : s.kids ≤ 16
  wts : s.wts.length ≤ s.kids
  wreg : ∀ x ∈ s.wts, 0 ≤ x.1 ∧ x.1 < (s.regs.length : Int)
  left : s.left ≤ 65536
/-- An op is paid for. -/
def paid (s : St) : St := { s with left := s.left - 1, at_ := s.at_ + 1 }
def kidP (p : List FnV) (t : Tsk) (s : St) (o : OpV) : Tsk := ⟨Br.kidT t.path (s.kids + 1), o.n, (s.regs.drop o.a.toNat).take (argN p o).toNat, s.left / 2⟩
def forkE (t : Tsk) (s : St) : Int := if 16 ≤ s.kids then 132 else if Br.kidOk t.path (s.kids + 1) = false then 133 else 0
def forkS (p : List FnV) (t : Tsk) (s : St) (o : OpV) : St := { s with left := s.left - s.left / 2, kids := s.kids + 1, wts := s.wts ++ [(o.d, (doT p (kidP p t s o)).1)], done := s.done ++ (doT p (kidP p t s o)).2 }
def joinS (s : St) : St := { s with regs := joined s.wts s.regs, wts := [] }
def actE (t : Tsk) (s : St) (o : OpV) : Int := if o.k = 12 then forkE t s else if o.k = 13 ∨ o.k = 14 then kidsE s.wts else plE s o
def actS (p : List FnV) (t : Tsk) (s : St) (o : OpV) : St := if o.k = 12 then (if forkE t s = 0 then forkS p t s o else s) else if o.k = 13 ∨ o.k = 14 then joinS s else plS s o
theorem run_act (p : List FnV) (n : Nat) (t : Tsk) (s : St) (h0 : s.left ≠ 0) (hn : s.left ≤ n) :
    run (n + 1) p t s = if actE t (paid s) (opAt p t s) ≠ 0 then fin t (actS p t (paid s) (opAt p t s)) ⟨0, actE t (paid s) (opAt p t s)⟩
      else if (opAt p t s).k = 14 then fin t (actS p t (paid s) (opAt p t s)) ⟨rgAt (actS p t (paid s) (opAt p t s)).regs (opAt p t s).a, 0⟩ else run n p t (actS p t (paid s) (opAt p t s)) := by
  rw [run, if_neg h0]
  simp only []
  unfold actE actS
  generalize opAt p t s = o
  by_cases h12 : o.k = 12
  · rw [if_pos h12, if_pos h12, if_pos h12]
    unfold forkE
    have e : (paid s).kids = s.kids := rfl
    rw [e]
    by_cases h16 : 16 ≤ s.kids
    · rw [if_pos h16, if_pos h16, if_pos (by decide), if_neg (by decide)]
      rfl
    · rw [if_neg h16, if_neg h16]
      by_cases hk : Br.kidOk t.path (s.kids + 1) = false
      · rw [if_pos hk, if_pos hk, if_pos (by decide), if_neg (by decide)]
        rfl
      · rw [if_neg hk, if_neg hk, if_neg (by decide), if_neg (by omega), if_pos rfl]
        have hl : (kid p t s o).fuel < n := by show (s.left - 1) / 2 < n; omega
        rw [doT_run p (kid p t s o) n hl]
        rfl
  · rw [if_neg h12, if_neg h12, if_neg h12]
    by_cases h13 : o.k = 13 ∨ o.k = 14
    · rw [if_pos h13, if_pos h13, if_pos h13]
      rfl
    · rw [if_neg h13, if_neg h13, if_neg h13]
      show (match plain (paid s) o with | none => _ | some s2 => _) = _
      unfold plE plS
      cases hp : plain (paid s) o with
      | none => rfl
      | some s2 =>
        show run n p t s2 = _
        rw [if_neg (by show ¬ ((0 : Int) ≠ 0); decide), if_neg (by omega)]
        rfl
theorem run_end (p : List FnV) (n : Nat) (t : Tsk) (s : St) (h0 : s.left = 0) : run (n + 1) p t s = fin t s ⟨0, 130⟩ := by rw [run, if_pos h0]
theorem start_ok {p : List FnV} {t : Tsk} (h : TOk p t) (hg : ∀ f ∈ p, GoodF p f) : SOk p t (start p t) := by
  have g := hg _ h.mem
  obtain ⟨n, e, hn⟩ := g.regs
  obtain ⟨m, e2, hm⟩ := g.args
  have h2 := h.args
  refine ⟨?_, g.pos, Nat.zero_le _, Nat.le_refl _, fun x hx => by simp [start] at hx, h.fuel⟩
  show ((t.args ++ List.replicate ((fnOf p t).regs.toNat - t.args.length) 0).length : Int) = _
  rw [List.length_append, List.length_replicate]
  omega
theorem opAt_good {p : List FnV} {t : Tsk} {s : St} (h : TOk p t) (hg : ∀ f ∈ p, GoodF p f) (hs : SOk p t s) : GoodO p (fnOf p t) (opAt p t s) ∧ ((opAt p t s).k ≠ 10 → (opAt p t s).k ≠ 14 → s.at_ + 1 < (fnOf p t).ops.length) := by
  have := (hg _ h.mem).ops s.at_ hs.at_
  unfold opAt
  rw [List.getElem?_eq_getElem hs.at_]
  exact this
theorem plain_ok {p : List FnV} {t : Tsk} {s s2 : St} {o : OpV} (hg : GoodO p (fnOf p t) o) (h13 : o.k ≠ 12 ∧ o.k ≠ 13 ∧ o.k ≠ 14) (hr : (s.regs.length : Int) = (fnOf p t).regs) (ha : o.k ≠ 10 → o.k ≠ 14 → s.at_ < (fnOf p t).ops.length) (he : plain s o = some s2) :
    (s2.regs.length : Int) = (fnOf p t).regs ∧ s2.at_ < (fnOf p t).ops.length ∧ s2.left = s.left ∧ s2.kids = s.kids ∧ s2.wts = s.wts ∧ s2.done = s.done := by
  have h0 := plain_left he
  refine ⟨?_, ?_, h0.1, h0.2.1, h0.2.2.1, h0.2.2.2⟩
  · unfold plain at he
    split at he
    · cases he; simpa using hr
    · split at he
      · cases he; exact hr
      · split at he
        · split at he <;> (cases he; exact hr)
        · obtain ⟨x, _, rfl⟩ := Option.map_eq_some_iff.1 he
          simpa using hr
  · unfold plain at he
    split at he
    · cases he; exact ha (by omega) (by omega)
    · split at he
      · rename_i hk
        cases he
        obtain ⟨n, e, hn⟩ := hg.tgt (.inl hk)
        show o.n.toNat < _
        omega
      · split at he
        · rename_i hk
          obtain ⟨n, e, hn⟩ := hg.tgt (.inr hk)
          split at he
          · cases he
            show o.n.toNat < _
            omega
          · cases he; exact ha (by omega) (by omega)
        · obtain ⟨x, _, rfl⟩ := Option.map_eq_some_iff.1 he
          exact ha (by omega) (by omega)
theorem act_ok {p : List FnV} {t : Tsk} {s : St} (h : TOk p t) (hg : ∀ f ∈ p, GoodF p f) (hs : SOk p t s) (he : actE t (paid s) (opAt p t s) = 0) (h14 : (opAt p t s).k ≠ 14) : SOk p t (actS p t (paid s) (opAt p t s)) ∧ (actS p t (paid s) (opAt p t s)).left ≤ s.left - 1 := by
  obtain ⟨g, gat⟩ := opAt_good h hg hs
  have h2 := hs.left
  unfold actS
  unfold actE at he
  by_cases h12 : (opAt p t s).k = 12
  · rw [if_pos h12] at he ⊢
    rw [if_pos he]
    have hk : ¬ 16 ≤ s.kids := fun e => by
      unfold forkE at he
      rw [if_pos (show 16 ≤ (paid s).kids from e)] at he
      exact absurd he (by decide)
    have hd : (opAt p t s).d < (fnOf p t).regs := g.d (by rw [h12]; rfl)
    obtain ⟨d, a, b, e1, _⟩ := g.nat
    refine ⟨⟨hs.regs, gat (by omega) h14, ?_, ?_, ?_, ?_⟩, ?_⟩
    · show s.kids + 1 ≤ 16
      omega
    · show (s.wts ++ [_]).length ≤ s.kids + 1
      have := hs.wts
      rw [List.length_append, List.length_singleton]
      omega
    · intro x hx
      rcases List.mem_append.1 (show x ∈ s.wts ++ [_] from hx) with hx | hx
      · exact hs.wreg x hx
      · rw [List.mem_singleton.1 hx]
        have := hs.regs
        refine ⟨by show 0 ≤ (opAt p t s).d; omega, ?_⟩
        show (opAt p t s).d < (s.regs.length : Int)
        omega
    · show s.left - 1 - (s.left - 1) / 2 ≤ 65536
      omega
    · show s.left - 1 - (s.left - 1) / 2 ≤ _
      omega
  · rw [if_neg h12] at he ⊢
    by_cases h13 : (opAt p t s).k = 13 ∨ (opAt p t s).k = 14
    · rw [if_pos h13] at he ⊢
      refine ⟨⟨?_, gat (by omega) h14, hs.kids, Nat.zero_le _, fun x hx => by simp [joinS] at hx, ?_⟩, Nat.le_refl _⟩
      · show ((joined s.wts s.regs).length : Int) = _
        rw [joined_len]
        exact hs.regs
      · show s.left - 1 ≤ 65536
        omega
    · rw [if_neg h13] at he ⊢
      unfold plE at he
      unfold plS
      cases hp : plain (paid s) (opAt p t s) with
      | none =>
        rw [hp] at he
        exact absurd he (by decide)
      | some s2 =>
        obtain ⟨k1, k2, k3, k4, k5, k6⟩ := plain_ok (s := paid s) g ⟨h12, by omega, by omega⟩ hs.regs (fun n1 n2 => gat n1 n2) hp
        have hreg : s2.regs.length = s.regs.length := by have := hs.regs; omega
        refine ⟨⟨k1, k2, ?_, ?_, ?_, ?_⟩, ?_⟩
        · show s2.kids ≤ 16
          rw [k4]; exact hs.kids
        · show s2.wts.length ≤ s2.kids
          rw [k5, k4]; exact hs.wts
        · intro x hx
          show 0 ≤ x.1 ∧ x.1 < (s2.regs.length : Int)
          rw [hreg]
          exact hs.wreg x (by rw [← show s2.wts = s.wts from k5]; exact hx)
        · show s2.left ≤ 65536
          rw [k3]
          show s.left - 1 ≤ 65536
          omega
        · show s2.left ≤ s.left - 1
          rw [k3]
          exact Nat.le_refl _
theorem kid_ok {p : List FnV} {t : Tsk} {s : St} (hg : ∀ f ∈ p, GoodF p f) (hr : (s.regs.length : Int) = (fnOf p t).regs) {o : OpV} (g : GoodO p (fnOf p t) o) (hk : o.k = 12) (hl : s.left ≤ 65536) (he : Br.kidOk t.path (s.kids + 1) = true) : TOk p (kidP p t s o) := by
  obtain ⟨n, e, hn, harg⟩ := g.fork hk
  have hf : fnOf p (kidP p t s o) = p[n] := by
    unfold fnOf
    rw [show (kidP p t s o).fn = o.n from rfl, e, Int.toNat_natCast, List.getElem?_eq_getElem hn]
    rfl
  have ha : argN p o = p[n].args := by
    unfold argN
    rw [e, Int.toNat_natCast, List.getElem?_eq_getElem hn]
    rfl
  obtain ⟨m, e2, hm⟩ := (hg p[n] (List.getElem_mem hn)).args
  obtain ⟨d, a, b, e3, e4, _⟩ := g.nat
  refine ⟨⟨n, e, hn⟩, ?_, ?_, ?_⟩
  · show (((s.regs.drop o.a.toNat).take (argN p o).toNat).length : Int) = _
    rw [hf, List.length_take, List.length_drop, ha]
    rw [ha] at harg
    omega
  · show Br.may (Br.kidT t.path (s.kids + 1)) = true
    unfold Br.kidT
    rw [if_pos he]
    unfold Br.kidOk at he
    simp only [Bool.and_eq_true, Bool.not_eq_true', decide_eq_false_iff_not] at he
    obtain ⟨h1, h2, h3⟩ := he
    have hsz : t.path.size ≠ 12 := h3
    have hs12 := Br.may_size h1
    unfold Br.may at h1 ⊢
    obtain ⟨h4, h5⟩ := Br.mayL_iff.1 h1
    unfold Br.kidN at h2
    rw [Bool.and_eq_true, decide_eq_true_eq, decide_eq_true_eq] at h2
    have hlen : t.path.data.toList.length = t.path.size := Br.len_list _
    have ed : (t.path ++ ⟨#[UInt8.ofNat ((s.kids : Int) + 1).toNat]⟩).data.toList = t.path.data.toList ++ [UInt8.ofNat ((s.kids : Int) + 1).toNat] := by simp
    rw [ed]
    refine Br.mayL_iff.2 ⟨by rw [List.length_append, List.length_singleton]; omega, fun b hb => ?_⟩
    rcases List.mem_append.1 hb with hb | hb
    · exact h5 b hb
    · rw [List.mem_singleton.1 hb]
      unfold Br.okB
      rw [UInt8.toNat_ofNat', Bool.and_eq_true, decide_eq_true_eq, decide_eq_true_eq]
      omega
  · show s.left / 2 ≤ 65536
    omega
end Ev
end Go.Proofs.YtepnofklmdofmaaGreatDoor
end
