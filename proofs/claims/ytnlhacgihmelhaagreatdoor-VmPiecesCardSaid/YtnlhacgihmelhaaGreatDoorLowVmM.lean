/-
  Layer 14, plainly: a task that runs some ops at a time, and waits for its children.
  Layer 14: a frame, as the program keeps it in memory.
-/
import Derived.Test.YtnlhacgihmelhaaGreatDoorEvO
section
namespace Go.Proofs.YtnlhacgihmelhaaGreatDoor
open Go.RowKit

namespace Vm
open Cd Ev
/-- A child that was begun: the fork's register, what it came to, and whether that was given. -/
structure Kd where
  reg : Int
  r : Res
  given : Bool
structure Fs where
  regs : List Int
  at_ : Nat
  left : Nat
  kids : List Kd
  joined : Nat
  waits : Bool
  over : Bool
  came : Res
inductive Stp where
  | more
  | fork (t : Tsk)
  | join
  | done (r : Res)
def lacks (l : List Kd) : Bool := l.any fun k => !k.given
def pairs (l : List Kd) : List (Int × Res) := l.map fun k => (k.reg, k.r)
def okK (x : Int × Res) : Bool := decide (x.2.err = 0)
def joinR (l : List Kd) (r : List Int) : List Int := joined ((pairs l).takeWhile okK) r
def endW (s : Fs) (r : Res) : Stp × Fs := (.done r, { s with over := true, came := r })
/-- A join that is paid for, of an op. -/
def join (o : OpV) (s : Fs) : Stp × Fs :=
  if lacks (s.kids.drop s.joined) then (.join, { s with waits := true })
  else if kidsE (pairs (s.kids.drop s.joined)) ≠ 0 then endW { s with waits := false, regs := joinR (s.kids.drop s.joined) s.regs } ⟨0, kidsE (pairs (s.kids.drop s.joined))⟩
  else if o.k = 14 then endW { s with waits := false, regs := joinR (s.kids.drop s.joined) s.regs, joined := s.kids.length } ⟨rgAt (joinR (s.kids.drop s.joined) s.regs) o.a, 0⟩
  else (.more, { s with waits := false, regs := joinR (s.kids.drop s.joined) s.regs, joined := s.kids.length })
def kidT (p : List FnV) (t : Tsk) (s : Fs) (o : OpV) : Tsk := ⟨Br.kidT t.path ((s.kids.length : Int) + 1), o.n, (s.regs.drop o.a.toNat).take (Ck.argN p o).toNat, s.left / 2⟩
/-- A fork that is paid for. -/
def fork (p : List FnV) (t : Tsk) (o : OpV) (s : Fs) : Stp × Fs :=
  if 16 ≤ s.kids.length then endW s ⟨0, 132⟩
  else if Br.kidOk t.path ((s.kids.length : Int) + 1) = false then endW s ⟨0, 133⟩
  else (.fork (kidT p t s o), { s with left := s.left - s.left / 2, kids := s.kids ++ [⟨o.d, ⟨0, 0⟩, false⟩] })
/-- The part of a frame's state that plain ops goF by. -/
def stx (s : Fs) : St := ⟨s.regs, s.at_, s.left, 0, [], []⟩
def plainF (o : OpV) (s : Fs) : Stp × Fs :=
  match plain (stx s) o with
  | none => endW s ⟨0, 131⟩
  | some e => (.more, { s with regs := e.regs, at_ := e.at_ })
/-- An op that is paid for. -/
def doF (p : List FnV) (t : Tsk) (o : OpV) (s : Fs) : Stp × Fs :=
  if o.k = 12 then fork p t o s else if o.k = 13 ∨ o.k = 14 then join o s else plainF o s
def opF (p : List FnV) (t : Tsk) (i : Nat) : OpV := (fnOf p t).ops[i]?.getD default
def paidF (s : Fs) : Fs := { s with left := s.left - 1, at_ := s.at_ + 1 }
def stepF (p : List FnV) (t : Tsk) (s : Fs) : Stp × Fs :=
  if s.left = 0 then endW s ⟨0, 130⟩ else doF p t (opF p t s.at_) (paidF s)
/-- At most n ops, as long as none stops it. -/
def goF (p : List FnV) (t : Tsk) : Nat → Stp × Fs → Stp × Fs
  | n + 1, (.more, s) => goF p t n (stepF p t s)
  | _, x => x
def runF (p : List FnV) (t : Tsk) (n : Nat) (s : Fs) : Stp × Fs :=
  if s.over then (.done s.came, s)
  else if s.waits then goF p t n (join (opF p t (s.at_ - 1)) s)
  else goF p t n (.more, s)
def startF (p : List FnV) (t : Tsk) : Fs := ⟨(Ev.start p t).regs, 0, t.fuel, [], 0, false, false, ⟨0, 0⟩⟩
/-- What is given: why not, and the state. -/
def giveE (s : Fs) (kid : Int) : Int :=
  if kid < 1 ∨ (s.kids.length : Int) < kid then 5
  else if (s.kids[(kid - 1).toNat]?.map Kd.given).getD false then 7
  else if s.over then 3 else 0
def giveS (s : Fs) (kid : Int) (r : Res) : Fs :=
  if giveE s kid = 0 then { s with kids := s.kids.modify (kid - 1).toNat fun k => { k with r := r, given := true } } else s
/-- The children that were not given. -/
def waitsL (l : List Kd) (i : Nat) : List Int := (l.zipIdx i).filterMap fun x => if x.1.given then none else some ((x.2 : Int) + 1)
/-- A frame whose state may be. -/
structure FOk (p : List FnV) (t : Tsk) (s : Fs) : Prop where
  regs : (s.regs.length : Int) = (fnOf p t).regs
  at_ : s.over = false → s.waits = false → s.at_ < (fnOf p t).ops.length
  at2 : s.over = false → s.waits = true → 0 < s.at_ ∧ s.at_ ≤ (fnOf p t).ops.length ∧ ((opF p t (s.at_ - 1)).k = 13 ∨ (opF p t (s.at_ - 1)).k = 14) ∧ ((opF p t (s.at_ - 1)).k = 13 → s.at_ < (fnOf p t).ops.length)
  kids : s.kids.length ≤ 16
  kreg : ∀ x ∈ s.kids, 0 ≤ x.reg ∧ x.reg < (s.regs.length : Int)
  joined : s.joined ≤ s.kids.length
  left : s.left ≤ 65536
  at64 : s.at_ ≤ 64
theorem start_ok {p : List FnV} {t : Tsk} (h : TOk p t) (hg : ∀ f ∈ p, GoodF p f) : FOk p t (startF p t) := by
  have h1 := Ev.start_ok h hg
  exact ⟨h1.regs, fun _ _ => h1.at_, fun _ h => (by cases h), Nat.zero_le _, fun x hx => by simp [startF] at hx, Nat.le_refl _, h1.left, Nat.zero_le _⟩
theorem opF_good {p : List FnV} {t : Tsk} {i : Nat} (h : TOk p t) (hg : ∀ f ∈ p, GoodF p f) (hi : i < (fnOf p t).ops.length) : GoodO p (fnOf p t) (opF p t i) ∧ ((opF p t i).k ≠ 10 → (opF p t i).k ≠ 14 → i + 1 < (fnOf p t).ops.length) := by
  have := (hg _ h.mem).ops i hi
  unfold opF
  rw [List.getElem?_eq_getElem hi]
  exact this
theorem joinR_len (l : List Kd) (r : List Int) : (joinR l r).length = r.length := joined_len _ _
/-- A state behind an op that is paid for. -/
structure POk (p : List FnV) (t : Tsk) (o : OpV) (s : Fs) : Prop where
  regs : (s.regs.length : Int) = (fnOf p t).regs
  pos : 0 < s.at_
  le : s.at_ ≤ (fnOf p t).ops.length
  op : opF p t (s.at_ - 1) = o
  lt : o.k ≠ 10 → o.k ≠ 14 → s.at_ < (fnOf p t).ops.length
  kids : s.kids.length ≤ 16
  kreg : ∀ x ∈ s.kids, 0 ≤ x.reg ∧ x.reg < (s.regs.length : Int)
  joined : s.joined ≤ s.kids.length
  left : s.left ≤ 65536
  at64 : s.at_ ≤ 64
  over : s.over = false
theorem POk.endW {p : List FnV} {t : Tsk} {o : OpV} {s : Fs} (h : POk p t o s) (r : Res) : FOk p t (endW s r).2 :=
  ⟨h.regs, fun e => (by cases e), fun e => (by cases e), h.kids, h.kreg, h.joined, h.left, h.at64⟩
theorem join_ok {p : List FnV} {t : Tsk} {o : OpV} {s : Fs} (h : POk p t o s) (ho : o.k = 13 ∨ o.k = 14) : FOk p t (join o s).2 := by
  have hl := joinR_len (s.kids.drop s.joined) s.regs
  have hr : ((joinR (s.kids.drop s.joined) s.regs).length : Int) = (fnOf p t).regs := by rw [hl]; exact h.regs
  have hk : ∀ x ∈ s.kids, 0 ≤ x.reg ∧ x.reg < ((joinR (s.kids.drop s.joined) s.regs).length : Int) := fun x hx => by rw [hl]; exact h.kreg x hx
  unfold join
  split
  · exact ⟨h.regs, fun _ e => (by cases e), fun _ _ => ⟨h.pos, h.le, by rw [h.op]; exact ho, fun e => h.lt (by rw [h.op] at e; omega) (by rw [h.op] at e; omega)⟩, h.kids, h.kreg, h.joined, h.left, h.at64⟩
  · split
    · exact ⟨hr, fun e => (by cases e), fun e => (by cases e), h.kids, hk, h.joined, h.left, h.at64⟩
    · split
      · exact ⟨hr, fun e => (by cases e), fun e => (by cases e), h.kids, hk, Nat.le_refl _, h.left, h.at64⟩
      · exact ⟨hr, fun _ _ => h.lt (by omega) (by omega), fun _ e => (by cases e), h.kids, hk, Nat.le_refl _, h.left, h.at64⟩
theorem fork_ok {p : List FnV} {t : Tsk} {o : OpV} {s : Fs} (h : POk p t o s) (hg : GoodO p (fnOf p t) o) (ho : o.k = 12) (hw : s.waits = false) : FOk p t (fork p t o s).2 := by
  unfold fork
  split
  · exact h.endW _
  · split
    · exact h.endW _
    · have hd := hg.d (by rw [ho]; rfl)
      obtain ⟨d, a, b, e1, -⟩ := hg.nat
      have h1 := h.regs
      have h2 := h.left
      refine ⟨h.regs, fun _ _ => h.lt (by omega) (by omega), fun _ e => (by rw [show s.waits = true from e] at hw; cases hw), ?_, fun x hx => ?_, ?_, by show s.left - s.left / 2 ≤ _; omega, h.at64⟩
      · show (s.kids ++ [_]).length ≤ 16
        rw [List.length_append, List.length_singleton]
        omega
      · rcases List.mem_append.1 hx with hx | hx
        · exact h.kreg x hx
        · rw [List.mem_singleton.1 hx]
          exact ⟨by show 0 ≤ o.d; omega, by show o.d < (s.regs.length : Int); omega⟩
      · show s.joined ≤ (s.kids ++ [_]).length
        have := h.joined
        rw [List.length_append]
        omega
theorem plainF_ok {p : List FnV} {t : Tsk} {o : OpV} {s : Fs} (h : POk p t o s) (hg : GoodO p (fnOf p t) o) (h13 : o.k ≠ 12 ∧ o.k ≠ 13 ∧ o.k ≠ 14) (hl : (fnOf p t).ops.length ≤ 64) (hw : s.waits = false) : FOk p t (plainF o s).2 := by
  unfold plainF
  split
  · exact h.endW _
  · rename_i e he
    obtain ⟨k1, k2, -⟩ := plain_ok (s := stx s) hg h13 h.regs (fun a b => h.lt a b) he
    have hreg : e.regs.length = s.regs.length := by have := h.regs; omega
    exact ⟨k1, fun _ _ => k2, fun _ e => (by rw [show s.waits = true from e] at hw; cases hw), h.kids, fun x hx => by rw [hreg]; exact h.kreg x hx, h.joined, h.left, by show e.at_ ≤ 64; omega⟩
theorem step_ok {p : List FnV} {t : Tsk} {s : Fs} (ht : TOk p t) (hg : ∀ f ∈ p, GoodF p f) (h : FOk p t s) (ho : s.over = false) (hw : s.waits = false) : FOk p t (stepF p t s).2 := by
  unfold stepF
  split
  · exact ⟨h.regs, fun e => (by cases e), fun e => (by cases e), h.kids, h.kreg, h.joined, h.left, h.at64⟩
  · have hat := h.at_ ho hw
    have h64 := (hg _ ht.mem).len
    obtain ⟨g1, g2⟩ := opF_good ht hg hat
    have hp : POk p t (opF p t s.at_) (paidF s) := ⟨h.regs, Nat.succ_pos _, hat, by show opF p t (s.at_ + 1 - 1) = _; rw [Nat.add_sub_cancel], fun a b => g2 a b, h.kids, h.kreg, h.joined, by have := h.left; show s.left - 1 ≤ _; omega, by show s.at_ + 1 ≤ 64; omega, ho⟩
    unfold doF
    split
    · rename_i h12
      exact fork_ok hp g1 h12 hw
    · split
      · rename_i h13
        exact join_ok hp h13
      · exact plainF_ok hp g1 (by omega) h64 hw
/-- A stop that would goF on leaves a frame that is not over and does not wait. -/
theorem join_more {o : OpV} {s : Fs} (hv : s.over = false) (h : (join o s).1 = .more) : (join o s).2.over = false ∧ (join o s).2.waits = false := by
  unfold join at h ⊢
  split at h
  · cases h
  · rename_i h1
    rw [if_neg h1]
    split at h
    · cases h
    · rename_i h2
      rw [if_neg h2]
      split at h
      · cases h
      · rename_i h3
        rw [if_neg h3]
        exact ⟨hv, rfl⟩
theorem step_more {p : List FnV} {t : Tsk} {s : Fs} (ho : s.over = false) (hw : s.waits = false) (h : (stepF p t s).1 = .more) : (stepF p t s).2.over = false ∧ (stepF p t s).2.waits = false := by
  unfold stepF at h ⊢
  split at h
  · cases h
  · rename_i h0
    rw [if_neg h0]
    unfold doF at h ⊢
    split at h
    · rename_i h1
      rw [if_pos h1]
      unfold fork at h ⊢
      split at h
      · cases h
      · split at h
        · cases h
        · cases h
    · rename_i h1
      rw [if_neg h1]
      split at h
      · rename_i h2
        rw [if_pos h2]
        exact join_more (s := paidF s) ho h
      · rename_i h2
        rw [if_neg h2]
        unfold plainF at h ⊢
        split at h
        · cases h
        · exact ⟨ho, hw⟩
theorem join_paid {p : List FnV} {t : Tsk} {s : Fs} (h : FOk p t s) (ho : s.over = false) (hw : s.waits = true) : POk p t (opF p t (s.at_ - 1)) s ∧ ((opF p t (s.at_ - 1)).k = 13 ∨ (opF p t (s.at_ - 1)).k = 14) := by
  obtain ⟨h1, h2, h3, h4⟩ := h.at2 ho hw
  exact ⟨⟨h.regs, h1, h2, rfl, fun a b => h4 (by omega), h.kids, h.kreg, h.joined, h.left, h.at64, ho⟩, h3⟩
theorem go_ok {p : List FnV} {t : Tsk} (ht : TOk p t) (hg : ∀ f ∈ p, GoodF p f) : ∀ (n : Nat) (x : Stp × Fs), FOk p t x.2 → (x.1 = .more → x.2.over = false ∧ x.2.waits = false) → FOk p t (goF p t n x).2 := by
  intro n
  induction n with
  | zero => intro x h _; cases x; exact h
  | succ n ih =>
    intro x h hm
    obtain ⟨y, s⟩ := x
    cases y with
    | more =>
      obtain ⟨h1, h2⟩ := hm rfl
      exact ih _ (step_ok ht hg h h1 h2) (step_more h1 h2)
    | fork => exact h
    | join => exact h
    | done => exact h
theorem run_ok {p : List FnV} {t : Tsk} (ht : TOk p t) (hg : ∀ f ∈ p, GoodF p f) (n : Nat) {s : Fs} (h : FOk p t s) : FOk p t (runF p t n s).2 := by
  unfold runF
  split
  · exact h
  · rename_i ho
    have ho' : s.over = false := by simpa using ho
    split
    · rename_i hw
      obtain ⟨h1, h2⟩ := join_paid h ho' hw
      exact go_ok ht hg n _ (join_ok h1 h2) (join_more ho')
    · rename_i hw
      have hw' : s.waits = false := by simpa using hw
      exact go_ok ht hg n _ h (fun _ => ⟨ho', hw'⟩)
theorem give_ok {p : List FnV} {t : Tsk} {s : Fs} (h : FOk p t s) (kid : Int) (r : Res) : FOk p t (giveS s kid r) := by
  unfold giveS
  split
  · have hm : ∀ x ∈ s.kids.modify (kid - 1).toNat (fun k => { k with r := r, given := true }), ∃ y ∈ s.kids, y.reg = x.reg := fun x hx => by
      obtain ⟨i, hi, rfl⟩ := List.mem_iff_getElem.1 hx
      rw [List.length_modify] at hi
      refine ⟨s.kids[i], List.getElem_mem hi, ?_⟩
      rw [List.getElem_modify]
      split <;> rfl
    refine ⟨h.regs, h.at_, h.at2, by show (s.kids.modify _ _).length ≤ 16; rw [List.length_modify]; exact h.kids, fun x hx => ?_, by show s.joined ≤ (s.kids.modify _ _).length; rw [List.length_modify]; exact h.joined, h.left, h.at64⟩
    obtain ⟨y, hy, e⟩ := hm x hx
    rw [← e]
    exact h.kreg y hy
  · exact h
end Vm
end Go.Proofs.YtnlhacgihmelhaaGreatDoor
end

section
namespace Go.Proofs.YtnlhacgihmelhaaGreatDoor
open Go.RowKit

namespace Vm
open Cd Ev
def kc1 (k : Kd) : List Value := [.int .i64 k.r.val, .int .i64 k.r.err, .int .i64 k.reg, .bool k.given]
def kcells (l : List Kd) : List Value := l.flatMap kc1
theorem kcells_len (l : List Kd) : (kcells l).length = l.length * 4 := by
  induction l with
  | nil => rfl
  | cons o l ih =>
    show (kc1 o ++ kcells l).length = _
    rw [List.length_append, ih]
    simp [kc1]
    omega
theorem kcells_app (a b : List Kd) : kcells (a ++ b) = kcells a ++ kcells b := by unfold kcells; simp
theorem kcells_at {l : List Kd} {j i : Nat} {u : Value} (hj : j < l.length) (h : (kc1 l[j])[i]? = some u) : (kcells l)[j * 4 + i]? = some u := by
  induction l generalizing j with
  | nil => simp at hj
  | cons o l ih =>
    have e : kcells (o :: l) = kc1 o ++ kcells l := rfl
    have hc : (kc1 o).length = 4 := rfl
    cases j with
    | zero =>
      have hi : i < 4 := by
        have := (List.getElem?_eq_some_iff.1 h).1
        simpa [kc1] using this
      rw [e, List.getElem?_append_left (by omega)]
      simpa using h
    | succ j =>
      rw [e, List.getElem?_append_right (by omega), hc]
      have : (j + 1) * 4 + i - 4 = j * 4 + i := by omega
      rw [this]
      exact ih (by simpa using hj) (by simpa using h)
/-- Cells that lie off some blocks. -/
structure LOk (off : Nat → Prop) (w : World) (A : Option Addr) (xs : List Value) : Prop where
  li : Lies w w.heap.size A xs
  off : xs ≠ [] → ∀ p, A = some p → off p.block
section
variable {off off' : Nat → Prop} {w w' : World} {A : Option Addr} {xs : List Value}
theorem LOk.mv (h : LOk off w A xs) (mv : Gm.Mvg off off' w w') : LOk off' w' A xs := by
  refine ⟨lies_mv h.li h.off mv, fun hn p hp => ?_⟩
  obtain ⟨ad, e, hb, _⟩ := h.li (by cases xs with | nil => exact absurd rfl hn | cons => simp)
  rw [hp] at e
  cases e
  exact mv.keep _ hb (h.off hn p hp)
theorem LOk.imp (h : LOk off w A xs) (hi : ∀ i, i < w.heap.size → off i → off' i) : LOk off' w A xs := h.mv (mvg_imp hi)
theorem LOk.aok {xs : List Int} (h : LOk off w A (icells xs)) : AOk off w A xs := ⟨h.li, fun hn p hp => h.off (fun e => hn (by cases xs with | nil => rfl | cons => simp [icells] at e)) p hp⟩
theorem LOk.of_aok {xs : List Int} (h : AOk off w A xs) : LOk off w A (icells xs) := ⟨h.li, fun hn p hp => h.off (icells_ne hn) p hp⟩
end
/-- Where a frame's parts lie: itself, its registers, what it was begun of, its ops, how many arguments functions have, its children. -/
structure Bk where
  F : Nat
  R : Nat
  A : Option Addr
  ac : Nat
  OA : Option Addr
  oc : Nat
  TA : Option Addr
  tc : Nat
  u : Value
def fcs (b : Bk) (p : List FnV) (t : Tsk) (s : Fs) : Array Value :=
  #[.string t.path, .int .i64 t.fn, .slice b.A t.args.length b.ac, .int .i64 (t.fuel : Int), .slice b.OA (fnOf p t).ops.length b.oc, .slice b.TA p.length b.tc, .slice (some ⟨b.R, 0, none⟩) s.regs.length s.regs.length, .int .i64 (s.at_ : Int), .int .i64 (s.left : Int), b.u, .int .i64 (s.joined : Int), .bool s.waits, .bool s.over, .int .i64 s.came.val, .int .i64 s.came.err]
/-- The blocks that a frame does not write. -/
def KOff (b : Bk) (i : Nat) : Prop := i ≠ b.F ∧ i ≠ b.R ∧ some i ≠ b.u.ownBlock
structure Fr (b : Bk) (p : List FnV) (t : Tsk) (s : Fs) (w : World) : Prop where
  obj : w.heap[b.F]? = some (.cells (fcs b p t s) 122 (0, 0))
  regs : w.heap[b.R]? = some (.cells (icells s.regs).toArray 2 (0, 0))
  row : w.ownsRow 0 124 4 b.u s.kids.length (kcells s.kids)
  ne : b.R ≠ b.F
  nu : b.u.ownBlock ≠ some b.F
  nr : b.u.ownBlock ≠ some b.R
structure Hf (K : Nat → Prop) (b : Bk) (p : List FnV) (t : Tsk) (s : Fs) (w : World) : Prop where
  fr : Fr b p t s w
  o1 : K b.F
  o2 : K b.R
  o3 : ∀ g, b.u.ownBlock = some g → K g
  args : LOk (fun i => KOff b i ∧ K i) w b.A (icells t.args)
  ops : LOk (fun i => KOff b i ∧ K i) w b.OA (ocells (fnOf p t).ops)
  takes : LOk (fun i => KOff b i ∧ K i) w b.TA (icells (p.map FnV.args))
  fresh : ∀ i, w.heap.size ≤ i → K i
section
variable {K K' : Nat → Prop} {b : Bk} {p : List FnV} {t : Tsk} {s : Fs} {w w' : World}
theorem Fr.ltF (h : Fr b p t s w) : b.F < w.heap.size := ltH h.obj
theorem Fr.ltR (h : Fr b p t s w) : b.R < w.heap.size := ltH h.regs
theorem Fr.of (h : Fr b p t s w) (h1 : w'.heap[b.F]? = w.heap[b.F]?) (h2 : w'.heap[b.R]? = w.heap[b.R]?) (h3 : ∀ i, b.u.ownBlock = some i → w'.heap[i]? = w.heap[i]?) : Fr b p t s w' := ⟨h1.trans h.obj, h2.trans h.regs, Gm.ownsKeep h.row h3, h.ne, h.nu, h.nr⟩
theorem Fr.below (h : Fr b p t s w) (hb : Below w.heap.size w w') : Fr b p t s w' := h.of (hb.block _ h.ltF) (hb.block _ h.ltR) fun i hi => hb.block i (h.row.lt i hi).2
theorem Fr.cell (h : Fr b p t s w) (j : Nat) : w.cell? ⟨b.F, j, none⟩ = (fcs b p t s)[j]? := cell_of_row _ _ j _ _ _ h.obj
theorem Fr.fro (h : Fr b p t s w) (j : Nat) : w.frozen? ⟨b.F, j, none⟩ = false := frozen_of_row _ _ j _ _ h.obj
theorem Fr.reg (h : Fr b p t s w) {d : Nat} (hd : d < s.regs.length) : w.cell? ⟨b.R, d, none⟩ = some (.int .i64 s.regs[d]) := by
  rw [cell_of_row _ _ d _ _ _ h.regs]
  simpa using icells_at hd
theorem Fr.rfro (h : Fr b p t s w) (j : Nat) : w.frozen? ⟨b.R, j, none⟩ = false := frozen_of_row _ _ j _ _ h.regs
theorem Fr.lt (h : Fr b p t s w) : ∀ i, w.heap.size ≤ i → KOff b i := fun i hi =>
  ⟨fun e => by have := h.ltF; omega, fun e => by have := h.ltR; omega, fun e => by have := (h.row.lt i e.symm).2; omega⟩
/-- Blocks off the frame's moved. -/
theorem Hf.mv (h : Hf K b p t s w) (mv : Gm.Mvg K K' w w') (hf : ∀ i, w'.heap.size ≤ i → K' i) : Hf K' b p t s w' := by
  have m2 : Gm.Mvg (fun i => KOff b i ∧ K i) (fun i => KOff b i ∧ K' i) w w' := ⟨mv.os, mv.tape, mv.output, mv.size, fun i hi ho => mv.block i hi ho.2, fun i hi ho => ⟨ho.1, mv.keep i hi ho.2⟩⟩
  exact ⟨h.fr.of (mv.block _ h.fr.ltF h.o1) (mv.block _ h.fr.ltR h.o2) (fun i hi => mv.block i (h.fr.row.lt i hi).2 (h.o3 i hi)), mv.keep _ h.fr.ltF h.o1, mv.keep _ h.fr.ltR h.o2, fun g hg => mv.keep g (h.fr.row.lt g hg).2 (h.o3 g hg), h.args.mv m2, h.ops.mv m2, h.takes.mv m2, hf⟩
theorem Hf.below (h : Hf K b p t s w) (hb : Below w.heap.size w w') : Hf K b p t s w' := h.mv (Gm.Mvg.of_below hb) fun i hi => h.fresh i (Nat.le_trans hb.size hi)
theorem Hf.drew (h : Hf K b p t s w) : Hf K b p t s w.drew := h.below (Below.refl _ _).drew
theorem Hf.drewN (h : Hf K b p t s w) (n : Nat) : Hf K b p t s (w.drewN n) := h.below (below_drewN (Below.refl _ _) n)
/-- A store into the frame, or into its registers. -/
theorem Hf.own (h : Hf K b p t s w) {B : Nat} (hB : B = b.F ∨ B = b.R) (j : Nat) (x : Value) (s' : Fs) (hfr : Fr b p t s' (w.setCell ⟨B, j, none⟩ x)) :
    Hf K b p t s' (w.setCell ⟨B, j, none⟩ x) ∧ Gm.Mvg (KOff b) (KOff b) w (w.setCell ⟨B, j, none⟩ x) := by
  have hne : ∀ i, KOff b i → i ≠ B := fun i hi e => by
    rcases hB with rfl | rfl
    · exact hi.1 e
    · exact hi.2.1 e
  have m2 : Gm.Mvg (fun i => KOff b i ∧ K i) (fun i => KOff b i ∧ K i) w (w.setCell ⟨B, j, none⟩ x) := mvg_set (Gm.Mvg.refl _ _) (fun i _ ho => hne i ho.1) j x
  exact ⟨⟨hfr, h.o1, h.o2, h.o3, h.args.mv m2, h.ops.mv m2, h.takes.mv m2, fun i hi => h.fresh i (by simpa [World.setCell] using hi)⟩, mvg_set (Gm.Mvg.refl _ _) (fun i _ ho => hne i ho) j x⟩
theorem Fr.setF (h : Fr b p t s w) (s' : Fs) (j : Nat) (x : Value) (hj : (fcs b p t s).setIfInBounds j x = fcs b p t s') (hr : s'.regs = s.regs) (hk : s'.kids = s.kids) : Fr b p t s' (w.setCell ⟨b.F, j, none⟩ x) := by
  have hq : ∀ i, i ≠ b.F → (w.setCell ⟨b.F, j, none⟩ x).heap[i]? = w.heap[i]? := fun i hi => Below.heap_setCell _ _ _ _ hi
  refine ⟨?_, ?_, ?_, h.ne, h.nu, h.nr⟩
  · rw [heap_setCell_same _ _ _ _ _ _ h.obj, hj]
  · rw [hq b.R h.ne, hr]; exact h.regs
  · rw [hk]; exact Gm.ownsKeep h.row fun i hi => hq i fun e => h.nu (by rw [hi, e])
theorem Fr.setR (h : Fr b p t s w) (d : Nat) (x : Int) : Fr b p t { s with regs := s.regs.set d x } (w.setCell ⟨b.R, d, none⟩ (.int .i64 x)) := by
  have hq : ∀ i, i ≠ b.R → (w.setCell ⟨b.R, d, none⟩ (.int .i64 x)).heap[i]? = w.heap[i]? := fun i hi => Below.heap_setCell _ _ _ _ hi
  refine ⟨?_, ?_, ?_, h.ne, h.nu, h.nr⟩
  · rw [hq b.F (fun e => h.ne e.symm)]
    rw [h.obj]
    unfold fcs
    simp only [List.length_set]
  · rw [heap_setCell_same _ _ _ _ _ _ h.regs]
    unfold icells
    rw [List.map_set, List.setIfInBounds_toArray]
  · exact Gm.ownsKeep h.row fun i hi => hq i fun e => h.nr (by rw [hi, e])
theorem Hf.setF (h : Hf K b p t s w) (s' : Fs) (j : Nat) (x : Value) (hj : (fcs b p t s).setIfInBounds j x = fcs b p t s') (hr : s'.regs = s.regs) (hk : s'.kids = s.kids) :
    Hf K b p t s' (w.setCell ⟨b.F, j, none⟩ x) ∧ Gm.Mvg (KOff b) (KOff b) w (w.setCell ⟨b.F, j, none⟩ x) := h.own (.inl rfl) j x s' (h.fr.setF s' j x hj hr hk)
theorem Hf.setR (h : Hf K b p t s w) (d : Nat) (x : Int) :
    Hf K b p t { s with regs := s.regs.set d x } (w.setCell ⟨b.R, d, none⟩ (.int .i64 x)) ∧ Gm.Mvg (KOff b) (KOff b) w (w.setCell ⟨b.R, d, none⟩ (.int .i64 x)) := h.own (.inr rfl) d _ _ (h.fr.setR d x)
/-- One child's cells, as a walk asks for them. -/
theorem k_at {w : World} {A : Option Addr} {n c : Nat} {l : List Kd} (h : w.ownsRow 0 124 4 (.slice A n c) n (kcells l)) {j : Nat} (hj : j < l.length) :
    ∃ g : Nat, A = some ⟨g, 0, none⟩ ∧ g < w.heap.size ∧ w.cell? ⟨g, j * 4, none⟩ = some (.int .i64 l[j].r.val) ∧ w.cell? ⟨g, j * 4 + 1, none⟩ = some (.int .i64 l[j].r.err) ∧ w.cell? ⟨g, j * 4 + 2, none⟩ = some (.int .i64 l[j].reg) ∧ w.cell? ⟨g, j * 4 + 3, none⟩ = some (.bool l[j].given) := by
  have hl := h.1
  rw [kcells_len] at hl
  have hlt := h.lt
  obtain ⟨hl2, h0 | ⟨g, cap, cur, e, hg, hh, hn, hcap, hsz, ht⟩⟩ := h
  · have : n = 0 := h0.2
    omega
  · injection e with e1 e2 e3
    subst e1
    have hc : ∀ i u, (kc1 l[j])[i]? = some u → w.cell? ⟨g, j * 4 + i, none⟩ = some u := fun i u hu => by
      have := kcells_at hj hu
      rw [← ht, List.getElem?_take] at this
      split at this
      · rw [cell_of_row w g _ cur _ (0, 0) hh]
        simpa using this
      · cases this
    exact ⟨g, rfl, ltH hh, hc 0 _ rfl, hc 1 _ rfl, hc 2 _ rfl, hc 3 _ rfl⟩
end
end Vm
end Go.Proofs.YtnlhacgihmelhaaGreatDoor
end
