/-
  Layer 14: the contract of step.
  Layer 14, plainly: a frame that is runF in pieces.
  Layer 14: the contract of a frame's run.
-/
import Derived.Test.YtnlhacgihmelhaaGreatDoorLowVmI
import Derived.Test.YtnlhacgihmelhaaGreatDoorLowVmM
section
namespace Go.Proofs.YtnlhacgihmelhaaGreatDoor
open Go.RowKit

namespace Vm
open Cd Ev
theorem PE.regs {p : List FnV} {t : Tsk} {s : Fs} (he : PE p t) (hr : (s.regs.length : Int) = (fnOf p t).regs) : s.regs.length ≤ 16 := by
  obtain ⟨n, e, hn⟩ := (he.good _ he.tok.mem).regs
  omega
theorem PE.opz {p : List FnV} {t : Tsk} {i : Nat} (he : PE p t) (hi : i < (fnOf p t).ops.length) : GoodZ (opF p t i) := by
  unfold opF
  rw [List.getElem?_eq_getElem hi]
  exact he.zero _ he.tok.mem _ (List.getElem_mem hi)
theorem paid_ok {p : List FnV} {t : Tsk} {s : Fs} (he : PE p t) (h : FOk p t s) (ho : s.over = false) (hw : s.waits = false) : POk p t (opF p t s.at_) (paidF s) := by
  have hat := h.at_ ho hw
  have h64 := (he.good _ he.tok.mem).len
  obtain ⟨g1, g2⟩ := opF_good he.tok he.good hat
  exact ⟨h.regs, Nat.succ_pos _, hat, by show opF p t (s.at_ + 1 - 1) = _; rw [Nat.add_sub_cancel], fun a b => g2 a b, h.kids, h.kreg, h.joined, by have := h.left; show s.left - 1 ≤ _; omega, by show s.at_ + 1 ≤ 64; omega, ho⟩
end Vm

set_option maxHeartbeats 1000000 in
set_option maxRecDepth 20000 in
theorem vstep {K : Nat → Prop} {b : Vm.Bk} {p : List Cd.FnV} {t : Ev.Tsk} {s : Vm.Fs} {w : World} (h : Vm.Hf K b p t s w) (he : Vm.PE p t) (hok : Vm.FOk p t s) (ho : s.over = false) (hw : s.waits = false) :
    Calls Tryz.prog 67 #[.pointer (some ⟨b.F, 0, none⟩)] w (Vm.OutP K b p t (Vm.stepF p t s) w) := by
  obtain ⟨W, hW⟩ : ∃ W, W = w.alloc (.cells #[.int .u8 0, .string ⟨#[]⟩, .int .i64 0, .slice none 0 0, .int .i64 0, .int .i64 0, .int .i64 0] 59) := ⟨_, rfl⟩
  have hb : Below w.heap.size w W := by rw [hW]; exact Cd.fn1 _ _ _
  have hZ : Vm.ZB w.heap.size W := ⟨by rw [hW]; exact heap_alloc_new w _⟩
  have hN : Vm.Hf (fun i => K i ∧ i ≠ w.heap.size) b p t s W := by rw [hW]; exact h.at_new _
  have HZ := Lib.hid hZ
  have HB := Lib.hid hb
  have HN := Lib.hid hN
  have HKF := Lib.hid h.fresh
  have HKO := Lib.hid (h.fr.lt w.heap.size (Nat.le_refl _))
  have HI : Hid ((Tryz.prog.info? 59).map (·.size) = some 7) := Vm.stp_size
  have HE := Lib.hid he
  have HK := Lib.hid hok
  have HOW := Lib.hid (And.intro ho hw)
  have c8 : W.cell? ⟨b.F, 8, none⟩ = some (.int .i64 (s.left : Int)) := hN.fr.cell 8
  clear hb hZ hN h he hok ho hw
  go_enter Tryz.func67, Tryz.ntmps67
  go_upto_region 1 with fail
  rw [← hW]
  clear hW
  obtain ⟨Y, hYe⟩ : ∃ Y, Y = w.heap.size := ⟨_, rfl⟩
  rw [← hYe] at HZ HKO HN ⊢
  have HYS : Hid (w.heap.size ≤ Y) := by show _ ≤ _; omega
  clear hYe
  by_cases h0 : s.left = 0
  · have e0 : (s.left : Int) = 0 := by omega
    rw [e0] at c8
    have HEQ : Hid (Vm.stepF p t s = Vm.endW s ⟨0, 130⟩) := by show _ = _; unfold Vm.stepF; rw [if_pos h0]
    have HCA := Lib.hid (vfail HN.out 130)
    clear h0 e0
    go_wp2_with fail
    refine HCA.out.mono ?_
    rintro e w4 ⟨b', kk, pa, fn, A, n', c', fu, va, er, rfl, hoo⟩
    have hZ4 := HZ.out.mv hoo.out.2.2.1 HKO.out
    have HRW := Lib.hid (hZ4.ret (.int .u8 kk) (.string pa) (.int .i64 fn) (.slice A n' c') (.int .i64 fu) (.int .i64 va) (.int .i64 er))
    have HFIN : Hid (Vm.OutP K b p t (Vm.stepF p t s) w (.returned (.agg #[.int .u8 kk, .string pa, .int .i64 fn, .slice A n' c', .int .i64 fu, .int .i64 va, .int .i64 er])) (Vm.set7 w4 Y (.int .u8 kk) (.string pa) (.int .i64 fn) (.slice A n' c') (.int .i64 fu) (.int .i64 va) (.int .i64 er))) := by
      show Vm.OutP _ _ _ _ _ _ _ _
      rw [HEQ.out]
      exact Vm.OutP.ret HKF.out HYS.out (Gm.Mvg.of_below HB.out) hoo.out _ _ _ _ _ _ _
    obtain ⟨⟨y0, y1, y2, y3, y4, y5, y6⟩, yf0, yf1, yf2, yf3, yf4, yf5, yf6⟩ := hZ4.all
    clear hZ4 HCA
    go_wp2_with fail
    refine bodyPost_ret (v := .agg #[.int .u8 kk, .string pa, .int .i64 fn, .slice A n' c', .int .i64 fu, .int .i64 va, .int .i64 er]) (results_cell_row Tryz.results67 _ _ Y 59 #[.int .u8 kk, .string pa, .int .i64 fn, .slice A n' c', .int .i64 fu, .int .i64 va, .int .i64 er] (0, 0) _ rfl HRW.out Tryz.underlying59 rfl HI.out) rfl ?_
    exact HFIN.out
  · have e0 : ((s.left : Int) == 0) = false := by rw [beq_eq_false_iff_ne]; omega
    have hat := HK.out.at_ HOW.out.1 HOW.out.2
    obtain ⟨L1, hL1⟩ : ∃ L1, L1 = s.left - 1 := ⟨_, rfl⟩
    have hlw : IntKind.i64.wrap ((s.left : Int) - 1) = (L1 : Int) := by rw [IntKind.wrap_i64]; have := HK.out.left; omega
    have haw : IntKind.i64.wrap ((s.at_ : Int) + 1) = (s.at_ : Int) + 1 := by rw [IntKind.wrap_i64]; have := HK.out.at64; omega
    have HEQ : Hid (Vm.stepF p t s = Vm.doF p t (Vm.opF p t s.at_) (Vm.paidF s)) := by show _ = _; unfold Vm.stepF; rw [if_neg h0]
    have HPD : Hid (Vm.paidF s = { s with left := L1, at_ := s.at_ + 1 }) := by show _ = _; rw [hL1]; rfl
    have HPO := Lib.hid (Vm.paid_ok HE.out HK.out HOW.out.1 HOW.out.2)
    have HGO := Lib.hid (Vm.opF_good HE.out.tok HE.out.good hat).1
    have HGZ := Lib.hid (HE.out.opz hat)
    have hop : (Ev.fnOf p t).ops[s.at_] = Vm.opF p t s.at_ := by unfold Vm.opF; rw [List.getElem?_eq_getElem hat]; rfl
    obtain ⟨ad, hOA, -, g0, g1, g2, g3, g4⟩ := Cd.op_at HN.out.ops.li hat
    rw [hop] at g0 g1 g2 g3 g4
    obtain ⟨o, hoe⟩ : ∃ o, o = Vm.opF p t s.at_ := ⟨_, rfl⟩
    rw [← hoe] at g0 g1 g2 g3 g4 HEQ HPO HGO HGZ
    have c4 : W.cell? ⟨b.F, 4, none⟩ = some (.slice (some ad) (Ev.fnOf p t).ops.length b.oc) := by rw [← hOA]; exact HN.out.fr.cell 4
    have c7 : W.cell? ⟨b.F, 7, none⟩ = some (.int .i64 (s.at_ : Int)) := HN.out.fr.cell 7
    have j0 : (0 : Int) ≤ (s.at_ : Int) := by omega
    have j1 : (s.at_ : Int) < ((Ev.fnOf p t).ops.length : Int) := by omega
    obtain ⟨L, hL⟩ : ∃ L, L = (Ev.fnOf p t).ops.length := ⟨_, rfl⟩
    rw [← hL] at c4 j1
    have g0a := fun o => Ev.cell_alloc o g0
    have g1a := fun o => Ev.cell_alloc o g1
    have g2a := fun o => Ev.cell_alloc o g2
    have g3a := fun o => Ev.cell_alloc o g3
    have g4a := fun o => Ev.cell_alloc o g4
    have c4a := fun o => Ev.cell_alloc o c4
    have c7a := fun o => Ev.cell_alloc o c7
    clear h0 hat hL1 hop hOA hoe hL
    go_upto_region 3 with fail
    go_region
    obtain ⟨W2, hW2⟩ : ∃ X, X = (W.alloc (.cells #[.int .u8 (o.k : Int), .int .i64 o.d, .int .i64 o.a, .int .i64 o.b, .int .i64 o.n] 72)).drew := ⟨_, rfl⟩
    have hb2 : Below W.heap.size W W2 := by rw [hW2]; exact (Cd.fn1 _ _ _).drew
    have hO2 : W2.heap[W.heap.size]? = some (.cells #[.int .u8 (o.k : Int), .int .i64 o.d, .int .i64 o.a, .int .i64 o.b, .int .i64 o.n] 72 (0, 0)) := by rw [hW2]; exact heap_alloc_new W _
    have hn2 := HN.out.below hb2
    have HKO2 := Lib.hid (HN.out.fr.lt W.heap.size (Nat.le_refl _))
    have HB2 := Lib.hid hb2
    clear g0 g1 g2 g3 g4 c4 c7 g0a g1a g2a g3a g4a c4a c7a j0 j1 c8
    go_upto_region 4 with fail
    rw [← hW2]
    clear hW2
    obtain ⟨O, hOe⟩ : ∃ O, O = W.heap.size := ⟨_, rfl⟩
    rw [← hOe] at hO2 HKO2 ⊢
    clear hOe
    have c8 : W2.cell? ⟨b.F, 8, none⟩ = some (.int .i64 (s.left : Int)) := hn2.fr.cell 8
    have f8 := hn2.fr.fro 8
    obtain ⟨n3, m3⟩ := hn2.setF { s with left := L1 } 8 (.int .i64 (L1 : Int)) rfl rfl rfl
    obtain ⟨W3, hW3⟩ : ∃ X, X = W2.setCell ⟨b.F, 8, none⟩ (.int .i64 (L1 : Int)) := ⟨_, rfl⟩
    rw [← hW3] at n3 m3
    have c7 : W3.cell? ⟨b.F, 7, none⟩ = some (.int .i64 (s.at_ : Int)) := n3.fr.cell 7
    have f7 := n3.fr.fro 7
    obtain ⟨n4, m4⟩ := n3.setF { s with left := L1, at_ := s.at_ + 1 } 7 (.int .i64 ((s.at_ : Int) + 1)) rfl rfl rfl
    obtain ⟨W4, hW4⟩ : ∃ X, X = W3.setCell ⟨b.F, 7, none⟩ (.int .i64 ((s.at_ : Int) + 1)) := ⟨_, rfl⟩
    rw [← hW4] at n4 m4
    have HM4 : Hid (Gm.Mvg (Vm.KOff b) (Vm.KOff b) W W4) := (Gm.Mvg.of_below HB2.out).trans (m3.trans m4)
    have hO4 := ((m3.trans m4).block O (Cd.ltH hO2) HKO2.out).trans hO2
    have HZ4 := Lib.hid (HZ.out.mv HM4.out HKO.out)
    rw [← HPD.out] at n4
    have HCA := Lib.hid (vdo n4 HPO.out HGO.out HGZ.out HE.out (HE.out.regs HPO.out.regs))
    have o0 : W4.cell? ⟨O, 0, none⟩ = some (.int .u8 (o.k : Int)) := cell_of_row _ _ 0 _ _ _ hO4
    have o1 : W4.cell? ⟨O, 1, none⟩ = some (.int .i64 o.d) := cell_of_row _ _ 1 _ _ _ hO4
    have o2 : W4.cell? ⟨O, 2, none⟩ = some (.int .i64 o.a) := cell_of_row _ _ 2 _ _ _ hO4
    have o3 : W4.cell? ⟨O, 3, none⟩ = some (.int .i64 o.b) := cell_of_row _ _ 3 _ _ _ hO4
    have o4 : W4.cell? ⟨O, 4, none⟩ = some (.int .i64 o.n) := cell_of_row _ _ 4 _ _ _ hO4
    clear hb2 hO2 hn2 n3 m3 n4 m4 hO4
    go_upto_region 5 with fail
    rw [← hW3]
    clear hW3 c8 f8
    go_upto_region 6 with fail
    rw [← hW4]
    clear hW4 c7 f7 hlw haw
    go_wp2_with fail
    refine HCA.out.mono ?_
    rintro e w4 ⟨b', kk, pa, fn, A, n', c', fu, va, er, rfl, hoo⟩
    have hZ4 := HZ4.out.mv hoo.out.2.2.1 HKO.out
    have HRW := Lib.hid (hZ4.ret (.int .u8 kk) (.string pa) (.int .i64 fn) (.slice A n' c') (.int .i64 fu) (.int .i64 va) (.int .i64 er))
    have HFIN : Hid (Vm.OutP K b p t (Vm.stepF p t s) w (.returned (.agg #[.int .u8 kk, .string pa, .int .i64 fn, .slice A n' c', .int .i64 fu, .int .i64 va, .int .i64 er])) (Vm.set7 w4 Y (.int .u8 kk) (.string pa) (.int .i64 fn) (.slice A n' c') (.int .i64 fu) (.int .i64 va) (.int .i64 er))) := by
      show Vm.OutP _ _ _ _ _ _ _ _
      rw [HEQ.out]
      exact Vm.OutP.ret HKF.out HYS.out ((Gm.Mvg.of_below HB.out).trans HM4.out) hoo.out _ _ _ _ _ _ _
    obtain ⟨⟨y0, y1, y2, y3, y4, y5, y6⟩, yf0, yf1, yf2, yf3, yf4, yf5, yf6⟩ := hZ4.all
    clear hZ4 HCA o0 o1 o2 o3 o4
    go_wp2_with fail
    refine bodyPost_ret (v := .agg #[.int .u8 kk, .string pa, .int .i64 fn, .slice A n' c', .int .i64 fu, .int .i64 va, .int .i64 er]) (results_cell_row Tryz.results67 _ _ Y 59 #[.int .u8 kk, .string pa, .int .i64 fn, .slice A n' c', .int .i64 fu, .int .i64 va, .int .i64 er] (0, 0) _ rfl HRW.out Tryz.underlying59 rfl HI.out) rfl ?_
    exact HFIN.out
end Go.Proofs.YtnlhacgihmelhaaGreatDoor
end

section
namespace Go.Proofs.YtnlhacgihmelhaaGreatDoor
open Go.RowKit

namespace Vm
open Cd Ev
def isMore : Stp → Bool
  | .more => true
  | _ => false
theorem more_of {x : Stp} (h : isMore x = true) : x = .more := by cases x <;> first | rfl | cases h
theorem go_stop (p : List FnV) (t : Tsk) (n : Nat) (x : Stp × Fs) (h : isMore x.1 = false) : goF p t n x = x := by
  obtain ⟨y, s⟩ := x
  cases n with
  | zero => cases y <;> rfl
  | succ n => cases y <;> first | rfl | cases h
theorem go_zero (p : List FnV) (t : Tsk) (x : Stp × Fs) : goF p t 0 x = x := by obtain ⟨y, s⟩ := x; cases y <;> rfl
theorem go_more (p : List FnV) (t : Tsk) (n : Nat) (s : Fs) : goF p t (n + 1) (.more, s) = goF p t n (stepF p t s) := rfl
theorem go_add (p : List FnV) (t : Tsk) : ∀ (n m : Nat) (x : Stp × Fs), goF p t (n + m) x = goF p t m (goF p t n x) := by
  intro n
  induction n with
  | zero => intro m x; rw [Nat.zero_add, go_zero]
  | succ n ih =>
    intro m x
    by_cases h : isMore x.1 = true
    · obtain ⟨y, s⟩ := x
      obtain rfl := more_of h
      rw [show n + 1 + m = (n + m) + 1 by omega, go_more, go_more, ih]
    · have h' : isMore x.1 = false := by simpa using h
      rw [go_stop p t _ x h', go_stop p t _ x h', go_stop p t _ x h']
theorem join_left (o : OpV) (s : Fs) : (join o s).2.left = s.left := by
  unfold join
  split
  · rfl
  · split
    · rfl
    · split <;> rfl
/-- An op costs one at least. -/
theorem step_left {p : List FnV} {t : Tsk} {s : Fs} (h : isMore (stepF p t s).1 = true) : (stepF p t s).2.left + 1 ≤ s.left := by
  unfold stepF at h ⊢
  split at h
  · cases h
  · rename_i h0
    rw [if_neg h0]
    unfold doF at h ⊢
    split at h
    · rename_i h1
      rw [if_pos h1]
      unfold fork at h
      split at h
      · cases h
      · split at h <;> cases h
    · rename_i h1
      rw [if_neg h1]
      split at h
      · rename_i h2
        rw [if_pos h2, join_left]
        show s.left - 1 + 1 ≤ _
        omega
      · rename_i h2
        rw [if_neg h2]
        unfold plainF at h ⊢
        split at h
        · cases h
        · show s.left - 1 + 1 ≤ _
          omega
theorem go_left (p : List FnV) (t : Tsk) : ∀ (n : Nat) (x : Stp × Fs), isMore (goF p t n x).1 = true → (goF p t n x).2.left + n ≤ x.2.left := by
  intro n
  induction n with
  | zero => intro x h; rw [go_zero]; exact Nat.le_refl _
  | succ n ih =>
    intro x h
    by_cases hx : isMore x.1 = true
    · obtain ⟨y, s⟩ := x
      obtain rfl := more_of hx
      rw [go_more] at h ⊢
      have h1 := ih _ h
      have h2 : isMore (stepF p t s).1 = true := by
        apply Classical.byContradiction
        intro hn
        have hn' : isMore (stepF p t s).1 = false := by simpa using hn
        rw [go_stop p t n _ hn', hn'] at h
        cases h
      have h3 := step_left h2
      show _ ≤ s.left
      omega
    · have hx' : isMore x.1 = false := by simpa using hx
      rw [go_stop p t _ x hx', hx'] at h
      cases h
/-- What runF does, one way or the other. -/
theorem run_go (p : List FnV) (t : Tsk) (s : Fs) : (∃ r, s.over = true ∧ ∀ n, runF p t n s = (.done r, s)) ∨ ∃ x : Stp × Fs, x.2.left = s.left ∧ (∀ n, runF p t n s = goF p t n x) ∧ (isMore x.1 = true → x.2.over = false ∧ x.2.waits = false) := by
  by_cases ho : s.over = true
  · exact .inl ⟨s.came, ho, fun n => by unfold runF; rw [if_pos ho]⟩
  · have ho' : s.over = false := by simpa using ho
    by_cases hw : s.waits = true
    · exact .inr ⟨join (opF p t (s.at_ - 1)) s, join_left _ _, fun n => by unfold runF; rw [if_neg ho, if_pos hw], fun h => join_more ho' (more_of h)⟩
    · have hw' : s.waits = false := by simpa using hw
      exact .inr ⟨(.more, s), rfl, fun n => by unfold runF; rw [if_neg ho, if_neg hw], fun _ => ⟨ho', hw'⟩⟩
theorem go_flags {p : List FnV} {t : Tsk} : ∀ (n : Nat) (x : Stp × Fs), (isMore x.1 = true → x.2.over = false ∧ x.2.waits = false) → isMore (goF p t n x).1 = true → (goF p t n x).2.over = false ∧ (goF p t n x).2.waits = false := by
  intro n
  induction n with
  | zero => intro x h hm; rw [go_zero] at hm ⊢; exact h hm
  | succ n ih =>
    intro x h hm
    by_cases hx : isMore x.1 = true
    · obtain ⟨h1, h2⟩ := h hx
      obtain ⟨y, s⟩ := x
      obtain rfl := more_of hx
      rw [go_more] at hm ⊢
      exact ih _ (fun hs => step_more h1 h2 (more_of hs)) hm
    · have hx' : isMore x.1 = false := by simpa using hx
      rw [go_stop p t _ x hx', hx'] at hm
      cases hm
/-- One piece behind the other is one. -/
theorem run_add (p : List FnV) (t : Tsk) (n m : Nat) (s : Fs) (h : isMore (runF p t n s).1 = true) : runF p t m (runF p t n s).2 = runF p t (n + m) s ∧ (runF p t n s).2.left + n ≤ s.left := by
  rcases run_go p t s with ⟨r, _, h1⟩ | ⟨x, hl, h1, hx⟩
  · rw [h1] at h
    cases h
  · rw [h1] at h ⊢
    obtain ⟨f1, f2⟩ := go_flags n x hx h
    refine ⟨?_, by rw [← hl]; exact go_left p t n x h⟩
    rw [h1, go_add]
    have e : goF p t n x = (.more, (goF p t n x).2) := by rw [← more_of h]
    conv => rhs; rw [e]
    unfold runF
    rw [f1, f2]
    rfl
/-- What stops goes no further. -/
theorem run_stop (p : List FnV) (t : Tsk) (n m : Nat) (s : Fs) (h : isMore (runF p t n s).1 = false) : runF p t (n + m) s = runF p t n s := by
  rcases run_go p t s with ⟨r, _, h1⟩ | ⟨x, hl, h1, hx⟩
  · rw [h1, h1]
  · rw [h1] at h
    rw [h1, h1, go_add, go_stop p t m _ h]
theorem run_far (p : List FnV) (t : Tsk) (n : Nat) (s : Fs) (h : s.left < n) : isMore (runF p t n s).1 = false := by
  apply Classical.byContradiction
  intro hn
  have hn' : isMore (runF p t n s).1 = true := by simpa using hn
  have := (run_add p t n 0 s hn').2
  omega
theorem run_two (p : List FnV) (t : Tsk) (n m : Nat) (s : Fs) (h1 : isMore (runF p t n s).1 = false) (h2 : isMore (runF p t m s).1 = false) : runF p t n s = runF p t m s := by
  rcases Nat.le_total n m with h | h
  · obtain ⟨k, rfl⟩ := Nat.exists_eq_add_of_le h
    exact (run_stop p t n k s h1).symm
  · obtain ⟨k, rfl⟩ := Nat.exists_eq_add_of_le h
    exact run_stop p t m k s h2
theorem giveE_last {s : Fs} {ks : List Kd} {k : Kd} (h : s.kids = ks ++ [k]) (hg : k.given = false) (ho : s.over = false) : giveE s (s.kids.length : Int) = 0 := by
  have hl : s.kids.length = ks.length + 1 := by rw [h, List.length_append, List.length_singleton]
  unfold giveE
  rw [if_neg (by omega), h]
  have e : ((((ks ++ [k]).length : Nat) : Int) - 1).toNat = ks.length := by rw [List.length_append, List.length_singleton]; omega
  rw [e, List.getElem?_append_right (Nat.le_refl _), Nat.sub_self]
  simp only [List.getElem?_cons_zero, Option.map_some, Option.getD_some]
  rw [if_neg (by rw [hg]; decide), if_neg (by rw [ho]; decide)]
/-- What forked has one more child, the last one, that was not given. -/
theorem fork_last {p : List FnV} {t : Tsk} {s : Fs} {c : Tsk} (ho : s.over = false) (h : (stepF p t s).1 = .fork c) : (∃ ks k, (stepF p t s).2.kids = ks ++ [k] ∧ k.given = false) ∧ (stepF p t s).2.over = false := by
  unfold stepF at h ⊢
  split at h
  · cases h
  · rename_i h0
    rw [if_neg h0]
    unfold doF at h ⊢
    split at h
    · rename_i h1
      rw [if_pos h1]
      unfold fork at h ⊢
      split at h
      · cases h
      · rename_i h2
        rw [if_neg h2]
        split at h
        · cases h
        · rename_i h3
          rw [if_neg h3]
          exact ⟨⟨_, _, rfl, rfl⟩, ho⟩
    · split at h
      · unfold join at h
        split at h
        · cases h
        · split at h
          · cases h
          · split at h <;> cases h
      · unfold plainF at h
        split at h <;> cases h
theorem go_fork {p : List FnV} {t : Tsk} {c : Tsk} : ∀ (n : Nat) (s : Fs), s.over = false → s.waits = false → (goF p t n (.more, s)).1 = .fork c → (∃ ks k, (goF p t n (.more, s)).2.kids = ks ++ [k] ∧ k.given = false) ∧ (goF p t n (.more, s)).2.over = false := by
  intro n
  induction n with
  | zero => intro s _ _ h; rw [go_zero] at h; cases h
  | succ n ih =>
    intro s ho hw h
    rw [go_more] at h ⊢
    by_cases hm : isMore (stepF p t s).1 = true
    · obtain ⟨f1, f2⟩ := step_more ho hw (more_of hm)
      have e : stepF p t s = (.more, (stepF p t s).2) := by rw [← more_of hm]
      rw [e] at h ⊢
      exact ih _ f1 f2 h
    · have hm' : isMore (stepF p t s).1 = false := by simpa using hm
      rw [go_stop p t n _ hm'] at h ⊢
      exact fork_last ho h
theorem run_fork {p : List FnV} {t : Tsk} {c : Tsk} {n : Nat} {s : Fs} (h : (runF p t n s).1 = .fork c) : (∃ ks k, (runF p t n s).2.kids = ks ++ [k] ∧ k.given = false) ∧ (runF p t n s).2.over = false := by
  rcases run_go p t s with ⟨r, _, h1⟩ | ⟨x, hl, h1, hx⟩
  · rw [h1] at h
    cases h
  · rw [h1] at h ⊢
    by_cases hm : isMore x.1 = true
    · obtain ⟨f1, f2⟩ := hx hm
      obtain ⟨y, s'⟩ := x
      obtain rfl := more_of hm
      exact go_fork n s' f1 f2 h
    · have hm' : isMore x.1 = false := by simpa using hm
      rw [go_stop p t n _ hm'] at h ⊢
      -- a join never forks
      exfalso
      have h2 := h1 0
      rw [go_zero] at h2
      rw [← h2] at h
      unfold runF at h
      split at h
      · cases h
      · split at h
        · rw [go_zero] at h
          unfold join at h
          split at h
          · cases h
          · split at h
            · cases h
            · split at h <;> cases h
        · rw [go_zero] at h
          cases h
end Vm
end Go.Proofs.YtnlhacgihmelhaaGreatDoor
end

section
namespace Go.Proofs.YtnlhacgihmelhaaGreatDoor
open Go.RowKit

namespace Vm
open Cd Ev
/-- A run under way: what is told so far, in a block S of its own, m ops ahead of its end. -/
structure RunL (K : Nat → Prop) (b : Bk) (p : List FnV) (t : Tsk) (Y S : Nat) (w : World) (R : Stp × Fs) (m : Nat) (x : Stp × Fs) (b' : Bk) (k : Int) (pa : ByteArray) (fn : Int) (A : Option Addr) (n c : Nat) (fu va er : Int) (wr : World) : Prop where
  res : goF p t m x = R
  ok : FOk p t x.2
  told : stpV x.1 = (k, pa, fn, n, fu, va, er)
  row : wr.heap[S]? = some (.cells #[.int .u8 k, .string pa, .int .i64 fn, .slice A n c, .int .i64 fu, .int .i64 va, .int .i64 er] 59 (0, 0))
  zb : ZB Y wr
  has : Hf (fun i => (K i ∧ i ≠ Y) ∧ i ≠ S) b' p t x.2 wr
  mv : Gm.Mvg (KOff b) (KOff b') w wr
  bF : b'.F = b.F
  args : LOk (fun i => (KOff b' i ∧ ((K i ∧ i ≠ Y) ∧ i ≠ S)) ∧ w.heap.size ≤ i) wr A (icells (kargs x.1))
  yo : KOff b' Y
  so : KOff b' S
  yw : w.heap.size ≤ Y
  sw : w.heap.size ≤ S
  ys : S ≠ Y
section
variable {K : Nat → Prop} {b : Bk} {p : List FnV} {t : Tsk} {Y S : Nat} {w : World} {R : Stp × Fs} {m : Nat} {x : Stp × Fs} {b' : Bk} {k : Int} {pa : ByteArray} {fn : Int} {A : Option Addr} {n c : Nat} {fu va er : Int} {wr : World}
/-- What a callee told at wr is kept in S. -/
theorem RunL.put {x' R' : Stp × Fs} {m' : Nat} (h : RunL K b p t Y S w R m x b' k pa fn A n c fu va er wr) {w' : World} {b2 : Bk} {k2 : Int} {pa2 : ByteArray} {fn2 : Int} {A2 : Option Addr} {n2 c2 : Nat} {fu2 va2 er2 : Int}
    (hr : goF p t m' x' = R') (hok : FOk p t x'.2)
    (ho : stpV x'.1 = (k2, pa2, fn2, n2, fu2, va2, er2) ∧ Hf (fun i => (K i ∧ i ≠ Y) ∧ i ≠ S) b2 p t x'.2 w' ∧ Gm.Mvg (KOff b') (KOff b2) wr w' ∧ b2.F = b'.F ∧ LOk (fun i => (KOff b2 i ∧ ((K i ∧ i ≠ Y) ∧ i ≠ S)) ∧ wr.heap.size ≤ i) w' A2 (icells (kargs x'.1))) :
    RunL K b p t Y S w R' m' x' b2 k2 pa2 fn2 A2 n2 c2 fu2 va2 er2 (set7 w' S (.int .u8 k2) (.string pa2) (.int .i64 fn2) (.slice A2 n2 c2) (.int .i64 fu2) (.int .i64 va2) (.int .i64 er2)) := by
  obtain ⟨h1, h2, h3, h4, h5⟩ := ho
  have hS := (h3.block S (ltH h.row) h.so).trans h.row
  have hY := h.zb.mv h3 h.yo
  have mS : Gm.Mvg (fun i => (K i ∧ i ≠ Y) ∧ i ≠ S) (fun i => (K i ∧ i ≠ Y) ∧ i ≠ S) w' (set7 w' S (.int .u8 k2) (.string pa2) (.int .i64 fn2) (.slice A2 n2 c2) (.int .i64 fu2) (.int .i64 va2) (.int .i64 er2)) := set7_mv (Gm.Mvg.refl _ _) (fun i _ ho => ho.2) _ _ _ _ _ _ _
  have mA : Gm.Mvg (fun i => (KOff b2 i ∧ ((K i ∧ i ≠ Y) ∧ i ≠ S)) ∧ wr.heap.size ≤ i) (fun i => (KOff b2 i ∧ ((K i ∧ i ≠ Y) ∧ i ≠ S)) ∧ wr.heap.size ≤ i) w' (set7 w' S (.int .u8 k2) (.string pa2) (.int .i64 fn2) (.slice A2 n2 c2) (.int .i64 fu2) (.int .i64 va2) (.int .i64 er2)) := set7_mv (Gm.Mvg.refl _ _) (fun i _ ho => ho.1.2.2) _ _ _ _ _ _ _
  refine ⟨hr, hok, h1, set7_heap hS, ⟨(set7_other _ _ _ _ _ _ _ (fun e => h.ys e.symm)).trans hY.row⟩, h2.mv mS fun i hi => h2.fresh i (by rw [set7_size] at hi; exact hi), set7_mv (h.mv.trans h3) (fun i hi _ => by have := h.sw; omega) _ _ _ _ _ _ _, h4.trans h.bF, ?_, h3.keep _ h.zb.lt h.yo, h3.keep _ (ltH h.row) h.so, h.yw, h.sw, h.ys⟩
  exact (h5.mv mA).imp fun i _ ho => ⟨ho.1, Nat.le_trans h.mv.size ho.2⟩
/-- Told at last, in Y. -/
theorem RunL.fin (h : RunL K b p t Y S w R 0 x b' k pa fn A n c fu va er wr) (hK : ∀ i, w.heap.size ≤ i → K i) :
    OutP K b p t R w (.returned (.agg #[.int .u8 k, .string pa, .int .i64 fn, .slice A n c, .int .i64 fu, .int .i64 va, .int .i64 er])) (set7 wr Y (.int .u8 k) (.string pa) (.int .i64 fn) (.slice A n c) (.int .i64 fu) (.int .i64 va) (.int .i64 er)) := by
  have e : x = R := by rw [← h.res, go_zero]
  subst e
  have mY : Gm.Mvg (fun i => (K i ∧ i ≠ Y) ∧ i ≠ S) K wr (set7 wr Y (.int .u8 k) (.string pa) (.int .i64 fn) (.slice A n c) (.int .i64 fu) (.int .i64 va) (.int .i64 er)) := (set7_mv (Gm.Mvg.refl _ _) (fun i _ (ho : (K i ∧ i ≠ Y) ∧ i ≠ S) => ho.1.2) _ _ _ _ _ _ _).trans (mvg_imp fun i _ ho => ho.1.1)
  have mA : Gm.Mvg (fun i => (KOff b' i ∧ ((K i ∧ i ≠ Y) ∧ i ≠ S)) ∧ w.heap.size ≤ i) (fun i => (KOff b' i ∧ ((K i ∧ i ≠ Y) ∧ i ≠ S)) ∧ w.heap.size ≤ i) wr (set7 wr Y (.int .u8 k) (.string pa) (.int .i64 fn) (.slice A n c) (.int .i64 fu) (.int .i64 va) (.int .i64 er)) := set7_mv (Gm.Mvg.refl _ _) (fun i _ ho => ho.1.2.1.2) _ _ _ _ _ _ _
  refine ⟨b', k, pa, fn, A, n, c, fu, va, er, rfl, h.told, h.has.mv mY fun i hi => hK i (Nat.le_trans h.mv.size (by rw [set7_size] at hi; exact hi)), set7_mv h.mv (fun i hi _ => by have := h.yw; omega) _ _ _ _ _ _ _, h.bF, ?_⟩
  exact (h.args.mv mA).imp fun i _ ho => ⟨⟨ho.1.1, ho.1.2.1.1⟩, ho.2⟩
theorem stp_one {x : Stp} {k : Int} {r : ByteArray × Int × Nat × Int × Int × Int} (h : stpV x = (k, r)) : (k == 1) = isMore x := by
  cases x <;> (cases h; rfl)
end
end Vm

set_option maxHeartbeats 2000000 in
set_option maxRecDepth 20000 in
theorem vrun {K : Nat → Prop} {b : Vm.Bk} {p : List Cd.FnV} {t : Ev.Tsk} {s : Vm.Fs} {w : World} (h : Vm.Hf K b p t s w) (he : Vm.PE p t) (hok : Vm.FOk p t s) (n : Nat) (hn : (n : Int) ≤ 9223372036854775807) :
    Calls Tryz.prog 47 #[.pointer (some ⟨b.F, 0, none⟩), .int .i64 (n : Int)] w (Vm.OutP K b p t (Vm.runF p t n s) w) := by
  obtain ⟨W, hW⟩ : ∃ W, W = w.alloc (.cells #[.int .u8 0, .string ⟨#[]⟩, .int .i64 0, .slice none 0 0, .int .i64 0, .int .i64 0, .int .i64 0] 59) := ⟨_, rfl⟩
  have hb : Below w.heap.size w W := by rw [hW]; exact Cd.fn1 _ _ _
  have hZ : Vm.ZB w.heap.size W := ⟨by rw [hW]; exact heap_alloc_new w _⟩
  have hN : Vm.Hf (fun i => K i ∧ i ≠ w.heap.size) b p t s W := by rw [hW]; exact h.at_new _
  have HZ := Lib.hid hZ
  have HB := Lib.hid hb
  have HN := Lib.hid hN
  have HKF := Lib.hid h.fresh
  have HKO := Lib.hid (h.fr.lt w.heap.size (Nat.le_refl _))
  have HI : Hid ((Tryz.prog.info? 59).map (·.size) = some 7) := Vm.stp_size
  have HE := Lib.hid he
  have HK := Lib.hid hok
  have HNN := Lib.hid hn
  clear hb hZ hN h he hok hn
  go_enter Tryz.func47, Tryz.ntmps47
  go_upto_region 1 with fail
  rw [← hW]
  clear hW
  obtain ⟨Y, hYe⟩ : ∃ Y, Y = w.heap.size := ⟨_, rfl⟩
  rw [← hYe] at HZ HKO HN ⊢
  have HYS : Hid (w.heap.size ≤ Y) := by show _ ≤ _; omega
  clear hYe
  go_wp2_with fail
  refine (vmore _).mono ?_
  rintro e w1 ⟨rfl, hb1⟩
  obtain ⟨W2, hW2⟩ : ∃ X, X = w1.alloc (.cells #[.int .u8 1, .string ⟨#[]⟩, .int .i64 0, .slice none 0 0, .int .i64 0, .int .i64 0, .int .i64 0] 59) := ⟨_, rfl⟩
  have hb2 : Below w1.heap.size w1 W2 := by rw [hW2]; exact Cd.fn1 _ _ _
  have hb12 : Below W.heap.size W W2 := hb1.trans (hb2.mono hb1.size)
  have hS : W2.heap[w1.heap.size]? = some (.cells #[.int .u8 1, .string ⟨#[]⟩, .int .i64 0, .slice none 0 0, .int .i64 0, .int .i64 0, .int .i64 0] 59 (0, 0)) := by rw [hW2]; exact heap_alloc_new w1 _
  have hN2 : Vm.Hf (fun i => (K i ∧ i ≠ Y) ∧ i ≠ w1.heap.size) b p t s W2 := by rw [hW2]; exact (HN.out.below hb1).at_new _
  have hys : w1.heap.size ≠ Y := by have h1 := HZ.out.lt; have h2 := hb1.size; omega
  have hso : Vm.KOff b w1.heap.size := HN.out.fr.lt _ hb1.size
  have hsw : w.heap.size ≤ w1.heap.size := Nat.le_trans HB.out.size hb1.size
  obtain ⟨S, hSe⟩ : ∃ S, S = w1.heap.size := ⟨_, rfl⟩
  have HL0 : Hid (∀ R m x, Vm.goF p t m x = R → Vm.FOk p t x.2 → x = (Vm.Stp.more, s) → Vm.RunL K b p t Y S w R m x b 1 ⟨#[]⟩ 0 none 0 0 0 0 0 W2) := fun R m x h1 h2 h4 => by
    subst h4
    rw [← hSe] at hS hN2 hys hso hsw
    exact ⟨h1, h2, rfl, hS, HZ.out.below hb12, hN2, (Gm.Mvg.of_below HB.out).trans (Gm.Mvg.of_below hb12), rfl, Vm.LOk.nil _ _ _, HKO.out, hso, HYS.out, hsw, hys⟩
  have c12 : W2.cell? ⟨b.F, 12, none⟩ = some (.bool s.over) := hN2.fr.cell 12
  have c11 : W2.cell? ⟨b.F, 11, none⟩ = some (.bool s.waits) := hN2.fr.cell 11
  rw [← hSe] at hS hN2 hso
  have HN2 := Lib.hid hN2
  have HS := Lib.hid hS
  have HSO := Lib.hid hso
  have HZ2 := Lib.hid (HZ.out.below hb12)
  have HM2 : Hid (Gm.Mvg (Vm.KOff b) (Vm.KOff b) w W2) := (Gm.Mvg.of_below HB.out).trans (Gm.Mvg.of_below hb12)
  clear hb1 hb2 hb12 hS hN2 hys hso hsw
  go_upto_block 0 with fail
  rw [← hW2, ← hSe]
  clear hW2 hSe HN
  cases hov : s.over with
  | true =>
    rw [hov] at c12
    have HEQ : Hid (Vm.runF p t n s = (.done s.came, s)) := by show _ = _; unfold Vm.runF; rw [if_pos hov]
    have HDN := Lib.hid (vdone HN2.out)
    clear hov c11
    go_wp2_with fail
    refine HDN.out.mono ?_
    rintro e w4 ⟨rfl, hb4⟩
    have hZ4 := HZ2.out.below hb4
    have HRW := Lib.hid (hZ4.ret (.int .u8 4) (.string ⟨#[]⟩) (.int .i64 0) (.slice none 0 0) (.int .i64 0) (.int .i64 s.came.val) (.int .i64 s.came.err))
    have HFIN : Hid (Vm.OutP K b p t (Vm.runF p t n s) w (.returned (.agg #[.int .u8 4, .string ⟨#[]⟩, .int .i64 0, .slice none 0 0, .int .i64 0, .int .i64 s.came.val, .int .i64 s.came.err])) (Vm.set7 w4 Y (.int .u8 4) (.string ⟨#[]⟩) (.int .i64 0) (.slice none 0 0) (.int .i64 0) (.int .i64 s.came.val) (.int .i64 s.came.err))) := by
      show Vm.OutP _ _ _ _ _ _ _ _
      rw [HEQ.out]
      have hn4 := (HN2.out.below hb4).mv (K' := fun i => K i ∧ i ≠ Y) (Ev.mvg_imp fun i _ ho => ho.1) (fun i hi => ((HN2.out.below hb4).fresh i hi).1)
      exact Vm.OutP.ret (x := (.done s.came, s)) HKF.out HYS.out HM2.out ⟨rfl, hn4, Gm.Mvg.of_below hb4, rfl, Vm.LOk.nil _ _ _⟩ _ _ _ _ _ _ _
    obtain ⟨⟨y0, y1, y2, y3, y4, y5, y6⟩, yf0, yf1, yf2, yf3, yf4, yf5, yf6⟩ := hZ4.all
    clear hZ4 hb4 HDN HL0
    generalize s.came.val = va at HRW HFIN ⊢
    generalize s.came.err = er at HRW HFIN ⊢
    go_wp2_with fail
    refine bodyPost_ret (v := .agg #[.int .u8 4, .string ⟨#[]⟩, .int .i64 0, .slice none 0 0, .int .i64 0, .int .i64 va, .int .i64 er]) (results_cell_row Tryz.results47 _ _ Y 59 #[.int .u8 4, .string ⟨#[]⟩, .int .i64 0, .slice none 0 0, .int .i64 0, .int .i64 va, .int .i64 er] (0, 0) _ rfl HRW.out Tryz.underlying59 rfl HI.out) rfl ?_
    exact HFIN.out
  | false =>
    rw [hov] at c12
    go_cut [] (fun wx => ∃ x b' k pa fn A n' c fu va er, Hid (Vm.RunL K b p t Y S w (Vm.runF p t n s) n x b' k pa fn A n' c fu va er wx ∧ (x.1 = .more → x.2.over = false ∧ x.2.waits = false)))
    case first =>
      cases hwa : s.waits with
      | true =>
        rw [hwa] at c11
        obtain ⟨hp1, hp2⟩ := Vm.join_paid HK.out hov hwa
        have hi : s.at_ - 1 < (Ev.fnOf p t).ops.length := by have h1 := hp1.pos; have h2 := hp1.le; omega
        have HCA := Lib.hid (vjoin HN2.out hp1 hp2 (Vm.opF_good HE.out.tok HE.out.good hi).1 (HE.out.regs HK.out.regs) (HE.out.good _ HE.out.tok.mem).len)
        have HRE : Hid (Vm.goF p t n (Vm.join (Vm.opF p t (s.at_ - 1)) s) = Vm.runF p t n s) := by show _ = _; unfold Vm.runF; rw [if_neg (by rw [hov]; decide), if_pos hwa]
        have HJO := Lib.hid (Vm.join_ok hp1 hp2)
        have HJM := Lib.hid (fun h => Vm.join_more (o := Vm.opF p t (s.at_ - 1)) (s := s) hov h)
        have HL1 := Lib.hid (HL0.out _ 0 (.more, s) rfl HK.out rfl)
        clear hp1 hp2 hi hov hwa HL0
        go_wp2_with fail
        refine HCA.out.mono ?_
        rintro e w4 ⟨b', k, pa, fn, A, n', c, fu, va, er, rfl, hoo⟩
        have HNX := Lib.hid (HL1.out.put (c2 := c) HRE.out HJO.out hoo.out)
        have hS4 := (hoo.out.2.2.1.block S (Cd.ltH HS.out) HSO.out).trans HS.out
        have y0 : w4.cell? ⟨S, 0, none⟩ = some (.int .u8 1) := cell_of_row _ _ 0 _ _ _ hS4
        have y1 : w4.cell? ⟨S, 1, none⟩ = some (.string ⟨#[]⟩) := cell_of_row _ _ 1 _ _ _ hS4
        have y2 : w4.cell? ⟨S, 2, none⟩ = some (.int .i64 0) := cell_of_row _ _ 2 _ _ _ hS4
        have y3 : w4.cell? ⟨S, 3, none⟩ = some (.slice none 0 0) := cell_of_row _ _ 3 _ _ _ hS4
        have y4 : w4.cell? ⟨S, 4, none⟩ = some (.int .i64 0) := cell_of_row _ _ 4 _ _ _ hS4
        have y5 : w4.cell? ⟨S, 5, none⟩ = some (.int .i64 0) := cell_of_row _ _ 5 _ _ _ hS4
        have y6 : w4.cell? ⟨S, 6, none⟩ = some (.int .i64 0) := cell_of_row _ _ 6 _ _ _ hS4
        have yf0 := frozen_of_row _ _ 0 _ _ hS4
        have yf1 := frozen_of_row _ _ 1 _ _ hS4
        have yf2 := frozen_of_row _ _ 2 _ _ hS4
        have yf3 := frozen_of_row _ _ 3 _ _ hS4
        have yf4 := frozen_of_row _ _ 4 _ _ hS4
        have yf5 := frozen_of_row _ _ 5 _ _ hS4
        have yf6 := frozen_of_row _ _ 6 _ _ hS4
        clear hS4 HCA HL1
        go_wp2_with fail
        go_meet
        case rel => exact ⟨_, _, _, _, _, _, _, _, _, _, _, HNX.out, HJM.out⟩
      | false =>
        rw [hwa] at c11
        have HRE : Hid (Vm.goF p t n (.more, s) = Vm.runF p t n s) := by show _ = _; unfold Vm.runF; rw [if_neg (by rw [hov]; decide), if_neg (by rw [hwa]; decide)]
        have HNX := Lib.hid (HL0.out _ n (.more, s) HRE.out HK.out rfl)
        have HFL : Hid (s.over = false ∧ s.waits = false) := ⟨hov, hwa⟩
        clear hov hwa HL0
        go_wp2_with fail
        go_meet
        case rel => exact ⟨_, _, _, _, _, _, _, _, _, _, _, HNX.out, fun _ => HFL.out⟩
    case rest =>
      rename World => w5
      obtain ⟨x, b', k, pa, fn, A, n', c', fu, va, er, H5⟩ := hcut
      clear HL0 hov c11 c12 HN2 HS HSO HZ2 HM2
      go_wp2_with fail
      go_loopw [1] (fun s1 wr => ∃ (m : Nat), s1 = .int .i64 (m : Int) ∧ m ≤ n ∧ Hid (∃ x b' k pa fn A n' c fu va er, Vm.RunL K b p t Y S w (Vm.runF p t n s) m x b' k pa fn A n' c fu va er wr ∧ (x.1 = .more → x.2.over = false ∧ x.2.waits = false))) (fun s1 _ => (intOf s1).toNat)
      case atStart => exact ⟨n, rfl, Nat.le_refl _, _, _, _, _, _, _, _, _, _, _, _, H5.out⟩
      case round =>
        obtain ⟨m, rfl, hm, HX⟩ := hrel
        obtain ⟨x, b', k, pa, fn, A, n', c', fu, va, er, hX, hmo⟩ := HX.out
        have HX := Lib.hid hX
        have HMO := Lib.hid hmo
        have s0 : wr.cell? ⟨S, 0, none⟩ = some (.int .u8 k) := cell_of_row _ _ 0 _ _ _ hX.row
        have s1 : wr.cell? ⟨S, 1, none⟩ = some (.string pa) := cell_of_row _ _ 1 _ _ _ hX.row
        have s2 : wr.cell? ⟨S, 2, none⟩ = some (.int .i64 fn) := cell_of_row _ _ 2 _ _ _ hX.row
        have s3 : wr.cell? ⟨S, 3, none⟩ = some (.slice A n' c') := cell_of_row _ _ 3 _ _ _ hX.row
        have s4 : wr.cell? ⟨S, 4, none⟩ = some (.int .i64 fu) := cell_of_row _ _ 4 _ _ _ hX.row
        have s5 : wr.cell? ⟨S, 5, none⟩ = some (.int .i64 va) := cell_of_row _ _ 5 _ _ _ hX.row
        have s6 : wr.cell? ⟨S, 6, none⟩ = some (.int .i64 er) := cell_of_row _ _ 6 _ _ _ hX.row
        have hk1 := Vm.stp_one hX.told
        by_cases hgo : 0 < m ∧ Vm.isMore x.1 = true
        · obtain ⟨m', hm'⟩ : ∃ m', m = m' + 1 := ⟨m - 1, by omega⟩
          have g1 : (0 : Int) < (m : Int) := by omega
          have g2 : 0 < m := hgo.1
          have g3 : IntKind.i64.wrap ((m : Int) - 1) = (m' : Int) := by rw [IntKind.wrap_i64]; have := HNN.out; omega
          rw [hgo.2] at hk1
          have hxm := Vm.more_of hgo.2
          have hfl := hmo hxm
          have hex : x = (.more, x.2) := by rw [← hxm]
          have HRE : Hid (Vm.goF p t m' (Vm.stepF p t x.2) = Vm.runF p t n s) := by
            have h1 := HX.out.res
            rw [hm', hex] at h1
            exact h1
          have HCA := Lib.hid (vstep HX.out.has HE.out HX.out.ok hfl.1 hfl.2)
          have HSO := Lib.hid (Vm.step_ok HE.out.tok HE.out.good HX.out.ok hfl.1 hfl.2)
          have HSM := Lib.hid (fun h => Vm.step_more (p := p) (t := t) (s := x.2) hfl.1 hfl.2 h)
          have HMM : Hid (m = m' + 1 ∧ m ≤ n) := ⟨hm', hm⟩
          rw [HX.out.bF] at HCA
          clear hgo hm' hxm hfl hex hX hmo HMO hm
          go_wp2_with fail
          refine HCA.out.mono ?_
          rintro e w4 ⟨b2, k2, pa2, fn2, A2, n2, c2, fu2, va2, er2, rfl, hoo⟩
          have HNX := Lib.hid (HX.out.put (c2 := c2) HRE.out HSO.out hoo.out)
          have hS4 := (hoo.out.2.2.1.block S (Cd.ltH HX.out.row) HX.out.so).trans HX.out.row
          have y0 : w4.cell? ⟨S, 0, none⟩ = some (.int .u8 k) := cell_of_row _ _ 0 _ _ _ hS4
          have y1 : w4.cell? ⟨S, 1, none⟩ = some (.string pa) := cell_of_row _ _ 1 _ _ _ hS4
          have y2 : w4.cell? ⟨S, 2, none⟩ = some (.int .i64 fn) := cell_of_row _ _ 2 _ _ _ hS4
          have y3 : w4.cell? ⟨S, 3, none⟩ = some (.slice A n' c') := cell_of_row _ _ 3 _ _ _ hS4
          have y4 : w4.cell? ⟨S, 4, none⟩ = some (.int .i64 fu) := cell_of_row _ _ 4 _ _ _ hS4
          have y5 : w4.cell? ⟨S, 5, none⟩ = some (.int .i64 va) := cell_of_row _ _ 5 _ _ _ hS4
          have y6 : w4.cell? ⟨S, 6, none⟩ = some (.int .i64 er) := cell_of_row _ _ 6 _ _ _ hS4
          have yf0 := frozen_of_row _ _ 0 _ _ hS4
          have yf1 := frozen_of_row _ _ 1 _ _ hS4
          have yf2 := frozen_of_row _ _ 2 _ _ hS4
          have yf3 := frozen_of_row _ _ 3 _ _ hS4
          have yf4 := frozen_of_row _ _ 4 _ _ hS4
          have yf5 := frozen_of_row _ _ 5 _ _ hS4
          have yf6 := frozen_of_row _ _ 6 _ _ hS4
          clear hS4 HCA HX s0 s1 s2 s3 s4 s5 s6 hk1
          go_wp2_with fail
          have hmm : m = m' + 1 ∧ m ≤ n := HMM.out
          go_roundw
          case rel => exact ⟨m', by go_num, by omega, _, _, _, _, _, _, _, _, _, _, _, HNX.out, HSM.out⟩
          case measure => simp [intOf]; omega
        · have HF : Hid (Vm.RunL K b p t Y S w (Vm.runF p t n s) 0 x b' k pa fn A n' c' fu va er wr) := by
            have hr : Vm.goF p t 0 x = Vm.runF p t n s := by
              rw [← hX.res, Vm.go_zero]
              by_cases h0 : m = 0
              · rw [h0, Vm.go_zero]
              · rw [Vm.go_stop p t m x (by
                  cases hx : Vm.isMore x.1 with
                  | false => rfl
                  | true => exact absurd ⟨by omega, hx⟩ hgo)]
            exact { hX with res := hr }
          have HRW := Lib.hid (hX.zb.ret (.int .u8 k) (.string pa) (.int .i64 fn) (.slice A n' c') (.int .i64 fu) (.int .i64 va) (.int .i64 er))
          have HFIN := Lib.hid (HF.out.fin HKF.out)
          obtain ⟨⟨y0, y1, y2, y3, y4, y5, y6⟩, yf0, yf1, yf2, yf3, yf4, yf5, yf6⟩ := hX.zb.all
          have hg0 : m = 0 ∨ (m ≠ 0 ∧ (k == 1) = false) := by
            by_cases h0 : m = 0
            · exact .inl h0
            · refine .inr ⟨h0, ?_⟩
              rw [hk1]
              cases hx : Vm.isMore x.1 with
              | false => rfl
              | true => exact absurd ⟨by omega, hx⟩ hgo
          clear hX hmo HMO hgo hk1 HF HX hm
          rcases hg0 with rfl | ⟨h0, hk0⟩
          · go_wp2_with fail
            refine bodyPost_ret (v := .agg #[.int .u8 k, .string pa, .int .i64 fn, .slice A n' c', .int .i64 fu, .int .i64 va, .int .i64 er]) (results_cell_row Tryz.results47 _ _ Y 59 #[.int .u8 k, .string pa, .int .i64 fn, .slice A n' c', .int .i64 fu, .int .i64 va, .int .i64 er] (0, 0) _ rfl HRW.out Tryz.underlying59 rfl HI.out) rfl ?_
            exact HFIN.out
          · have g1 : (0 : Int) < (m : Int) := by omega
            have g2 : 0 < m := by omega
            clear h0
            go_wp2_with fail
            refine bodyPost_ret (v := .agg #[.int .u8 k, .string pa, .int .i64 fn, .slice A n' c', .int .i64 fu, .int .i64 va, .int .i64 er]) (results_cell_row Tryz.results47 _ _ Y 59 #[.int .u8 k, .string pa, .int .i64 fn, .slice A n' c', .int .i64 fu, .int .i64 va, .int .i64 er] (0, 0) _ rfl HRW.out Tryz.underlying59 rfl HI.out) rfl ?_
            exact HFIN.out
end Go.Proofs.YtnlhacgihmelhaaGreatDoor
end
