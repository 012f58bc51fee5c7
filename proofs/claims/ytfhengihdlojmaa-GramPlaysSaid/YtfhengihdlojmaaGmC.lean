/-
  Rows of messages appended and cut; the document's gone.
-/
import Derived.Test.YtfhengihdlojmaaGmB
import Derived.Maps.AppendAt
import Derived.Laws.OwnMore
import Derived.Lib.AppendZeros
namespace Go.Proofs.Ytfhengihdlojmaa
open Go.RowKit

namespace Gm
theorem msg_info : (Try.prog.info? 41).map (fun i => (i.zero, i.size, i.bytes)) = some (some (.agg #[.int .u64 0, .int .i64 0, .int .i64 0, .string ⟨#[]⟩]), 4, 40) := by kernel_rfl
/-- Messages that lie somewhere are appended to a row of the call's own. -/
theorem append_msgs (w : World) (base : Nat) (v : Value) (n : Nat) (xs : List Value) (hown : w.ownsRow base 41 4 v n xs) (A : Option Addr) (m c : Nat) (news : List Value) (hl : news.length = m * 4)
    (hsrc : 0 < m → ∃ ad, A = some ad ∧ ∀ j u, news[j]? = some u → w.cell? (ad.add j) = some u) (h1 : ∀ u ∈ news, u.oneCell' = true) (hn : n + m ≤ 1000000) (hbase : base ≤ w.heap.size) (ty : TypeId) :
    ∃ v' w', (Builtin.append_ #[29, 29] ty #[v, .slice A m c]).run Try.prog w = .ok v' w' ∧ w'.ownsRow base 41 4 v' (n + m) (xs ++ news) ∧ w.grownBy w' v.ownBlock := by
  obtain ⟨i, hi, hz⟩ := Option.map_eq_some_iff.1 msg_info
  simp only [Prod.mk.injEq] at hz
  obtain ⟨z1, z2, z3⟩ := hz
  have hmax : n + m ≤ maxLen := by unfold maxLen; omega
  cases A with
  | some ad =>
    obtain ⟨v', w', a, b, d, _⟩ := run_append_own_at (P := Try.prog) w base 29 ty 41 i _ 4 40 Try.underlying29 hi z1 z2 z3 rfl (by omega) v n xs hown ad m c news hl (fun j u hu => by
      obtain ⟨ad', e, hc⟩ := hsrc (by have := (List.getElem?_eq_some_iff.1 hu).1; omega)
      cases e
      exact hc j u hu) h1 hmax (by omega) hbase
    exact ⟨v', w', a, b, d⟩
  | none =>
    have hm : m = 0 := by
      rcases Nat.eq_zero_or_pos m with h | h
      · exact h
      · obtain ⟨_, e, _⟩ := hsrc h
        cases e
    subst hm
    have hnil : news = [] := List.eq_nil_of_length_eq_zero (by omega)
    subst hnil
    refine ⟨v, w, ?_, by simpa using hown, ⟨rfl, rfl, rfl, Nat.le_refl _, fun _ _ _ => rfl⟩⟩
    rcases hown.2 with ⟨rfl, rfl⟩ | ⟨g, cap, cur, rfl, _, _, hnc, _⟩
    · simp [Builtin.append_, run_underlying (P := Try.prog) Try.underlying29, sizeOf, typeInfo, hi, Builtin.lenOf, Builtin.firstCells]
    · simp [Builtin.append_, run_underlying (P := Try.prog) Try.underlying29, sizeOf, typeInfo, hi, Builtin.lenOf, Builtin.firstCells, hnc, storeCells]
theorem mslice_front (A : Option Addr) (n c k : Nat) (hk : k ≤ c) (w : World) : (Instr.slice 29 (.slice A n c) none (some (.int .i64 (k : Int))) none).run Try.prog w = .ok (.slice A k c) w := by
  unfold Instr.slice Instr.sliceBounds Instr.sliceBound
  have h1 : (0 : Int) ≤ (k : Int) ∧ (k : Int) ≤ (c : Int) := by omega
  have h0 : Option.map (fun x : Addr => x.add 0) A = A := by cases A <;> rfl
  simp [go_sem, h1]
  intro h
  omega
/-- The rest of a slice. -/
def mrest (A : Option Addr) (c k : Nat) : Option Addr := if c = k then A else A.map fun x : Addr => x.add (k * 4)
theorem mslice_back (A : Option Addr) (n c k : Nat) (hk : k ≤ n) (w : World) : (Instr.slice 29 (.slice A n c) (some (.int .i64 (k : Int))) none none).run Try.prog w = .ok (.slice (mrest A c k) (n - k) (c - k)) w := by
  unfold Instr.slice Instr.sliceBounds Instr.sliceBound mrest
  have h1 : (0 : Int) ≤ (k : Int) ∧ (k : Int) ≤ (n : Int) := by omega
  simp [go_sem, h1]
  intro h
  omega
theorem msgs_one : ∀ (l : List Msg), ∀ u ∈ msgs l, u.oneCell' = true := by
  intro l u hu
  unfold msgs at hu
  obtain ⟨x, _, hx⟩ := List.mem_flatMap.1 hu
  simp only [Msg.cells, List.mem_cons, List.not_mem_nil, or_false] at hx
  rcases hx with rfl | rfl | rfl | rfl <;> rfl
theorem msgs_take (l : List Msg) (k : Nat) : msgs (l.take k) = (msgs l).take (4 * k) := by
  induction l generalizing k with
  | nil => simp [msgs]
  | cons x l ih =>
    cases k with
    | zero => simp [msgs]
    | succ k =>
      rw [List.take_succ_cons, msgs_cons, msgs_cons, ih, show 4 * (k + 1) = 4 * k + 4 by omega]
      rfl
theorem msgs_drop (l : List Msg) (k : Nat) : msgs (l.drop k) = (msgs l).drop (4 * k) := by
  induction l generalizing k with
  | nil => simp [msgs]
  | cons x l ih =>
    cases k with
    | zero => simp
    | succ k =>
      rw [List.drop_succ_cons, msgs_cons, ih, show 4 * (k + 1) = 4 * k + 4 by omega]
      rfl
theorem addAdd (a : Addr) (j k : Nat) : (a.add k).add j = a.add (k + j) := by
  unfold Addr.add
  by_cases hk : k = 0
  · subst hk; simp
  · rw [if_neg hk]
    by_cases hj : j = 0
    · subst hj; simp [hk]
    · rw [if_neg hj, if_neg (by omega)]
      simp [Nat.add_assoc]
theorem mappend_front {lo : Nat} (w1 : World) (b q : Nat) (A2 : Option Addr) (c2 : Nat) (out : List Msg) (hol : Lies w1 lo A2 (msgs out)) (hq : q ≤ out.length) (hlen : out.length ≤ 100000) (hb : b ≤ w1.heap.size) (ty : TypeId) :
    ∃ v' w2, (Builtin.append_ #[29, 29] ty #[.slice none 0 0, .slice A2 q c2]).run Try.prog w1 = .ok v' w2 ∧ w2.ownsRow b 41 4 v' q (msgs (out.take q)) ∧ Below b w1 w2 := by
  obtain ⟨v', w2, h1, h2, h3⟩ := append_msgs w1 b (.slice none 0 0) 0 [] (World.ownsRow_nil _ _ _ _) A2 q c2 (msgs (out.take q)) (by rw [msgs_len, List.length_take]; omega) (fun h0 => by
    obtain ⟨ad, e, _, hc⟩ := hol (by rw [msgs_len]; omega)
    refine ⟨ad, e, fun j u hu => hc j u ?_⟩
    rw [msgs_take, List.getElem?_take] at hu
    split at hu
    · exact hu
    · cases hu) (msgs_one _) (by omega) hb ty
  rw [Nat.zero_add, List.nil_append] at h2
  exact ⟨v', w2, h1, h2, (Below.refl b w1).grown h3 hb (by
    intro k hk
    rcases h2.2 with ⟨rfl, _⟩ | ⟨g, cap, cur, rfl, hg, _⟩
    · cases hk
    · have : g = k := by injection hk
      omega)⟩
theorem own_ge {w : World} {base n m : Nat} {v : Value} {T : TypeId} {xs : List Value} (h : w.ownsRow base T m v n xs) {g : Nat} (hg : v.ownBlock = some g) : base ≤ g := (h.lt g hg).1
/-- What stands at k and behind is appended. -/
theorem mappend_back {lo : Nat} (w1 : World) (b q k : Nat) (v : Value) (xs : List Value) (A2 : Option Addr) (c2 : Nat) (out : List Msg) (hv : w1.ownsRow b 41 4 v q xs) (hol : Lies w1 lo A2 (msgs out)) (hk : k ≤ out.length) (hq : q ≤ 100000) (hlen : out.length ≤ 100000) (hb : b ≤ w1.heap.size) (ty : TypeId) (hc : out.length ≤ c2) :
    ∃ v' w2, (Builtin.append_ #[29, 29] ty #[v, .slice (mrest A2 c2 k) (out.length - k) (c2 - k)]).run Try.prog w1 = .ok v' w2 ∧ w2.ownsRow b 41 4 v' (q + (out.length - k)) (xs ++ msgs (out.drop k)) ∧ Below b w1 w2 := by
  obtain ⟨v', w2, h1, h2, h3⟩ := append_msgs w1 b v q xs hv (mrest A2 c2 k) (out.length - k) (c2 - k) (msgs (out.drop k)) (by rw [msgs_len, List.length_drop]) (fun h0 => by
    obtain ⟨ad, e, _, hcl⟩ := hol (by rw [msgs_len]; omega)
    subst e
    refine ⟨ad.add (k * 4), by unfold mrest; rw [if_neg (by omega)]; rfl, fun j u hu => ?_⟩
    rw [addAdd]
    refine hcl _ u ?_
    rw [msgs_drop, List.getElem?_drop] at hu
    rwa [Nat.mul_comm k 4]) (msgs_one _) (by omega) hb ty
  exact ⟨v', w2, h1, h2, (Below.refl b w1).grown h3 hb (fun i hi => own_ge hv hi)⟩
end Gm

set_option maxRecDepth 20000 in
set_option maxHeartbeats 2000000 in
theorem ngone {R : Nat} {v vc : Value} {last : Int} {l : List Gm.Msg} {cs : List Gm.Wy} {w : World} (h : Gm.DNet R v vc last l cs w) (hl : l.length ≤ 100000) (i : Nat) (hi : i < l.length) :
    Calls Try.prog 33 #[.pointer (some ⟨R, 0, none⟩), .int .i64 (i : Int)] w fun e w' => e = .returned (.tuple #[]) ∧ ∃ v', Gm.DNet R v' vc last (l.eraseIdx i) cs w' ∧ Gm.Mvg (Gm.NOff R v vc) (Gm.NOff R v' vc) w w' := by
  have c1 := h.c1
  have hRl := Gm.ltHeap h.obj
  have H := Lib.hid h
  obtain ⟨A, n, rfl⟩ := Gm.own_form h.row
  have hli := Gm.own_liesM h.row
  have hcap : l.length ≤ n := by
    rcases h.row.2 with ⟨_, h0⟩ | ⟨g, cap, cur, e1, _, _, h3, _⟩
    · omega
    · injection e1 with _ _ e3
      omega
  obtain ⟨v1, w1, hr1, ho1, hb1⟩ := Gm.mappend_front w w.heap.size i A n l hli (by omega) hl (Nat.le_refl _) 29
  have h1 := h.below hb1
  have c1' := h1.c1
  obtain ⟨v2, w2, hr2, ho2, hb2⟩ := Gm.mappend_back w1 w.heap.size i (i + 1) v1 _ A n l ho1 (hli.below hb1) (by omega) (by omega) hl hb1.size 29 hcap
  have hbb : Below w.heap.size w w2 := hb1.trans hb2
  have h2 := h.below hbb
  have c1'' := h2.c1
  have f1'' := frozen_of_row _ _ 1 _ _ h2.obj
  have i0 : (0 : Int) ≤ (i : Int) := by omega
  have i1 : (i : Int) < l.length := by omega
  have hs1 := fun w => Gm.mslice_front A l.length n i (by omega) w
  have hs2 : ∀ w, (Instr.slice 29 (.slice A l.length n) (some (.int .i64 ((i : Int) + 1))) none none).run Try.prog w = .ok (.slice (Gm.mrest A n (i + 1)) (l.length - (i + 1)) (n - (i + 1))) w := fun w => by
    have := Gm.mslice_back A l.length n (i + 1) (by omega) w
    have e : ((i + 1 : Nat) : Int) = (i : Int) + 1 := by omega
    rwa [e] at this
  have HR1 := Lib.hid hr1
  have HR2 := Lib.hid hr2
  have HE : Hid (∃ v', Gm.DNet R v' vc last (l.eraseIdx i) cs (w2.setCell ⟨R, 1, none⟩ v2) ∧ Gm.Mvg (Gm.NOff R (.slice A l.length n) vc) (Gm.NOff R v' vc) w (w2.setCell ⟨R, 1, none⟩ v2)) := by
    have el : (l.eraseIdx i).length = i + (l.length - (i + 1)) := by rw [List.length_eraseIdx_of_lt hi]; omega
    have hge : ∀ g, v2.ownBlock = some g → w.heap.size ≤ g := fun g hg => Gm.own_ge ho2 hg
    refine ⟨v2, ⟨by rw [heap_setCell_same _ _ _ _ _ _ h2.obj]; rfl, ?_, ?_, fun e => ?_, h.nec, fun g hg e => ?_⟩, ?_⟩
    · rw [el, List.eraseIdx_eq_take_drop_succ, Gm.msgs_app]
      exact Gm.ownsKeep (Gm.ownsBase ho2) (fun g hg => Below.heap_setCell _ _ _ _ (by intro e; have := hge g hg; have e2 : g = R := e; omega))
    · exact Gm.ownsKeep h2.rowc (fun g hg => Below.heap_setCell _ _ _ _ (by intro e; exact h.nec (by rw [hg]; exact congrArg some e)))
    · have := hge R e
      omega
    · have := hge g hg
      have := (h.rowc.lt g e).2
      omega
    · refine ⟨hbb.os, hbb.tape, hbb.output, Nat.le_trans hbb.size (by simp [World.setCell]), fun g hg ho => ?_, fun g hg ho => ⟨ho.1, fun e => ?_, ho.2.2⟩⟩
      · rw [Below.heap_setCell _ _ _ _ (by intro e; exact ho.1 e)]
        exact hbb.block g hg
      · have := hge g e.symm
        omega
  obtain ⟨A2, n2, e2⟩ := Gm.own_form ho2
  generalize i + (l.length - (i + 1)) = N2 at e2
  subst e2
  clear hli hcap hr1 ho1 hb1 h1 hr2 ho2 hb2 hbb h2 h H
  go_enter Try.func33, Try.ntmps33
  go_wp2_with (first | (at_builtin; refine Lib.wpList_append_run _ rfl (.tmp 5) (.tmp 11) 29 29 rfl _ _ rfl rfl _ _ HR1.out ?_) | (at_builtin; refine Lib.wpList_append_run _ rfl (.tmp 14) (.tmp 21) 29 29 rfl _ _ rfl rfl _ _ HR2.out ?_))
  go_end0
  exact ⟨rfl, HE.out⟩
end Go.Proofs.Ytfhengihdlojmaa
