/-
  Two of the program's timers side by side.
-/
import Derived.Test.YtnojjfpccnmbeaaTpT
namespace Go.Proofs.Ytnojjfpccnmbeaa
open Go.RowKit

namespace Tk
def Own (T Q B : Nat) (v : Value) (i : Nat) : Prop := i = T ∨ i = Q ∨ i = B ∨ v.ownBlock = some i
theorem poff_of {T Q B : Nat} {v : Value} {i : Nat} (h : ¬ Own T Q B v i) : POff T Q B v i := ⟨fun e => h (.inl e), fun e => h (.inr (.inl e)), fun e => h (.inr (.inr (.inl e))), fun e => h (.inr (.inr (.inr e.symm)))⟩
theorem own_not {T Q B : Nat} {v : Value} {i : Nat} (h : POff T Q B v i) : ¬ Own T Q B v i := by
  rintro (e | e | e | e)
  · exact h.1 e
  · exact h.2.1 e
  · exact h.2.2.1 e
  · exact h.2.2.2 e.symm
/-- Two of them, apart from each other, made since w. -/
structure Twin (w : World) (T Q B : Nat) (v : Value) (c : Int) (l : List Tm) (T2 Q2 B2 : Nat) (v2 : Value) (c2 : Int) (l2 : List Tm) (wr : World) : Prop where
  p1 : PTm T Q B v c l wr
  p2 : PTm T2 Q2 B2 v2 c2 l2 wr
  ap : ∀ i, Own T2 Q2 B2 v2 i → POff T Q B v i
  low : ∀ i, i < w.heap.size → POff T Q B v i ∧ POff T2 Q2 B2 v2 i
  bel : Below w.heap.size w wr
section
variable {w wr w' : World} {T Q B T2 Q2 B2 : Nat} {v v' v2 v2' : Value} {c c' c2 c2' : Int} {l l' l2 l2' : List Tm}
theorem Twin.flip (h : Twin w T Q B v c l T2 Q2 B2 v2 c2 l2 wr) : Twin w T2 Q2 B2 v2 c2 l2 T Q B v c l wr :=
  ⟨h.p2, h.p1, fun i hi => poff_of fun h2 => own_not (h.ap i h2) hi, fun i hi => ⟨(h.low i hi).2, (h.low i hi).1⟩, h.bel⟩
theorem Twin.step1 (h : Twin w T Q B v c l T2 Q2 B2 v2 c2 l2 wr) (p' : PTm T Q B v' c' l' w') (mv : Mvt (POff T Q B v) (POff T Q B v') wr w') : Twin w T Q B v' c' l' T2 Q2 B2 v2 c2 l2 w' := by
  have hs := h.bel.size
  refine ⟨p', h.p2.keep fun i hi ho => mv.block i hi (h.ap i ho), fun i hi => mv.keep i (h.p2.own_lt hi) (h.ap i hi), fun i hi => ⟨mv.keep i (by omega) (h.low i hi).1, (h.low i hi).2⟩, ?_⟩
  exact ⟨mv.os.trans h.bel.os, mv.tape.trans h.bel.tape, mv.output.trans h.bel.output, Nat.le_trans h.bel.size mv.size, fun i hi => (mv.block i (by omega) (h.low i hi).1).trans (h.bel.block i hi)⟩
theorem Twin.below (h : Twin w T Q B v c l T2 Q2 B2 v2 c2 l2 wr) (hb : Below wr.heap.size wr w') : Twin w T Q B v c l T2 Q2 B2 v2 c2 l2 w' :=
  ⟨h.p1.below hb, h.p2.below hb, h.ap, h.low, h.bel.trans (hb.mono h.bel.size)⟩
end
def St3 (w : World) (T Q B T2 Q2 B2 : Nat) (wr : World) : Prop := ∃ v v2 l l2, Twin w T Q B v 0 l T2 Q2 B2 v2 0 l2 wr ∧ l.Perm l2 ∧ l2.length ≤ 1024
/-- One Tick behind another one. -/
theorem Due.trans {a b : Int} {l o1 r1 o2 r2 : List Tm} (h1 : Due a l o1 r1) (h2 : Due b r1 o2 r2) (hab : a ≤ b) : Due b l (o1 ++ o2) r2 := by
  refine ⟨?_, List.pairwise_append.2 ⟨h1.row, h2.row, fun x hx y hy => ?_⟩, fun x hx => ?_, h2.left⟩
  · rw [List.append_assoc]
    exact (h2.perm.append_left o1).trans h1.perm
  · have hy2 : y ∈ r1 := h2.perm.subset (List.mem_append_left _ hy)
    rw [lt_not]
    have := h1.told x hx
    have := h1.left y hy2
    exact .inl (by omega)
  · rcases List.mem_append.1 hx with hx | hx
    · have := h1.told x hx; omega
    · exact h2.told x hx
end Tk

section
variable {w wr : World} {T Q B T2 Q2 B2 : Nat} {v v2 : Value} {c : Int} {l l2 : List Tk.Tm}
/-- Both are set, one behind the other. -/
theorem twin_set (h : Tk.Twin w T Q B v 0 l T2 Q2 B2 v2 0 l2 wr) (hp : l.Perm l2) (hl : l2.length ≤ 1024) (k : ByteArray) (a : Int) {g : Nat} {o : Obj} (hrow : wr.heap[g]? = some o) (ho1 : Tk.POff T Q B v g) (ho2 : Tk.POff T2 Q2 B2 v2 g) :
    Calls Try.prog 11 #[.pointer (some ⟨T, 0, none⟩), .string k, .int .i64 a] wr fun e w' => e = .returned (.int .i64 (Tk.setC 0 l2 k a)) ∧ w'.heap[g]? = some o ∧
      Hid (Calls Try.prog 11 #[.pointer (some ⟨T2, 0, none⟩), .string k, .int .i64 a] w' fun e w2 => e = .returned (.int .i64 (Tk.setC 0 l2 k a)) ∧ w2.heap[g]? = some o ∧ Hid (Tk.St3 w T Q B T2 Q2 B2 w2)) := by
  refine (tkset h.p1 (by rw [hp.length_eq]; omega) k a).mono ?_
  rintro e w' ⟨he, v', l', p', mv, pe⟩
  rw [Tk.setC_perm hp] at he
  have h' := h.step1 p' mv
  have hr' := (mv.block g (Tk.ltHeap hrow) ho1).trans hrow
  refine ⟨he, hr', ?_⟩
  refine (tkset h'.p2 (by omega) k a).mono ?_
  rintro e w2 ⟨he2, v3, l3, p3, mv3, pe3⟩
  refine ⟨he2, (mv3.block g (Tk.ltHeap hr') ho2).trans hr', _, _, _, _, (h'.flip.step1 p3 mv3).flip, ?_, ?_⟩
  · exact (pe.trans (Tk.setL_perm hp k a)).trans pe3.symm
  · rw [pe3.length_eq]; exact Tk.setL_len k a hl
/-- A Tick of the first. -/
theorem twin_tick1 {c2 : Int} (h : Tk.Twin w T Q B v c l T2 Q2 B2 v2 c2 l2 wr) (hl : l.length ≤ 1024) (c0 : 0 ≤ c) (c1 : c ≤ 17592186044416) (b : Int) (hz : Tk.tickC c b = 0) :
    Calls Try.prog 16 #[.pointer (some ⟨T, 0, none⟩), .int .i64 b] wr fun e w' => ∃ (A : Option Addr) (n : Nat) (out rest : List Tk.Tm) (v' : Value), e = .returned (.tuple #[.slice A out.length n, .int .i64 0]) ∧ Tk.Due (c + b) l out rest ∧ Tk.Twin w T Q B v' (c + b) rest T2 Q2 B2 v2 c2 l2 w' ∧ Tk.Mvt (Tk.POff T Q B v) (Tk.POff T Q B v') wr w' ∧
      Lies w' w'.heap.size A (Tk.tks out) ∧ (∀ ad, A = some ad → wr.heap.size ≤ ad.block ∧ Tk.POff T Q B v' ad.block ∧ Tk.POff T2 Q2 B2 v2 ad.block) ∧ out.length ≤ n := by
  refine (tktick h.p1 (by omega) c0 c1 b).mono ?_
  rintro e w' (⟨h0, _⟩ | ⟨_, A, n, out, rest, v', he, hd, p', mv, lo, la⟩)
  · exact absurd hz h0
  · refine ⟨A, n, out, rest, v', he, hd, h.step1 p' mv, mv, lo, fun ad had => ⟨(la ad had).1, (la ad had).2.1, h.p2.fresh (la ad had).1⟩, ?_⟩
    rcases Nat.eq_zero_or_pos out.length with h0 | h0
    · omega
    · obtain ⟨ad, had, _⟩ := lo (by rw [Tk.tks_len]; omega)
      exact (la ad had).2.2
theorem Tk.lies_moved {off off' : Nat → Prop} {w1 w2 : World} {A : Option Addr} {xs : List Value} (h : Lies w1 w1.heap.size A xs) (ho : 0 < xs.length → ∀ ad, A = some ad → off ad.block) (mv : Tk.Mvt off off' w1 w2) :
    Lies w2 w2.heap.size A xs ∧ (0 < xs.length → ∀ ad, A = some ad → off' ad.block) := by
  refine ⟨fun h0 => ?_, fun h0 ad had => ?_⟩
  · obtain ⟨ad, e, hb, hc⟩ := h h0
    exact ⟨ad, e, Nat.lt_of_lt_of_le hb mv.size, fun j u hu => (World.cell?_of_block (by rw [Lies.add_block]; exact mv.block _ hb (ho h0 ad e))).trans (hc j u hu)⟩
  · obtain ⟨ad', e, hb, _⟩ := h h0
    rw [had] at e
    obtain rfl := Option.some.inj e
    exact mv.keep _ hb (ho h0 _ had)
theorem Tk.lies_front {B : Nat} {A : Option Addr} {o : List Tk.Tm} (h : Lies wr B A (Tk.tks o)) (k : Nat) : Lies wr B A (Tk.tks (o.take k)) := fun h0 => by
  have hl : 0 < (Tk.tks o).length := by
    rw [Tk.tks_len] at h0 ⊢
    rw [List.length_take] at h0
    omega
  obtain ⟨ad, e, hb, hc⟩ := h hl
  refine ⟨ad, e, hb, fun j u hu => hc j u ?_⟩
  rw [Tk.tks_take, List.getElem?_take] at hu
  split at hu
  · exact hu
  · cases hu
theorem Tk.lies_back {B n : Nat} {A : Option Addr} {o : List Tk.Tm} (h : Lies wr B A (Tk.tks o)) {k : Nat} (hn : o.length ≤ n) : Lies wr B (Tk.trest A n k) (Tk.tks (o.drop k)) := fun h0 => by
  rw [Tk.tks_len, List.length_drop] at h0
  obtain ⟨ad, rfl, hb, hc⟩ := h (by rw [Tk.tks_len]; omega)
  refine ⟨ad.add (k * 2), by unfold Tk.trest; rw [if_neg (by omega)]; rfl, by rw [Lies.add_block]; exact hb, fun j u hu => ?_⟩
  rw [Tk.add_addT]
  refine hc _ u ?_
  rw [Tk.tks_drop, List.getElem?_drop] at hu
  rwa [Nat.mul_comm k 2]
end
end Go.Proofs.Ytnojjfpccnmbeaa
