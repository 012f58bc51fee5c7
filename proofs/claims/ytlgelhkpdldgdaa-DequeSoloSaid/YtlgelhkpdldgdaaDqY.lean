/-
  Layer 16: a deque and all its acts in memory; what each call does to them.
-/
import Derived.Test.YtlgelhkpdldgdaaDqX
namespace Go.Proofs.Ytlgelhkpdldgdaa
open Go.RowKit
set_option linter.unusedVariables false
set_option linter.unusedSimpArgs false

namespace Dq
/-- All of it, plain: cells, steps done, acts, the owner's last one. -/
structure Sq where
  xs : List Int
  n : Nat
  la : List A
  oi : Option Nat
def Sq.act (s : Sq) (j : Nat) (a : A) : Sq := { s with xs := (acts 0 s.xs a).2.1, n := s.n + (acts 0 s.xs a).2.2.1, la := s.la.set j (acts 0 s.xs a).1 }
def Sq.bgn (s : Sq) (a : A) (o : Option Nat) : Sq := { s with la := s.la ++ [a], oi := o }
def KS (w0 : World) (D : Nat) (hs : List (Nat × Nat)) (i : Nat) : Prop := i < w0.heap.size ∨ i = D ∨ ∃ e ∈ hs, i = e.1 ∨ i = e.2
def ownV (hs : List (Nat × Nat)) : Option Nat → Value
  | none => .pointer none
  | some j => .pointer (some ⟨(hs.getD j (0, 0)).2, 0, none⟩)
structure Mm (w0 : World) (B M R D : Nat) (hs : List (Nat × Nat)) (s : Sq) (w : World) : Prop where
  dv : Dv (KS w0 D hs) B M R 0 (ownV hs s.oi) s.xs s.n w
  d : Dd D R w
  len : hs.length = s.la.length
  ac : ∀ (j : Nat) (a : A) (e : Nat × Nat), s.la[j]? = some a → hs[j]? = some e → Ap (KS w0 D hs) B M R 0 (ownV hs s.oi) e.2 a s.xs s.n w ∧ Hd e.1 e.2 w
  ne : ∀ (j k : Nat) (e f : Nat × Nat), hs[j]? = some e → hs[k]? = some f → e.1 ≠ f.2 ∧ (j ≠ k → e.2 ≠ f.2)
  nd : ∀ e ∈ hs, e.1 ≠ D ∧ e.2 ≠ D
  lo : w0.heap.size ≤ D ∧ ∀ e ∈ hs, w0.heap.size ≤ e.1 ∧ w0.heap.size ≤ e.2
  kept : Ce.Kept (fun i => i < w0.heap.size) w0 w
  oi : ∀ j, s.oi = some j → j < s.la.length
section
variable {w0 w w' : World} {B M R D : Nat} {hs : List (Nat × Nat)} {s : Sq} {j : Nat} {a : A} {e : Nat × Nat}
theorem Atc.re {K K' : Nat → Prop} {F : Int} {own own' : Value} {P : Nat} {T : TypeId} {cs : Array Value} {xs xs' : List Int} {n n' : Nat} (h : Atc K B M R F own P T cs xs n w) (hd : Dv K' B M R F own' xs' n' w') (hrow : w'.heap[P]? = w.heap[P]?) (hk : K' P) : Atc K' B M R F own' P T cs xs' n' w' := ⟨hd, hrow.trans h.act, hk, h.r, h.sz⟩
theorem KS.mem (he : hs[j]? = some e) : KS w0 D hs e.1 ∧ KS w0 D hs e.2 := by
  have := List.mem_of_getElem? he
  exact ⟨.inr (.inr ⟨e, this, .inl rfl⟩), .inr (.inr ⟨e, this, .inr rfl⟩)⟩
theorem Mm.below (h : Mm w0 B M R D hs s w) (hb : Below w.heap.size w w') : Mm w0 B M R D hs s w' :=
  ⟨h.dv.below hb, h.d.below hb, h.len, fun j a e ha he => ⟨(h.ac j a e ha he).1.below hb, (hb.block _ (Gm.ltHeap (h.ac j a e ha he).2)).trans (h.ac j a e ha he).2⟩, h.ne, h.nd, h.lo, h.kept.trans (Ce.Kept.of_below hb), h.oi⟩
theorem Mm.bel (h : Mm w0 B M R D hs s w) : Below w0.heap.size w0 w := ⟨h.kept.os, h.kept.tape, h.kept.output, h.kept.size, fun i hi => h.kept.block i hi hi⟩
theorem Mm.next (h : Mm w0 B M R D hs s w) (ha : s.la[j]? = some a) (he : hs[j]? = some e) (h2 : Ap (KS w0 D hs) B M R 0 (ownV hs s.oi) e.2 (acts 0 s.xs a).1 (acts 0 s.xs a).2.1 (s.n + (acts 0 s.xs a).2.2.1) w') (k : Ce.Kept (fun i => KS w0 D hs i ∧ i ≠ e.2) w w') : Mm w0 B M R D hs (s.act j a) w' := by
  have hem := List.mem_of_getElem? he
  refine ⟨h2.dv, k.row h.d ⟨.inr (.inl rfl), fun e2 => (h.nd e hem).2 e2.symm⟩, ?_, fun i b f hb hf => ?_, h.ne, h.nd, h.lo, h.kept.trans (k.mono fun i hi hl => ⟨.inl hl, fun e2 => ?_⟩), fun i hi => ?_⟩
  · show hs.length = (s.la.set j _).length
    rw [List.length_set]
    exact h.len
  · have hj : j < s.la.length := (List.getElem?_eq_some_iff.1 ha).1
    have hne := (h.ne i j f e hf he)
    by_cases hij : i = j
    · subst hij
      have hfe : f = e := Option.some.inj (hf.symm.trans he)
      subst hfe
      have hb2 : (s.la.set i (acts 0 s.xs a).1)[i]? = some b := hb
      rw [List.getElem?_set, if_pos rfl, if_pos hj] at hb2
      have hb3 := Option.some.inj hb2
      subst hb3
      exact ⟨h2, k.row (h.ac i a f ha he).2 ⟨(KS.mem hf).1, hne.1⟩⟩
    · have hb2 : (s.la.set j (acts 0 s.xs a).1)[i]? = some b := hb
      rw [List.getElem?_set, if_neg (fun e => hij e.symm)] at hb2
      have h3 := h.ac i b f hb2 hf
      exact ⟨Atc.re h3.1 h2.dv (k.block _ (Gm.ltHeap h3.1.act) ⟨(KS.mem hf).2, hne.2 hij⟩) (KS.mem hf).2, k.row h3.2 ⟨(KS.mem hf).1, hne.1⟩⟩
  · have h3 := (h.lo.2 e hem).2
    omega
  · show i < (s.la.set j _).length
    rw [List.length_set]
    exact h.oi i hi
theorem KS.app {H P : Nat} (i : Nat) : KS w0 D (hs ++ [(H, P)]) i ↔ KS w0 D hs i ∨ i = P ∨ i = H := by
  unfold KS
  constructor
  · rintro (h | h | ⟨e, he, h⟩)
    · exact .inl (.inl h)
    · exact .inl (.inr (.inl h))
    · rcases List.mem_append.1 he with h1 | h1
      · exact .inl (.inr (.inr ⟨e, h1, h⟩))
      · rw [List.mem_singleton] at h1
        subst h1
        rcases h with h | h
        · exact .inr (.inr h)
        · exact .inr (.inl h)
  · rintro ((h | h | ⟨e, he, h⟩) | h | h)
    · exact .inl h
    · exact .inr (.inl h)
    · exact .inr (.inr ⟨e, List.mem_append.2 (.inl he), h⟩)
    · exact .inr (.inr ⟨(H, P), by simp, .inr h⟩)
    · exact .inr (.inr ⟨(H, P), by simp, .inl h⟩)
theorem ownV_app {H P : Nat} {o : Option Nat} (h : ∀ j, o = some j → j < hs.length) : ownV (hs ++ [(H, P)]) o = ownV hs o := by
  cases o with
  | none => rfl
  | some j =>
    have := h j rfl
    show Value.pointer (some ⟨((hs ++ [(H, P)]).getD j (0, 0)).2, 0, none⟩) = .pointer (some ⟨(hs.getD j (0, 0)).2, 0, none⟩)
    rw [List.getD_eq_getElem?_getD, List.getElem?_append_left this, List.getD_eq_getElem?_getD]
theorem Mm.begin (h : Mm w0 B M R D hs s w) {own' : Nat → Value} {o : Option Nat} {e : Ending} (hB : Bgn (KS w0 D hs) B M R 0 own' a s.xs s.n w e w') (ho : ∀ P H, own' P = ownV (hs ++ [(H, P)]) o) (hoi : ∀ j, o = some j → j < s.la.length + 1) : ∃ H P, e = .returned (.tuple #[.pointer (some ⟨H, 0, none⟩), .int .i64 0]) ∧ Mm w0 B M R D (hs ++ [(H, P)]) (s.bgn a o) w' := by
  obtain ⟨P, H, he, hP, hH, hPH, hA, hHd, hk⟩ := hB
  rw [ho P H] at hA
  have hlo := h.kept.size
  have hm : ∀ e ∈ hs, e.1 < w.heap.size ∧ e.2 < w.heap.size := fun e he => ⟨h.dv.lt (.inr (.inr ⟨e, he, .inl rfl⟩)), h.dv.lt (.inr (.inr ⟨e, he, .inr rfl⟩))⟩
  have hD := h.d.lt
  have hdv : Dv (KS w0 D (hs ++ [(H, P)])) B M R 0 (ownV (hs ++ [(H, P)]) o) s.xs s.n w' := hA.dv.mono fun i hi => KS.app i |>.1 hi
  refine ⟨H, P, he, hdv, hk.row h.d (.inr (.inl rfl)), ?_, fun j b f hb hf => ?_, fun j k f g hf hg => ?_, fun f hf => ?_, ⟨h.lo.1, fun f hf => ?_⟩, h.kept.trans (hk.mono fun i _ hi => .inl hi), fun j hj => ?_⟩
  · show (hs ++ [(H, P)]).length = (s.la ++ [a]).length
    rw [List.length_append, List.length_append, h.len]
    rfl
  · by_cases hj : j < s.la.length
    · have hb2 : (s.la ++ [a])[j]? = some b := hb
      rw [List.getElem?_append_left hj] at hb2
      rw [List.getElem?_append_left (by rw [h.len]; exact hj)] at hf
      have h3 := h.ac j b f hb2 hf
      exact ⟨Atc.re h3.1 hdv (hk.block _ (Gm.ltHeap h3.1.act) (KS.mem hf).2) (KS.app _ |>.2 (.inl (KS.mem hf).2)), hk.row h3.2 (KS.mem hf).1⟩
    · have hb2 : (s.la ++ [a])[j]? = some b := hb
      rw [List.getElem?_append_right (by omega)] at hb2
      rw [List.getElem?_append_right (by rw [h.len]; omega), h.len] at hf
      have hj0 : j - s.la.length = 0 := by
        have := (List.getElem?_eq_some_iff.1 hf).1
        simp at this
        omega
      rw [hj0] at hb2 hf
      have e1 : a = b := Option.some.inj hb2
      have e2 : (H, P) = f := Option.some.inj hf
      subst e1
      subst e2
      exact ⟨Atc.re hA hdv rfl (KS.app _ |>.2 (.inr (.inl rfl))), hHd⟩
  · have key : ∀ (j : Nat) (f : Nat × Nat), (hs ++ [(H, P)])[j]? = some f → (j < hs.length ∧ hs[j]? = some f) ∨ (j = hs.length ∧ f = (H, P)) := fun j f hf => by
      by_cases hj : j < hs.length
      · rw [List.getElem?_append_left hj] at hf
        exact .inl ⟨hj, hf⟩
      · rw [List.getElem?_append_right (by omega)] at hf
        have hj0 : j - hs.length = 0 := by
          have := (List.getElem?_eq_some_iff.1 hf).1
          simp at this
          omega
        rw [hj0] at hf
        exact .inr ⟨by omega, (Option.some.inj hf).symm⟩
    rcases key j f hf with ⟨h1, h2⟩ | ⟨h1, rfl⟩
    · have m1 := hm f (List.mem_of_getElem? h2)
      rcases key k g hg with ⟨h3, h4⟩ | ⟨h3, rfl⟩
      · exact h.ne j k f g h2 h4
      · exact ⟨by show f.1 ≠ P; omega, fun _ => by show f.2 ≠ P; omega⟩
    · rcases key k g hg with ⟨h3, h4⟩ | ⟨h3, rfl⟩
      · have m1 := hm g (List.mem_of_getElem? h4)
        exact ⟨by show H ≠ g.2; omega, fun _ => by show P ≠ g.2; omega⟩
      · exact ⟨fun e => hPH e.symm, fun e => absurd (h1.trans h3.symm) e⟩
  · rcases List.mem_append.1 hf with h1 | h1
    · exact h.nd f h1
    · rw [List.mem_singleton] at h1
      subst h1
      exact ⟨by show H ≠ D; omega, by show P ≠ D; omega⟩
  · rcases List.mem_append.1 hf with h1 | h1
    · exact h.lo.2 f h1
    · rw [List.mem_singleton] at h1
      subst h1
      exact ⟨by show w0.heap.size ≤ H; omega, by show w0.heap.size ≤ P; omega⟩
  · show j < (s.la ++ [a]).length
    rw [List.length_append]
    exact hoi j hj
/-- No act of the owner is under way. -/
def Sq.idle (s : Sq) : Prop := s.oi = none ∨ ∃ j a, s.oi = some j ∧ s.la[j]? = some a ∧ a.told ≠ 0
def Sq.busy (s : Sq) : Prop := ∃ j a, s.oi = some j ∧ s.la[j]? = some a ∧ a.told = 0
theorem Mm.hAt (h : Mm w0 B M R D hs s w) (ha : s.la[j]? = some a) : ∃ e, hs[j]? = some e := by
  have := (List.getElem?_eq_some_iff.1 ha).1
  exact ⟨_, List.getElem?_eq_getElem (by rw [h.len]; exact this)⟩
theorem Mm.own (h : Mm w0 B M R D hs s w) {t : Bool} (hi : (t = false ∧ s.idle) ∨ (t = true ∧ s.busy)) : OwnOk (ownV hs s.oi) t w := by
  have key : ∀ j a, s.oi = some j → s.la[j]? = some a → OwnOk (ownV hs s.oi) (decide (a.told = 0)) w := fun j a h1 h2 => by
    obtain ⟨e, he⟩ := h.hAt h2
    refine .inr ⟨e.2, a.told, ?_, (h.ac j a e h2 he).1.c7, rfl⟩
    rw [h1]
    show Value.pointer (some ⟨(hs.getD j (0, 0)).2, 0, none⟩) = _
    rw [List.getD_eq_getElem?_getD, he]
    rfl
  rcases hi with ⟨rfl, h1 | ⟨j, a, h1, h2, h3⟩⟩ | ⟨rfl, j, a, h1, h2, h3⟩
  · exact .inl ⟨by rw [h1]; rfl, rfl⟩
  · have := key j a h1 h2
    rw [decide_eq_false h3] at this
    exact this
  · have := key j a h1 h2
    rw [decide_eq_true h3] at this
    exact this
end
end Dq
section
variable {w0 w : World} {B M R D : Nat} {hs : List (Nat × Nat)} {s : Dq.Sq} {j : Nat} {a : Dq.A} {e : Nat × Nat}
theorem mm_push (h : Dq.Mm w0 B M R D hs s w) (hi : s.idle) (v : Int) : Calls Try.prog 12 #[.pointer (some ⟨D, 0, none⟩), .int .i64 v] w fun e w' => ∃ H P, e = .returned (.tuple #[.pointer (some ⟨H, 0, none⟩), .int .i64 0]) ∧ Dq.Mm w0 B M R D (hs ++ [(H, P)]) (s.bgn (.new 0 v) (some s.la.length)) w' :=
  (d_push h.dv h.d (h.own (.inl ⟨rfl, hi⟩)) v).mono fun _ _ hB => h.begin hB (fun P H => by
    show _ = Value.pointer (some ⟨((hs ++ [(H, P)]).getD s.la.length (0, 0)).2, 0, none⟩)
    rw [List.getD_eq_getElem?_getD, List.getElem?_append_right (by rw [h.len]; exact Nat.le_refl _), h.len, Nat.sub_self]
    rfl) fun j hj => by injection hj with hj; omega
theorem mm_pop (h : Dq.Mm w0 B M R D hs s w) (hi : s.idle) : Calls Try.prog 13 #[.pointer (some ⟨D, 0, none⟩)] w fun e w' => ∃ H P, e = .returned (.tuple #[.pointer (some ⟨H, 0, none⟩), .int .i64 0]) ∧ Dq.Mm w0 B M R D (hs ++ [(H, P)]) (s.bgn (.new 1 0) (some s.la.length)) w' :=
  (d_pop h.dv h.d (h.own (.inl ⟨rfl, hi⟩))).mono fun _ _ hB => h.begin hB (fun P H => by
    show _ = Value.pointer (some ⟨((hs ++ [(H, P)]).getD s.la.length (0, 0)).2, 0, none⟩)
    rw [List.getD_eq_getElem?_getD, List.getElem?_append_right (by rw [h.len]; exact Nat.le_refl _), h.len, Nat.sub_self]
    rfl) fun j hj => by injection hj with hj; omega
theorem mm_steal (h : Dq.Mm w0 B M R D hs s w) : Calls Try.prog 14 #[.pointer (some ⟨D, 0, none⟩)] w fun e w' => ∃ H P, e = .returned (.tuple #[.pointer (some ⟨H, 0, none⟩), .int .i64 0]) ∧ Dq.Mm w0 B M R D (hs ++ [(H, P)]) (s.bgn (.new 2 0) s.oi) w' :=
  (d_steal h.dv h.d).mono fun _ _ hB => h.begin hB (fun P H => (Dq.ownV_app fun j hj => by rw [h.len]; exact h.oi j hj).symm) fun j hj => by have := h.oi j hj; omega
theorem mm_push_busy (h : Dq.Mm w0 B M R D hs s w) (hi : s.busy) (v : Int) : Calls Try.prog 12 #[.pointer (some ⟨D, 0, none⟩), .int .i64 v] w fun e w' => e = .returned (.tuple #[.pointer none, .int .i64 3]) ∧ w = w' := d_push_busy h.dv h.d (h.own (.inr ⟨rfl, hi⟩)) v
theorem mm_pop_busy (h : Dq.Mm w0 B M R D hs s w) (hi : s.busy) : Calls Try.prog 13 #[.pointer (some ⟨D, 0, none⟩)] w fun e w' => e = .returned (.tuple #[.pointer none, .int .i64 3]) ∧ w = w' := d_pop_busy h.dv h.d (h.own (.inr ⟨rfl, hi⟩))
theorem mm_step (h : Dq.Mm w0 B M R D hs s w) (ha : s.la[j]? = some a) (he : hs[j]? = some e) (h0 : a.told = 0) (ok : Dq.Ok 0 s.xs a) (hn : s.n ≤ 999999999999) (hz : (Dq.acts 0 s.xs a).2.2.2 = 0) : Calls Try.prog 15 #[.pointer (some ⟨e.1, 0, none⟩)] w fun e' w' =>
    e' = .returned (.tuple #[.int .u8 (Dq.acts 0 s.xs a).1.told, .int .i64 (Dq.acts 0 s.xs a).1.got, .int .i64 0]) ∧ Hid (Dq.Mm w0 B M R D hs (s.act j a) w') := by
  have h3 := h.ac j a e ha he
  have h4 := h.ne j j e e he he
  refine (q_step h3.1 h3.2 ⟨(Dq.KS.mem he).1, h4.1⟩ h0 ok hn hz).mono ?_
  rintro e' w' ⟨rfl, hh⟩
  exact ⟨rfl, h.next ha he hh.out.1 hh.out.2⟩
theorem mm_step_over (h : Dq.Mm w0 B M R D hs s w) (ha : s.la[j]? = some a) (he : hs[j]? = some e) (h0 : a.told ≠ 0) : Calls Try.prog 15 #[.pointer (some ⟨e.1, 0, none⟩)] w fun e w' => e = .returned (.tuple #[.int .u8 0, .int .i64 0, .int .i64 3]) ∧ w = w' := by
  have h3 := h.ac j a e ha he
  exact q_step_over h3.1 h3.2 h0
end
end Go.Proofs.Ytlgelhkpdldgdaa
