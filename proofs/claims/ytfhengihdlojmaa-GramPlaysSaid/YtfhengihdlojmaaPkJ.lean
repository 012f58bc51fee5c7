/-
  A net that fills up: the steps that GramFull goes.
-/
import Derived.Test.YtfhengihdlojmaaPkI
namespace Go.Proofs.Ytfhengihdlojmaa
open Go.RowKit

namespace Gm
/-- The messages with the numbers behind lo, up to hi, are on their way; nothing is cut. -/
def Fl (w0 : World) (R B C lo hi : Nat) (w : World) : Prop := ∃ l : List Msg, NetLw w0 R B C (hi : Int) l [] w ∧ l.length + lo = hi ∧ ∀ k : Nat, lo < k → k ≤ hi → hasM (k : Int) l = true
theorem int_info : (Try.prog.info? 3).map (fun i => (i.zero, i.size, i.bytes)) = some (some (.int .i64 0), 1, 8) := by kernel_rfl
theorem made_lies (n : Nat) (w : World) : Lies (w.alloc (.cells (madeCells #[.int .i64 0] n) 3)) (w.alloc (.cells (madeCells #[.int .i64 0] n) 3)).heap.size (some ⟨w.heap.size, 0, none⟩) (icells (List.replicate n 0)) := fun _ => by
  refine ⟨_, rfl, by simp, fun j u hu => ?_⟩
  have e : (⟨w.heap.size, 0, none⟩ : Addr).add j = ⟨w.heap.size, j, none⟩ := by rw [Addr.add_mid, Nat.zero_add]
  rw [e, cell_of_row _ _ j _ _ _ (heap_alloc_new w _), ← hu, ← Array.getElem?_toList, toList_madeCells_one]
  simp [icells]
abbrev gX : ByteArray := ⟨#[120]⟩
abbrev gY : ByteArray := ⟨#[121]⟩
theorem plcs_zero (n : Nat) : (List.replicate n (0 : Int)).all plc = true := by
  rw [List.all_eq_true]
  intro x hx
  rw [List.eq_of_mem_replicate hx]
  rfl
theorem hasM_app (k : Int) (l m : List Msg) : hasM k (l ++ m) = (hasM k l || hasM k m) := by unfold hasM; rw [List.any_append]
theorem hasM_sent (last fr : Int) (text : ByteArray) (ts : List Int) (k : Int) (h1 : last < k) (h2 : k ≤ last + ts.length) : hasM k (sent last fr text ts) = true := by
  induction ts generalizing last with
  | nil => simp at h2; omega
  | cons t ts ih =>
    unfold sent
    rw [show (⟨last + 1, fr, t, text⟩ : Msg) :: sent (last + 1) fr text ts = [⟨last + 1, fr, t, text⟩] ++ sent (last + 1) fr text ts from rfl, hasM_app, Bool.or_eq_true]
    by_cases e : k = last + 1
    · left; subst e; unfold hasM; simp
    · right
      refine ih (last + 1) (by omega) ?_
      rw [List.length_cons] at h2
      omega
theorem hasM_drop (k id : Int) (l : List Msg) (hne : k ≠ id) : hasM k (dropM id l) = hasM k l := by
  rw [Bool.eq_iff_iff, hasM_iff, hasM_iff]
  constructor
  · rintro ⟨x, hx, e⟩
    exact ⟨x, (dropM_mem.1 hx).1, e⟩
  · rintro ⟨x, hx, e⟩
    exact ⟨x, dropM_mem.2 ⟨hx, by rw [e]; exact hne⟩, e⟩
end Gm

section
variable {w0 w : World} {R B C lo hi : Nat}
theorem Gm.Fl.below {w' : World} (h : Gm.Fl w0 R B C lo hi w) (hb : Below w.heap.size w w') : Gm.Fl w0 R B C lo hi w' := by
  obtain ⟨l, h1, h2⟩ := h
  exact ⟨l, h1.below hb, h2⟩
theorem Gm.Fl.bel (h : Gm.Fl w0 R B C lo hi w) : Below w0.heap.size w0 w := by
  obtain ⟨l, h1, _⟩ := h
  exact h1.bel
theorem Gm.Fl.fresh (h : Gm.Fl w0 R B C lo hi w) {i : Nat} (hi' : w.heap.size ≤ i) : Gm.POff R B C i := by
  obtain ⟨l, h1, _⟩ := h
  exact h1.p.fresh hi'
theorem full_send (h : Gm.Fl w0 R B C lo hi w) (hh : hi ≤ 100000) (text : ByteArray) (ht : text.size ≤ 16384) (m : Nat) (hm : hi + m ≤ lo + 4096) (A : Option Addr) (c : Nat) (hli : Lies w w.heap.size A (icells (List.replicate m 0))) (hoff : ∀ p, A = some p → Gm.POff R B C p.block) :
    Calls Try.prog 7 #[.pointer (some ⟨R, 0, none⟩), .int .i64 1, .string text, .slice A m c] w fun e w' =>
      e = .returned (.tuple #[.int .i64 (m : Int), .int .i64 0]) ∧ Gm.Fl w0 R B C lo (hi + m) w' ∧ Gm.Mvg (Gm.POff R B C) (Gm.POff R B C) w w' := by
  obtain ⟨l, h1, h2, h3⟩ := h
  have hc : Gm.sendC 1 text (List.replicate m 0) l.length = 0 := by
    unfold Gm.sendC
    rw [if_neg (by rw [Gm.plcs_zero]; simp [Gm.plc]), if_neg (by omega), if_neg (by rw [List.length_replicate]; omega)]
  have hs := glw_send h1 (by omega) 1 text (List.replicate m 0) A c hli hoff (by rw [List.length_replicate]; omega)
  rw [List.length_replicate] at hs
  refine hs.mono ?_
  rintro e w' ⟨rfl, hn, hmv⟩
  unfold Gm.sendN Gm.sendM Gm.sendL at *
  rw [if_pos hc, if_pos hc] at hn
  rw [if_pos hc, hc, List.length_replicate]
  refine ⟨rfl, ⟨l ++ Gm.sent (hi : Int) 1 text (List.replicate m 0), ?_, ?_, ?_⟩, hmv⟩
  · rw [List.length_replicate, show (hi : Int) + (m : Int) = ((hi + m : Nat) : Int) by omega] at hn
    exact hn
  · rw [List.length_append, Gm.sent_len, List.length_replicate]; omega
  · intro k hk1 hk2
    rw [Gm.hasM_app, Bool.or_eq_true]
    by_cases e : k ≤ hi
    · exact .inl (h3 k hk1 e)
    · exact .inr (Gm.hasM_sent _ _ _ _ _ (by omega) (by rw [List.length_replicate]; omega))
theorem full_send_no (h : Gm.Fl w0 R B C lo hi w) (hh : hi ≤ 100000) (text : ByteArray) (ht : text.size ≤ 16384) (m : Nat) (hm0 : m ≤ 5000) (hm : lo + 4096 < hi + m) (A : Option Addr) (c : Nat) (hli : Lies w w.heap.size A (icells (List.replicate m 0))) (hoff : ∀ p, A = some p → Gm.POff R B C p.block) :
    Calls Try.prog 7 #[.pointer (some ⟨R, 0, none⟩), .int .i64 1, .string text, .slice A m c] w fun e w' =>
      e = .returned (.tuple #[.int .i64 0, .int .i64 6]) ∧ Gm.Fl w0 R B C lo hi w' := by
  obtain ⟨l, h1, h2, h3⟩ := h
  have hc : Gm.sendC 1 text (List.replicate m 0) l.length = 6 := by
    unfold Gm.sendC
    rw [if_neg (by rw [Gm.plcs_zero]; simp [Gm.plc]), if_neg (by omega), if_pos (by rw [List.length_replicate]; omega)]
  have hs := glw_send h1 (by omega) 1 text (List.replicate m 0) A c hli hoff (by rw [List.length_replicate]; omega)
  rw [List.length_replicate] at hs
  refine hs.mono ?_
  rintro e w' ⟨rfl, hn, hmv⟩
  unfold Gm.sendN Gm.sendM Gm.sendL at *
  rw [if_neg (by omega), if_neg (by omega)] at hn
  rw [if_neg (by omega), hc]
  exact ⟨rfl, l, hn, h2, h3⟩
theorem full_double_no (h : Gm.Fl w0 R B C lo hi w) (hh : hi ≤ 100000) (hf : hi = lo + 4096) (id : Nat) (h1 : lo < id) (h2 : id ≤ hi) :
    Calls Try.prog 13 #[.pointer (some ⟨R, 0, none⟩), .int .u64 (id : Int)] w fun e w' => e = .returned (.tuple #[.int .u64 0, .int .i64 6]) ∧ Gm.Fl w0 R B C lo hi w' := by
  obtain ⟨l, g1, g2, g3⟩ := h
  have hc : Gm.dblC (id : Int) l = 6 := by
    unfold Gm.dblC
    rw [if_neg (by rw [g3 id h1 h2]; simp), if_pos (by omega)]
  refine (glw_double g1 (by omega) (id : Int) (by omega) (by omega)).mono ?_
  rintro e w' ⟨rfl, hn, _⟩
  unfold Gm.dblN Gm.dblM Gm.dblL at *
  rw [if_neg (by omega), if_neg (by omega)] at hn
  rw [if_neg (by omega), hc]
  exact ⟨rfl, l, hn, g2, g3⟩
theorem full_take (h : Gm.Fl w0 R B C lo hi w) (hh : hi ≤ 100000) (hlt : lo < hi) :
    Calls Try.prog 9 #[.pointer (some ⟨R, 0, none⟩), .int .u64 ((lo + 1 : Nat) : Int)] w fun e w' => (∃ (a b c : Int) (s : ByteArray), e = .returned (.tuple #[.agg #[.int .u64 a, .int .i64 b, .int .i64 c, .string s], .int .i64 0])) ∧ Gm.Fl w0 R B C (lo + 1) hi w' := by
  obtain ⟨l, g1, g2, g3⟩ := h
  have hh1 := g3 (lo + 1) (by omega) (by omega)
  obtain ⟨x, hx⟩ : ∃ x, Gm.findM ((lo + 1 : Nat) : Int) l = some x := Option.isSome_iff_exists.1 (by rw [Gm.findM_has]; exact hh1)
  have hic : Gm.isCut x.fr x.to [] = false := rfl
  have e1 : Gm.takeE ((lo + 1 : Nat) : Int) [] l = .returned (.tuple #[x.val, .int .i64 0]) := by unfold Gm.takeE; rw [hx]; simp only [hic]; rfl
  have e2 : Gm.takeL ((lo + 1 : Nat) : Int) [] l = Gm.dropM ((lo + 1 : Nat) : Int) l := by unfold Gm.takeL; rw [hx]; simp only [hic]; rfl
  refine (glw_take g1 ((lo + 1 : Nat) : Int) (by omega) (by omega)).mono ?_
  rintro e w' ⟨he, hn, _⟩
  rw [e1] at he
  rw [e2] at hn
  refine ⟨⟨x.id, x.fr, x.to, x.text, he⟩, _, hn, ?_, fun k hk1 hk2 => ?_⟩
  · rw [Gm.dropM_count g1.g.1, if_pos hh1]
    have : 0 < l.length := by omega
    omega
  · rw [Gm.hasM_drop _ _ _ (by omega)]
    exact g3 k (by omega) hk2
theorem full_list (h : Gm.Fl w0 R B C lo hi w) (hh : hi ≤ 100000) :
    Calls Try.prog 22 #[.pointer (some ⟨R, 0, none⟩)] w fun e w' => (∃ (A : Option Addr) (c : Nat), e = .returned (.slice A (hi - lo) c)) ∧ Gm.Fl w0 R B C lo hi w' := by
  obtain ⟨l, g1, g2, g3⟩ := h
  refine (glw_list g1 (by omega)).mono ?_
  rintro e w' ⟨v, rfl, hrow, hb⟩
  obtain ⟨A, c, rfl⟩ := Gm.own_form hrow
  exact ⟨⟨A, c, by rw [show hi - lo = l.length by omega]⟩, l, g1.below hb, g2, g3⟩
end
end Go.Proofs.Ytfhengihdlojmaa
