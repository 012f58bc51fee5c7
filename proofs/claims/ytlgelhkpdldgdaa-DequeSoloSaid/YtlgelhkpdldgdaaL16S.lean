/-
  Layer 16: numbers in a slice, with what it may hold; a steal, whole, alone.
-/
import Derived.Test.YtlgelhkpdldgdaaOpen
import Derived.ProofKit
import Derived.OpenShut
import Derived.Test.YtlgelhkpdldgdaaL16A
namespace Go.Proofs.Ytlgelhkpdldgdaa
open Go.ChangeShapes Go.WideShapes Go.RowKit Go.Deep
set_option linter.unusedVariables false
set_option linter.unusedSimpArgs false

section
variable {H : Type} {enc : TypeId × Value → H} {P : Program} {w : World}
theorem trod_cap16 {t e : TypeId} {fuel : Nat} {cs : List Value} {x : DataW H × List MemPlace} (ht : P.underlying t = some (.slice e)) (h : DataW.trod enc P w 0 (fun _ => true) true fuel t cs = some x) :
    ∃ (A : Option Addr) (n c : Nat), cs = [.slice A n c] ∧ n ≤ c := by
  rcases open_slice ht h with ⟨rfl, _⟩ | ⟨a, len, cap, m, n, D, Pl, rfl, _, hl, _⟩
  · exact ⟨none, 0, 0, rfl, Nat.le_refl _⟩
  · exact ⟨_, len, cap, rfl, hl⟩
theorem trod_i64sc {t e : TypeId} {fuel : Nat} {cs : List Value} {x : DataW H × List MemPlace} (ht : P.underlying t = some (.slice e)) (he : P.underlying e = some (.int .i64)) (hk : P.cellsOf e = 1)
    (h : DataW.trod enc P w 0 (fun _ => true) true fuel t cs = some x) :
    ∃ (xs : List Int) (A : Option Addr) (c : Nat), cs = [.slice A xs.length c] ∧ xs.length ≤ maxLen ∧ Lies w w.heap.size A (icells xs) ∧ ((∀ x ∈ xs, -9223372036854775808 ≤ x ∧ x ≤ 9223372036854775807) ∧ xs.length ≤ c) := by
  obtain ⟨xs, A, c, hcs, h1, h2, h3⟩ := trod_i64s ht he hk h
  obtain ⟨A', n, c', hcs', h4⟩ := trod_cap16 ht h
  rw [hcs] at hcs'
  cases hcs'
  exact ⟨xs, A, c, hcs, h1, h2, h3, h4⟩
end
/-- A steal's act, whole, while nobody else does anything. -/
theorem mm_wholeT {w0 w : World} {B M R D : Nat} {hs : List (Nat × Nat)} {s : Dq.Sq} {j : Nat} {a : Dq.A} {e : Nat × Nat} {P : Int} {L : List Int} (h : Dq.Mm w0 B M R D hs s w) (hl : Dq.Lv P s L) (hi : s.idle) (ha : s.la[j]? = some a) (he : hs[j]? = some e) (hk : a.k = 2) (h0 : a.told = 0) (hp : a.pc = 0) (hn : s.n ≤ 900000000000) : Calls Try.prog 23 #[.pointer (some ⟨e.1, 0, none⟩)] w fun e' w' =>
    Hid (∃ s' a' L', e' = .returned (.tuple #[.int .u8 a'.told, .int .i64 a'.got, .bool true]) ∧ Dq.Mm w0 B M R D hs s' w' ∧ s'.la = s.la.set j a' ∧ s'.oi = s.oi ∧ s'.n ≤ s.n + 2011 ∧ Dq.Lv P s' L' ∧ ((a'.told = 3 ∧ L = [] ∧ L' = L) ∨ (a'.told = 2 ∧ L = a'.got :: L'))) := by
  have hg := hl.beginT (al := True) ha hk h0 fun _ h1 => by omega
  have ho := hl.idleOwn hi
  refine (mm_whole Dq.goodT h ha he hg h0 hn).mono ?_
  rintro e' w' ⟨s', a', rfl, h1, h2⟩
  obtain ⟨L', h3, h4⟩ := hl.goneT ha hk h2.la h2.oi h2.g
  obtain ⟨L2, _, _, h5, h6⟩ := h2.g
  have h7 := h6 trivial
  refine ⟨s', a', L', rfl, h2.mm, h2.la, h2.oi, h2.n, h3, ?_⟩
  rcases h4 with ⟨h8 | h8 | h8, h9⟩ | h8
  · exact absurd h8 h1
  · exact .inl ⟨h8, h7.2.2 ho h8, h9⟩
  · exact absurd h8 h7.2.1
  · exact .inr h8
namespace Dq
theorem idle_set {s s' : Sq} {j : Nat} {a' : A} (hoi : s'.oi = s.oi) (hla : s'.la = s.la.set j a') (ha : a'.told ≠ 0) (hi : s.idle ∨ s.oi = some j) (hj : j < s.la.length) : s'.idle := by
  rcases hi with (hi | ⟨i, b, h1, h2, h3⟩) | hi
  · exact .inl (hoi.trans hi)
  · by_cases hij : j = i
    · subst hij
      exact .inr ⟨j, a', hoi.trans h1, by rw [hla, List.getElem?_set, if_pos rfl, if_pos hj], ha⟩
    · exact .inr ⟨i, b, hoi.trans h1, by rw [hla, List.getElem?_set, if_neg hij]; exact h2, h3⟩
  · exact .inr ⟨j, a', hoi.trans hi, by rw [hla, List.getElem?_set, if_pos rfl, if_pos hj], ha⟩
theorem idle_app {s : Sq} {a : A} (hi : s.idle) : (s.bgn a s.oi).idle := by
  rcases hi with hi | ⟨i, b, h1, h2, h3⟩
  · exact .inl hi
  · exact .inr ⟨i, b, h1, by show (s.la ++ [a])[i]? = some b; rw [List.getElem?_append_left (List.getElem?_eq_some_iff.1 h2).1]; exact h2, h3⟩
/-- Nobody does anything. -/
def So (w0 : World) (B M R D : Nat) (P : Int) (N : Nat) (L : List Int) (w : World) : Prop := ∃ (hs : List (Nat × Nat)) (s : Sq), Mm w0 B M R D hs s w ∧ Lv P s L ∧ s.idle ∧ s.n ≤ 3000 * N
/-- An act has begun. -/
def Sp (w0 : World) (B M R D : Nat) (P : Int) (N : Nat) (L : List Int) (k0 H : Nat) (w : World) : Prop := ∃ (hs : List (Nat × Nat)) (s : Sq) (j : Nat) (a : A) (P' : Nat), Mm w0 B M R D hs s w ∧ Lv P s L ∧ s.oi = some j ∧ s.la[j]? = some a ∧ hs[j]? = some (H, P') ∧ a.told = 0 ∧ a.k = k0 ∧ s.n ≤ 3000 * N
def Sz (w0 : World) (B M R D : Nat) (P : Int) (N : Nat) (L : List Int) (H : Nat) (w : World) : Prop := ∃ (hs : List (Nat × Nat)) (s : Sq) (j : Nat) (a : A) (P' : Nat), Mm w0 B M R D hs s w ∧ Lv P s L ∧ s.idle ∧ s.la[j]? = some a ∧ hs[j]? = some (H, P') ∧ a.told = 0 ∧ a.k = 2 ∧ a.pc = 0 ∧ s.n ≤ 3000 * N
theorem lastA {α : Type} (l : List α) (x : α) : (l ++ [x])[l.length]? = some x := by
  rw [List.getElem?_append_right (Nat.le_refl _), Nat.sub_self]
  rfl
end Dq
section
variable {w0 w : World} {B M R D H : Nat} {P : Int} {N : Nat} {L : List Int}
theorem so_push (h : Dq.So w0 B M R D P N L w) (hP : P + 1 ≤ 300) (v : Int) : Calls Try.prog 12 #[.pointer (some ⟨D, 0, none⟩), .int .i64 v] w fun e w' => ∃ H, e = .returned (.tuple #[.pointer (some ⟨H, 0, none⟩), .int .i64 0]) ∧ Hid (Dq.Sp w0 B M R D (P + 1) N (L ++ [v]) 0 H w') := by
  obtain ⟨hs, s, h1, h2, h3, h4⟩ := h
  refine (mm_push h1 h3 v).mono ?_
  rintro e w' ⟨H, P', rfl, h5⟩
  exact ⟨H, rfl, _, _, s.la.length, _, P', h5, h2.push h3 hP v, rfl, Dq.lastA _ _, by rw [← h1.len]; exact Dq.lastA _ _, rfl, rfl, h4⟩
theorem so_pop (h : Dq.So w0 B M R D P N L w) : Calls Try.prog 13 #[.pointer (some ⟨D, 0, none⟩)] w fun e w' => ∃ H, e = .returned (.tuple #[.pointer (some ⟨H, 0, none⟩), .int .i64 0]) ∧ Hid (Dq.Sp w0 B M R D P N L 1 H w') := by
  obtain ⟨hs, s, h1, h2, h3, h4⟩ := h
  refine (mm_pop h1 h3).mono ?_
  rintro e w' ⟨H, P', rfl, h5⟩
  exact ⟨H, rfl, _, _, s.la.length, _, P', h5, h2.pop h3, rfl, Dq.lastA _ _, by rw [← h1.len]; exact Dq.lastA _ _, rfl, rfl, h4⟩
theorem so_steal (h : Dq.So w0 B M R D P N L w) : Calls Try.prog 14 #[.pointer (some ⟨D, 0, none⟩)] w fun e w' => ∃ H, e = .returned (.tuple #[.pointer (some ⟨H, 0, none⟩), .int .i64 0]) ∧ Hid (Dq.Sz w0 B M R D P N L H w') := by
  obtain ⟨hs, s, h1, h2, h3, h4⟩ := h
  refine (mm_steal h1).mono ?_
  rintro e w' ⟨H, P', rfl, h5⟩
  exact ⟨H, rfl, _, _, s.la.length, _, P', h5, h2.steal, Dq.idle_app h3, Dq.lastA _ _, by rw [← h1.len]; exact Dq.lastA _ _, rfl, rfl, rfl, h4⟩
theorem so_whole (k0 : Nat) (h : Dq.Sp w0 B M R D P N L k0 H w) (hN : N ≤ 100000) : Calls Try.prog 23 #[.pointer (some ⟨H, 0, none⟩)] w fun e w' =>
    Hid ((k0 = 0 ∧ e = .returned (.tuple #[.int .u8 1, .int .i64 0, .bool true]) ∧ Dq.So w0 B M R D P (N + 1) L w') ∨ (k0 = 1 ∧ L = [] ∧ ∃ g, e = .returned (.tuple #[.int .u8 3, .int .i64 g, .bool true]) ∧ Dq.So w0 B M R D P (N + 1) L w') ∨ (k0 = 1 ∧ ∃ v L', L = L' ++ [v] ∧ e = .returned (.tuple #[.int .u8 2, .int .i64 v, .bool true]) ∧ Dq.So w0 B M R D P (N + 1) L' w')) := by
  obtain ⟨hs, s, j, a, P', h1, h2, h3, h4, h5, h6, h7, h8⟩ := h
  refine (mm_wholeO h1 h2 h3 h4 h5 h6 (by omega)).mono ?_
  rintro e w' ⟨s', a', L', rfl, h9, h10, h11, h12, h13, h14, h15⟩
  have hj := (List.getElem?_eq_some_iff.1 h4).1
  have hso : Dq.So w0 B M R D P (N + 1) L' w' := ⟨hs, s', h10, h14, Dq.idle_set h12 h11 h9 (.inr h3) hj, by omega⟩
  rw [h7] at h15
  rcases h15 with h15 | ⟨h15, ⟨h16, h17⟩, h18⟩ | ⟨h15, h16, h17, h18⟩ | ⟨h15, h16, h17⟩
  · exact absurd h15.1 h9
  · rw [h16, h17]
    exact .inl ⟨h15, rfl, h18 ▸ hso⟩
  · rw [h16]
    exact .inr (.inl ⟨h15, h18, _, rfl, h17 ▸ hso⟩)
  · rw [h16]
    exact .inr (.inr ⟨h15, _, L', h17, rfl, hso⟩)
theorem so_stolen (h : Dq.Sz w0 B M R D P N L H w) (hN : N ≤ 100000) : Calls Try.prog 23 #[.pointer (some ⟨H, 0, none⟩)] w fun e w' =>
    Hid ((L = [] ∧ ∃ g, e = .returned (.tuple #[.int .u8 3, .int .i64 g, .bool true]) ∧ Dq.So w0 B M R D P (N + 1) L w') ∨ (∃ v L', L = v :: L' ∧ e = .returned (.tuple #[.int .u8 2, .int .i64 v, .bool true]) ∧ Dq.So w0 B M R D P (N + 1) L' w')) := by
  obtain ⟨hs, s, j, a, P', h1, h2, h3, h4, h5, h6, h7, h7', h8⟩ := h
  refine (mm_wholeT h1 h2 h3 h4 h5 h7 h6 h7' (by omega)).mono ?_
  rintro e w' ⟨s', a', L', rfl, h10, h11, h12, h13, h14, h15⟩
  have hj := (List.getElem?_eq_some_iff.1 h4).1
  rcases h15 with ⟨h16, h17, h18⟩ | ⟨h16, h17⟩
  · have hso : Dq.So w0 B M R D P (N + 1) L' w' := ⟨hs, s', h10, h14, Dq.idle_set h12 h11 (by rw [h16]; decide) (.inl h3) hj, by omega⟩
    rw [h16]
    exact .inl ⟨h17, _, rfl, h18 ▸ hso⟩
  · have hso : Dq.So w0 B M R D P (N + 1) L' w' := ⟨hs, s', h10, h14, Dq.idle_set h12 h11 (by rw [h16]; decide) (.inl h3) hj, by omega⟩
    rw [h16]
    exact .inr ⟨_, L', h17, rfl, hso⟩
theorem so_size (h : Dq.So w0 B M R D P N L w) : Calls Try.prog 20 #[.pointer (some ⟨D, 0, none⟩)] w fun e w' => e = .returned (.int .i64 (L.length : Int)) ∧ Hid (Dq.So w0 B M R D P N L w') := by
  obtain ⟨hs, s, h1, h2, h3, h4⟩ := h
  refine (mm_size h1 h2 h3).mono ?_
  rintro e w' ⟨rfl, h5⟩
  exact ⟨rfl, hs, s, h5.out, h2, h3, h4⟩
end
end Go.Proofs.Ytlgelhkpdldgdaa
