/-
  Layer 16: all acts of a deque, as the laws hold them: the values that are left.
-/
import Derived.Test.YtlgelhkpdldgdaaDqZ
namespace Go.Proofs.Ytlgelhkpdldgdaa
open Go.RowKit
set_option linter.unusedVariables false
set_option linter.unusedSimpArgs false

namespace Dq
def Sq.own (s : Sq) : A := match s.oi with | none => .none | some j => s.la.getD j .none
def Sq.T (s : Sq) (b : A) : Prop := ∃ i : Nat, s.la[i]? = some b ∧ b.k = 2 ∧ b.told = 0
/-- The law's deque: L = the values that are left; P = how many were pushed. -/
structure Lv (P : Int) (s : Sq) (L : List Int) : Prop where
  inw : Inw 0 P s.xs s.own s.T L
  un : ∀ (i : Nat) (a : A), s.la[i]? = some a → a.told = 0 → a.k = 2 ∨ (s.oi = some i ∧ a.k ≤ 1)
  ok : ∀ j, s.oi = some j → ∃ a, s.la[j]? = some a ∧ a.k ≤ 1
def Out (k0 : Nat) (L : List Int) (a : A) (L' : List Int) : Prop :=
  (a.told = 0 ∧ L' = L) ∨ (k0 = 0 ∧ (a.told = 1 ∧ a.got = 0) ∧ L' = L) ∨ (k0 = 1 ∧ a.told = 3 ∧ L' = L ∧ L = []) ∨ (k0 = 1 ∧ a.told = 2 ∧ L = L' ++ [a.got])
def OutT (L : List Int) (a : A) (L' : List Int) : Prop :=
  ((a.told = 0 ∨ a.told = 3 ∨ a.told = 4) ∧ L' = L) ∨ (a.told = 2 ∧ L = a.got :: L')
def GO (P : Int) (ths : A → Prop) (L : List Int) (k0 : Nat) (xs : List Int) (a : A) : Prop := ∃ L', Inw 0 P xs a ths L' ∧ a.k = k0 ∧ Out k0 L a L'
def GT (P : Int) (o : A) (oth : A → Prop) (L : List Int) (al : Prop) (xs : List Int) (a : A) : Prop :=
  ∃ L', (∀ ths' : A → Prop, (∀ b, ths' b → oth b ∨ (b = a ∧ a.told = 0)) → Inw 0 P xs o ths' L') ∧ a.k = 2 ∧ OutT L a L' ∧ (al → (1 ≤ a.pc → a.told = 0 → a.t = ld xs 0) ∧ a.told ≠ 4 ∧ (o.told ≠ 0 → a.told = 3 → L = []))
section
variable {P : Int} {s s' : Sq} {L : List Int} {j : Nat} {a a' o : A} {ths oth : A → Prop} {al : Prop}
theorem goodO (k0 : Nat) (hk : k0 ≤ 1) : Good (GO P ths L k0) := by
  have key : ∀ xs a, GO P ths L k0 xs a → a.told = 0 → ∃ L', Inw 0 P xs a ths L' ∧ a.k = k0 ∧ L' = L ∧ Cme 0 P xs a ths L' := fun xs a h h0 => by
    obtain ⟨L', h1, h2, h3⟩ := h
    refine ⟨L', h1, h2, ?_, own_step h1 h0 (by omega)⟩
    rcases h3 with h3 | h3 | h3 | h3
    · exact h3.2
    · omega
    · omega
    · omega
  refine ⟨fun xs a h h0 => ?_, fun xs a h h0 => ?_, fun xs a h h0 => ?_, fun xs a h h0 => ?_⟩
  · obtain ⟨L', _, _, _, h4⟩ := key xs a h h0
    exact ⟨h4.1, h4.2.1, h4.2.2.1⟩
  · obtain ⟨L', _, h2, h3, h4⟩ := key xs a h h0
    subst h3
    obtain ⟨_, _, _, h5, _, _, L2, h6, h7⟩ := h4
    refine ⟨L2, h6, h5.trans h2, ?_⟩
    rcases h7 with ⟨h7 | h7, h8⟩ | h7 | h7
    · exact .inl ⟨h7, h8⟩
    · exact .inr (.inl ⟨h2 ▸ h7.1, h7.2, h8⟩)
    · exact .inr (.inr (.inl ⟨h2 ▸ h7.1, h7.2⟩))
    · exact .inr (.inr (.inr ⟨h2 ▸ h7.1, h7.2⟩))
  · obtain ⟨L', _, _, _, h4⟩ := key xs a h h0
    exact h4.2.2.2.2.2.1
  · obtain ⟨L', h1, h2, _, _⟩ := key xs a h h0
    exact own_rem h1 h0 (by omega)
theorem goodT : Good (GT P o oth L al) := by
  have key : ∀ xs a, GT P o oth L al xs a → a.told = 0 → ∃ L', Inw 0 P xs o (fun b => oth b ∨ b = a) L' ∧ a.k = 2 ∧ L' = L ∧ Cmt 0 P xs o (fun b => oth b ∨ b = a) L' a ∧ (al → 1 ≤ a.pc → a.t = ld xs 0) := fun xs a h h0 => by
    obtain ⟨L', h1, h2, h3, h4⟩ := h
    have h5 := h1 (fun b => oth b ∨ b = a) fun b hb => hb.elim .inl fun h => .inr ⟨h, h0⟩
    refine ⟨L', h5, h2, ?_, thf_step h5 (.inr rfl) h0, fun ha hp => (h4 ha).1 hp h0⟩
    rcases h3 with h3 | h3
    · exact h3.2
    · omega
  refine ⟨fun xs a h h0 => ?_, fun xs a h h0 => ?_, fun xs a h h0 => ?_, fun xs a h h0 => ?_⟩
  · obtain ⟨L', _, _, _, h4, _⟩ := key xs a h h0
    exact ⟨h4.1, h4.2.1, h4.2.2.1⟩
  · obtain ⟨L', h1, h2, h3, h4, h5⟩ := key xs a h h0
    subst h3
    obtain ⟨_, _, _, h6, _, ⟨L2, h7, h8⟩, h9⟩ := h4
    refine ⟨L2, fun ths' h10 => h7 ths' fun b hb => (h10 b hb).elim (fun h => .inl (.inl h)) .inr, h6, h8, fun ha => ?_⟩
    have h11 := h9 (h5 ha)
    exact ⟨fun _ h12 => (h11.1 h12).2, h11.2⟩
  · obtain ⟨L', _, _, _, h4, _⟩ := key xs a h h0
    exact h4.2.2.2.2.1
  · obtain ⟨L', h1, h2, _, _⟩ := key xs a h h0
    exact thf_rem h1 (.inr rfl)
theorem Lv.ownAt (_h : Lv P s L) (ho : s.oi = some j) (ha : s.la[j]? = some a) : s.own = a := by
  unfold Sq.own
  rw [ho]
  show s.la.getD j .none = a
  rw [List.getD_eq_getElem?_getD, ha]
  rfl
theorem Lv.beginO (h : Lv P s L) (ho : s.oi = some j) (ha : s.la[j]? = some a) (h0 : a.told = 0) : GO P s.T L a.k s.xs a ∧ a.k ≤ 1 := by
  have h1 := h.inw
  rw [h.ownAt ho ha] at h1
  obtain ⟨b, hb, hk⟩ := h.ok j ho
  rw [ha] at hb
  obtain rfl := Option.some.inj hb
  exact ⟨⟨L, h1, rfl, .inl ⟨h0, rfl⟩⟩, hk⟩
/-- The owner's act went on: what it is now. -/
theorem Lv.goneO (h : Lv P s L) (ho : s.oi = some j) (ha : s.la[j]? = some a) (hk : a.k ≤ 1) (hl : s'.la = s.la.set j a') (hoi : s'.oi = s.oi) (hg : GO P s.T L a.k s'.xs a') : ∃ L', Lv P s' L' ∧ Out a.k L a' L' := by
  obtain ⟨L', h1, h2, h3⟩ := hg
  have hj : j < s.la.length := (List.getElem?_eq_some_iff.1 ha).1
  have hat : s'.la[j]? = some a' := by rw [hl, List.getElem?_set, if_pos rfl, if_pos hj]
  have hnt : ∀ i : Nat, i ≠ j → s'.la[i]? = s.la[i]? := fun i hi => by rw [hl, List.getElem?_set, if_neg (fun e => hi e.symm)]
  have how : s'.own = a' := by
    unfold Sq.own
    rw [hoi, ho]
    show s'.la.getD j .none = a'
    rw [List.getD_eq_getElem?_getD, hat]
    rfl
  refine ⟨L', ⟨?_, fun i b hb hb0 => ?_, fun i hi => ?_⟩, h3⟩
  · rw [how]
    have := h1.steal (V := 0) (ths' := s'.T) (fun b hb => ?_)
    · exact this
    · obtain ⟨i, hb1, hb2, hb3⟩ := hb
      by_cases hij : i = j
      · subst hij
        rw [hat] at hb1
        obtain rfl := Option.some.inj hb1
        omega
      · exact .inl ⟨i, (hnt i hij) ▸ hb1, hb2, hb3⟩
  · by_cases hij : i = j
    · subst hij
      rw [hat] at hb
      obtain rfl := Option.some.inj hb
      exact .inr ⟨hoi.trans ho, by omega⟩
    · rw [hnt i hij] at hb
      rw [hoi]
      exact h.un i b hb hb0
  · rw [hoi, ho] at hi
    obtain rfl := Option.some.inj hi
    exact ⟨a', hat, by omega⟩
theorem Lv.beginT (h : Lv P s L) (ha : s.la[j]? = some a) (hk : a.k = 2) (h0 : a.told = 0) (hal : al → 1 ≤ a.pc → a.t = ld s.xs 0) : GT P s.own s.T L al s.xs a :=
  ⟨L, fun ths' h1 => h.inw.steal (V := 0) fun b hb => (h1 b hb).elim .inl fun e => .inl ⟨j, e.1 ▸ ha, e.1 ▸ hk, e.1 ▸ h0⟩, hk, .inl ⟨.inl h0, rfl⟩, fun hl => ⟨fun h1 _ => hal hl h1, by omega, fun _ h2 => by omega⟩⟩
theorem Lv.goneT (h : Lv P s L) (ha : s.la[j]? = some a) (hk : a.k = 2) (hl : s'.la = s.la.set j a') (hoi : s'.oi = s.oi) (hg : GT P s.own s.T L al s'.xs a') : ∃ L', Lv P s' L' ∧ OutT L a' L' := by
  obtain ⟨L', h1, h2, h3, _⟩ := hg
  have hj : j < s.la.length := (List.getElem?_eq_some_iff.1 ha).1
  have hat : s'.la[j]? = some a' := by rw [hl, List.getElem?_set, if_pos rfl, if_pos hj]
  have hnt : ∀ i : Nat, i ≠ j → s'.la[i]? = s.la[i]? := fun i hi => by rw [hl, List.getElem?_set, if_neg (fun e => hi e.symm)]
  have hoj : ∀ i, s.oi = some i → i ≠ j := fun i hi e => by
    subst e
    obtain ⟨b, hb, hbk⟩ := h.ok i hi
    rw [ha] at hb
    obtain rfl := Option.some.inj hb
    omega
  have how : s'.own = s.own := by
    unfold Sq.own
    rw [hoi]
    cases ho : s.oi with
    | none => rfl
    | some i =>
      show s'.la.getD i .none = s.la.getD i .none
      rw [List.getD_eq_getElem?_getD, List.getD_eq_getElem?_getD, hnt i (hoj i ho)]
  refine ⟨L', ⟨?_, fun i b hb hb0 => ?_, fun i hi => ?_⟩, h3⟩
  · rw [how]
    refine h1 _ fun b hb => ?_
    obtain ⟨i, hb1, hb2, hb3⟩ := hb
    by_cases hij : i = j
    · subst hij
      rw [hat] at hb1
      obtain rfl := Option.some.inj hb1
      exact .inr ⟨rfl, hb3⟩
    · exact .inl ⟨i, (hnt i hij) ▸ hb1, hb2, hb3⟩
  · by_cases hij : i = j
    · subst hij
      rw [hat] at hb
      obtain rfl := Option.some.inj hb
      exact .inl h2
    · rw [hnt i hij] at hb
      rw [hoi]
      exact h.un i b hb hb0
  · rw [hoi] at hi
    rw [hnt i (hoj i hi)]
    exact h.ok i hi
theorem Lv.idleOwn (h : Lv P s L) (hi : s.idle) : s.own.told ≠ 0 := by
  rcases hi with h1 | ⟨j, a, h1, h2, h3⟩
  · unfold Sq.own
    rw [h1]
    show (1 : Int) ≠ 0
    decide
  · rw [h.ownAt h1 h2]
    exact h3
theorem app_at {i : Nat} {b : A} (h1 : (s.la ++ [a])[i]? = some b) : s.la[i]? = some b ∨ (i = s.la.length ∧ b = a) := by
  by_cases hi : i < s.la.length
  · rw [List.getElem?_append_left hi] at h1
    exact .inl h1
  · rw [List.getElem?_append_right (by omega)] at h1
    have h4 : i - s.la.length = 0 := by
      have := (List.getElem?_eq_some_iff.1 h1).1
      simp at this
      omega
    rw [h4] at h1
    exact .inr ⟨by omega, (Option.some.inj h1).symm⟩
theorem app_last : (s.la ++ [a])[s.la.length]? = some a := by rw [List.getElem?_append_right (Nat.le_refl _), Nat.sub_self]; rfl
theorem Lv.bgnO (h : Lv P s L) (hi : s.idle) (hk : a.k ≤ 1) {P' : Int} {L' : List Int} (hI : Inw 0 P' s.xs a s.T L') : Lv P' (s.bgn a (some s.la.length)) L' := by
  have how : (s.bgn a (some s.la.length)).own = a := by
    show (s.la ++ [a]).getD s.la.length .none = a
    rw [List.getD_eq_getElem?_getD, app_last]
    rfl
  refine ⟨?_, fun i b hb hb0 => ?_, fun i hi => ?_⟩
  · rw [how]
    refine hI.steal (V := 0) fun b hb => ?_
    obtain ⟨i, h1, h2, h3⟩ := hb
    rcases app_at h1 with h4 | ⟨_, rfl⟩
    · exact .inl ⟨i, h4, h2, h3⟩
    · omega
  · rcases app_at hb with h4 | ⟨rfl, rfl⟩
    · rcases h.un i b h4 hb0 with h5 | h5
      · exact .inl h5
      · rcases hi with h6 | ⟨j, c, h6, h7, h8⟩
        · rw [h6] at h5
          exact absurd h5.1 (by simp)
        · rw [h6] at h5
          obtain rfl := Option.some.inj h5.1
          rw [h4] at h7
          obtain rfl := Option.some.inj h7
          exact absurd hb0 h8
    · exact .inr ⟨rfl, hk⟩
  · have hi : some s.la.length = some i := hi
    obtain rfl := Option.some.inj hi
    exact ⟨a, app_last, hk⟩
theorem Lv.push (h : Lv P s L) (hi : s.idle) (hP : P + 1 ≤ 300) (v : Int) : Lv (P + 1) (s.bgn (.new 0 v) (some s.la.length)) (L ++ [v]) := h.bgnO hi (by show 0 ≤ 1; omega) (h.inw.push (h.idleOwn hi) hP v)
theorem Lv.pop (h : Lv P s L) (hi : s.idle) : Lv P (s.bgn (.new 1 0) (some s.la.length)) L := h.bgnO hi (Nat.le_refl _) (h.inw.pop (h.idleOwn hi) 0)
theorem Lv.steal (h : Lv P s L) : Lv P (s.bgn (.new 2 0) s.oi) L := by
  have hlt : ∀ j, s.oi = some j → (s.la ++ [A.new 2 0])[j]? = s.la[j]? := fun j hj => by
    obtain ⟨b, hb, _⟩ := h.ok j hj
    rw [List.getElem?_append_left (List.getElem?_eq_some_iff.1 hb).1]
  have how : (s.bgn (.new 2 0) s.oi).own = s.own := by
    unfold Sq.own
    cases ho : s.oi with
    | none => rfl
    | some j =>
      show (s.la ++ [A.new 2 0]).getD j .none = s.la.getD j .none
      rw [List.getD_eq_getElem?_getD, List.getD_eq_getElem?_getD, hlt j ho]
  refine ⟨?_, fun i b hb hb0 => ?_, fun i hi => ?_⟩
  · rw [how]
    refine h.inw.steal (V := 0) fun b hb => ?_
    obtain ⟨i, h1, h2, h3⟩ := hb
    rcases app_at h1 with h4 | ⟨_, rfl⟩
    · exact .inl ⟨i, h4, h2, h3⟩
    · exact .inr rfl
  · rcases app_at hb with h4 | ⟨rfl, rfl⟩
    · exact h.un i b h4 hb0
    · exact .inl rfl
  · obtain ⟨b, hb, hk⟩ := h.ok i hi
    exact ⟨b, (hlt i hi).trans hb, hk⟩
theorem Lv.size (h : Lv P s L) (hi : s.idle) : ld s.xs (0 + 1) - ld s.xs 0 = L.length := h.inw.size (h.idleOwn hi)
/-- Top and bottom are small. -/
theorem Lv.sm (h : Lv P s L) : Sm (ld s.xs (0 + 1)) ∧ Sm (ld s.xs 0) := by
  obtain ⟨⟨nc, β, t, bot, wh, e, lim, val, rows, hC, hO, hT, hL⟩, hP, hF⟩ := h.inw
  have hs := hC.sz
  have hb := hO.bounds hC.tb hs.2.1
  have t0 := hC.t0
  have tb := hC.tb
  rw [hC.bt, hC.top]
  unfold Sm
  omega
end
end Dq
end Go.Proofs.Ytlgelhkpdldgdaa
