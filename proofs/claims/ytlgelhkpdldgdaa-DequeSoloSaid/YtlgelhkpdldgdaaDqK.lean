/-
  Layer 16, plain: a steal's steps; acts that begin; a new deque.
-/
import Derived.Test.YtlgelhkpdldgdaaDqJ
namespace Go.Proofs.Ytlgelhkpdldgdaa
open Go.RowKit
set_option linter.unusedVariables false
set_option linter.unusedSimpArgs false

namespace Dq
section
variable {F P : Int} {xs : List Int} {nc β t bot wh e lim : Int} {val : Int → Int} {rows : Int → Int → Prop} {o a : A} {ths : A → Prop} {L : List Int}
theorem okSteal (hC : Cor F xs nc β t bot wh e val rows) (he : e ≤ 1 + 2 * nc) (hF : F ≤ 60000) (hk : a.k = 2) (hb : Sm a.b) (ht : Sm a.t) (hi : a.i = 0) (h : (a.pc = 3 → 0 ≤ a.w ∧ a.w < xs.length) ∧ (a.pc = 4 → RowOk xs a.w a.n ∧ 0 ≤ a.t) ∧ a.pc ≤ 5) : Ok F xs a := by
  have h1 := hC.big he hF
  exact ⟨hC.F0, h1.1, by omega, hb, ht, by unfold Sm; omega, fun h => by omega, fun h => by omega, fun _ => ⟨hk, h⟩⟩
/-- Top goes on by one: the owner's act stays what it is. -/
theorem Ownr.rose (h : Ownr P xs nc β t bot wh e lim val rows o) (hC : Cor F xs nc β t bot wh e val rows) (hl : t < lim) : Ownr P (up xs F (t + 1)) nc β (t + 1) bot wh e lim val rows o := by
  have hs := hC.sz
  have F0 := hC.F0
  have tb := hC.tb
  have hw : ∀ w n p, F + 3 ≤ w → 1 ≤ n → ld (up xs F (t + 1)) (pl w n p) = ld xs (pl w n p) := fun w n p h1 h2 => by
    have := pl_in (w := w) (i := p) h2
    rw [ld_up_ne (by omega) (by omega) (by omega)]
  have hbl : ∀ nw n, Bld xs nw n rows → Bld (up xs F (t + 1)) nw n rows := fun nw n hb => by
    have := hb.off _ _ hC.cur
    exact ⟨by rw [up_len]; exact hb.lt, by rw [ld_up_ne (by omega) (by omega) (by omega)]; exact hb.hd, hb.off⟩
  cases h with
  | idle h hb he hl1 hP => exact .idle h hb he hl1 hP
  | push0 h hk hp h0 hb he hl1 hP => exact .push0 h hk hp h0 hb he hl1 hP
  | push1 h hk hp h0 ob hb he hl1 hP => exact .push1 h hk hp h0 ob hb he hl1 hP
  | push2 h hk hp h0 ob ot of hb he hl1 hP => exact .push2 h hk hp h0 ob (by omega) of hb he hl1 hP
  | push3 h hk hp h0 ob ot of ow hb he hl1 hP => exact .push3 h hk hp h0 ob (by omega) of ow hb he hl1 hP
  | push10 h hk hp h0 ob ot of ow on hb he hl1 hP => exact .push10 h hk hp h0 ob (by omega) of ow on hb he hl1 hP
  | push11 h hk hp ob ot of ow on oc bl oi cp hb he hl1 hP =>
    have := bl.off _ _ hC.cur
    exact .push11 h hk hp ob (by omega) of ow on oc (hbl _ _ bl) oi (fun p h1 h2 => (hw _ _ _ (by omega) (by omega)).trans (cp p (by omega) h2)) hb he hl1 hP
  | push12 h hk hp ob ot of ow on oc bl oi cp rd hb he hl1 hP =>
    have := bl.off _ _ hC.cur
    exact .push12 h hk hp ob (by omega) of ow on oc (hbl _ _ bl) oi (fun p h1 h2 => (hw _ _ _ (by omega) (by omega)).trans (cp p (by omega) h2)) (fun h => rd (by omega)) hb he hl1 hP
  | push13 h hk hp ob ot of oc bl oi cp hb he hl1 hP =>
    have := bl.off _ _ hC.cur
    exact .push13 h hk hp ob (by omega) of oc (hbl _ _ bl) oi (fun p h1 h2 => (hw _ _ _ (by omega) (by omega)).trans (cp p (by omega) h2)) hb he hl1 hP
  | push20 h hk hp oi ob ot of ow on hb he hl1 hP => exact .push20 h hk hp oi ob (by omega) of ow on hb he hl1 hP
  | push21 h hk hp oi ob ot of oV hb he hl1 hP => exact .push21 h hk hp oi ob (by omega) of ((hw _ _ _ (by omega) (by omega)).trans oV) hb he hl1 hP
  | pop0 h hk hp h0 hb he hl1 hP => exact .pop0 h hk hp h0 hb he hl1 hP
  | pop1 h hk hp h0 ob hb he hl1 hP => exact .pop1 h hk hp h0 ob hb he hl1 hP
  | pop2 h hk hp h0 ob ow hb he hl1 hP => exact .pop2 h hk hp h0 ob ow hb he hl1 hP
  | pop3 h hk hp h0 ob ow hb he hl1 hP => exact .pop3 h hk hp h0 ob ow hb he hl1 hP
  | pop4 h hk hp h0 ob ot ht hb he hl1 hP => omega
  | pop5 h hk hp h0 ob ot ow hc hd hb he hP => exact .pop5 h hk hp h0 ob (by omega) ow (fun h1 => ⟨(hc h1).1, by have := (hc h1).1; omega⟩) hd hb he hP
  | pop6 h hk hp h0 ob ot ow on hc hd hb he hP => exact .pop6 h hk hp h0 ob (by omega) ow on (fun h1 => ⟨(hc h1).1, by have := (hc h1).1; omega⟩) hd hb he hP
  | pop7 h hk hp h0 ob ot rd hb he hl1 hP => exact .pop7 h hk hp h0 ob (by omega) (fun h1 => by omega) hb he hl1 hP
  | pop8 h hk hp h0 ob ot ht hb he hl1 hP => omega
/-- What a steal's step comes to. -/
def Cmt (F P : Int) (xs : List Int) (o : A) (ths : A → Prop) (L : List Int) (a : A) : Prop :=
  Ok F xs a ∧ (acts F xs a).2.2.2 = 0 ∧ (acts F xs a).2.2.1 ≤ 1 ∧ (acts F xs a).1.k = 2 ∧ ((acts F xs a).1.told = 0 → rem (acts F xs a).1 < rem a) ∧
    (∃ L', (∀ ths' : A → Prop, (∀ b, ths' b → ths b ∨ (b = (acts F xs a).1 ∧ (acts F xs a).1.told = 0)) → Inw F P (acts F xs a).2.1 o ths' L') ∧
      (((acts F xs a).1.told = 0 ∨ (acts F xs a).1.told = 3 ∨ (acts F xs a).1.told = 4) ∧ L' = L ∨ ((acts F xs a).1.told = 2 ∧ L = (acts F xs a).1.got :: L'))) ∧
    ((1 ≤ a.pc → a.t = ld xs F) → ((acts F xs a).1.told = 0 → 1 ≤ (acts F xs a).1.pc ∧ (acts F xs a).1.t = ld (acts F xs a).2.1 F) ∧ (acts F xs a).1.told ≠ 4 ∧ (o.told ≠ 0 → (acts F xs a).1.told = 3 → L = []))
theorem thf_step (h : Inw F P xs o ths L) (ha : ths a) (h0 : a.told = 0) : Cmt F P xs o ths L a := by
  obtain ⟨⟨nc, β, t, bot, wh, e, lim, val, rows, hC, hO, hT, hL⟩, hP, hF⟩ := h
  have hs := hC.sz
  have hb := hO.bounds hC.tb hs.2.1
  have F0 := hC.F0
  have t0 := hC.t0
  have tb := hC.tb
  have n6 := hC.nc6
  have fit := hC.fit
  have hl := hC.len
  have hcur := hC.row _ _ hC.cur
  have hA := hT a ha
  have hk := hA.k
  have e2 : ld xs F = t := hC.top
  have e3 : ld xs (F + 1) = bot := hC.bt
  have sb := hA.b
  have st : Sm a.t := by
    by_cases h1 : 1 ≤ a.pc
    · have := hA.h1 h1
      unfold Sm; omega
    · have := hA.t0 (by omega)
      unfold Sm; omega
  have hpc := hA.pc
  have hin : ∀ a' : A, Thf xs t lim val rows a' → ∀ ths' : A → Prop, (∀ b, ths' b → ths b ∨ (b = a' ∧ a'.told = 0)) → Inw F P xs o ths' L := fun a' h1 ths' h2 =>
    ⟨⟨nc, β, t, bot, wh, e, lim, val, rows, hC, hO, fun b hb => by
      rcases h2 b hb with h3 | ⟨rfl, _⟩
      · exact hT b h3
      · exact h1, hL⟩, hP, hF⟩
  have hov : ∀ a' : A, a'.told ≠ 0 → ∀ ths' : A → Prop, (∀ b, ths' b → ths b ∨ (b = a' ∧ a'.told = 0)) → Inw F P xs o ths' L := fun a' h1 ths' h2 =>
    ⟨⟨nc, β, t, bot, wh, e, lim, val, rows, hC, hO, fun b hb => by
      rcases h2 b hb with h3 | ⟨_, h4⟩
      · exact hT b h3
      · exact absurd h4 h1, hL⟩, hP, hF⟩
  have hid : o.told ≠ 0 → bot = β ∧ tail o = [] := fun h => by
    refine ⟨?_, by unfold tail; exact if_neg h⟩
    cases hO with
    | idle _ hb => exact hb
    | push0 h1 => exact absurd h1 h
    | push1 h1 => exact absurd h1 h
    | push2 h1 => exact absurd h1 h
    | push3 h1 => exact absurd h1 h
    | push10 h1 => exact absurd h1 h
    | push11 h1 => exact absurd h1 h
    | push12 h1 => exact absurd h1 h
    | push13 h1 => exact absurd h1 h
    | push20 h1 => exact absurd h1 h
    | push21 h1 => exact absurd h1 h
    | pop0 h1 => exact absurd h1 h
    | pop1 h1 => exact absurd h1 h
    | pop2 h1 => exact absurd h1 h
    | pop3 h1 => exact absurd h1 h
    | pop4 h1 => exact absurd h1 h
    | pop5 h1 => exact absurd h1 h
    | pop6 h1 => exact absurd h1 h
    | pop7 h1 => exact absurd h1 h
    | pop8 h1 => exact absurd h1 h
  have hp6 : a.pc = 0 ∨ a.pc = 1 ∨ a.pc = 2 ∨ a.pc = 3 ∨ a.pc = 4 ∨ a.pc = 5 := by omega
  unfold Cmt
  rcases hp6 with hp | hp | hp | hp | hp | hp
  · have ea : acts F xs a = ({a with t := ld xs F, pc := 1}, xs, 1, 0) := by simp only [acts, steal, hk, hp]
    rw [ea]
    refine ⟨okSteal hC (by omega) hF hk sb st hA.i ⟨fun _ => by omega, fun _ => by omega, by omega⟩, rfl, by simp, hk, fun _ => by simp [rem, hk, hp], ⟨L, hin _ ⟨hk, by show 1 ≤ 5; omega, sb, hA.i, fun h => by have h2 : 1 = 0 := h; omega, fun _ => by show 0 ≤ ld xs F ∧ ld xs F ≤ t; omega, fun h => by have h2 : 2 ≤ 1 := h; omega, fun h => by have h2 : 3 ≤ 1 := h; omega, fun h => by have h2 : 5 ≤ 1 := h; omega⟩, .inl ⟨.inl h0, rfl⟩⟩, fun _ => ⟨fun _ => ⟨Nat.le_refl _, rfl⟩, by show a.told ≠ 4; omega, fun _ h => by have h2 : a.told = 3 := h; omega⟩⟩
  · have ht1 := hA.h1 (by omega)
    have hok : Ok F xs a := okSteal hC (by omega) hF hk sb st hA.i ⟨fun _ => by omega, fun _ => by omega, by omega⟩
    by_cases hg : ld xs (F + 1) ≤ a.t
    · have ea : acts F xs a = ({a with b := ld xs (F + 1), told := 3, got := 0}, xs, 1, 0) := by simp only [acts, steal, hk, hp, if_pos hg]
      rw [ea]
      refine ⟨hok, rfl, by simp, hk, fun h => by have h2 : (3 : Int) = 0 := h; omega, ⟨L, hov _ (by show (3 : Int) ≠ 0; decide), .inl ⟨.inr (.inl rfl), rfl⟩⟩, fun h => ⟨fun h => by have h2 : (3 : Int) = 0 := h; omega, by show (3 : Int) ≠ 4; decide, fun h1 _ => ?_⟩⟩
      have h2 := h (by omega)
      have h3 := hid h1
      rw [hL, h3.2, cont_nil (by omega)]
      rfl
    · have ea : acts F xs a = ({a with b := ld xs (F + 1), pc := 2}, xs, 1, 0) := by simp only [acts, steal, hk, hp, if_neg hg]
      rw [ea]
      refine ⟨hok, rfl, by simp, hk, fun _ => by simp [rem, hk, hp], ⟨L, hin _ ⟨hk, by show 2 ≤ 5; omega, by show Sm (ld xs (F + 1)); unfold Sm; omega, hA.i, fun h => by have h2 : 2 = 0 := h; omega, fun _ => ht1, fun _ (h : a.t = t) => by omega, fun h => by have h2 : 3 ≤ 2 := h; omega, fun h => by have h2 : 5 ≤ 2 := h; omega⟩, .inl ⟨.inl h0, rfl⟩⟩, fun h => ⟨fun _ => ⟨by show 1 ≤ 2; omega, h (by omega)⟩, by show a.told ≠ 4; omega, fun _ h => by have h2 : a.told = 3 := h; omega⟩⟩
  · have ht1 := hA.h1 (by omega)
    have ea : acts F xs a = ({a with w := ld xs (F + 2), pc := 3}, xs, 1, 0) := by simp only [acts, steal, hk, hp]
    rw [ea]
    refine ⟨okSteal hC (by omega) hF hk sb st hA.i ⟨fun _ => by omega, fun _ => by omega, by omega⟩, rfl, by simp, hk, fun _ => by simp [rem, hk, hp], ⟨L, hin _ ⟨hk, by show 3 ≤ 5; omega, sb, hA.i, fun h => by have h2 : 3 = 0 := h; omega, fun _ => ht1, fun _ h => hA.h2 (by omega) h, fun _ => ⟨nc, ?_, fun h => by have h2 : 4 ≤ 3 := h; omega, fun h => ?_⟩, fun h => by have h2 : 5 ≤ 3 := h; omega⟩, .inl ⟨.inl h0, rfl⟩⟩, fun h => ⟨fun _ => ⟨by show 1 ≤ 3; omega, h (by omega)⟩, by show a.told ≠ 4; omega, fun _ h => by have h2 : a.told = 3 := h; omega⟩⟩
    · show rows (ld xs (F + 2)) nc
      rw [hC.whr]
      exact hC.cur
    · show ld xs (pl (ld xs (F + 2)) nc t) = val t
      rw [hC.whr]
      have := hA.h2 (by omega) h
      exact hC.cell t (Int.le_refl _) (by omega)
  · have ht1 := hA.h1 (by omega)
    obtain ⟨m, hm, _, hv⟩ := hA.h3 (by omega)
    have hmr := hC.row _ _ hm
    have ea : acts F xs a = ({a with n := ld xs a.w, pc := 4}, xs, 1, 0) := by simp only [acts, steal, hk, hp]
    rw [ea]
    refine ⟨okSteal hC (by omega) hF hk sb st hA.i ⟨fun _ => by omega, fun _ => by omega, by omega⟩, rfl, by simp, hk, fun _ => by simp [rem, hk, hp], ⟨L, hin _ ⟨hk, by show 4 ≤ 5; omega, sb, hA.i, fun h => by have h2 : 4 = 0 := h; omega, fun _ => ht1, fun _ h => hA.h2 (by omega) h, fun _ => ⟨m, hm, fun _ => hmr.2.2.2, hv⟩, fun h => by have h2 : 5 ≤ 4 := h; omega⟩, .inl ⟨.inl h0, rfl⟩⟩, fun h => ⟨fun _ => ⟨by show 1 ≤ 4; omega, h (by omega)⟩, by show a.told ≠ 4; omega, fun _ h => by have h2 : a.told = 3 := h; omega⟩⟩
  · have ht1 := hA.h1 (by omega)
    obtain ⟨m, hm, hn, hv⟩ := hA.h3 (by omega)
    have hmr := hC.row _ _ hm
    have hn := hn (by omega)
    have ea : acts F xs a = ({a with rd := ld xs (pl a.w a.n a.t), pc := 5}, xs, 1, 0) := by simp only [acts, steal, hk, hp]
    rw [ea]
    refine ⟨okSteal hC (by omega) hF hk sb st hA.i ⟨fun _ => by omega, fun _ => ⟨⟨by omega, by omega, by omega⟩, by omega⟩, by omega⟩, rfl, by simp, hk, fun _ => by simp [rem, hk, hp], ⟨L, hin _ ⟨hk, by show 5 ≤ 5; omega, sb, hA.i, fun h => by have h2 : 5 = 0 := h; omega, fun _ => ht1, fun _ h => hA.h2 (by omega) h, fun _ => ⟨m, hm, fun _ => hn, hv⟩, fun _ h => ?_⟩, .inl ⟨.inl h0, rfl⟩⟩, fun h => ⟨fun _ => ⟨by show 1 ≤ 5; omega, h (by omega)⟩, by show a.told ≠ 4; omega, fun _ h => by have h2 : a.told = 3 := h; omega⟩⟩
    show ld xs (pl a.w a.n a.t) = val t
    have h1 : a.t = t := h
    rw [hn, h1]
    exact hv h1
  · have ht1 := hA.h1 (by omega)
    have hok : Ok F xs a := okSteal hC (by omega) hF hk sb st hA.i ⟨fun _ => by omega, fun _ => by omega, by omega⟩
    by_cases hg : ld xs F = a.t
    · have ea : acts F xs a = ({a with told := 2, got := a.rd}, up xs F (a.t + 1), 1, 0) := by simp only [acts, steal, hk, hp, if_pos hg]
      have h1 : a.t = t := by omega
      have h2 := hA.h2 (by omega) h1
      rw [ea, h1]
      refine ⟨hok, rfl, by simp, hk, fun h => by have h2 : (2 : Int) = 0 := h; omega, ⟨cont (t + 1) β val ++ tail o, fun ths' h3 => ⟨⟨nc, β, t + 1, bot, wh, e, lim, val, rows, hC.setTop (by omega), hO.rose hC h2, fun b hb => ?_, rfl⟩, hP, hF⟩, .inr ⟨rfl, ?_⟩⟩, fun _ => ⟨fun h => by have h2 : (2 : Int) = 0 := h; omega, by show (2 : Int) ≠ 4; decide, fun _ h => by have h2 : (2 : Int) = 3 := h; omega⟩⟩
      · rcases h3 b hb with h4 | ⟨_, h4⟩
        · exact (hT b h4).rose hC _ _
        · have h5 : (2 : Int) = 0 := h4
          omega
      · rw [hL, cont_cons (by omega), ← hA.h5 (by omega) h1]
        rfl
    · have ea : acts F xs a = ({a with told := 4, got := 0}, xs, 1, 0) := by simp only [acts, steal, hk, hp, if_neg hg]
      rw [ea]
      refine ⟨hok, rfl, by simp, hk, fun h => by have h2 : (4 : Int) = 0 := h; omega, ⟨L, hov _ (by show (4 : Int) ≠ 0; decide), .inl ⟨.inr (.inr rfl), rfl⟩⟩, fun h => ?_⟩
      exact absurd (h (by omega)).symm hg
/-- Acts begin. -/
theorem Inw.idle (h : Inw F P xs o ths L) (h0 : o.told ≠ 0) : ∃ nc β t wh val rows, Cor F xs nc β t β wh 0 val rows ∧ (∀ a, ths a → Thf xs t β val rows a) ∧ L = cont t β val ∧ β ≤ P ∧ ∀ P' o', Ownr P' xs nc β t β wh 0 β val rows o' → P' ≤ 300 → tail o' = [] → Inw F P' xs o' ths L := by
  obtain ⟨⟨nc, β, t, bot, wh, e, lim, val, rows, hC, hO, hT, hL⟩, hP, hF⟩ := h
  have hta : tail o = [] := by unfold tail; exact if_neg h0
  rw [hta, List.append_nil] at hL
  cases hO with
  | idle _ hb he hl hP1 =>
    subst hb
    subst he
    subst hl
    exact ⟨nc, _, t, wh, val, rows, hC, hT, hL, hP1, fun P' o' h1 h2 h3 => ⟨⟨nc, _, t, _, wh, _, _, val, rows, hC, h1, hT, by rw [h3, List.append_nil]; exact hL⟩, h2, hF⟩⟩
  | push0 h1 => exact absurd h1 h0
  | push1 h1 => exact absurd h1 h0
  | push2 h1 => exact absurd h1 h0
  | push3 h1 => exact absurd h1 h0
  | push10 h1 => exact absurd h1 h0
  | push11 h1 => exact absurd h1 h0
  | push12 h1 => exact absurd h1 h0
  | push13 h1 => exact absurd h1 h0
  | push20 h1 => exact absurd h1 h0
  | push21 h1 => exact absurd h1 h0
  | pop0 h1 => exact absurd h1 h0
  | pop1 h1 => exact absurd h1 h0
  | pop2 h1 => exact absurd h1 h0
  | pop3 h1 => exact absurd h1 h0
  | pop4 h1 => exact absurd h1 h0
  | pop5 h1 => exact absurd h1 h0
  | pop6 h1 => exact absurd h1 h0
  | pop7 h1 => exact absurd h1 h0
  | pop8 h1 => exact absurd h1 h0
theorem Inw.push (h : Inw F P xs o ths L) (h0 : o.told ≠ 0) (hP : P + 1 ≤ 300) (V : Int) : Inw F (P + 1) xs (.new 0 V) ths (L ++ [V]) := by
  have hF := h.F6
  obtain ⟨nc, β, t, wh, val, rows, hC, hT, hL, hb, _⟩ := h.idle h0
  exact ⟨⟨nc, β, t, β, wh, 0, β, val, rows, hC, .push0 rfl rfl rfl ⟨rfl, rfl, rfl⟩ rfl rfl rfl (by omega), hT, by rw [hL]; rfl⟩, hP, hF⟩
theorem Inw.pop (h : Inw F P xs o ths L) (h0 : o.told ≠ 0) (V : Int) : Inw F P xs (.new 1 V) ths L := by
  obtain ⟨nc, β, t, wh, val, rows, hC, hT, hL, hb, hi⟩ := h.idle h0
  exact hi _ _ (.pop0 rfl rfl rfl ⟨rfl, rfl, rfl⟩ rfl rfl rfl hb) h.P3 (by rfl)
theorem Inw.steal (h : Inw F P xs o ths L) (V : Int) {ths' : A → Prop} (ht : ∀ b, ths' b → ths b ∨ b = .new 2 V) : Inw F P xs o ths' L := by
  obtain ⟨⟨nc, β, t, bot, wh, e, lim, val, rows, hC, hO, hT, hL⟩, hP, hF⟩ := h
  refine ⟨⟨nc, β, t, bot, wh, e, lim, val, rows, hC, hO, fun b hb => ?_, hL⟩, hP, hF⟩
  rcases ht b hb with h1 | rfl
  · exact hT b h1
  · exact ⟨rfl, by show 0 ≤ 5; omega, by show Sm 0; unfold Sm; omega, rfl, fun _ => rfl, fun h => by have h2 : 1 ≤ 0 := h; omega, fun h => by have h2 : 2 ≤ 0 := h; omega, fun h => by have h2 : 3 ≤ 0 := h; omega, fun h => by have h2 : 5 ≤ 0 := h; omega⟩
/-- The size, as its cells say. -/
theorem Inw.size (h : Inw F P xs o ths L) (h0 : o.told ≠ 0) : ld xs (F + 1) - ld xs F = L.length := by
  obtain ⟨nc, β, t, wh, val, rows, hC, hT, hL, hb, hi⟩ := h.idle h0
  have := hC.tb
  rw [hC.bt, hC.top, hL, cont_len]
  omega
/-- No act of the owner yet. -/
def A.none : A := { A.new 1 0 with told := 1 }
def newX (F n : Int) : List Int := 0 :: 0 :: (F + 3) :: n :: List.replicate n.toNat 0
theorem Inw.new (pre : List Int) (n : Int) (h1 : 1 ≤ n) (h2 : n ≤ 600) (hF : (pre.length : Int) ≤ 60000) : Inw pre.length 0 (pre ++ newX pre.length n) .none (fun _ => False) [] := by
  have hl : ((pre ++ newX pre.length n).length : Int) = pre.length + 4 + n := by
    unfold newX
    rw [List.length_append]
    simp only [List.length_cons, List.length_replicate]
    omega
  have hld : ∀ k : Nat, ld (pre ++ newX pre.length n) (pre.length + k) = (newX pre.length n).getD k 0 := fun k => by
    unfold ld
    rw [List.getD_eq_getElem?_getD, List.getElem?_append_right (by omega), List.getD_eq_getElem?_getD]
    congr 2
    omega
  refine ⟨⟨n, 0, 0, 0, pre.length + 3, 0, 0, fun _ => 0, fun w m => w = pre.length + 3 ∧ m = n, ⟨by omega, ?_, ?_, ?_, ⟨rfl, rfl⟩, ?_, ?_, by omega, by omega, by omega, fun p h3 h4 => by omega, by omega, by omega⟩, .idle (by show (1 : Int) ≠ 0; decide) rfl rfl rfl (by omega), fun a h => h.elim, ?_⟩, by omega, hF⟩
  · have := hld 0
    rw [Int.natCast_zero, Int.add_zero] at this
    rw [this]
    rfl
  · exact hld 1
  · exact hld 2
  · rintro w m ⟨rfl, rfl⟩
    exact ⟨by omega, h1, by omega, hld 3⟩
  · rintro w m w' m' ⟨rfl, rfl⟩ ⟨rfl, rfl⟩
    exact .inl rfl
  · rw [cont_nil (by omega)]
    rfl
end
end Dq
end Go.Proofs.Ytlgelhkpdldgdaa
