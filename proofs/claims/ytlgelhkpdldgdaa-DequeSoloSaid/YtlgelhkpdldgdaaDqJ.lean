/-
  Layer 16, plain: each step of each act keeps what holds of a deque; what it does to the values that are left.
-/
import Derived.Test.YtlgelhkpdldgdaaDqI
namespace Go.Proofs.Ytlgelhkpdldgdaa
open Go.RowKit
set_option linter.unusedVariables false
set_option linter.unusedSimpArgs false

namespace Dq
structure Inw (F P : Int) (xs : List Int) (o : A) (ths : A → Prop) (L : List Int) : Prop where
  ex : ∃ nc β t bot wh e lim val rows, Cor F xs nc β t bot wh e val rows ∧ Ownr P xs nc β t bot wh e lim val rows o ∧ (∀ a, ths a → Thf xs t lim val rows a) ∧ L = cont t β val ++ tail o
  P3 : P ≤ 300
  F6 : F ≤ 60000
/-- How many steps an act has ahead of it at most. -/
def rem (o : A) : Int :=
  if o.k = 0 then (if o.pc ≤ 10 then 2011 - o.pc else if o.pc = 11 then 4 + 3 * (o.b - o.i) else if o.pc = 12 then 3 + 3 * (o.b - o.i) else if o.pc = 13 then 3 else if o.pc = 20 then 2 else 1)
  else if o.k = 1 then 9 - o.pc else 6 - o.pc
section
variable {F P : Int} {xs : List Int} {nc β t bot wh e lim : Int} {val : Int → Int} {rows : Int → Int → Prop} {o a : A} {ths : A → Prop} {L : List Int}
theorem Ownr.bounds (h : Ownr P xs nc β t bot wh e lim val rows o) (ht : t ≤ β) (hn : 1 ≤ nc) : bot ≤ lim ∧ lim ≤ β ∧ β - 1 ≤ bot ∧ β ≤ P ∧ 0 ≤ e ∧ e ≤ 1 + 2 * nc := by
  cases h <;> omega
theorem Cor.big (h : Cor F xs nc β t bot wh e val rows) (he : e ≤ 1 + 2 * nc) (hF : F ≤ 60000) : F + 3 ≤ xs.length ∧ xs.length ≤ 65000 := by
  have := h.sz
  have := h.len
  have := h.nc6
  omega
theorem Cor.app (h : Cor F xs nc β t bot wh e val rows) (ys : List Int) {e' : Int} (he : (xs ++ ys).length ≤ F + 4 + 3 * nc + e') : Cor F (xs ++ ys) nc β t bot wh e' val rows := by
  have h0 := h.F0
  have hs := h.sz
  have hl : ((xs ++ ys).length : Int) = xs.length + ys.length := by rw [List.length_append]; omega
  refine ⟨h0, ?_, ?_, ?_, h.cur, fun w n hw => ?_, h.dis, h.t0, h.tb, h.fit, fun p h1 h2 => ?_, h.nc6, he⟩
  · rw [ld_app (by omega) (by omega)]; exact h.top
  · rw [ld_app (by omega) (by omega)]; exact h.bt
  · rw [ld_app (by omega) (by omega)]; exact h.whr
  · have := h.row w n hw
    rw [ld_app (by omega) (by omega)]
    omega
  · have := pl_in (w := wh) (i := p) hs.2.1
    rw [ld_app (by omega) (by omega)]
    exact h.cell p h1 h2
theorem Thf.app (h : Thf xs t lim val rows a) (hC : Cor F xs nc β t bot wh e val rows) (ys : List Int) : Thf (xs ++ ys) t lim val rows a := by
  have h0 := hC.F0
  refine ⟨h.k, h.pc, h.b, h.i, h.t0, h.h1, h.h2, fun h3 => ?_, h.h5⟩
  obtain ⟨m, h4, h5, h6⟩ := h.h3 h3
  refine ⟨m, h4, h5, fun e => ?_⟩
  have := hC.row _ _ h4
  have := pl_in (w := a.w) (i := t) this.2.1
  rw [ld_app (by omega) (by omega)]
  exact h6 e
theorem Thf.toRows (h : Thf xs t lim val rows a) {rows' : Int → Int → Prop} (hr : ∀ w n, rows w n → rows' w n) : Thf xs t lim val rows' a := by
  refine ⟨h.k, h.pc, h.b, h.i, h.t0, h.h1, h.h2, fun h3 => ?_, h.h5⟩
  obtain ⟨m, h4, h5, h6⟩ := h.h3 h3
  exact ⟨m, hr _ _ h4, h5, h6⟩
theorem Thf.toVal (h : Thf xs t lim val rows a) {val' : Int → Int} (hv : t < lim → val' t = val t) : Thf xs t lim val' rows a := by
  refine ⟨h.k, h.pc, h.b, h.i, h.t0, h.h1, h.h2, fun h3 => ?_, fun h5 e => ?_⟩
  · obtain ⟨m, h4, h5, h6⟩ := h.h3 h3
    exact ⟨m, h4, h5, fun e => (h6 e).trans (hv (h.h2 (by omega) e)).symm⟩
  · exact (h.h5 h5 e).trans (hv (h.h2 (by omega) e)).symm
theorem okPush (hC : Cor F xs nc β t bot wh e val rows) (he : e ≤ 1 + 2 * nc) (hF : F ≤ 60000) (hk : a.k = 0) (hb : Sm a.b) (ht : Sm a.t) (hi : Sm a.i) (h : (a.pc = 3 → 0 ≤ a.w ∧ a.w < xs.length ∧ Sm (ld xs a.w)) ∧ (a.pc = 10 → 1 ≤ a.n ∧ a.n ≤ 65536) ∧ (a.pc = 11 → RowOk xs a.w a.n ∧ 0 ≤ a.i) ∧ (a.pc = 12 → RowOk xs a.nw a.nc ∧ 0 ≤ a.i) ∧ (a.pc = 20 → RowOk xs a.w a.n ∧ 0 ≤ a.b) ∧ (a.pc ≤ 3 ∨ 10 ≤ a.pc ∧ a.pc ≤ 13 ∨ a.pc = 20 ∨ a.pc = 21)) : Ok F xs a := by
  have h1 := hC.big he hF
  exact ⟨hC.F0, h1.1, by omega, hb, ht, hi, fun _ => h, fun h => by omega, fun h => by omega⟩
theorem okPop (hC : Cor F xs nc β t bot wh e val rows) (he : e ≤ 1 + 2 * nc) (hF : F ≤ 60000) (hk : a.k = 1) (hb : Sm a.b) (ht : Sm a.t) (hi : a.i = 0 ∨ a.i = 1) (h : (a.pc = 5 → 0 ≤ a.w ∧ a.w < xs.length) ∧ (a.pc = 6 → RowOk xs a.w a.n ∧ 1 ≤ a.b) ∧ (a.pc = 4 → a.i = 0) ∧ (a.pc = 7 → a.i = 0) ∧ a.pc ≤ 8) : Ok F xs a := by
  have h1 := hC.big he hF
  exact ⟨hC.F0, h1.1, by omega, hb, ht, by unfold Sm; omega, fun h => by omega, fun _ => ⟨h.1, h.2.1, hi, h.2.2⟩, fun h => by omega⟩
/-- What an owner's step comes to. -/
def Cme (F P : Int) (xs : List Int) (o : A) (ths : A → Prop) (L : List Int) : Prop :=
  Ok F xs o ∧ (acts F xs o).2.2.2 = 0 ∧ (acts F xs o).2.2.1 ≤ 1 ∧ (acts F xs o).1.k = o.k ∧ (acts F xs o).1.V = o.V ∧ ((acts F xs o).1.told = 0 → rem (acts F xs o).1 < rem o) ∧
    ∃ L', Inw F P (acts F xs o).2.1 (acts F xs o).1 ths L' ∧
      (((acts F xs o).1.told = 0 ∨ (o.k = 0 ∧ (acts F xs o).1.told = 1 ∧ (acts F xs o).1.got = 0)) ∧ L' = L ∨ (o.k = 1 ∧ (acts F xs o).1.told = 3 ∧ L' = L ∧ L = []) ∨ (o.k = 1 ∧ (acts F xs o).1.told = 2 ∧ L = L' ++ [(acts F xs o).1.got]))
theorem own_push (hC : Cor F xs nc β t bot wh e val rows) (hO : Ownr P xs nc β t bot wh e lim val rows o) (hT : ∀ a, ths a → Thf xs t lim val rows a) (hL : L = cont t β val ++ tail o) (hP : P ≤ 300) (hF : F ≤ 60000) (h0 : o.told = 0) (hk : o.k = 0) : Cme F P xs o ths L := by
  have hs := hC.sz
  have hb := hO.bounds hC.tb hs.2.1
  have F0 := hC.F0
  have t0 := hC.t0
  have tb := hC.tb
  have n6 := hC.nc6
  have fit := hC.fit
  have hl := hC.len
  have hcur := hC.row _ _ hC.cur
  have hta : tail o = [o.V] := by unfold tail; rw [if_pos h0, if_pos hk]
  have hLL : ∀ o' : A, o'.told = 0 → o'.k = 0 → o'.V = o.V → L = cont t β val ++ tail o' := fun o' h1 h2 h3 => by
    rw [hL, hta]
    unfold tail
    rw [if_pos h1, if_pos h2, h3]
  have hr1 : ∀ w n, rows w n → 0 ≤ w ∧ 1 ≤ n := fun w n hw => by
    have := hC.row w n hw
    omega
  unfold Cme
  cases hO with
  | idle h => exact absurd h0 h
  | push0 h hk hp h00 hb1 he hl1 hP1 =>
    have ea : acts F xs o = ({o with b := ld xs (F + 1), pc := 1}, xs, 1, 0) := by simp only [acts, push, hk, hp]
    rw [ea]
    refine ⟨okPush hC (by omega) hF hk (by unfold Sm; omega) (by unfold Sm; omega) (by unfold Sm; omega) ⟨fun _ => by omega, fun _ => by omega, fun _ => by omega, fun _ => by omega, fun _ => by omega, by omega⟩, rfl, by simp, rfl, rfl, fun _ => by simp [rem, hk, hp], L, ⟨⟨nc, β, t, bot, wh, _, lim, val, rows, hC, .push1 h hk rfl h00.2 (hC.bt.trans hb1) hb1 he hl1 hP1, hT, hLL _ h hk rfl⟩, hP, hF⟩, .inl ⟨.inl h0, rfl⟩⟩
  | push1 h hk hp h00 ob hb1 he hl1 hP1 =>
    have ea : acts F xs o = ({o with t := ld xs F, pc := 2}, xs, 1, 0) := by simp only [acts, push, hk, hp]
    rw [ea]
    have e2 : ld xs F = t := hC.top
    refine ⟨okPush hC (by omega) hF hk (by unfold Sm; omega) (by unfold Sm; omega) (by unfold Sm; omega) ⟨fun _ => by omega, fun _ => by omega, fun _ => by omega, fun _ => by omega, fun _ => by omega, by omega⟩, rfl, by simp, rfl, rfl, fun _ => by simp [rem, hk, hp], L, ⟨⟨nc, β, t, bot, wh, _, lim, val, rows, hC, .push2 h hk rfl h00.2 ob (by show 0 ≤ ld xs F ∧ ld xs F ≤ t; omega) (by show β - ld xs F ≤ nc; omega) hb1 he hl1 hP1, hT, hLL _ h hk rfl⟩, hP, hF⟩, .inl ⟨.inl h0, rfl⟩⟩
  | push2 h hk hp h00 ob ot of hb1 he hl1 hP1 =>
    have ea : acts F xs o = ({o with w := ld xs (F + 2), pc := 3}, xs, 1, 0) := by simp only [acts, push, hk, hp]
    rw [ea]
    refine ⟨okPush hC (by omega) hF hk (by unfold Sm; omega) (by unfold Sm; omega) (by unfold Sm; omega) ⟨fun _ => by omega, fun _ => by omega, fun _ => by omega, fun _ => by omega, fun _ => by omega, by omega⟩, rfl, by simp, rfl, rfl, fun _ => by simp [rem, hk, hp], L, ⟨⟨nc, β, t, bot, wh, _, lim, val, rows, hC, .push3 h hk rfl h00 ob ot of hC.whr hb1 he hl1 hP1, hT, hLL _ h hk rfl⟩, hP, hF⟩, .inl ⟨.inl h0, rfl⟩⟩
  | push3 h hk hp h00 ob ot of ow hb1 he hl1 hP1 =>
    have ea : acts F xs o = ({o with n := ld xs o.w, pc := if ld xs o.w ≤ o.b - o.t then 10 else 20}, xs, 1, 0) := by simp only [acts, push, hk, hp]
    rw [ea]
    have e2 : ld xs o.w = nc := by rw [ow]; exact hcur.2.2.2
    have hok : Ok F xs o := okPush hC (by omega) hF hk (by unfold Sm; omega) (by unfold Sm; omega) (by unfold Sm; omega) ⟨fun _ => ⟨by omega, by omega, by unfold Sm; omega⟩, fun _ => by omega, fun _ => by omega, fun _ => by omega, fun _ => by omega, by omega⟩
    by_cases hg : ld xs o.w ≤ o.b - o.t
    · rw [if_pos hg]
      refine ⟨hok, rfl, by simp, rfl, rfl, fun _ => by simp [rem, hk, hp], L, ⟨⟨nc, β, t, bot, wh, _, lim, val, rows, hC, .push10 h hk rfl h00 ob ot (by show β - o.t = nc; omega) ow e2 hb1 he hl1 hP1, hT, hLL _ h hk rfl⟩, hP, hF⟩, .inl ⟨.inl h0, rfl⟩⟩
    · rw [if_neg hg]
      refine ⟨hok, rfl, by simp, rfl, rfl, fun _ => by simp [rem, hk, hp], L, ⟨⟨nc, β, t, bot, wh, _, lim, val, rows, hC, .push20 h hk rfl (by show Sm o.i; unfold Sm; omega) ob ot (by show β - o.t < nc; omega) ow e2 hb1 he hl1 hP1, hT, hLL _ h hk rfl⟩, hP, hF⟩, .inl ⟨.inl h0, rfl⟩⟩
  | push10 h hk hp h00 ob ot of ow on hb1 he hl1 hP1 =>
    have hroom : room xs o.n = true := decide_eq_true (by omega)
    have ea : acts F xs o = ({o with nw := xs.length, nc := 2 * o.n, i := o.t, pc := 11}, moreX xs o.n, 0, 0) := by
      have h9 : o.t < o.b := by omega
      simp only [acts, push, hk, hp, hroom, if_true, if_pos h9]
    rw [ea, on]
    have hml : ((moreX xs nc).length : Int) = xs.length + 1 + 2 * nc := by
      unfold moreX
      rw [List.length_append, List.length_cons, List.length_replicate]
      omega
    have hC' : Cor F (moreX xs nc) nc β t bot wh (1 + 2 * nc) val rows := hC.app _ (by show ((moreX xs nc).length : Int) ≤ _; omega)
    have hhd : ld (moreX xs nc) xs.length = 2 * nc := by
      unfold ld moreX
      rw [Int.toNat_natCast, List.getD_eq_getElem?_getD, List.getElem?_append_right (Nat.le_refl _), Nat.sub_self]
      rfl
    refine ⟨okPush hC (by omega) hF hk (by unfold Sm; omega) (by unfold Sm; omega) (by unfold Sm; omega) ⟨fun _ => by omega, fun _ => by omega, fun _ => by omega, fun _ => by omega, fun _ => by omega, by omega⟩, rfl, by simp, rfl, rfl, fun _ => by simp [rem, hk, hp] <;> omega, L, ⟨⟨nc, β, t, bot, wh, _, lim, val, rows, hC', .push11 h hk rfl ob ot of ow rfl rfl ⟨by show (xs.length : Int) + 2 * nc < (moreX xs nc).length; omega, hhd, fun w m hw => by have := hC.row w m hw; show w + m < (xs.length : Int); omega⟩ ⟨Int.le_refl _, by show o.t < β; omega⟩ (fun p h1 h2 => absurd h2 (by show ¬ p < o.t; omega)) hb1 rfl hl1 hP1, fun a ha => (hT a ha).app hC _, hLL _ h hk rfl⟩, hP, hF⟩, .inl ⟨.inl h0, rfl⟩⟩
  | push11 h hk hp ob ot of ow on oc bl oi cp hb1 he hl1 hP1 =>
    have ea : acts F xs o = ({o with rd := ld xs (pl o.w o.n o.i), pc := 12}, xs, 1, 0) := by simp only [acts, push, hk, hp]
    rw [ea]
    refine ⟨okPush hC (by omega) hF hk (by unfold Sm; omega) (by unfold Sm; omega) (by unfold Sm; omega) ⟨fun _ => by omega, fun _ => by omega, fun _ => ⟨⟨by omega, by omega, by omega⟩, by omega⟩, fun _ => by omega, fun _ => by omega, by omega⟩, rfl, by simp, rfl, rfl, fun _ => by simp [rem, hk, hp] <;> omega, L, ⟨⟨nc, β, t, bot, wh, _, lim, val, rows, hC, .push12 h hk rfl ob ot of ow on oc bl oi cp (fun h1 => by show ld xs (pl o.w o.n o.i) = _; rw [ow, on]; exact hC.cell _ h1 oi.2) hb1 he hl1 hP1, hT, hLL _ h hk rfl⟩, hP, hF⟩, .inl ⟨.inl h0, rfl⟩⟩
  | push12 h hk hp ob ot of ow on oc bl oi cp rd hb1 he hl1 hP1 =>
    have ea : acts F xs o = ({o with i := o.i + 1, pc := if o.i + 1 < o.b then 11 else 13}, up xs (pl o.nw o.nc o.i) o.rd, 1, 0) := by simp only [acts, push, hk, hp]
    rw [ea, oc]
    have hnw := bl.off _ _ hC.cur
    have hbl := bl.lt
    have hin := pl_in (w := o.nw) (n := 2 * nc) (i := o.i) (by omega)
    have hC' : Cor F (up xs (pl o.nw (2 * nc) o.i) o.rd) nc β t bot wh e val rows := by
      refine hC.write (by omega) ?_ ?_ (by omega) (fun w n hw => ?_) (fun p _ _ => ?_) ⟨Int.le_refl _, tb⟩
      · rw [ld_up_ne (by omega) (by omega) (by omega)]; exact hC.top
      · rw [ld_up_ne (by omega) (by omega) (by omega)]; exact hC.bt
      · have := bl.off w n hw
        have := hr1 w n hw
        omega
      · have := pl_in (w := wh) (i := p) hs.2.1
        omega
    have hT' : ∀ a, ths a → Thf (up xs (pl o.nw (2 * nc) o.i) o.rd) t lim val rows a := fun a ha => (hT a ha).write (by omega) hr1 fun m hm _ => by
      have := bl.off _ m hm
      have := pl_in (w := a.w) (i := t) (hr1 _ _ hm).2
      omega
    have bl' : Bld (up xs (pl o.nw (2 * nc) o.i) o.rd) o.nw (2 * nc) rows := ⟨by rw [up_len]; exact bl.lt, by rw [ld_up_ne (by omega) (by omega) (by omega)]; exact bl.hd, bl.off⟩
    have cp' : ∀ p, t ≤ p → p < o.i + 1 → ld (up xs (pl o.nw (2 * nc) o.i) o.rd) (pl o.nw (2 * nc) p) = val p := fun p h1 h2 => by
      have h3 := pl_in (w := o.nw) (n := 2 * nc) (i := p) (by omega)
      by_cases hpi : p = o.i
      · subst hpi
        rw [ld_up (by omega) (by omega) (by omega), if_pos rfl]
        exact rd h1
      · rw [ld_up_ne (by omega) (by omega) (fun e => hpi (pl_inj (by omega) e (by omega) (by omega)))]
        exact cp p h1 (by omega)
    have hok : Ok F xs o := okPush hC (by omega) hF hk (by unfold Sm; omega) (by unfold Sm; omega) (by unfold Sm; omega) ⟨fun _ => by omega, fun _ => by omega, fun _ => by omega, fun _ => ⟨⟨by omega, by omega, by omega⟩, by omega⟩, fun _ => by omega, by omega⟩
    by_cases hg : o.i + 1 < o.b
    · rw [if_pos hg]
      refine ⟨hok, rfl, by simp, rfl, rfl, fun _ => by simp [rem, hk, hp] <;> omega, L, ⟨⟨nc, β, t, bot, wh, _, lim, val, rows, hC', .push11 h hk rfl ob ot of ow on rfl bl' (by show o.t ≤ o.i + 1 ∧ o.i + 1 < β; omega) cp' hb1 he hl1 hP1, hT', hLL _ h hk rfl⟩, hP, hF⟩, .inl ⟨.inl h0, rfl⟩⟩
    · rw [if_neg hg]
      refine ⟨hok, rfl, by simp, rfl, rfl, fun _ => by simp [rem, hk, hp] <;> omega, L, ⟨⟨nc, β, t, bot, wh, _, lim, val, rows, hC', .push13 h hk rfl ob ot of rfl bl' (by show o.i + 1 = β; omega) (fun p h1 h2 => cp' p h1 (by omega)) hb1 he hl1 hP1, hT', hLL _ h hk rfl⟩, hP, hF⟩, .inl ⟨.inl h0, rfl⟩⟩
  | push13 h hk hp ob ot of oc bl oi cp hb1 he hl1 hP1 =>
    have ea : acts F xs o = ({o with w := o.nw, n := o.nc, pc := 20}, up xs (F + 2) o.nw, 1, 0) := by simp only [acts, push, hk, hp]
    rw [ea]
    have hnw := bl.off _ _ hC.cur
    have hbl := bl.lt
    have hC' : Cor F (up xs (F + 2) o.nw) (2 * nc) β t bot o.nw 0 val (fun w n => rows w n ∨ (w = o.nw ∧ n = 2 * nc)) := by
      refine ⟨F0, ?_, ?_, ?_, .inr ⟨rfl, rfl⟩, fun w n hw => ?_, fun w n w' n' h1 h2 => ?_, t0, tb, by omega, fun p h1 h2 => ?_, by omega, ?_⟩
      · rw [ld_up_ne (by omega) (by omega) (by omega)]; exact hC.top
      · rw [ld_up_ne (by omega) (by omega) (by omega)]; exact hC.bt
      · rw [ld_up (by omega) (by omega) (by omega), if_pos rfl]
      · rw [up_len]
        rcases hw with hw | ⟨rfl, rfl⟩
        · have := hC.row w n hw
          rw [ld_up_ne (by omega) (by omega) (by omega)]
          exact this
        · rw [ld_up_ne (by omega) (by omega) (by omega)]
          exact ⟨by omega, by omega, bl.lt, bl.hd⟩
      · rcases h1 with h1 | ⟨rfl, rfl⟩
        · rcases h2 with h2 | ⟨rfl, rfl⟩
          · exact hC.dis _ _ _ _ h1 h2
          · exact .inr (.inl (bl.off _ _ h1))
        · rcases h2 with h2 | ⟨rfl, rfl⟩
          · exact .inr (.inr (bl.off _ _ h2))
          · exact .inl rfl
      · have := pl_in (w := o.nw) (n := 2 * nc) (i := p) (by omega)
        rw [ld_up_ne (by omega) (by omega) (by omega)]
        exact cp p h1 h2
      · rw [up_len]; omega
    refine ⟨okPush hC (by omega) hF hk (by unfold Sm; omega) (by unfold Sm; omega) (by unfold Sm; omega) ⟨fun _ => by omega, fun _ => by omega, fun _ => by omega, fun _ => by omega, fun _ => by omega, by omega⟩, rfl, by simp, rfl, rfl, fun _ => by simp [rem, hk, hp], L, ⟨⟨2 * nc, β, t, bot, o.nw, _, lim, val, _, hC', .push20 h hk rfl (by show Sm o.i; unfold Sm; omega) ob ot (by show β - o.t < 2 * nc; omega) rfl oc hb1 rfl hl1 hP1, fun a ha => ((hT a ha).low hC (by omega) (by omega)).toRows fun w n hw => .inl hw, hLL _ h hk rfl⟩, hP, hF⟩, .inl ⟨.inl h0, rfl⟩⟩
  | push20 h hk hp oi ob ot of ow on hb1 he hl1 hP1 =>
    have ea : acts F xs o = ({o with pc := 21}, up xs (pl o.w o.n o.b) o.V, 1, 0) := by simp only [acts, push, hk, hp]
    rw [ea, ow, on, ob]
    have hin := pl_in (w := wh) (n := nc) (i := β) (by omega)
    have hC' : Cor F (up xs (pl wh nc β) o.V) nc β t bot wh e val rows := by
      refine hC.write (by omega) ?_ ?_ (by omega) (fun w n hw => ?_) (fun p h1 h2 e => ?_) ⟨Int.le_refl _, tb⟩
      · rw [ld_up_ne (by omega) (by omega) (by omega)]; exact hC.top
      · rw [ld_up_ne (by omega) (by omega) (by omega)]; exact hC.bt
      · have h1 := hC.row w n hw
        rcases hC.dis _ _ _ _ hC.cur hw with h2 | h2 | h2 <;> omega
      · have := pl_inj hs.2.1 e (by omega) (by omega)
        omega
    have hT' : ∀ a, ths a → Thf (up xs (pl wh nc β) o.V) t lim val rows a := fun a ha => (hT a ha).write (by omega) hr1 fun m hm hlt e => by
      have h1 := pl_in (w := a.w) (i := t) (hr1 _ _ hm).2
      rcases hC.dis _ _ _ _ hC.cur hm with h2 | h2 | h2
      · have h3 := (hC.row _ _ hm).2.2.2
        rw [← h2, hcur.2.2.2] at h3
        subst h3
        rw [← h2] at e
        have := pl_inj hs.2.1 e (by omega) (by omega)
        omega
      · omega
      · omega
    refine ⟨okPush hC (by omega) hF hk (by unfold Sm; omega) (by unfold Sm; omega) oi ⟨fun _ => by omega, fun _ => by omega, fun _ => by omega, fun _ => by omega, fun _ => ⟨⟨by omega, by omega, by omega⟩, by omega⟩, by omega⟩, rfl, by simp, rfl, rfl, fun _ => by simp [rem, hk, hp], L, ⟨⟨nc, β, t, bot, wh, _, lim, val, rows, hC', .push21 h hk rfl oi rfl ot of (by rw [ld_up (by omega) (by omega) (by omega), if_pos rfl]) hb1 he hl1 hP1, hT', hLL _ h hk rfl⟩, hP, hF⟩, .inl ⟨.inl h0, rfl⟩⟩
  | push21 h hk hp oi ob ot of oV hb1 he hl1 hP1 =>
    have ea : acts F xs o = ({o with told := 1, got := 0}, up xs (F + 1) (o.b + 1), 1, 0) := by simp only [acts, push, hk, hp]
    rw [ea, ob]
    have hv : ∀ p, p ≠ β → (fun p => if p = β then o.V else val p) p = val p := fun p h => if_neg h
    have hvb : (fun p => if p = β then o.V else val p) β = o.V := if_pos rfl
    generalize hval : (fun p => if p = β then o.V else val p) = val' at hv hvb
    have hC1 := hC.setBot (β + 1)
    have hC' : Cor F (up xs (F + 1) (β + 1)) nc (β + 1) t (β + 1) wh e val' rows := by
      refine ⟨F0, hC1.top, hC1.bt, hC1.whr, hC1.cur, hC1.row, hC1.dis, t0, by omega, by omega, fun p h1 h2 => ?_, n6, hC1.len⟩
      by_cases hpb : p = β
      · subst hpb
        have := pl_in (w := wh) (n := nc) (i := p) (by omega)
        rw [ld_up_ne (by omega) (by omega) (by omega), oV, hvb]
      · rw [hC1.cell p h1 (by omega), hv p hpb]
    have hL' : L = cont t (β + 1) val' ++ tail {o with told := 1, got := 0} := by
      have e2 : tail {o with told := 1, got := 0} = [] := by unfold tail; exact if_neg (by show ¬ (1 : Int) = 0; decide)
      rw [hL, hta, e2, List.append_nil, cont_snoc tb, hvb, cont_congr fun p h1 h2 => (hv p (by omega)).symm]
    refine ⟨okPush hC (by omega) hF hk (by unfold Sm; omega) (by unfold Sm; omega) oi ⟨fun _ => by omega, fun _ => by omega, fun _ => by omega, fun _ => by omega, fun _ => by omega, by omega⟩, rfl, by simp, rfl, rfl, fun h => absurd h (by show ¬ (1 : Int) = 0; decide), L, ⟨⟨nc, β + 1, t, β + 1, wh, _, β + 1, val', rows, hC', .idle (by show (1 : Int) ≠ 0; decide) rfl he rfl hP1, fun a ha => (((hT a ha).low hC (by omega) (by omega)).toVal fun h => hv t (by omega)).toLim fun _ _ _ => by omega, hL'⟩, hP, hF⟩, .inl ⟨.inr ⟨hk, rfl, rfl⟩, rfl⟩⟩
  | pop0 _ hk2 => omega
  | pop1 _ hk2 => omega
  | pop2 _ hk2 => omega
  | pop3 _ hk2 => omega
  | pop4 _ hk2 => omega
  | pop5 _ hk2 => omega
  | pop6 _ hk2 => omega
  | pop7 _ hk2 => omega
  | pop8 _ hk2 => omega
theorem own_pop (hC : Cor F xs nc β t bot wh e val rows) (hO : Ownr P xs nc β t bot wh e lim val rows o) (hT : ∀ a, ths a → Thf xs t lim val rows a) (hL : L = cont t β val ++ tail o) (hP : P ≤ 300) (hF : F ≤ 60000) (h0 : o.told = 0) (hk : o.k = 1) : Cme F P xs o ths L := by
  have hs := hC.sz
  have hb := hO.bounds hC.tb hs.2.1
  have F0 := hC.F0
  have t0 := hC.t0
  have tb := hC.tb
  have n6 := hC.nc6
  have fit := hC.fit
  have hl := hC.len
  have hcur := hC.row _ _ hC.cur
  have hta : tail o = if o.pc = 8 ∧ o.i = 1 then [o.rd] else [] := by unfold tail; rw [if_pos h0, if_neg (by omega)]
  unfold Cme
  cases hO with
  | idle h => exact absurd h0 h
  | pop0 h hk hp h00 hb1 he hl1 hP1 =>
    have ea : acts F xs o = ({o with b := ld xs (F + 1), pc := 1}, xs, 1, 0) := by simp only [acts, pop, hk, hp]
    rw [ea]
    refine ⟨okPop hC (by omega) hF hk (by unfold Sm; omega) (by unfold Sm; omega) (by omega) ⟨fun _ => by omega, fun _ => by omega, by omega⟩, rfl, by simp, rfl, rfl, fun _ => by simp [rem, hk, hp], L, ⟨⟨nc, β, t, bot, wh, _, lim, val, rows, hC, .pop1 h hk rfl h00.2 (hC.bt.trans hb1) hb1 he hl1 hP1, hT, ?_⟩, hP, hF⟩, .inl ⟨.inl h0, rfl⟩⟩
    rw [hL, hta]
    unfold tail
    simp [h0, hk, hp]
  | pop1 h hk hp h00 ob hb1 he hl1 hP1 =>
    have ea : acts F xs o = ({o with w := ld xs (F + 2), pc := 2}, xs, 1, 0) := by simp only [acts, pop, hk, hp]
    rw [ea]
    refine ⟨okPop hC (by omega) hF hk (by unfold Sm; omega) (by unfold Sm; omega) (by omega) ⟨fun _ => by omega, fun _ => by omega, by omega⟩, rfl, by simp, rfl, rfl, fun _ => by simp [rem, hk, hp], L, ⟨⟨nc, β, t, bot, wh, _, lim, val, rows, hC, .pop2 h hk rfl h00 ob hC.whr hb1 he hl1 hP1, hT, ?_⟩, hP, hF⟩, .inl ⟨.inl h0, rfl⟩⟩
    rw [hL, hta]
    unfold tail
    simp [h0, hk, hp]
  | pop2 h hk hp h00 ob ow hb1 he hl1 hP1 =>
    have ea : acts F xs o = ({o with pc := 3}, up xs (F + 1) (o.b - 1), 1, 0) := by simp only [acts, pop, hk, hp]
    rw [ea, ob]
    refine ⟨okPop hC (by omega) hF hk (by unfold Sm; omega) (by unfold Sm; omega) (by omega) ⟨fun _ => by omega, fun _ => by omega, by omega⟩, rfl, by simp, rfl, rfl, fun _ => by simp [rem, hk, hp], L, ⟨⟨nc, β, t, β - 1, wh, _, lim, val, rows, hC.setBot _, .pop3 h hk rfl h00 rfl ow rfl he hl1 hP1, fun a ha => (hT a ha).low hC (by omega) (by omega), ?_⟩, hP, hF⟩, .inl ⟨.inl h0, rfl⟩⟩
    rw [hL, hta]
    unfold tail
    simp [h0, hk, hp]
  | pop3 h hk hp h00 ob ow hb1 he hl1 hP1 =>
    have ea : acts F xs o = ({o with t := ld xs F, pc := if o.b - 1 < ld xs F then 4 else 5}, xs, 1, 0) := by simp only [acts, pop, hk, hp]
    rw [ea]
    have e2 : ld xs F = t := hC.top
    have hok : Ok F xs o := okPop hC (by omega) hF hk (by unfold Sm; omega) (by unfold Sm; omega) (by omega) ⟨fun _ => by omega, fun _ => by omega, by omega⟩
    by_cases hg : o.b - 1 < ld xs F
    · rw [if_pos hg]
      refine ⟨hok, rfl, by simp, rfl, rfl, fun _ => by simp [rem, hk, hp], L, ⟨⟨nc, β, t, bot, wh, _, lim, val, rows, hC, .pop4 h hk rfl h00.2 ob e2 (by omega) hb1 he hl1 hP1, hT, ?_⟩, hP, hF⟩, .inl ⟨.inl h0, rfl⟩⟩
      rw [hL, hta]
      unfold tail
      simp [h0, hk, hp]
    · rw [if_neg hg]
      refine ⟨hok, rfl, by simp, rfl, rfl, fun _ => by simp [rem, hk, hp], L, ⟨⟨nc, β, t, bot, wh, _, if t < β - 1 then β - 1 else β, val, rows, hC, .pop5 h hk rfl h00.2 ob (by show 0 ≤ ld xs F ∧ ld xs F ≤ t ∧ ld xs F ≤ β - 1; omega) ow (fun h1 => ?_) (fun h1 => ?_) hb1 he hP1, fun a ha => (hT a ha).toLim fun _ _ h2 => ?_, ?_⟩, hP, hF⟩, .inl ⟨.inl h0, rfl⟩⟩
      · have h2 : ld xs F < β - 1 := h1
        rw [if_pos (by omega)]
        exact ⟨rfl, by omega⟩
      · have h2 : ld xs F = β - 1 := h1
        rw [if_neg (by omega)]
      · by_cases h3 : t < β - 1
        · rw [if_pos h3]; exact h3
        · rw [if_neg h3]; omega
      · rw [hL, hta]
        unfold tail
        simp [h0, hk, hp]
  | pop4 h hk hp h00 ob ot ht hb1 he hl1 hP1 =>
    have ea : acts F xs o = ({o with told := 3, got := 0}, up xs (F + 1) o.b, 1, 0) := by simp only [acts, pop, hk, hp]
    rw [ea, ob]
    have hL0 : L = [] := by rw [hL, hta, cont_nil (by omega)]; simp [hp]
    refine ⟨okPop hC (by omega) hF hk (by unfold Sm; omega) (by unfold Sm; omega) (by omega) ⟨fun _ => by omega, fun _ => by omega, by omega⟩, rfl, by simp, rfl, rfl, fun h => absurd h (by show ¬ (3 : Int) = 0; decide), L, ⟨⟨nc, β, t, β, wh, _, lim, val, rows, hC.setBot _, .idle (by show (3 : Int) ≠ 0; decide) rfl he hl1 hP1, fun a ha => (hT a ha).low hC (by omega) (by omega), ?_⟩, hP, hF⟩, .inr (.inl ⟨hk, rfl, rfl, hL0⟩)⟩
    rw [hL0, cont_nil (by omega)]
    unfold tail
    simp
  | pop5 h hk hp h00 ob ot ow hc hd hb1 he hP1 =>
    have ea : acts F xs o = ({o with n := ld xs o.w, pc := 6}, xs, 1, 0) := by simp only [acts, pop, hk, hp]
    rw [ea]
    have e2 : ld xs o.w = nc := by rw [ow]; exact hcur.2.2.2
    refine ⟨okPop hC (by omega) hF hk (by unfold Sm; omega) (by unfold Sm; omega) (by omega) ⟨fun _ => by omega, fun _ => by omega, by omega⟩, rfl, by simp, rfl, rfl, fun _ => by simp [rem, hk, hp], L, ⟨⟨nc, β, t, bot, wh, _, lim, val, rows, hC, .pop6 h hk rfl h00 ob ot ow e2 hc hd hb1 he hP1, hT, ?_⟩, hP, hF⟩, .inl ⟨.inl h0, rfl⟩⟩
    rw [hL, hta]
    unfold tail
    simp [h0, hk, hp]
  | pop6 h hk hp h00 ob ot ow on hc hd hb1 he hP1 =>
    have hok : Ok F xs o := okPop hC (by omega) hF hk (by unfold Sm; omega) (by unfold Sm; omega) (by omega) ⟨fun _ => by omega, fun _ => ⟨⟨by omega, by omega, by omega⟩, by omega⟩, by omega⟩
    by_cases hg : o.t < o.b - 1
    · have ea : acts F xs o = ({o with rd := ld xs (pl o.w o.n (o.b - 1)), told := 2, got := ld xs (pl o.w o.n (o.b - 1))}, xs, 1, 0) := by
        simp only [acts, pop, hk, hp, if_pos hg]
      rw [ea, ow, on, ob]
      obtain ⟨hc1, hc2⟩ := hc (by omega)
      have hg2 : ld xs (pl wh nc (β - 1)) = val (β - 1) := hC.cell _ hc2 (by omega)
      refine ⟨hok, rfl, by simp, rfl, rfl, fun h => absurd h (by show ¬ (2 : Int) = 0; decide), cont t (β - 1) val, ⟨⟨nc, β - 1, t, bot, wh, _, lim, val, rows, ⟨F0, hC.top, hC.bt, hC.whr, hC.cur, hC.row, hC.dis, t0, hc2, by omega, fun p h1 h2 => hC.cell p h1 (by omega), n6, hC.len⟩, .idle (by show (2 : Int) ≠ 0; decide) hb1 he hc1 (by omega), hT, ?_⟩, hP, hF⟩, .inr (.inr ⟨hk, rfl, ?_⟩)⟩
      · unfold tail
        simp
      · rw [hL, hta, hg2]
        have := cont_snoc (val := val) hc2
        rw [Int.sub_add_cancel] at this
        rw [this]
        simp [hp]
    · have ea : acts F xs o = ({o with rd := ld xs (pl o.w o.n (o.b - 1)), pc := 7}, xs, 1, 0) := by
        simp only [acts, pop, hk, hp, if_neg hg]
      rw [ea]
      refine ⟨hok, rfl, by simp, rfl, rfl, fun _ => by simp [rem, hk, hp], L, ⟨⟨nc, β, t, bot, wh, _, lim, val, rows, hC, .pop7 h hk rfl h00 ob (by show 0 ≤ o.t ∧ o.t ≤ t ∧ o.t = β - 1; omega) (fun h1 => ?_) hb1 he (hd (by omega)) hP1, hT, ?_⟩, hP, hF⟩, .inl ⟨.inl h0, rfl⟩⟩
      · show ld xs (pl o.w o.n (o.b - 1)) = _
        rw [ow, on, ob]
        exact hC.cell _ (by omega) (by omega)
      · rw [hL, hta]
        unfold tail
        simp [h0, hk, hp]
  | pop7 h hk hp h00 ob ot rd hb1 he hl1 hP1 =>
    have hok : Ok F xs o := okPop hC (by omega) hF hk (by unfold Sm; omega) (by unfold Sm; omega) (by omega) ⟨fun _ => by omega, fun _ => by omega, by omega⟩
    have e2 : ld xs F = t := hC.top
    by_cases hg : ld xs F = o.t
    · have ea : acts F xs o = ({o with i := 1, pc := 8}, up xs F (o.t + 1), 1, 0) := by
        simp only [acts, pop, hk, hp, if_pos hg]
      have ht : t = β - 1 := by omega
      rw [ea, show o.t = t by omega]
      refine ⟨hok, rfl, by simp, rfl, rfl, fun _ => by simp [rem, hk, hp], L, ⟨⟨nc, β, t + 1, bot, wh, _, lim, val, rows, hC.setTop (by omega), .pop8 h hk rfl (.inr rfl) ob (by show Sm t; unfold Sm; omega) (by omega) hb1 he hl1 hP1, fun a ha => (hT a ha).rose hC _ _, ?_⟩, hP, hF⟩, .inl ⟨.inl h0, rfl⟩⟩
      rw [hL, hta, cont_cons (by omega), cont_nil (by omega), ht, ← rd ht]
      unfold tail
      simp [h0, hk, hp]
    · have ea : acts F xs o = ({o with pc := 8}, xs, 1, 0) := by
        simp only [acts, pop, hk, hp, if_neg hg]
      rw [ea]
      refine ⟨hok, rfl, by simp, rfl, rfl, fun _ => by simp [rem, hk, hp], L, ⟨⟨nc, β, t, bot, wh, _, lim, val, rows, hC, .pop8 h hk rfl (.inl h00) ob (by show Sm o.t; unfold Sm; omega) (by omega) hb1 he hl1 hP1, hT, ?_⟩, hP, hF⟩, .inl ⟨.inl h0, rfl⟩⟩
      rw [hL, hta]
      unfold tail
      simp [h0, hk, hp, h00]
  | pop8 h hk hp h00 ob ot ht hb1 he hl1 hP1 =>
    have hok : Ok F xs o := okPop hC (by omega) hF hk (by unfold Sm; omega) ot h00 ⟨fun _ => by omega, fun _ => by omega, by omega⟩
    have hC' := hC.setBot β
    by_cases hg : o.i = 1
    · have ea : acts F xs o = ({o with told := 2, got := o.rd}, up xs (F + 1) o.b, 1, 0) := by
        simp only [acts, pop, hk, hp, if_pos hg]
      rw [ea, ob]
      refine ⟨hok, rfl, by simp, rfl, rfl, fun h => absurd h (by show ¬ (2 : Int) = 0; decide), [], ⟨⟨nc, β, t, β, wh, _, lim, val, rows, hC', .idle (by show (2 : Int) ≠ 0; decide) rfl he hl1 hP1, fun a ha => (hT a ha).low hC (by omega) (by omega), ?_⟩, hP, hF⟩, .inr (.inr ⟨hk, rfl, ?_⟩)⟩
      · rw [cont_nil (by omega)]
        unfold tail
        simp
      · rw [hL, hta, cont_nil (by omega)]
        simp [hp, hg]
    · have ea : acts F xs o = ({o with told := 3, got := 0}, up xs (F + 1) o.b, 1, 0) := by
        simp only [acts, pop, hk, hp, if_neg hg]
      rw [ea, ob]
      have hL0 : L = [] := by rw [hL, hta, cont_nil (by omega)]; simp [hg]
      refine ⟨hok, rfl, by simp, rfl, rfl, fun h => absurd h (by show ¬ (3 : Int) = 0; decide), L, ⟨⟨nc, β, t, β, wh, _, lim, val, rows, hC', .idle (by show (3 : Int) ≠ 0; decide) rfl he hl1 hP1, fun a ha => (hT a ha).low hC (by omega) (by omega), ?_⟩, hP, hF⟩, .inr (.inl ⟨hk, rfl, rfl, hL0⟩)⟩
      rw [hL0, cont_nil (by omega)]
      unfold tail
      simp
  | push0 _ hk2 => omega
  | push1 _ hk2 => omega
  | push2 _ hk2 => omega
  | push3 _ hk2 => omega
  | push10 _ hk2 => omega
  | push11 _ hk2 => omega
  | push12 _ hk2 => omega
  | push13 _ hk2 => omega
  | push20 _ hk2 => omega
  | push21 _ hk2 => omega
theorem own_step (h : Inw F P xs o ths L) (h0 : o.told = 0) (hk : o.k ≤ 1) : Cme F P xs o ths L := by
  obtain ⟨⟨nc, β, t, bot, wh, e, lim, val, rows, hC, hO, hT, hL⟩, hP, hF⟩ := h
  by_cases h1 : o.k = 0
  · exact own_push hC hO hT hL hP hF h0 h1
  · exact own_pop hC hO hT hL hP hF h0 (by omega)
end
end Dq
end Go.Proofs.Ytlgelhkpdldgdaa
