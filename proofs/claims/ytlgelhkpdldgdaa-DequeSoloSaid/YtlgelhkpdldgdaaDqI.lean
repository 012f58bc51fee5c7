/-
  Layer 16, plain: what holds of a deque, its owner's act and all steals, however their steps come between each other.
-/
import Derived.Test.YtlgelhkpdldgdaaDqM
namespace Go.Proofs.Ytlgelhkpdldgdaa
open Go.RowKit
set_option linter.unusedVariables false
set_option linter.unusedSimpArgs false

namespace Dq
/-- The cells: top, bottom, where; places that were there ever; the values from top on. -/
structure Cor (F : Int) (xs : List Int) (nc β t bot wh e : Int) (val : Int → Int) (rows : Int → Int → Prop) : Prop where
  F0 : 0 ≤ F
  top : ld xs F = t
  bt : ld xs (F + 1) = bot
  whr : ld xs (F + 2) = wh
  cur : rows wh nc
  row : ∀ w n, rows w n → F + 3 ≤ w ∧ 1 ≤ n ∧ w + n < xs.length ∧ ld xs w = n
  dis : ∀ w n w' n', rows w n → rows w' n' → w = w' ∨ w + n < w' ∨ w' + n' < w
  t0 : 0 ≤ t
  tb : t ≤ β
  fit : β - t ≤ nc
  cell : ∀ p, t ≤ p → p < β → ld xs (pl wh nc p) = val p
  nc6 : nc ≤ 600
  len : (xs.length : Int) ≤ F + 4 + 3 * nc + e
/-- A steal under way. -/
structure Thf (xs : List Int) (t lim : Int) (val : Int → Int) (rows : Int → Int → Prop) (a : A) : Prop where
  k : a.k = 2
  pc : a.pc ≤ 5
  b : Sm a.b
  i : a.i = 0
  t0 : a.pc = 0 → a.t = 0
  h1 : 1 ≤ a.pc → 0 ≤ a.t ∧ a.t ≤ t
  h2 : 2 ≤ a.pc → a.t = t → t < lim
  h3 : 3 ≤ a.pc → ∃ m, rows a.w m ∧ (4 ≤ a.pc → a.n = m) ∧ (a.t = t → ld xs (pl a.w m t) = val t)
  h5 : 5 ≤ a.pc → a.t = t → a.rd = val t
/-- A row of places that is being made. -/
structure Bld (xs : List Int) (nw n : Int) (rows : Int → Int → Prop) : Prop where
  lt : nw + n < xs.length
  hd : ld xs nw = n
  off : ∀ w m, rows w m → w + m < nw
/-- The owner's act, and how far. -/
inductive Ownr (P : Int) (xs : List Int) (nc β t bot wh e lim : Int) (val : Int → Int) (rows : Int → Int → Prop) (o : A) : Prop
  | idle (h : o.told ≠ 0) (hb : bot = β) (he : e = 0) (hl : lim = β) (hP : β ≤ P)
  | push0 (h : o.told = 0) (hk : o.k = 0) (hp : o.pc = 0) (h0 : o.b = 0 ∧ o.t = 0 ∧ o.i = 0) (hb : bot = β) (he : e = 0) (hl : lim = β) (hP : β + 1 ≤ P)
  | push1 (h : o.told = 0) (hk : o.k = 0) (hp : o.pc = 1) (h0 : o.t = 0 ∧ o.i = 0) (ob : o.b = β) (hb : bot = β) (he : e = 0) (hl : lim = β) (hP : β + 1 ≤ P)
  | push2 (h : o.told = 0) (hk : o.k = 0) (hp : o.pc = 2) (h0 : o.i = 0) (ob : o.b = β) (ot : 0 ≤ o.t ∧ o.t ≤ t) (of : β - o.t ≤ nc) (hb : bot = β) (he : e = 0) (hl : lim = β) (hP : β + 1 ≤ P)
  | push3 (h : o.told = 0) (hk : o.k = 0) (hp : o.pc = 3) (h0 : o.i = 0) (ob : o.b = β) (ot : 0 ≤ o.t ∧ o.t ≤ t) (of : β - o.t ≤ nc) (ow : o.w = wh) (hb : bot = β) (he : e = 0) (hl : lim = β) (hP : β + 1 ≤ P)
  | push10 (h : o.told = 0) (hk : o.k = 0) (hp : o.pc = 10) (h0 : o.i = 0) (ob : o.b = β) (ot : 0 ≤ o.t ∧ o.t ≤ t) (of : β - o.t = nc) (ow : o.w = wh) (on : o.n = nc) (hb : bot = β) (he : e = 0) (hl : lim = β) (hP : β + 1 ≤ P)
  | push11 (h : o.told = 0) (hk : o.k = 0) (hp : o.pc = 11) (ob : o.b = β) (ot : 0 ≤ o.t ∧ o.t ≤ t) (of : β - o.t = nc) (ow : o.w = wh) (on : o.n = nc) (oc : o.nc = 2 * nc) (bl : Bld xs o.nw (2 * nc) rows) (oi : o.t ≤ o.i ∧ o.i < β) (cp : ∀ p, t ≤ p → p < o.i → ld xs (pl o.nw (2 * nc) p) = val p) (hb : bot = β) (he : e = 1 + 2 * nc) (hl : lim = β) (hP : β + 1 ≤ P)
  | push12 (h : o.told = 0) (hk : o.k = 0) (hp : o.pc = 12) (ob : o.b = β) (ot : 0 ≤ o.t ∧ o.t ≤ t) (of : β - o.t = nc) (ow : o.w = wh) (on : o.n = nc) (oc : o.nc = 2 * nc) (bl : Bld xs o.nw (2 * nc) rows) (oi : o.t ≤ o.i ∧ o.i < β) (cp : ∀ p, t ≤ p → p < o.i → ld xs (pl o.nw (2 * nc) p) = val p) (rd : t ≤ o.i → o.rd = val o.i) (hb : bot = β) (he : e = 1 + 2 * nc) (hl : lim = β) (hP : β + 1 ≤ P)
  | push13 (h : o.told = 0) (hk : o.k = 0) (hp : o.pc = 13) (ob : o.b = β) (ot : 0 ≤ o.t ∧ o.t ≤ t) (of : β - o.t = nc) (oc : o.nc = 2 * nc) (bl : Bld xs o.nw (2 * nc) rows) (oi : o.i = β) (cp : ∀ p, t ≤ p → p < β → ld xs (pl o.nw (2 * nc) p) = val p) (hb : bot = β) (he : e = 1 + 2 * nc) (hl : lim = β) (hP : β + 1 ≤ P)
  | push20 (h : o.told = 0) (hk : o.k = 0) (hp : o.pc = 20) (oi : Sm o.i) (ob : o.b = β) (ot : 0 ≤ o.t ∧ o.t ≤ t) (of : β - o.t < nc) (ow : o.w = wh) (on : o.n = nc) (hb : bot = β) (he : e = 0) (hl : lim = β) (hP : β + 1 ≤ P)
  | push21 (h : o.told = 0) (hk : o.k = 0) (hp : o.pc = 21) (oi : Sm o.i) (ob : o.b = β) (ot : 0 ≤ o.t ∧ o.t ≤ t) (of : β - o.t < nc) (oV : ld xs (pl wh nc β) = o.V) (hb : bot = β) (he : e = 0) (hl : lim = β) (hP : β + 1 ≤ P)
  | pop0 (h : o.told = 0) (hk : o.k = 1) (hp : o.pc = 0) (h0 : o.b = 0 ∧ o.t = 0 ∧ o.i = 0) (hb : bot = β) (he : e = 0) (hl : lim = β) (hP : β ≤ P)
  | pop1 (h : o.told = 0) (hk : o.k = 1) (hp : o.pc = 1) (h0 : o.t = 0 ∧ o.i = 0) (ob : o.b = β) (hb : bot = β) (he : e = 0) (hl : lim = β) (hP : β ≤ P)
  | pop2 (h : o.told = 0) (hk : o.k = 1) (hp : o.pc = 2) (h0 : o.t = 0 ∧ o.i = 0) (ob : o.b = β) (ow : o.w = wh) (hb : bot = β) (he : e = 0) (hl : lim = β) (hP : β ≤ P)
  | pop3 (h : o.told = 0) (hk : o.k = 1) (hp : o.pc = 3) (h0 : o.t = 0 ∧ o.i = 0) (ob : o.b = β) (ow : o.w = wh) (hb : bot = β - 1) (he : e = 0) (hl : lim = β) (hP : β ≤ P)
  | pop4 (h : o.told = 0) (hk : o.k = 1) (hp : o.pc = 4) (h0 : o.i = 0) (ob : o.b = β) (ot : o.t = t) (ht : t = β) (hb : bot = β - 1) (he : e = 0) (hl : lim = β) (hP : β ≤ P)
  | pop5 (h : o.told = 0) (hk : o.k = 1) (hp : o.pc = 5) (h0 : o.i = 0) (ob : o.b = β) (ot : 0 ≤ o.t ∧ o.t ≤ t ∧ o.t ≤ β - 1) (ow : o.w = wh) (hc : o.t < β - 1 → lim = β - 1 ∧ t ≤ β - 1) (hd : o.t = β - 1 → lim = β) (hb : bot = β - 1) (he : e = 0) (hP : β ≤ P)
  | pop6 (h : o.told = 0) (hk : o.k = 1) (hp : o.pc = 6) (h0 : o.i = 0) (ob : o.b = β) (ot : 0 ≤ o.t ∧ o.t ≤ t ∧ o.t ≤ β - 1) (ow : o.w = wh) (on : o.n = nc) (hc : o.t < β - 1 → lim = β - 1 ∧ t ≤ β - 1) (hd : o.t = β - 1 → lim = β) (hb : bot = β - 1) (he : e = 0) (hP : β ≤ P)
  | pop7 (h : o.told = 0) (hk : o.k = 1) (hp : o.pc = 7) (h0 : o.i = 0) (ob : o.b = β) (ot : 0 ≤ o.t ∧ o.t ≤ t ∧ o.t = β - 1) (rd : t = β - 1 → o.rd = val (β - 1)) (hb : bot = β - 1) (he : e = 0) (hl : lim = β) (hP : β ≤ P)
  | pop8 (h : o.told = 0) (hk : o.k = 1) (hp : o.pc = 8) (h0 : o.i = 0 ∨ o.i = 1) (ob : o.b = β) (ot : Sm o.t) (ht : t = β) (hb : bot = β - 1) (he : e = 0) (hl : lim = β) (hP : β ≤ P)

section
variable {F P : Int} {xs : List Int} {nc β t bot wh e lim : Int} {val : Int → Int} {rows : Int → Int → Prop} {o a : A}
theorem Cor.sz (h : Cor F xs nc β t bot wh e val rows) : F + 3 ≤ wh ∧ 1 ≤ nc ∧ wh + nc < xs.length := by
  have := h.row _ _ h.cur
  omega
theorem Cor.write (h : Cor F xs nc β t bot wh e val rows) {i v t' bot' : Int} (hi : 0 ≤ i) (hT : ld (up xs i v) F = t') (hB : ld (up xs i v) (F + 1) = bot') (hW : i ≠ F + 2) (hr : ∀ w n, rows w n → i ≠ w) (hc : ∀ p, t ≤ p → p < β → i ≠ pl wh nc p) (ht : t ≤ t' ∧ t' ≤ β) : Cor F (up xs i v) nc β t' bot' wh e val rows := by
  have h0 := h.F0
  have hs := h.sz
  have h1 := h.t0
  have h2 := h.fit
  refine ⟨h0, hT, hB, ?_, h.cur, fun w n hw => ?_, h.dis, by omega, ht.2, by omega, fun p h3 h4 => ?_, h.nc6, ?_⟩
  · rw [ld_up_ne hi (by omega) (fun e => hW e.symm)]; exact h.whr
  · have := h.row w n hw
    rw [up_len, ld_up_ne hi (by omega) (fun e => hr w n hw e.symm)]
    exact this
  · have := pl_in (w := wh) (i := p) hs.2.1
    rw [ld_up_ne hi (by omega) (fun e => hc p (by omega) h4 e.symm)]
    exact h.cell p (by omega) h4
  · rw [up_len]; exact h.len
theorem Cor.setBot (h : Cor F xs nc β t bot wh e val rows) (v : Int) : Cor F (up xs (F + 1) v) nc β t v wh e val rows := by
  have h0 := h.F0
  have hs := h.sz
  have h1 := h.tb
  refine h.write (by omega) ?_ ?_ (by omega) (fun w n hw => ?_) (fun p _ _ => ?_) ⟨Int.le_refl _, h1⟩
  · rw [ld_up_ne (by omega) (by omega) (by omega)]; exact h.top
  · rw [ld_up (by omega) (by omega) (by omega), if_pos rfl]
  · have := h.row w n hw; omega
  · have := pl_in (w := wh) (i := p) hs.2.1; omega
theorem Cor.setTop (h : Cor F xs nc β t bot wh e val rows) (ht : t < β) : Cor F (up xs F (t + 1)) nc β (t + 1) bot wh e val rows := by
  have h0 := h.F0
  have hs := h.sz
  refine h.write (by omega) ?_ ?_ (by omega) (fun w n hw => ?_) (fun p _ _ => ?_) ⟨by omega, by omega⟩
  · rw [ld_up (by omega) (by omega) (by omega), if_pos rfl]
  · rw [ld_up_ne (by omega) (by omega) (by omega)]; exact h.bt
  · have := h.row w n hw; omega
  · have := pl_in (w := wh) (i := p) hs.2.1; omega
theorem Thf.write (h : Thf xs t lim val rows a) {i v : Int} (hi : 0 ≤ i) (hr : ∀ w n, rows w n → 0 ≤ w ∧ 1 ≤ n) (hn : ∀ m, rows a.w m → t < lim → i ≠ pl a.w m t) : Thf (up xs i v) t lim val rows a := by
  refine ⟨h.k, h.pc, h.b, h.i, h.t0, h.h1, h.h2, fun h3 => ?_, h.h5⟩
  obtain ⟨m, h4, h5, h6⟩ := h.h3 h3
  refine ⟨m, h4, h5, fun e => ?_⟩
  have := hr _ _ h4
  have := pl_in (w := a.w) (i := t) this.2
  rw [ld_up_ne hi (by omega) (fun e2 => hn m h4 (h.h2 (by omega) e) e2.symm)]
  exact h6 e
theorem Thf.low (h : Thf xs t lim val rows a) (hC : Cor F xs nc β t bot wh e val rows) {i v : Int} (hi : 0 ≤ i) (hF : i ≤ F + 2) : Thf (up xs i v) t lim val rows a := by
  have h0 := hC.F0
  refine h.write hi (fun w n hw => ?_) (fun m hm _ => ?_)
  · have := hC.row w n hw; omega
  · have := hC.row _ _ hm
    have := pl_in (w := a.w) (i := t) this.2.1
    omega
theorem Thf.toLim (h : Thf xs t lim val rows a) {lim' : Int} (hl : 2 ≤ a.pc → a.t = t → t < lim → t < lim') : Thf xs t lim' val rows a :=
  ⟨h.k, h.pc, h.b, h.i, h.t0, h.h1, fun h2 e => hl h2 e (h.h2 h2 e), h.h3, h.h5⟩
theorem Thf.rose (h : Thf xs t lim val rows a) (hC : Cor F xs nc β t bot wh e val rows) (xs' : List Int) (lim' : Int) : Thf xs' (t + 1) lim' val rows a := by
  refine ⟨h.k, h.pc, h.b, h.i, h.t0, fun h1 => ?_, fun h2 e => ?_, fun h3 => ?_, fun h5 e => ?_⟩
  · have := h.h1 h1; omega
  · have := h.h1 (by omega); omega
  · obtain ⟨m, h4, h5, _⟩ := h.h3 h3
    refine ⟨m, h4, h5, fun e => ?_⟩
    have := h.h1 (by omega); omega
  · have := h.h1 (by omega); omega
end
/-- The values from top on. -/
def cont (t β : Int) (val : Int → Int) : List Int := (List.range (β - t).toNat).map fun (j : Nat) => val (t + (j : Int))
theorem cont_nil {t β : Int} {val : Int → Int} (h : β ≤ t) : cont t β val = [] := by
  unfold cont
  rw [show (β - t).toNat = 0 by omega]
  rfl
theorem cont_cons {t β : Int} {val : Int → Int} (h : t < β) : cont t β val = val t :: cont (t + 1) β val := by
  unfold cont
  rw [show (β - t).toNat = (β - (t + 1)).toNat + 1 by omega, List.range_succ_eq_map, List.map_cons, List.map_map]
  congr 1
  · simp
  · refine List.map_congr_left fun j _ => ?_
    show val (t + ((j + 1 : Nat) : Int)) = val (t + 1 + j)
    congr 1
    omega
theorem cont_snoc {t β : Int} {val : Int → Int} (h : t ≤ β) : cont t (β + 1) val = cont t β val ++ [val β] := by
  unfold cont
  rw [show (β + 1 - t).toNat = (β - t).toNat + 1 by omega, List.range_succ, List.map_append]
  congr 1
  simp only [List.map_cons, List.map_nil]
  congr 2
  omega
theorem cont_congr {t β : Int} {val val' : Int → Int} (h : ∀ p, t ≤ p → p < β → val p = val' p) : cont t β val = cont t β val' := by
  unfold cont
  refine List.map_congr_left fun j hj => ?_
  have := List.mem_range.1 hj
  exact h _ (by omega) (by omega)
theorem cont_len (t β : Int) (val : Int → Int) : (cont t β val).length = (β - t).toNat := by simp [cont]
/-- What is pushed, and what was popped by a swap. -/
def tail (o : A) : List Int := if o.told = 0 then (if o.k = 0 then [o.V] else if o.pc = 8 ∧ o.i = 1 then [o.rd] else []) else []
end Dq
end Go.Proofs.Ytlgelhkpdldgdaa
