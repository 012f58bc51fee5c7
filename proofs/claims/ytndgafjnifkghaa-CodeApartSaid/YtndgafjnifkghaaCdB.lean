/-
  Contracts of code.kinds (the map of what each kind has) and registers (where an op has its registers).
-/
import Derived.Test.YtndgafjnifkghaaCdA
import Derived.Deep.DeepCutAuto
import Derived.Deep.CutBlock
namespace Go.Proofs.Ytndgafjnifkghaa
open Go.RowKit

namespace Cd
/-! ### kinds -/
/-- The table, as far as kind n. -/
def kF (n : Nat) (x : Value) : Option Value := match x with | .int .u8 i => if 1 ≤ i ∧ i ≤ (n : Int) then some (.int .u8 (prt i.toNat : Int)) else none | _ => none
theorem kF_in {n i : Nat} (h1 : 1 ≤ i) (h2 : i ≤ n) : kF n (.int .u8 (i : Int)) = some (.int .u8 (prt i : Int)) := by
  unfold kF
  simp only []
  rw [if_pos (by omega)]
  simp
theorem kF_out {n i : Nat} (h : ¬ (1 ≤ i ∧ i ≤ n)) : kF n (.int .u8 (i : Int)) = none := by
  unfold kF
  simp only []
  rw [if_neg (by omega)]
theorem kF_other {n : Nat} {y : Value} (hy : y ≠ .int .u8 ((n + 1 : Nat) : Int)) : kF (n + 1) y = kF n y := by
  unfold kF
  split
  · rename_i i
    have : (1 ≤ i ∧ i ≤ ((n + 1 : Nat) : Int)) ↔ (1 ≤ i ∧ i ≤ (n : Int)) := by
      by_cases e : i = ((n + 1 : Nat) : Int)
      · exact absurd (by rw [e]) hy
      · constructor <;> intro h <;> omega
    simp only [this]
  · rfl
/-- The table as it is being filled: at block B, made by the call. -/
structure KS (w0 : World) (B n : Nat) (w : World) : Prop where
  m : Gm.MapF 5 w B (kF n) n
  bel : Below w0.heap.size w0 w
  lo : w0.heap.size ≤ B
section
variable {w0 w w' : World} {B n : Nat}
theorem KS.below (h : KS w0 B n w) (hb : Below w.heap.size w w') : KS w0 B n w' := ⟨h.m.below hb, h.bel.trans (hb.mono h.bel.size), h.lo⟩
theorem KS.alloc (h : KS w0 B n w) (o : Obj) : KS w0 B n (w.alloc o) := h.below ((Below.refl _ _).alloc (Nat.le_refl _) o)
theorem KS.put (h : KS w0 B n w) (hn : n < 14) : ∃ w', (Instr.mapUpdate 49 (.map (some B)) (.int .u8 ((n + 1 : Nat) : Int)) (.int .u8 (prt (n + 1) : Int))).run Try.prog w = .ok () w' ∧ KS w0 B (n + 1) w' := by
  obtain ⟨w', hr, hm, hg⟩ := h.m.put Gm.key8 Try.underlying49 (by unfold maxLen; omega) (Gm.isKey8 (a := ((n + 1 : Nat) : Int)) (by omega) (by omega)) (.int .u8 (prt (n + 1) : Int)) (kF (n + 1)) (kF_in (by omega) (Nat.le_refl _)) (fun y hy => kF_other hy)
  rw [kF_out (by omega)] at hm
  exact ⟨w', hr, ⟨hm, h.bel.grown hg h.bel.size (fun k hk => by cases hk; exact h.lo), h.lo⟩⟩
end
section
variable {P : Program} (w : World) {ops : Array Oper} {rest : List Oper} {o : Oper} {a : Act} {Q : Exit → Act → World → Prop}
theorem gpl_ins (hg : o.guard = none) (m x y : Operand) (t : TypeId) (hop : o.op = Op.insert t m x y) (mv xv yv : Value) (hm : a.eval m = mv) (hx : a.eval x = xv) (hy : a.eval y = yv) (w' : World) (hr : (Instr.mapUpdate t mv xv yv).run P w = .ok () w')
    (hK : wpList P ops Q rest (a.put o.dst undef) w') : wpList P ops Q (o :: rest) a w := by
  refine wpList_plain hg fun K' hK' => ?_
  unfold Oper.wp
  simp [execOp, hop, hm, hx, hy, hr, Result.andThen]
  exact hK' _ _ hK
end
theorem wp_region_any {P : Program} {id : Nat} {l : List Oper} {Q : Exit → Act → World → Prop} {a : Act} {w : World} (h : ∀ O : Array Oper, wpList P O Q l a w) : (Code.region id l.toArray false).wp P Q a w := wp_region_lit (h _)
theorem at_ins {P : Program} {w : World} {ops : Array Oper} {rest : List Oper} {o : Oper} {a : Act} {Q : Exit → Act → World → Prop} {m x y : Operand} {t : TypeId} (_ : o.op = Op.insert t m x y) (h : wpList P ops Q (o :: rest) a w) : wpList P ops Q (o :: rest) a w := h
theorem kins {w0 w : World} {B n : Nat} (h : KS w0 B n w) {ops : Array Oper} {rest : List Oper} {o : Oper} {a : Act} {Q : Exit → Act → World → Prop} (hg : o.guard = none) (m x y : Operand) (hop : o.op = Op.insert 49 m x y)
    (hd : o.dst = none) (hm : a.eval m = .map (some B)) (i r : Int) (hx : a.eval x = .int .u8 i) (hy : a.eval y = .int .u8 r) (hi : ((n + 1 : Nat) : Int) = i) (hr : (prt (n + 1) : Int) = r) (hn : n < 14)
    (hK : ∀ w', KS w0 B (n + 1) w' → wpList Try.prog ops Q rest a w') : wpList Try.prog ops Q (o :: rest) a w := by
  subst hi hr
  obtain ⟨w', hr, hk⟩ := h.put hn
  exact gpl_ins w hg m x y _ hop _ _ _ hm hx hy w' hr (by rw [hd]; exact hK w' hk)
end Cd

set_option maxHeartbeats 500000 in
set_option maxRecDepth 20000 in
theorem ckinds (w : World) : Calls Try.prog 21 #[] w fun e w' => ∃ B, e = .returned (.map (some B)) ∧ Cd.KS w B 14 w' := by
  have hmm := @run_makeMap Try.prog
  go_enter Try.func21, Try.ntmps21
  go_wp2_with fail
  refine (chav [1, 2, 4] 7 (by rfl) (by rfl) (by decide) (by decide) (by first | with_reducible rfl | simp)).mono ?_
  rintro e w1 ⟨rfl, rfl⟩
  have HK : Hid (Cd.KS w (w.heap.size + 1) 0 ((w.alloc (.cells #[.int .u8 1, .int .u8 2, .int .u8 4] 69)).alloc (.map #[] 0))) := by
    have := Gm.MapF.made (w.alloc (.cells #[.int .u8 1, .int .u8 2, .int .u8 4] 69)) 5
    refine ⟨?_, ((Below.refl _ _).alloc (Nat.le_refl _) _).alloc (by simp) _, by omega⟩
    have h2 := this.congr (g := Cd.kF 0) (fun x _ => by unfold Cd.kF; split <;> first | rfl | (rw [if_neg (by omega)]))
    simpa using h2
  go_upto_region 2 with fail
  refine Cd.wp_region_any fun O => ?_
  go_wp2_with fail
  refine (chav [1, 8] 9 (by rfl) (by rfl) (by decide) (by decide) (by first | with_reducible rfl | simp)).mono ?_
  rintro e w1 ⟨rfl, rfl⟩
  clear hmm
  go_wp2_with (refine Cd.at_ins rfl ?_; first | (refine Cd.kins HK.out rfl _ _ _ rfl rfl rfl _ _ rfl rfl (by decide) (by decide) (by omega) ?_; intro wn hk; have HK := Lib.hid hk; clear hk) | (refine Cd.kins (HK.out.alloc _) rfl _ _ _ rfl rfl rfl _ _ rfl rfl (by decide) (by decide) (by omega) ?_; intro wn hk; have HK := Lib.hid hk; clear hk))
  refine (chav [1, 2] 3 (by rfl) (by rfl) (by decide) (by decide) (by first | with_reducible rfl | simp)).mono ?_
  rintro e w1 ⟨rfl, rfl⟩
  go_wp2_with (refine Cd.at_ins rfl ?_; first | (refine Cd.kins HK.out rfl _ _ _ rfl rfl rfl _ _ rfl rfl (by decide) (by decide) (by omega) ?_; intro wn hk; have HK := Lib.hid hk; clear hk) | (refine Cd.kins (HK.out.alloc _) rfl _ _ _ rfl rfl rfl _ _ rfl rfl (by decide) (by decide) (by omega) ?_; intro wn hk; have HK := Lib.hid hk; clear hk))
  refine (chav [8] 8 (by rfl) (by rfl) (by decide) (by decide) (by first | with_reducible rfl | simp)).mono ?_
  rintro e w1 ⟨rfl, rfl⟩
  go_wp2_with (refine Cd.at_ins rfl ?_; first | (refine Cd.kins HK.out rfl _ _ _ rfl rfl rfl _ _ rfl rfl (by decide) (by decide) (by omega) ?_; intro wn hk; have HK := Lib.hid hk; clear hk) | (refine Cd.kins (HK.out.alloc _) rfl _ _ _ rfl rfl rfl _ _ rfl rfl (by decide) (by decide) (by omega) ?_; intro wn hk; have HK := Lib.hid hk; clear hk))
  refine (chav [2, 8] 10 (by rfl) (by rfl) (by decide) (by decide) (by first | with_reducible rfl | simp)).mono ?_
  rintro e w1 ⟨rfl, rfl⟩
  go_wp2_with (refine Cd.at_ins rfl ?_; first | (refine Cd.kins HK.out rfl _ _ _ rfl rfl rfl _ _ rfl rfl (by decide) (by decide) (by omega) ?_; intro wn hk; have HK := Lib.hid hk; clear hk) | (refine Cd.kins (HK.out.alloc _) rfl _ _ _ rfl rfl rfl _ _ rfl rfl (by decide) (by decide) (by omega) ?_; intro wn hk; have HK := Lib.hid hk; clear hk))
  refine (chav [1, 2, 8] 11 (by rfl) (by rfl) (by decide) (by decide) (by first | with_reducible rfl | simp)).mono ?_
  rintro e w1 ⟨rfl, rfl⟩
  go_wp2_with (refine Cd.at_ins rfl ?_; first | (refine Cd.kins HK.out rfl _ _ _ rfl rfl rfl _ _ rfl rfl (by decide) (by decide) (by omega) ?_; intro wn hk; have HK := Lib.hid hk; clear hk) | (refine Cd.kins (HK.out.alloc _) rfl _ _ _ rfl rfl rfl _ _ rfl rfl (by decide) (by decide) (by omega) ?_; intro wn hk; have HK := Lib.hid hk; clear hk))
  refine (chaving [] none 0 _ Lies.nil (by decide)).mono ?_
  rintro e w1 ⟨rfl, rfl⟩
  go_wp2_with (refine Cd.at_ins rfl ?_; first | (refine Cd.kins HK.out rfl _ _ _ rfl rfl rfl _ _ rfl rfl (by decide) (by decide) (by omega) ?_; intro wn hk; have HK := Lib.hid hk; clear hk) | (refine Cd.kins (HK.out.alloc _) rfl _ _ _ rfl rfl rfl _ _ rfl rfl (by decide) (by decide) (by omega) ?_; intro wn hk; have HK := Lib.hid hk; clear hk))
  refine (chav [2] 2 (by rfl) (by rfl) (by decide) (by decide) (by first | with_reducible rfl | simp)).mono ?_
  rintro e w1 ⟨rfl, rfl⟩
  go_wp2_with (refine Cd.at_ins rfl ?_; first | (refine Cd.kins HK.out rfl _ _ _ rfl rfl rfl _ _ rfl rfl (by decide) (by decide) (by omega) ?_; intro wn hk; have HK := Lib.hid hk; clear hk) | (refine Cd.kins (HK.out.alloc _) rfl _ _ _ rfl rfl rfl _ _ rfl rfl (by decide) (by decide) (by omega) ?_; intro wn hk; have HK := Lib.hid hk; clear hk))
  go_ret
  exact ⟨_, rfl, HK.out⟩
end Go.Proofs.Ytndgafjnifkghaa
