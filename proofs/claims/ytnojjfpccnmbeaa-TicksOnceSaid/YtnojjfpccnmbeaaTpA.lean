/-
  Maps of texts to numbers, as a function tells them; comparisons of numbers and of texts.
-/
import Derived.Test.YtnojjfpccnmbeaaTkC
import Derived.Maps.OwnSet
import Derived.Maps.Views
import Derived.StringKeys
import Derived.StillTailTactics
import Derived.Lib.Bytealg
import Derived.Lib.Small
namespace Go.Proofs.Ytnojjfpccnmbeaa
open Go.RowKit

namespace Tk
theorem skeyed : Maps.Keyed Try.prog 9 := Maps.Keyed.of_law (WideMaps.string_law Try.underlying9)
/-- Block B is a map of texts to numbers that reads as f, and has n entries. -/
def MapIs (e : TypeId) (w : World) (B : Nat) (f : ByteArray → Option Int) (n : Nat) : Prop :=
  ∃ D : DataW Unit, w.ownsMap Try.prog 9 (plainElem Try.prog e) B n D ∧ Maps.size D = n ∧
    ∀ k : ByteArray, k.size ≤ maxLen → Maps.has D (.string k.data.toList) = (f k).isSome ∧ ∀ a, f k = some a → D.atKey (.string k.data.toList) (.lit (.int .i64 0)) = .lit (.int .i64 a)
def upd (f : ByteArray → Option Int) (k : ByteArray) (r : Option Int) : ByteArray → Option Int := fun x => if x = k then r else f x
theorem upd_same (f : ByteArray → Option Int) (k : ByteArray) (r : Option Int) : upd f k r k = r := by unfold upd; rw [if_pos rfl]
theorem upd_other (f : ByteArray → Option Int) {k x : ByteArray} (r : Option Int) (h : x ≠ k) : upd f k r x = f x := by unfold upd; rw [if_neg h]
theorem own_tight {P : Program} {k : TypeId} {R : Value → Option (DataW Unit × List MemPlace)} {w : World} {b n : Nat} {D : DataW Unit} (h : w.ownsMap P k R b n D) : w.ownsMap P k R b (Maps.size D) D := by
  obtain ⟨es, clock, hb, F, hs, rfl⟩ := h
  exact ⟨es, clock, hb, F, by simp [Maps.size, length_sorted], rfl⟩
theorem key_lit {a b : ByteArray} (h : a ≠ b) : (Lit.string a.data.toList) ≠ Lit.string b.data.toList := fun e => h (bytes_ext (by injection e))
section
variable {e t : TypeId} {w : World} {B n : Nat} {f : ByteArray → Option Int}
theorem MapIs.lt (h : MapIs e w B f n) : B < w.heap.size := by
  obtain ⟨D, h1, _⟩ := h
  exact h1.lt
theorem MapIs.of_block {w' : World} (h : MapIs e w B f n) (hb : w'.heap[B]? = w.heap[B]?) : MapIs e w' B f n := by
  obtain ⟨D, ⟨es, clock, h1, h2⟩, h3⟩ := h
  exact ⟨D, ⟨es, clock, hb.trans h1, h2⟩, h3⟩
theorem MapIs.below {w' : World} (h : MapIs e w B f n) (hb : Below w.heap.size w w') : MapIs e w' B f n := h.of_block (hb.block _ h.lt)
theorem MapIs.made (w : World) (e : TypeId) : MapIs e (w.alloc (.map #[] 0)) w.heap.size (fun _ => none) 0 :=
  ⟨.map [], World.ownsMap_made w _ _ _, rfl, fun k _ => ⟨rfl, fun a h => by cases h⟩⟩
theorem MapIs.congr {g : ByteArray → Option Int} (h : MapIs e w B f n) (hg : ∀ k, g k = f k) : MapIs e w B g n := by
  have : g = f := funext hg
  rw [this]; exact h
/-- v, ok := m[k]. -/
theorem MapIs.look (h : MapIs e w B f n) (he : Try.prog.underlying e = some (.int .i64)) (ht : Try.prog.underlying t = some (.map 9 e)) (hz : (zeroValue e).run Try.prog w = .ok (.int .i64 0) w) (k : ByteArray) (hk : k.size ≤ maxLen) :
    (Instr.lookup t (.map (some B)) (.string k) true).run Try.prog w = .ok (.tuple #[.int .i64 ((f k).getD 0), .bool (f k).isSome]) w := by
  obtain ⟨D, h1, h2, h3⟩ := h
  obtain ⟨hh, ha⟩ := h3 k hk
  obtain ⟨v, ps, hr, hv⟩ := h1.look_ok skeyed ht hz (plainElem_int he (by decide)) (WideMaps.keyOf_string_mk Try.underlying9 hk)
  obtain ⟨c, rfl, hc, _⟩ := plainElem_int_inv he hv
  rw [hr, hh]
  have hc1 := congrArg Prod.fst hc
  simp only at hc1
  cases hf : f k with
  | none =>
    rw [hf] at hh
    rw [Maps.atKey_of_not_has hh] at hc1
    have : c = 0 := (Lit.int.inj (DataW.lit.inj hc1)).2.symm
    rw [this]; rfl
  | some a =>
    rw [ha a hf] at hc1
    have : c = a := (Lit.int.inj (DataW.lit.inj hc1)).2.symm
    rw [this]; rfl
/-- m[k] = a. -/
theorem MapIs.put (h : MapIs e w B f n) (he : Try.prog.underlying e = some (.int .i64)) (ht : Try.prog.underlying t = some (.map 9 e)) (hn : n < maxLen) (k : ByteArray) (hk : k.size ≤ maxLen) (a : Int) (hw : (Lit.int .i64 a).wf = true) :
    ∃ w', (Instr.mapUpdate t (.map (some B)) (.string k) (.int .i64 a)).run Try.prog w = .ok () w' ∧ MapIs e w' B (upd f k (some a)) (if (f k).isSome then n else n + 1) ∧ w.grownBy w' (some B) := by
  obtain ⟨D, h1, h2, h3⟩ := h
  have hT := h1.tidy skeyed
  have hkl := skeyed.key (WideMaps.keyOf_string_mk (P := Try.prog) Try.underlying9 hk)
  obtain ⟨w', hr, ho, hg⟩ := h1.update skeyed ht hn (WideMaps.keyOf_string_mk Try.underlying9 hk) (plainElem_int he hw)
  have hsz : Maps.size (D.put (.string k.data.toList) (.lit (.int .i64 a))) = if (f k).isSome then n else n + 1 := by
    rw [Maps.size_put hT, (h3 k hk).1, h2]
  refine ⟨w', hr, ⟨_, by rw [← hsz]; exact own_tight ho, hsz, fun x hx => ?_⟩, hg⟩
  by_cases e1 : x = k
  · subst e1
    rw [Maps.has_put_same hT.isMap hkl, upd_same]
    exact ⟨rfl, fun b hb => by rw [Maps.atKey_put_same hT.isMap hkl]; cases hb; rfl⟩
  · rw [Maps.has_put_other (key_lit e1), upd_other _ _ e1, Maps.atKey_put_other (key_lit e1)]
    exact h3 x hx
/-- delete(m, k). -/
theorem MapIs.del (h : MapIs e w B f n) (ht : Try.prog.underlying t = some (.map 9 e)) (k : ByteArray) (hk : k.size ≤ maxLen) (ty : TypeId) :
    ∃ w', (Builtin.delete_ #[t, 9] ty #[.map (some B), .string k]).run Try.prog w = .ok (.tuple #[]) w' ∧ MapIs e w' B (upd f k none) (if (f k).isSome then n - 1 else n) ∧ w.grownBy w' (some B) := by
  obtain ⟨D, h1, h2, h3⟩ := h
  have hT := h1.tidy skeyed
  obtain ⟨w', hr, ho, hg⟩ := h1.drop skeyed ht (WideMaps.keyOf_string_mk Try.underlying9 hk) ty
  have hsz : Maps.size (D.del (.string k.data.toList)) = if (f k).isSome then n - 1 else n := by
    have h4 := Maps.size_del (k := .string k.data.toList) hT
    rw [(h3 k hk).1, h2] at h4
    split at h4 <;> rename_i h5
    · rw [if_pos h5]; omega
    · rw [if_neg h5]; omega
  refine ⟨w', hr, ⟨_, by rw [← hsz]; exact own_tight ho, hsz, fun x hx => ?_⟩, hg.grown⟩
  by_cases e1 : x = k
  · subst e1
    rw [Maps.has_del_same, upd_same]
    exact ⟨rfl, fun b hb => by cases hb⟩
  · rw [Maps.has_del_other (key_lit e1), upd_other _ _ e1, Maps.atKey_del_other (key_lit e1)]
    exact h3 x hx
/-- len(m). -/
theorem MapIs.len (h : MapIs e w B f n) (ht : Try.prog.underlying t = some (.map 9 e)) (ty : TypeId) : (Builtin.len_ #[t] ty #[.map (some B)]).run Try.prog w = .ok (.int .i64 n) w := by
  obtain ⟨D, h1, h2, _⟩ := h
  rw [h1.len ht ty, h2]
end
/-! At the operation. -/
section
variable {P : Program} (w : World) {ops : Array Oper} {rest : List Oper} {o : Oper} {a : Act} {Q : Exit → Act → World → Prop}
theorem wpl_look (hg : o.guard = none) (m x : Operand) (t : TypeId) (hop : o.op = Op.lookup t m x true) (mv xv v : Value) (hm : a.eval m = mv) (hx : a.eval x = xv) (hr : (Instr.lookup t mv xv true).run P w = .ok v w)
    (hK : wpList P ops Q rest (a.put o.dst v) w) : wpList P ops Q (o :: rest) a w := by
  refine wpList_plain hg fun K' hK' => ?_
  unfold Oper.wp
  simp [execOp, hop, hm, hx, hr, Result.andThen]
  exact hK' _ _ hK
theorem wpl_upd (hg : o.guard = none) (m x y : Operand) (t : TypeId) (hop : o.op = Op.mapUpdate t m x y) (mv xv yv : Value) (hm : a.eval m = mv) (hx : a.eval x = xv) (hy : a.eval y = yv) (w' : World) (hr : (Instr.mapUpdate t mv xv yv).run P w = .ok () w')
    (hK : wpList P ops Q rest (a.put o.dst undef) w') : wpList P ops Q (o :: rest) a w := by
  refine wpList_plain hg fun K' hK' => ?_
  unfold Oper.wp
  simp [execOp, hop, hm, hx, hy, hr, Result.andThen]
  exact hK' _ _ hK
theorem wpl_del (hg : o.guard = none) (m x : Operand) (t k : TypeId) (hop : o.op = Op.call { callee := Callee.builtin Builtin.delete, args := #[m, x], argTypes := #[t, k] }) (mv xv : Value) (hm : a.eval m = mv) (hx : a.eval x = xv) (w' : World)
    (hr : (Builtin.delete_ #[t, k] o.type #[mv, xv]).run P w = .ok (.tuple #[]) w') (hK : wpList P ops Q rest (a.put o.dst (.tuple #[])) w') : wpList P ops Q (o :: rest) a w := by
  refine wpList_plain hg fun K' hK' => ?_
  unfold Oper.wp
  simp [execOp, hop, resolve, invoke, builtin, hm, hx, hr, Result.andThen]
  exact hK' _ _ hK
theorem wpl_len (hg : o.guard = none) (m : Operand) (t : TypeId) (hop : o.op = Op.call { callee := Callee.builtin Builtin.len, args := #[m], argTypes := #[t] }) (mv v : Value) (hm : a.eval m = mv)
    (hr : (Builtin.len_ #[t] o.type #[mv]).run P w = .ok v w) (hK : wpList P ops Q rest (a.put o.dst v) w) : wpList P ops Q (o :: rest) a w := by
  refine wpList_plain hg fun K' hK' => ?_
  unfold Oper.wp
  simp [execOp, hop, resolve, invoke, builtin, hm, hr, Result.andThen]
  exact hK' _ _ hK
end
theorem cmp_bytes (a b : List UInt8) : (Lib.compareBytes a b < 0 ↔ a < b) ∧ (Lib.compareBytes a b = 0 ↔ a = b) := by
  induction a generalizing b with
  | nil => cases b <;> simp [Lib.compareBytes]
  | cons x a ih =>
    cases b with
    | nil => simp [Lib.compareBytes]
    | cons y b =>
      unfold Lib.compareBytes
      by_cases h1 : x < y
      · have hne : x ≠ y := by rintro rfl; exact absurd h1 (by simp)
        simp [h1, hne, List.cons_lt_cons_iff]
      · by_cases h2 : y < x
        · have hne : x ≠ y := by rintro rfl; exact absurd h2 (by simp)
          simp [h1, h2, hne, List.cons_lt_cons_iff]
        · have heq : x = y := UInt8.le_antisymm (UInt8.not_lt.1 h2) (UInt8.not_lt.1 h1)
          subst heq
          simp [h1, ih b]
/-- The first that is not 0. -/
def orR (a b : Int) : Int := if a ≠ 0 then a else b
theorem or_lt (x y : Tm) : decide (orR (Lib.compareInt x.2 y.2) (Lib.compareBytes x.1.data.toList y.1.data.toList) < 0) = lt x y := by
  rw [Bool.eq_iff_iff, decide_eq_true_iff, lt_iff]
  unfold orR Lib.compareInt
  by_cases h1 : x.2 < y.2
  · simp [h1]
  · by_cases h2 : y.2 < x.2
    · have : x.2 ≠ y.2 := by omega
      simp [h1, h2, this]
    · have : x.2 = y.2 := by omega
      simp [this, (cmp_bytes _ _).1]
end Tk

theorem tisnan (a : Int) (w : World) : Calls Try.prog 88 #[.int .i64 a] w fun e w' => e = .returned (.bool false) ∧ w = w' := by
  have h : ((a != a) : Bool) = false := by simp
  go_enter Try.func88, Try.ntmps88
  go_wp2_with fail
  go_ret
  exact ⟨rfl, rfl⟩
theorem tcmp (a b : Int) (w : World) : Calls Try.prog 86 #[.int .i64 a, .int .i64 b] w fun e w' => e = .returned (.int .i64 (Lib.compareInt a b)) ∧ w = w' := by
  by_cases h1 : a < b
  · have e : Lib.compareInt a b = -1 := by unfold Lib.compareInt; rw [if_pos h1]
    have d1 : decide (a < b) = true := by simpa using h1
    rw [e]
    clear h1 e
    go_enter Try.func86, Try.ntmps86
    go_wp2_with (go_at_call 88; refine (tisnan _ _).mono ?_; rintro e w' ⟨rfl, rfl⟩)
    go_ret
    exact ⟨rfl, rfl⟩
  · have d1 : decide (a < b) = false := by simpa using h1
    by_cases h2 : b < a
    · have e : Lib.compareInt a b = 1 := by unfold Lib.compareInt; rw [if_neg h1, if_pos h2]
      have d2 : decide (b < a) = true := by simpa using h2
      rw [e]
      clear h1 h2 e
      go_enter Try.func86, Try.ntmps86
      go_wp2_with (go_at_call 88; refine (tisnan _ _).mono ?_; rintro e w' ⟨rfl, rfl⟩)
      go_ret
      exact ⟨rfl, rfl⟩
    · have e : Lib.compareInt a b = 0 := by unfold Lib.compareInt; rw [if_neg h1, if_neg h2]
      have d2 : decide (b < a) = false := by simpa using h2
      rw [e]
      clear h1 h2 e
      go_enter Try.func86, Try.ntmps86
      go_wp2_with (go_at_call 88; refine (tisnan _ _).mono ?_; rintro e w' ⟨rfl, rfl⟩)
      go_ret
      exact ⟨rfl, rfl⟩
/-- cmp.Or of two. -/
theorem tor (a b : Int) (p : Addr) (c : Nat) (w : World) (h0 : w.cell? (p.add 0) = some (.int .i64 a)) (h1 : w.cell? (p.add 1) = some (.int .i64 b)) :
    Calls Try.prog 85 #[.slice (some p) 2 c] w fun e w' => e = .returned (.int .i64 (Tk.orR a b)) ∧ w = w' := by
  have HC : Hid (∀ k : Nat, k < 2 → ∃ x : Int, w.cell? (p.add k) = some (.int .i64 x) ∧ (k = 0 → x = a) ∧ (k = 1 → x = b)) := fun k hk => by
    rcases (by omega : k = 0 ∨ k = 1) with rfl | rfl
    · exact ⟨a, h0, fun _ => rfl, fun h => by omega⟩
    · exact ⟨b, h1, fun h => by omega, fun _ => rfl⟩
  clear h0 h1
  go_enter Try.func85, Try.ntmps85
  go_wp2_with fail
  go_loopw [8] (fun i wr => ∃ k : Nat, k ≤ 2 ∧ i = .int .i64 k ∧ Hid (1 ≤ k → a = 0) ∧ Hid (2 ≤ k → b = 0) ∧ wr = w) (fun i _ => 2 - (intOf i).toNat)
  case atStart => exact ⟨0, by omega, rfl, (fun h : 1 ≤ 0 => by omega), (fun h : 2 ≤ 0 => by omega), rfl⟩
  case round =>
    obtain ⟨k, hk, rfl, HA, HB, rfl⟩ := hrel
    by_cases hlt : k < 2
    · have k0 : (0 : Int) ≤ (k : Int) := by omega
      have k1 : (k : Int) < 2 := by omega
      obtain ⟨x, hx, hx0, hx1⟩ := HC.out k hlt
      have HX := Lib.hid (And.intro hx0 hx1)
      clear hx0 hx1
      by_cases e : x = 0
      · have d : (x != 0) = false := by simpa using e
        have HA2 : Hid (1 ≤ k + 1 → a = 0) := fun _ => by
          rcases (by omega : k = 0 ∨ k = 1) with h | h
          · rw [← HX.out.1 h]; exact e
          · exact HA.out (by omega)
        have HB2 : Hid (2 ≤ k + 1 → b = 0) := fun h => by
          rw [← HX.out.2 (by omega)]; exact e
        clear e
        go_wp2_with fail
        go_roundw
        case rel => exact ⟨k + 1, by omega, by go_num, HA2.out, HB2.out, trivial⟩
        case measure => simp [intOf]; omega
      · have d : (x != 0) = true := by simpa using e
        have HR : Hid (x = Tk.orR a b) := by
          show _ = _
          unfold Tk.orR
          rcases (by omega : k = 0 ∨ k = 1) with h | h
          · rw [HX.out.1 h] at e ⊢
            rw [if_pos e]
          · rw [HX.out.2 h, if_neg (fun h2 => h2 (HA.out (by omega)))]
        clear e
        go_wp2_with fail
        go_ret
        exact ⟨by rw [← HR.out]; rfl, rfl⟩
    · have k1 : ¬ ((k : Int) < 2) := by omega
      have HR : Hid (0 = Tk.orR a b) := by
        show _ = _
        unfold Tk.orR
        rw [HA.out (by omega), HB.out (by omega)]
        simp
      go_wp2_with fail
      go_ret
      exact ⟨by rw [← HR.out]; rfl, rfl⟩
end Go.Proofs.Ytnojjfpccnmbeaa
