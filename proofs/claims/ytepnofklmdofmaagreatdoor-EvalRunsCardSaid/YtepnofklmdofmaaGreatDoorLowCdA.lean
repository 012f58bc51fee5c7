/-
  Contracts of code.having, kinds (the map of what each kind has), has.
  Contracts of code.kinds (the map of what each kind has) and registers (where an op has its registers).
  Contracts of code.registers (where an op has its registers) and bare (an op without its parts).
  An op at a block; the contract of code.bare (an op without its parts).
  Contracts of code.small (are all of these registers) and mayDo (may a function have this op).
-/
import Derived.Test.YtepnofklmdofmaaGreatDoorCdM
import Derived.Test.YtepnofklmdofmaaGreatDoorLowGm
import Derived.Deep.DeepCutAuto
import Derived.Deep.CutBlock
import Derived.OwnWalk
import Derived.Maps.AppendAt
import Derived.Laws.Tables
import Derived.Laws.Rows
import Derived.Deep.RegionHeld3
section
namespace Go.Proofs.YtepnofklmdofmaaGreatDoor
open Go.RowKit

namespace Cd
def pcells (xs : List Int) : List Value := xs.map fun x : Int => Value.int .u8 x
theorem pcells_at {xs : List Int} {k : Nat} (h : k < xs.length) : (pcells xs)[k]? = some (.int .u8 xs[k]) := by
  unfold pcells
  rw [List.getElem?_map, List.getElem?_eq_getElem h]
  rfl
/-- All of them together. -/
def ors (xs : List Int) : Int := xs.foldl (fun a x => bits .or .u8 a x) 0
theorem ors_snoc (xs : List Int) (x : Int) : ors (xs ++ [x]) = bits .or .u8 (ors xs) x := by unfold ors; rw [List.foldl_append]; rfl
end Cd

set_option maxHeartbeats 1000000 in
set_option maxRecDepth 20000 in
theorem chaving (xs : List Int) (A : Option Addr) (c : Nat) (w : World) (hl : Lies w w.heap.size A (Cd.pcells xs)) (hn : xs.length ≤ 100) :
    Calls Tryz.prog 131 #[.slice A xs.length c] w fun e w' => e = .returned (.int .u8 (Cd.ors xs)) ∧ w = w' := by
  have HL := Lib.hid hl
  clear hl
  go_enter Tryz.func131, Tryz.ntmps131
  go_wp2_with fail
  go_loopw [3, 8] (fun s3 s8 wr => ∃ k : Nat, k ≤ xs.length ∧ s8 = .int .i64 k ∧ s3 = .int .u8 (Cd.ors (xs.take k)) ∧ wr = w) (fun _ s8 _ => xs.length - (intOf s8).toNat)
  case atStart => exact ⟨0, Nat.zero_le _, rfl, rfl, rfl⟩
  case round =>
    obtain ⟨k, hk, rfl, rfl, rfl⟩ := hrel
    by_cases hlt : k < xs.length
    · obtain ⟨ad, rfl, hadb, hc⟩ := HL.out.at_ (Cd.pcells_at hlt)
      have HS : Hid (Cd.ors (xs.take (k + 1)) = bits .or .u8 (Cd.ors (xs.take k)) xs[k]) := by
        show _ = _
        rw [List.take_succ_eq_append_getElem hlt, Cd.ors_snoc]
      have k0 : (0 : Int) ≤ (k : Int) := by omega
      have k1 : (k : Int) < xs.length := by omega
      generalize xs[k] = x at hc HS
      go_wp2_with fail
      go_roundw
      case rel => exact ⟨k + 1, by omega, by go_num, by rw [HS.out], trivial⟩
      case measure => simp [intOf]; omega
    · have k1 : ¬ ((k : Int) < xs.length) := by omega
      have HE : Hid (Cd.ors (xs.take k) = Cd.ors xs) := by show _ = _; rw [List.take_of_length_le (by omega)]
      go_wp2_with fail
      go_ret
      exact ⟨by rw [HE.out]; rfl, rfl⟩

theorem chav {w : World} {cs : Array Value} {T : TypeId} {n b : Nat} (xs : List Int) (r : Int) (hc : cs.toList = Cd.pcells xs) (hln : xs.length = n) (hr : Cd.ors xs = r) (hn : xs.length ≤ 100) (hb : w.heap.size = b) :
    Calls Tryz.prog 131 #[.slice (some ⟨b, 0, none⟩) n n] (w.alloc (.cells cs T)) fun e w' => e = .returned (.int .u8 r) ∧ w.alloc (.cells cs T) = w' := by
  subst hln hr hb
  exact chaving xs _ _ _ (lies_new _ _ _ _ hc) hn

namespace Cd
theorem has_bit (d a b n : Bool) : bits .and .u8 (pb d a b n : Int) 1 = (if d then 1 else 0) ∧ bits .and .u8 (pb d a b n : Int) 2 = (if a then 2 else 0) ∧ bits .and .u8 (pb d a b n : Int) 4 = (if b then 4 else 0) ∧ bits .and .u8 (pb d a b n : Int) 8 = (if n then 8 else 0) := by
  cases d <;> cases a <;> cases b <;> cases n <;> decide
end Cd
set_option maxHeartbeats 400000 in
theorem chas (p q r : Int) (h : bits .and .u8 p q = r) (w : World) :
    Calls Tryz.prog 175 #[.int .u8 p, .int .u8 q] w fun e w' => e = .returned (.bool (!(r == 0))) ∧ w = w' := by
  go_enter Tryz.func175, Tryz.ntmps175
  go_wp2_with fail
  go_ret
  exact ⟨by rw [← h]; rfl, rfl⟩
theorem chasD (d a b n : Bool) (w : World) : Calls Tryz.prog 175 #[.int .u8 (Cd.pb d a b n : Int), .int .u8 1] w fun e w' => e = .returned (.bool d) ∧ w = w' := by
  refine (chas _ _ _ (Cd.has_bit d a b n).1 w).mono ?_
  rintro e w' ⟨rfl, rfl⟩
  exact ⟨by cases d <;> rfl, rfl⟩
theorem chasA (d a b n : Bool) (w : World) : Calls Tryz.prog 175 #[.int .u8 (Cd.pb d a b n : Int), .int .u8 2] w fun e w' => e = .returned (.bool a) ∧ w = w' := by
  refine (chas _ _ _ (Cd.has_bit d a b n).2.1 w).mono ?_
  rintro e w' ⟨rfl, rfl⟩
  exact ⟨by cases a <;> rfl, rfl⟩
theorem chasB (d a b n : Bool) (w : World) : Calls Tryz.prog 175 #[.int .u8 (Cd.pb d a b n : Int), .int .u8 4] w fun e w' => e = .returned (.bool b) ∧ w = w' := by
  refine (chas _ _ _ (Cd.has_bit d a b n).2.2.1 w).mono ?_
  rintro e w' ⟨rfl, rfl⟩
  exact ⟨by cases b <;> rfl, rfl⟩
theorem chasN (d a b n : Bool) (w : World) : Calls Tryz.prog 175 #[.int .u8 (Cd.pb d a b n : Int), .int .u8 8] w fun e w' => e = .returned (.bool n) ∧ w = w' := by
  refine (chas _ _ _ (Cd.has_bit d a b n).2.2.2 w).mono ?_
  rintro e w' ⟨rfl, rfl⟩
  exact ⟨by cases n <;> rfl, rfl⟩
end Go.Proofs.YtepnofklmdofmaaGreatDoor
end

section
namespace Go.Proofs.YtepnofklmdofmaaGreatDoor
open Go.RowKit

namespace Cd
/-! ### kinds -/
/-- The table, as far as kind n. -/
def kF (n : Nat) (x : Value) : Option Value := match x with | .int .u8 i => if 1 ≤ i ∧ i ≤ (n : Int) then some (.int .u8 (prt i.toNat : Int)) else none | _ => none
theorem kF_in {n i : Nat} (h1 : 1 ≤ i) (h2 : i ≤ n) : kF n (.int .u8 (i : Int)) = some (.int .u8 (prt i : Int)) := by
  unfold kF
  simp only []
  rw [if_pos (by omega)]
  simp
theorem kF_out {n i : Nat} (h : ¬ (1 ≤ i ∧ i ≤ n)) : kF n (.int .u8 (i : Int)) = none := by
  unfold kF
  simp only []
  rw [if_neg (by omega)]
theorem kF_other {n : Nat} {y : Value} (hy : y ≠ .int .u8 ((n + 1 : Nat) : Int)) : kF (n + 1) y = kF n y := by
  unfold kF
  split
  · rename_i i
    have : (1 ≤ i ∧ i ≤ ((n + 1 : Nat) : Int)) ↔ (1 ≤ i ∧ i ≤ (n : Int)) := by
      by_cases e : i = ((n + 1 : Nat) : Int)
      · exact absurd (by rw [e]) hy
      · constructor <;> intro h <;> omega
    simp only [this]
  · rfl
/-- The table as it is being filled: at block B, made by the call. -/
structure KS (w0 : World) (B n : Nat) (w : World) : Prop where
  m : Gm.MapF 5 w B (kF n) n
  bel : Below w0.heap.size w0 w
  lo : w0.heap.size ≤ B
section
variable {w0 w w' : World} {B n : Nat}
theorem KS.below (h : KS w0 B n w) (hb : Below w.heap.size w w') : KS w0 B n w' := ⟨h.m.below hb, h.bel.trans (hb.mono h.bel.size), h.lo⟩
theorem KS.alloc (h : KS w0 B n w) (o : Obj) : KS w0 B n (w.alloc o) := h.below ((Below.refl _ _).alloc (Nat.le_refl _) o)
theorem KS.put (h : KS w0 B n w) (hn : n < 14) : ∃ w', (Instr.mapUpdate 211 (.map (some B)) (.int .u8 ((n + 1 : Nat) : Int)) (.int .u8 (prt (n + 1) : Int))).run Tryz.prog w = .ok () w' ∧ KS w0 B (n + 1) w' := by
  obtain ⟨w', hr, hm, hg⟩ := h.m.put Gm.key8 Tryz.underlying211 (by unfold maxLen; omega) (Gm.isKey8 (a := ((n + 1 : Nat) : Int)) (by omega) (by omega)) (.int .u8 (prt (n + 1) : Int)) (kF (n + 1)) (kF_in (by omega) (Nat.le_refl _)) (fun y hy => kF_other hy)
  rw [kF_out (by omega)] at hm
  exact ⟨w', hr, ⟨hm, h.bel.grown hg h.bel.size (fun k hk => by cases hk; exact h.lo), h.lo⟩⟩
end
section
variable {P : Program} (w : World) {ops : Array Oper} {rest : List Oper} {o : Oper} {a : Act} {Q : Exit → Act → World → Prop}
theorem gpl_ins (hg : o.guard = none) (m x y : Operand) (t : TypeId) (hop : o.op = Op.insert t m x y) (mv xv yv : Value) (hm : a.eval m = mv) (hx : a.eval x = xv) (hy : a.eval y = yv) (w' : World) (hr : (Instr.mapUpdate t mv xv yv).run P w = .ok () w')
    (hK : wpList P ops Q rest (a.put o.dst undef) w') : wpList P ops Q (o :: rest) a w := by
  refine wpList_plain hg fun K' hK' => ?_
  unfold Oper.wp
  simp [execOp, hop, hm, hx, hy, hr, Result.andThen]
  exact hK' _ _ hK
end
theorem wp_region_any {P : Program} {id : Nat} {l : List Oper} {Q : Exit → Act → World → Prop} {a : Act} {w : World} (h : ∀ O : Array Oper, wpList P O Q l a w) : (Code.region id l.toArray false).wp P Q a w := wp_region_lit (h _)
theorem at_ins {P : Program} {w : World} {ops : Array Oper} {rest : List Oper} {o : Oper} {a : Act} {Q : Exit → Act → World → Prop} {m x y : Operand} {t : TypeId} (_ : o.op = Op.insert t m x y) (h : wpList P ops Q (o :: rest) a w) : wpList P ops Q (o :: rest) a w := h
theorem kins {w0 w : World} {B n : Nat} (h : KS w0 B n w) {ops : Array Oper} {rest : List Oper} {o : Oper} {a : Act} {Q : Exit → Act → World → Prop} (hg : o.guard = none) (m x y : Operand) (hop : o.op = Op.insert 211 m x y)
    (hd : o.dst = none) (hm : a.eval m = .map (some B)) (i r : Int) (hx : a.eval x = .int .u8 i) (hy : a.eval y = .int .u8 r) (hi : ((n + 1 : Nat) : Int) = i) (hr : (prt (n + 1) : Int) = r) (hn : n < 14)
    (hK : ∀ w', KS w0 B (n + 1) w' → wpList Tryz.prog ops Q rest a w') : wpList Tryz.prog ops Q (o :: rest) a w := by
  subst hi hr
  obtain ⟨w', hr, hk⟩ := h.put hn
  exact gpl_ins w hg m x y _ hop _ _ _ hm hx hy w' hr (by rw [hd]; exact hK w' hk)
end Cd

set_option maxHeartbeats 500000 in
set_option maxRecDepth 20000 in
theorem ckinds (w : World) : Calls Tryz.prog 110 #[] w fun e w' => ∃ B, e = .returned (.map (some B)) ∧ Cd.KS w B 14 w' := by
  have hmm := @run_makeMap Tryz.prog
  go_enter Tryz.func110, Tryz.ntmps110
  go_wp2_with fail
  refine (chav [1, 2, 4] 7 (by rfl) (by rfl) (by decide) (by decide) (by first | with_reducible rfl | simp)).mono ?_
  rintro e w1 ⟨rfl, rfl⟩
  have HK : Hid (Cd.KS w (w.heap.size + 1) 0 ((w.alloc (.cells #[.int .u8 1, .int .u8 2, .int .u8 4] 230)).alloc (.map #[] 0))) := by
    have := Gm.MapF.made (w.alloc (.cells #[.int .u8 1, .int .u8 2, .int .u8 4] 230)) 5
    refine ⟨?_, ((Below.refl _ _).alloc (Nat.le_refl _) _).alloc (by simp) _, by omega⟩
    have h2 := this.congr (g := Cd.kF 0) (fun x _ => by unfold Cd.kF; split <;> first | rfl | (rw [if_neg (by omega)]))
    simpa using h2
  go_upto_region 2 with fail
  refine Cd.wp_region_any fun O => ?_
  go_wp2_with fail
  refine (chav [1, 8] 9 (by rfl) (by rfl) (by decide) (by decide) (by first | with_reducible rfl | simp)).mono ?_
  rintro e w1 ⟨rfl, rfl⟩
  clear hmm
  go_wp2_with (refine Cd.at_ins rfl ?_; first | (refine Cd.kins HK.out rfl _ _ _ rfl rfl rfl _ _ rfl rfl (by decide) (by decide) (by omega) ?_; intro wn hk; have HK := Lib.hid hk; clear hk) | (refine Cd.kins (HK.out.alloc _) rfl _ _ _ rfl rfl rfl _ _ rfl rfl (by decide) (by decide) (by omega) ?_; intro wn hk; have HK := Lib.hid hk; clear hk))
  refine (chav [1, 2] 3 (by rfl) (by rfl) (by decide) (by decide) (by first | with_reducible rfl | simp)).mono ?_
  rintro e w1 ⟨rfl, rfl⟩
  go_wp2_with (refine Cd.at_ins rfl ?_; first | (refine Cd.kins HK.out rfl _ _ _ rfl rfl rfl _ _ rfl rfl (by decide) (by decide) (by omega) ?_; intro wn hk; have HK := Lib.hid hk; clear hk) | (refine Cd.kins (HK.out.alloc _) rfl _ _ _ rfl rfl rfl _ _ rfl rfl (by decide) (by decide) (by omega) ?_; intro wn hk; have HK := Lib.hid hk; clear hk))
  refine (chav [8] 8 (by rfl) (by rfl) (by decide) (by decide) (by first | with_reducible rfl | simp)).mono ?_
  rintro e w1 ⟨rfl, rfl⟩
  go_wp2_with (refine Cd.at_ins rfl ?_; first | (refine Cd.kins HK.out rfl _ _ _ rfl rfl rfl _ _ rfl rfl (by decide) (by decide) (by omega) ?_; intro wn hk; have HK := Lib.hid hk; clear hk) | (refine Cd.kins (HK.out.alloc _) rfl _ _ _ rfl rfl rfl _ _ rfl rfl (by decide) (by decide) (by omega) ?_; intro wn hk; have HK := Lib.hid hk; clear hk))
  refine (chav [2, 8] 10 (by rfl) (by rfl) (by decide) (by decide) (by first | with_reducible rfl | simp)).mono ?_
  rintro e w1 ⟨rfl, rfl⟩
  go_wp2_with (refine Cd.at_ins rfl ?_; first | (refine Cd.kins HK.out rfl _ _ _ rfl rfl rfl _ _ rfl rfl (by decide) (by decide) (by omega) ?_; intro wn hk; have HK := Lib.hid hk; clear hk) | (refine Cd.kins (HK.out.alloc _) rfl _ _ _ rfl rfl rfl _ _ rfl rfl (by decide) (by decide) (by omega) ?_; intro wn hk; have HK := Lib.hid hk; clear hk))
  refine (chav [1, 2, 8] 11 (by rfl) (by rfl) (by decide) (by decide) (by first | with_reducible rfl | simp)).mono ?_
  rintro e w1 ⟨rfl, rfl⟩
  go_wp2_with (refine Cd.at_ins rfl ?_; first | (refine Cd.kins HK.out rfl _ _ _ rfl rfl rfl _ _ rfl rfl (by decide) (by decide) (by omega) ?_; intro wn hk; have HK := Lib.hid hk; clear hk) | (refine Cd.kins (HK.out.alloc _) rfl _ _ _ rfl rfl rfl _ _ rfl rfl (by decide) (by decide) (by omega) ?_; intro wn hk; have HK := Lib.hid hk; clear hk))
  refine (chaving [] none 0 _ Lies.nil (by decide)).mono ?_
  rintro e w1 ⟨rfl, rfl⟩
  go_wp2_with (refine Cd.at_ins rfl ?_; first | (refine Cd.kins HK.out rfl _ _ _ rfl rfl rfl _ _ rfl rfl (by decide) (by decide) (by omega) ?_; intro wn hk; have HK := Lib.hid hk; clear hk) | (refine Cd.kins (HK.out.alloc _) rfl _ _ _ rfl rfl rfl _ _ rfl rfl (by decide) (by decide) (by omega) ?_; intro wn hk; have HK := Lib.hid hk; clear hk))
  refine (chav [2] 2 (by rfl) (by rfl) (by decide) (by decide) (by first | with_reducible rfl | simp)).mono ?_
  rintro e w1 ⟨rfl, rfl⟩
  go_wp2_with (refine Cd.at_ins rfl ?_; first | (refine Cd.kins HK.out rfl _ _ _ rfl rfl rfl _ _ rfl rfl (by decide) (by decide) (by omega) ?_; intro wn hk; have HK := Lib.hid hk; clear hk) | (refine Cd.kins (HK.out.alloc _) rfl _ _ _ rfl rfl rfl _ _ rfl rfl (by decide) (by decide) (by omega) ?_; intro wn hk; have HK := Lib.hid hk; clear hk))
  go_ret
  exact ⟨_, rfl, HK.out⟩
end Go.Proofs.YtepnofklmdofmaaGreatDoor
end

section
namespace Go.Proofs.YtepnofklmdofmaaGreatDoor
open Go.RowKit

namespace Cd
theorem ltH {w : World} {b : Nat} {o : Obj} (h : w.heap[b]? = some o) : b < w.heap.size := by
  rcases Nat.lt_or_ge b w.heap.size with h' | h'
  · exact h'
  · rw [Array.getElem?_eq_none h'] at h; cases h
theorem rowKeep {w w' : World} {base n m : Nat} {v : Value} {T : TypeId} {xs : List Value} (h : w.ownsRow base T m v n xs) (hk : ∀ i, v.ownBlock = some i → w'.heap[i]? = w.heap[i]?) : w'.ownsRow base T m v n xs := by
  obtain ⟨hl, h0 | ⟨g, cap, cur, rfl, hg, hh, r⟩⟩ := h
  · exact ⟨hl, .inl h0⟩
  · exact ⟨hl, .inr ⟨g, cap, cur, rfl, hg, (hk g rfl).trans hh, r⟩⟩
theorem rowForm {w : World} {base n m : Nat} {v : Value} {T : TypeId} {xs : List Value} (h : w.ownsRow base T m v n xs) : ∃ A c, v = .slice A n c := by
  rcases h.2 with ⟨e, h0⟩ | ⟨g, cap, cur, e, _⟩
  · exact ⟨none, 0, by rw [e, h0]⟩
  · exact ⟨_, _, e⟩
theorem rowBase {w : World} {base b2 n m : Nat} {v : Value} {T : TypeId} {xs : List Value} (h : w.ownsRow base T m v n xs) (hb : b2 ≤ base) : w.ownsRow b2 T m v n xs := by
  obtain ⟨hl, h0 | ⟨g, cap, cur, e, hg, r⟩⟩ := h
  · exact ⟨hl, .inl h0⟩
  · exact ⟨hl, .inr ⟨g, cap, cur, e, Nat.le_trans hb hg, r⟩⟩
theorem rowLies {w : World} {base n c m : Nat} {A : Option Addr} {T : TypeId} {l : List Value} (h : w.ownsRow base T m (.slice A n c) n l) : Lies w w.heap.size A l := fun hp => by
  rcases h.2 with ⟨e, h0⟩ | ⟨g, cap, cur, e1, hg, hh, _⟩
  · have := h.1
    rw [h0] at this
    omega
  · obtain rfl : A = some ⟨g, 0, none⟩ := by injection e1
    exact ⟨⟨g, 0, none⟩, rfl, (h.lt g rfl).2, fun j u hu => h.cells (g := g) rfl j u hu⟩

/-! ### Where an op's registers are -/
def ids (d a b : Bool) : List Nat := (if d then [1] else []) ++ (if a then [2] else []) ++ (if b then [3] else [])
theorem ids_mem {d a b : Bool} {i : Nat} (h : i ∈ ids d a b) : i = 1 ∨ i = 2 ∨ i = 3 := by
  cases d <;> cases a <;> cases b <;> simp [ids] at h <;> omega
def OpV.getI (o : OpV) (i : Nat) : Int := if i = 1 then o.d else if i = 2 then o.a else o.b
def OpV.setI (o : OpV) (i : Nat) (x : Int) : OpV := if i = 1 then ⟨o.k, x, o.a, o.b, o.n⟩ else if i = 2 then ⟨o.k, o.d, x, o.b, o.n⟩ else ⟨o.k, o.d, o.a, x, o.n⟩
def ptrs (B : Nat) (l : List Nat) : List Value := l.map fun i => Value.pointer (some ⟨B, i, none⟩)
theorem ptrs_at {B : Nat} {l : List Nat} {k : Nat} (h : k < l.length) : (ptrs B l)[k]? = some (.pointer (some ⟨B, l[k], none⟩)) := by
  unfold ptrs
  rw [List.getElem?_map, List.getElem?_eq_getElem h]
  rfl
/-- A row of pointers that the call itself makes. -/
structure RS (w0 : World) (v : Value) (n : Nat) (xs : List Value) (w : World) : Prop where
  row : w.ownsRow w0.heap.size 243 1 v n xs
  bel : Below w0.heap.size w0 w
theorem ptr_info : (Tryz.prog.info? 243).map (fun i => (i.zero, i.size, i.bytes)) = some (some (.pointer none), 1, 8) := by kernel_rfl
theorem at_app {P : Program} {w : World} {ops : Array Oper} {rest : List Oper} {o : Oper} {a : Act} {Q : Exit → Act → World → Prop} {s x : Operand} {t : TypeId} (_ : o.op = .call { callee := .builtin .append, args := #[s, x], argTypes := #[t, t] }) (h : wpList P ops Q (o :: rest) a w) : wpList P ops Q (o :: rest) a w := h
theorem rpush {w0 w : World} {v : Value} {n : Nat} {xs : List Value} {T1 : TypeId} (h : RS w0 v n xs w) {ops : Array Oper} {rest : List Oper} {o : Oper} {a : Act} {Q : Exit → Act → World → Prop} (hg : o.guard = none) (s x : Operand)
    (hop : o.op = .call { callee := .builtin .append, args := #[s, x], argTypes := #[263, 263] }) (hs : a.eval s = v) (b : Nat) (hx : a.eval x = .slice (some ⟨b, 0, none⟩) 1 1) (p : Value) (hb : w.heap.size = b) (hp : p.oneCell' = true) (hn : n ≤ 100)
    (hK : ∀ v' w', RS w0 v' (n + 1) (xs ++ [p]) w' → wpList Tryz.prog ops Q rest (a.put o.dst v') w') : wpList Tryz.prog ops Q (o :: rest) a (w.alloc (.cells #[p] T1)) := by
  obtain ⟨i, hi, hz⟩ := Option.map_eq_some_iff.1 ptr_info
  simp only [Prod.mk.injEq] at hz
  obtain ⟨z1, z2, z3⟩ := hz
  subst hb
  refine wpList_append_own _ hg s x 263 hop w0.heap.size 243 i (.pointer none) 1 8 Tryz.underlying263 hi z1 z2 z3 rfl (by decide) v n xs hs (h.row.alloc _) ⟨w.heap.size, 0, none⟩ 1 1 [p] hx rfl (cell_one_new _ _ _) (by simpa using hp) (by unfold maxLen; omega) (by omega) (by have := h.bel.size; simp; omega) ?_
  intro v' w' hown hgr _
  exact hK v' w' ⟨hown, (h.bel.alloc h.bel.size _).grown hgr (by have := h.bel.size; simp; omega) (fun k hk => (h.row.lt k hk).1)⟩
end Cd

set_option maxHeartbeats 200000 in
set_option maxRecDepth 20000 in
theorem cregs (d a b n : Bool) (B : Nat) (w : World) :
    Calls Tryz.prog 174 #[.int .u8 (Cd.pb d a b n : Int), .pointer (some ⟨B, 0, none⟩)] w fun e w' => ∃ v, e = .returned v ∧ Cd.RS w v (Cd.ids d a b).length (Cd.ptrs B (Cd.ids d a b)) w' := by
  have HS : Hid (Cd.RS w (.slice none 0 0) 0 [] w) := ⟨⟨rfl, .inl ⟨rfl, rfl⟩⟩, Below.refl _ _⟩
  cases d <;> cases a <;> cases b
  all_goals
    go_enter Tryz.func174, Tryz.ntmps174
    go_wp2_with (first | (go_at_call 175; (first | with_reducible refine (chasD _ _ _ _ _).mono ?_ | with_reducible refine (chasA _ _ _ _ _).mono ?_ | with_reducible refine (chasB _ _ _ _ _).mono ?_); rintro e w' ⟨rfl, rfl⟩) | (refine Cd.at_app rfl ?_; refine Cd.rpush HS.out rfl _ _ rfl rfl _ rfl _ (by first | with_reducible rfl | simp) (by rfl) (by omega) ?_; intro v1 w1 hs1; have HS := Lib.hid hs1; clear hs1))
    go_ret
    exact ⟨_, rfl, HS.out⟩
end Go.Proofs.YtepnofklmdofmaaGreatDoor
end

section
namespace Go.Proofs.YtepnofklmdofmaaGreatDoor
open Go.RowKit

namespace Cd
def OpV.arr (o : OpV) : Array Value := #[.int .u8 (o.k : Int), .int .i64 o.d, .int .i64 o.a, .int .i64 o.b, .int .i64 o.n]
theorem OpV.arr_one (o : OpV) : o.arr.all (·.oneCell') = true := by unfold OpV.arr; simp [Value.oneCell']
/-- Block B holds an op. -/
def OB (w : World) (B : Nat) (o : OpV) : Prop := w.heap[B]? = some (.cells o.arr 72 (0, 0))
section
variable {w w' : World} {B : Nat} {o : OpV}
theorem OB.lt (h : OB w B o) : B < w.heap.size := ltH h
theorem OB.c0 (h : OB w B o) : w.cell? ⟨B, 0, none⟩ = some (.int .u8 (o.k : Int)) := cell_of_row _ _ 0 _ _ _ h
theorem OB.c1 (h : OB w B o) : w.cell? ⟨B, 1, none⟩ = some (.int .i64 o.d) := cell_of_row _ _ 1 _ _ _ h
theorem OB.c2 (h : OB w B o) : w.cell? ⟨B, 2, none⟩ = some (.int .i64 o.a) := cell_of_row _ _ 2 _ _ _ h
theorem OB.c3 (h : OB w B o) : w.cell? ⟨B, 3, none⟩ = some (.int .i64 o.b) := cell_of_row _ _ 3 _ _ _ h
theorem OB.c4 (h : OB w B o) : w.cell? ⟨B, 4, none⟩ = some (.int .i64 o.n) := cell_of_row _ _ 4 _ _ _ h
theorem OB.f (h : OB w B o) (i : Nat) : w.frozen? ⟨B, i, none⟩ = false := Lib.frozen_of_heap h i
theorem OB.cI (h : OB w B o) {i : Nat} (hi : i = 1 ∨ i = 2 ∨ i = 3) : w.cell? ⟨B, i, none⟩ = some (.int .i64 (o.getI i)) := by
  rcases hi with rfl | rfl | rfl
  · exact h.c1
  · exact h.c2
  · exact h.c3
theorem OB.set (h : OB w B o) {i : Nat} (hi : i = 1 ∨ i = 2 ∨ i = 3) (x : Int) : OB (w.setCell ⟨B, i, none⟩ (.int .i64 x)) B (o.setI i x) := by
  unfold OB at h ⊢
  rcases hi with rfl | rfl | rfl <;> simp [World.setCell, Array.getElem?_modify, h, OpV.setI, OpV.arr]
theorem OB.set4 (h : OB w B o) (x : Int) : OB (w.setCell ⟨B, 4, none⟩ (.int .i64 x)) B ⟨o.k, o.d, o.a, o.b, x⟩ := by
  unfold OB at h ⊢
  simp [World.setCell, Array.getElem?_modify, h, OpV.arr]
theorem OB.of_block (h : OB w B o) (hb : w'.heap[B]? = w.heap[B]?) : OB w' B o := hb.trans h
theorem OB.below (h : OB w B o) (hb : Below w.heap.size w w') : OB w' B o := h.of_block (hb.block _ h.lt)
theorem OB.drew (h : OB w B o) : OB w.drew B o := h
end
theorem opSize : (Tryz.prog.info? 72).map (·.size) = some 5 := by kernel_rfl

/-- Some registers of an op, laid to zero. -/
def OpV.zap (o : OpV) (l : List Nat) : OpV := l.foldl (fun o i => o.setI i 0) o
theorem zap_snoc (o : OpV) (l : List Nat) (i : Nat) : o.zap (l ++ [i]) = (o.zap l).setI i 0 := by unfold OpV.zap; rw [List.foldl_append]; rfl
theorem zap_less (d a b : Bool) (o : OpV) : o.zap (ids d a b) = o.less d a b false := by cases d <;> cases a <;> cases b <;> rfl
theorem setCell_below {B lo i : Nat} {a w : World} {v : Value} (h : Below lo a w) (hl : lo ≤ w.heap.size) (hB : lo ≤ B) : Below lo a (w.setCell ⟨B, i, none⟩ v) := h.grown (Wire.grown_set w B i v) hl (fun k hk => by cases hk; exact hB)
theorem row_below {lo B : Nat} {a w : World} (h : Below lo a w) (hB : lo ≤ B) (cs : Array Value) : Below lo a (w.setRow B cs) := h.trans ⟨rfl, rfl, rfl, by simp, fun k hk => setRow_other w B k cs (by omega)⟩
end Cd

set_option maxHeartbeats 400000 in
set_option maxRecDepth 20000 in
theorem cbare (d a b n : Bool) (o : Cd.OpV) (w : World) :
    Calls Tryz.prog 171 #[.int .u8 (Cd.pb d a b n : Int), .agg #[.int .u8 (o.k : Int), .int .i64 o.d, .int .i64 o.a, .int .i64 o.b, .int .i64 o.n]] w fun e w' => e = .returned (.agg (o.less d a b n).arr) ∧ Below w.heap.size w w' := by
  obtain ⟨W, hW⟩ : ∃ W, W = (w.alloc (.cells #[.int .u8 (o.k : Int), .int .i64 o.d, .int .i64 o.a, .int .i64 o.b, .int .i64 o.n] 72)).alloc (.cells #[.int .u8 0, .int .i64 0, .int .i64 0, .int .i64 0, .int .i64 0] 72) := ⟨_, rfl⟩
  have hsz : (w.alloc (.cells #[.int .u8 (o.k : Int), .int .i64 o.d, .int .i64 o.a, .int .i64 o.b, .int .i64 o.n] 72)).heap.size = w.heap.size + 1 := by simp
  have HW : Hid (Cd.OB W w.heap.size o ∧ W.heap[w.heap.size + 1]? = some (.cells #[.int .u8 0, .int .i64 0, .int .i64 0, .int .i64 0, .int .i64 0] 72 (0, 0)) ∧ Below w.heap.size w W) := by
    refine ⟨?_, ?_, ?_⟩
    · show W.heap[w.heap.size]? = _
      rw [hW, Below.heap_alloc _ _ _ (by rw [hsz]; omega)]
      exact heap_alloc_new w _
    · rw [hW, ← hsz]
      exact heap_alloc_new _ _
    · rw [hW]
      exact ((Below.refl _ _).alloc (Nat.le_refl _) _).alloc (by rw [hsz]; omega) _
  obtain ⟨B, hB⟩ : ∃ B, B = w.heap.size := ⟨_, rfl⟩
  have HZ : Hid (B = w.heap.size) := hB
  have HI := Lib.hid Cd.opSize
  rw [← hB] at HW
  clear hsz
  go_enter Tryz.func171, Tryz.ntmps171
  go_wp2_with fail
  rw [← hW, ← hB]
  clear hW hB
  refine (cregs d a b n B W).mono ?_
  rintro e w2 ⟨v, rfl, hs⟩
  obtain ⟨A, c, rfl⟩ := Cd.rowForm hs.row
  have HS := Lib.hid hs
  have HC : Hid (Cd.OB w2 B (o.zap []) ∧ w2.heap[B + 1]? = some (.cells #[.int .u8 0, .int .i64 0, .int .i64 0, .int .i64 0, .int .i64 0] 72 (0, 0)) ∧ Below B w w2) :=
    ⟨HW.out.1.below hs.bel, (hs.bel.block _ (Cd.ltH HW.out.2.1)).trans HW.out.2.1, HW.out.2.2.trans (hs.bel.mono (Nat.le_of_lt HW.out.1.lt))⟩
  have HIM : Hid (∀ i, i ∈ Cd.ids d a b → i = 1 ∨ i = 2 ∨ i = 3) := fun i h => Cd.ids_mem h
  have HZL := Lib.hid (Cd.zap_less d a b o)
  have HBW := Lib.hid HW.out.1.lt
  have HBW2 := Lib.hid (Cd.ltH HW.out.2.1)
  clear HW hs
  have hIl : (Cd.ids d a b).length ≤ 100 := by cases d <;> cases a <;> cases b <;> decide
  generalize Cd.ids d a b = I at HS HIM HZL hIl ⊢
  go_wp2_with fail
  go_loopw [10] (fun s10 wr => ∃ k : Nat, k ≤ I.length ∧ s10 = .int .i64 k ∧ Hid (Cd.OB wr B (o.zap (I.take k)) ∧ wr.heap[B + 1]? = some (.cells #[.int .u8 0, .int .i64 0, .int .i64 0, .int .i64 0, .int .i64 0] 72 (0, 0)) ∧ Below B w wr) ∧ Hid (wr.ownsRow W.heap.size 243 1 (.slice A I.length c) I.length (Cd.ptrs B I))) (fun s10 _ => I.length - (intOf s10).toNat)
  case atStart => exact ⟨0, Nat.zero_le _, rfl, HC.out, HS.out.row⟩
  case round =>
    clear HC HS
    obtain ⟨k, hk, rfl, HC, HR⟩ := hrel
    by_cases hlt : k < I.length
    · obtain ⟨ad, rfl, hadb, hc⟩ := (Cd.rowLies HR.out).at_ (Cd.ptrs_at hlt)
      have hi := HIM.out _ (List.getElem_mem hlt)
      have HTK : Hid (o.zap (I.take (k + 1)) = (o.zap (I.take k)).setI I[k] 0) := by
        show _ = _
        rw [List.take_succ_eq_append_getElem hlt, Cd.zap_snoc]
      generalize I[k] = i at hc hi HTK
      have hci := HC.out.1.cI hi
      have hfi := HC.out.1.f i
      have HNEW : Hid (Cd.OB (wr.setCell ⟨B, i, none⟩ (.int .i64 0)) B (o.zap (I.take (k + 1))) ∧ (wr.setCell ⟨B, i, none⟩ (.int .i64 0)).heap[B + 1]? = some (.cells #[.int .u8 0, .int .i64 0, .int .i64 0, .int .i64 0, .int .i64 0] 72 (0, 0)) ∧ Below B w (wr.setCell ⟨B, i, none⟩ (.int .i64 0))) := by
        refine ⟨?_, ?_, Cd.setCell_below HC.out.2.2 (Nat.le_of_lt HC.out.1.lt) (Nat.le_refl _)⟩
        · rw [HTK.out]; exact HC.out.1.set hi 0
        · exact (Below.heap_setCell _ _ _ _ (by intro h; simp at h)).trans HC.out.2.1
      have HRN : Hid ((wr.setCell ⟨B, i, none⟩ (.int .i64 0)).ownsRow W.heap.size 243 1 (.slice (some ad) I.length c) I.length (Cd.ptrs B I)) :=
        Cd.rowKeep HR.out (fun j hj => Below.heap_setCell _ _ _ _ (by intro h; have h1 := (HR.out.lt j hj).1; have h2 := HBW.out; try dsimp only at h; omega))
      have k0 : (0 : Int) ≤ (k : Int) := by omega
      have k1 : (k : Int) < I.length := by omega
      clear hadb hlt HTK hi HC HR
      go_wp2_with fail
      go_roundw
      case rel => exact ⟨k + 1, by omega, by go_num, HNEW.out, HRN.out⟩
      case measure => simp [intOf]; omega
    · have k1 : ¬ ((k : Int) < I.length) := by omega
      have HO : Hid (Cd.OB wr B (o.less d a b false)) := by
        show Cd.OB _ _ _
        have := HC.out.1
        rw [List.take_of_length_le (by omega)] at this
        rw [← HZL.out]
        exact this
      have HB1 := Lib.hid HC.out.2
      clear HC HR
      go_wp2_with fail
      refine (chasN d a b n _).mono ?_
      rintro e w3 ⟨rfl, rfl⟩
      cases n
      · go_wp2_with (first
          | refine wpList_load_row rfl 72 (.tmp 3) rfl B rfl 72 (o.less d a b false).arr (0, 0) _ HO.out Tryz.underlying72 rfl HI.out ?_
          | refine wpList_store_row rfl 72 (.tmp 4) (.tmp 20) rfl (B + 1) (o.less d a b false).arr rfl rfl 72 _ HB1.out.1 HI.out rfl (Cd.OpV.arr_one _) ?_)
        try simp only [Exit.inBlock, Exit.then]
        refine bodyPost_ret (v := .agg (o.less d a b false).arr) (results_cell_row Tryz.results171 _ _ (B + 1) 72 (o.less d a b false).arr (0, 0) _ rfl (setRow_heap _ _ _ _ _ _ HB1.out.1) Tryz.underlying72 rfl HI.out) rfl ⟨rfl, ?_⟩
        rw [← HZ.out]
        exact Cd.row_below HB1.out.2 (Nat.le_succ _) _
      · have c4 := HO.out.c4
        have f4 := HO.out.f 4
        have HO4 : Hid (Cd.OB (wr.setCell ⟨B, 4, none⟩ (.int .i64 0)) B (o.less d a b true)) := HO.out.set4 0
        have HB4 : Hid ((wr.setCell ⟨B, 4, none⟩ (.int .i64 0)).heap[B + 1]? = some (.cells #[.int .u8 0, .int .i64 0, .int .i64 0, .int .i64 0, .int .i64 0] 72 (0, 0)) ∧ Below B w (wr.setCell ⟨B, 4, none⟩ (.int .i64 0))) :=
          ⟨(Below.heap_setCell _ _ _ _ (by intro h; simp at h)).trans HB1.out.1, Cd.setCell_below HB1.out.2 (Nat.le_of_lt HO.out.lt) (Nat.le_refl _)⟩
        go_wp2_with (first
          | refine wpList_load_row rfl 72 (.tmp 3) rfl B rfl 72 (o.less d a b true).arr (0, 0) _ HO4.out Tryz.underlying72 rfl HI.out ?_
          | refine wpList_store_row rfl 72 (.tmp 4) (.tmp 20) rfl (B + 1) (o.less d a b true).arr rfl rfl 72 _ HB4.out.1 HI.out rfl (Cd.OpV.arr_one _) ?_)
        try simp only [Exit.inBlock, Exit.then]
        refine bodyPost_ret (v := .agg (o.less d a b true).arr) (results_cell_row Tryz.results171 _ _ (B + 1) 72 (o.less d a b true).arr (0, 0) _ rfl (setRow_heap _ _ _ _ _ _ HB4.out.1) Tryz.underlying72 rfl HI.out) rfl ⟨rfl, ?_⟩
        rw [← HZ.out]
        exact Cd.row_below HB4.out.2 (Nat.le_succ _) _
end Go.Proofs.YtepnofklmdofmaaGreatDoor
end

section
namespace Go.Proofs.YtepnofklmdofmaaGreatDoor
open Go.RowKit

set_option maxHeartbeats 400000 in
theorem csmallf (x : Int) (w : World) : Calls Tryz.prog 169 #[.int .i64 x] w fun e w' => e = .returned (.bool (!Cd.reg x)) ∧ w = w' := by
  by_cases h0 : x < 0
  · have HE : Hid (Cd.reg x = false) := by show _ = _; unfold Cd.reg; simp; omega
    go_enter Tryz.func169, Tryz.ntmps169
    go_wp2_with fail
    go_ret
    exact ⟨by rw [HE.out]; rfl, rfl⟩
  · by_cases h1 : (16 : Int) < x
    · have HE : Hid (Cd.reg x = false) := by show _ = _; unfold Cd.reg; simp; omega
      go_enter Tryz.func169, Tryz.ntmps169
      go_wp2_with fail
      go_ret
      exact ⟨by rw [HE.out]; rfl, rfl⟩
    · have HE : Hid (Cd.reg x = true) := by show _ = _; unfold Cd.reg; simp; omega
      go_enter Tryz.func169, Tryz.ntmps169
      go_wp2_with fail
      go_ret
      exact ⟨by rw [HE.out]; rfl, rfl⟩

set_option maxHeartbeats 400000 in
theorem cidxint (xs : List Int) (A : Option Addr) (c : Nat) (w : World) (hn : xs.length ≤ 1000) (hli : Lies w w.heap.size A (icells xs)) :
    Calls Tryz.prog 173 #[.slice A xs.length c, .func (.func 169) #[] #[]] w fun e w' => ∃ i : Int, e = .returned (.int .i64 i) ∧ decide (0 ≤ i) = !xs.all Cd.reg ∧ w = w' := by
  have HL := Lib.hid hli
  clear hli
  go_enter Tryz.func173, Tryz.ntmps173
  go_wp2_with fail
  go_loop [8] (fun i => ∃ k : Nat, k ≤ xs.length ∧ i = .int .i64 k ∧ Hid ((xs.take k).all Cd.reg = true)) (fun i => xs.length - (intOf i).toNat)
  case atStart => exact ⟨0, Nat.zero_le _, rfl, rfl⟩
  case round =>
    obtain ⟨k, hk, rfl, HN⟩ := hrel
    by_cases hlt : k < xs.length
    · obtain ⟨ad, rfl, hb, hc⟩ := HL.out.at_ (icells_at hlt)
      clear hb
      have HM := Lib.hid (List.getElem_mem hlt)
      have HT := Lib.hid (List.take_succ_eq_append_getElem hlt)
      generalize xs[k] = x at hc HM HT
      cases he : Cd.reg x
      · have HD : Hid (xs.all Cd.reg = false) := by
          show _ = _
          rw [List.all_eq_false]
          exact ⟨x, HM.out, by rw [he]; decide⟩
        have HC := Lib.hid (csmallf x w)
        rw [he] at HC
        clear he
        go_wp2_with fail
        refine HC.out.mono ?_
        rintro e w1 ⟨rfl, rfl⟩
        go_wp2_with fail
        go_ret
        exact ⟨k, rfl, by rw [HD.out]; simp, rfl⟩
      · have HC := Lib.hid (csmallf x w)
        rw [he] at HC
        have HE := Lib.hid he
        clear he
        go_wp2_with fail
        refine HC.out.mono ?_
        rintro e w1 ⟨rfl, rfl⟩
        go_wp2_with fail
        go_round
        case rel => exact ⟨k + 1, by omega, by go_num, by show _ = _; rw [HT.out, List.all_append, HN.out]; simp [HE.out]⟩
        case measure => simp [intOf]; omega
    · have HD : Hid (xs.all Cd.reg = true) := by
        show _ = _
        rw [← HN.out, List.take_of_length_le (by omega)]
      have k1 : ¬ ((k : Int) < xs.length) := by omega
      go_wp2_with fail
      go_ret
      exact ⟨-1, rfl, by rw [HD.out]; decide, rfl⟩

set_option maxHeartbeats 400000 in
theorem csmall (xs : List Int) (A : Option Addr) (c : Nat) (w : World) (hn : xs.length ≤ 1000) (hli : Lies w w.heap.size A (icells xs)) :
    Calls Tryz.prog 149 #[.slice A xs.length c] w fun e w' => e = .returned (.bool (xs.all Cd.reg)) ∧ w = w' := by
  have HC : Hid (Calls Tryz.prog 168 #[.slice A xs.length c, .func (.func 169) #[] #[]] w fun e w' => e = .returned (.bool (!xs.all Cd.reg)) ∧ w = w') := by
    have HI := Lib.hid (cidxint xs A c w hn hli)
    clear hli hn
    show Calls _ _ _ _ _
    go_enter Tryz.func168, Tryz.ntmps168
    go_wp2_with fail
    refine HI.out.mono ?_
    rintro e w1 ⟨i, rfl, hi, rfl⟩
    go_wp2_with fail
    go_ret
    exact ⟨by rw [← hi]; rfl, rfl⟩
  clear hli hn
  go_enter Tryz.func149, Tryz.ntmps149
  go_wp2_with fail
  refine HC.out.mono ?_
  rintro e w1 ⟨rfl, rfl⟩
  go_wp2_with fail
  go_ret
  exact ⟨by cases xs.all Cd.reg <;> rfl, rfl⟩
theorem csm {w : World} {cs : Array Value} {T : TypeId} {n b : Nat} (xs : List Int) (r : Bool) (hc : cs.toList = icells xs) (hln : xs.length = n) (hr : xs.all Cd.reg = r) (hn : xs.length ≤ 1000) (hb : w.heap.size = b) :
    Calls Tryz.prog 149 #[.slice (some ⟨b, 0, none⟩) n n] (w.alloc (.cells cs T)) fun e w' => e = .returned (.bool r) ∧ w.alloc (.cells cs T) = w' := by
  subst hln hr hb
  exact csmall xs _ _ _ hn (lies_new _ _ _ _ hc)

namespace Cd
theorem zeroPart : ∀ w, (zeroValue 230).run Tryz.prog w = .ok (.int .u8 0) w := fun _ => by kernel_rfl
theorem kF_get (k : Nat) : (kF 14 (.int .u8 (k : Int))).getD (.int .u8 0) = .int .u8 (pb (hD k) (hA k) (hB k) (hN k) : Int) ∧ (kF 14 (.int .u8 (k : Int))).isSome = isK k := by
  by_cases h : 1 ≤ k ∧ k ≤ 14
  · rw [kF_in h.1 h.2]
    exact ⟨rfl, by unfold isK; simp [h.1, h.2]⟩
  · rw [kF_out h]
    have e1 : hD k = false := by unfold hD; simp; omega
    have e2 : hA k = false := by unfold hA; simp; omega
    have e3 : hB k = false := by unfold hB; simp; omega
    have e4 : hN k = false := by unfold hN; simp; omega
    rw [e1, e2, e3, e4]
    refine ⟨rfl, ?_⟩
    unfold isK
    simp
    omega
/-- The program's table at block B. -/
abbrev Tbl (w : World) (B : Nat) : Prop := Gm.MapF 5 w B (kF 14) 14
theorem Tbl.look {w : World} {B k : Nat} (h : Tbl w B) (hk : k < 256) : (Instr.lookup 211 (.map (some B)) (.int .u8 (k : Int)) true).run Tryz.prog w = .ok (.tuple #[.int .u8 (pb (hD k) (hA k) (hB k) (hN k) : Int), .bool (isK k)]) w := by
  have := Gm.MapF.look h Gm.key8 Tryz.underlying211 (zeroPart w) (Gm.isKey8 (a := (k : Int)) (by omega) (by omega))
  rw [(kF_get k).1, (kF_get k).2] at this
  exact this
theorem Tbl.look1 {w : World} {B k : Nat} (h : Tbl w B) (hk : k < 256) : (Instr.lookup 211 (.map (some B)) (.int .u8 (k : Int)) false).run Tryz.prog w = .ok (.int .u8 (pb (hD k) (hA k) (hB k) (hN k) : Int)) w := by
  have := Gm.MapF.look1 h Gm.key8 Tryz.underlying211 (zeroPart w) (Gm.isKey8 (a := (k : Int)) (by omega) (by omega))
  rw [(kF_get k).1] at this
  exact this
theorem OB.cells {w : World} {B : Nat} {o : OpV} (h : OB w B o) : w.cell? ⟨B, 0, none⟩ = some (.int .u8 (o.k : Int)) ∧ w.cell? ⟨B, 1, none⟩ = some (.int .i64 o.d) ∧ w.cell? ⟨B, 2, none⟩ = some (.int .i64 o.a) ∧ w.cell? ⟨B, 3, none⟩ = some (.int .i64 o.b) ∧ w.cell? ⟨B, 4, none⟩ = some (.int .i64 o.n) :=
  ⟨h.c0, h.c1, h.c2, h.c3, h.c4⟩
end Cd
end Go.Proofs.YtepnofklmdofmaaGreatDoor
end
