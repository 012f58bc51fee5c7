/-
  Contracts of slices.Equal of ops, code.same, slices.EqualFunc of functions, code.Same.
-/
import Derived.Test.YtndgafjnifkghaaCdH
import Derived.BigRegion
import Derived.BigQuiet
namespace Go.Proofs.Ytndgafjnifkghaa
open Go.RowKit

namespace Cd
def eqO (x y : OpV) : Bool := decide (x.k = y.k) && decide (x.d = y.d) && decide (x.a = y.a) && decide (x.b = y.b) && decide (x.n = y.n)
theorem eqO_iff {x y : OpV} : eqO x y = true ↔ x = y := by
  unfold eqO
  simp only [Bool.and_eq_true, decide_eq_true_eq]
  exact ⟨fun h => OpV.ext' h.1.1.1.1 h.1.1.1.2 h.1.1.2 h.1.2 h.2, fun h => by subst h; simp⟩
def eqOs : List OpV → List OpV → Bool
  | [], [] => true
  | x :: l, y :: r => eqO x y && eqOs l r
  | _, _ => false
theorem eqOs_iff {l r : List OpV} : eqOs l r = true ↔ l = r := by
  induction l generalizing r with
  | nil => cases r <;> simp [eqOs]
  | cons x l ih =>
    cases r with
    | nil => simp [eqOs]
    | cons y r => simp [eqOs, eqO_iff, ih]
theorem eqOs_take {l r : List OpV} (h : l.length = r.length) : (∀ k, k < l.length → ∀ (h1 : k < l.length) (h2 : k < r.length), eqO l[k] r[k] = true) → l = r := fun hk => by
  apply List.ext_getElem h
  intro i h1 h2
  exact eqO_iff.1 (hk i h1 h1 h2)
theorem run_neqOp (x y : OpV) (w : World) : (binOp .neq 43 (.agg #[.int .u8 (x.k : Int), .int .i64 x.d, .int .i64 x.a, .int .i64 x.b, .int .i64 x.n]) (.agg #[.int .u8 (y.k : Int), .int .i64 y.d, .int .i64 y.a, .int .i64 y.b, .int .i64 y.n])).run Try.prog w = .ok (.bool (!eqO x y)) w := by
  unfold eqO
  go_simp
  have hk : ((x.k : Int) = (y.k : Int)) ↔ x.k = y.k := by omega
  by_cases h0 : x.k = y.k <;> by_cases h1 : x.d = y.d <;> by_cases h2 : x.a = y.a <;> by_cases h3 : x.b = y.b <;> by_cases h4 : x.n = y.n <;> simp [hk, h0, h1, h2, h3, h4]
end Cd

set_option maxHeartbeats 600000 in
set_option maxRecDepth 20000 in
theorem cequal (l r : List Cd.OpV) (A A2 : Option Addr) (c c2 : Nat) (w : World) (hl : Lies w w.heap.size A (Cd.ocells l)) (hr : Lies w w.heap.size A2 (Cd.ocells r)) (nl : l.length ≤ maxLen) (nr : r.length ≤ maxLen) :
    Calls Try.prog 63 #[.slice A l.length c, .slice A2 r.length c2] w fun e w' => e = .returned (.bool (Cd.eqOs l r)) ∧ Below w.heap.size w w' := by
  unfold maxLen at nl nr
  have HL := Lib.hid hl
  have HR := Lib.hid hr
  clear hl hr
  by_cases hn : l.length = r.length
  · have hne : ((l.length : Int) != r.length) = false := by simp; omega
    go_enter Try.func63, Try.ntmps63
    go_wp2_with fail
    go_loopw [13] (fun s13 wr => ∃ k : Nat, k ≤ l.length ∧ s13 = .int .i64 k ∧ Hid (∀ j (h1 : j < l.length) (h2 : j < r.length), j < k → Cd.eqO l[j] r[j] = true) ∧ Hid (Below w.heap.size w wr)) (fun s13 _ => l.length - (intOf s13).toNat)
    case atStart => exact ⟨0, Nat.zero_le _, rfl, (show Hid _ from fun j _ _ h => by omega), Below.refl _ _⟩
    case round =>
      obtain ⟨k, hk, rfl, HK, HB⟩ := hrel
      by_cases hlt : k < l.length
      · have hlt2 : k < r.length := by omega
        obtain ⟨ad, rfl, hadb, c0, c1, c2', c3, c4⟩ := Cd.op_at (HL.out.below HB.out) hlt
        obtain ⟨ad2, rfl, hadb2, d0, d1, d2, d3, d4⟩ := Cd.op_at (HR.out.below HB.out) hlt2
        have k0 : (0 : Int) ≤ (k : Int) := by omega
        have k1 : (k : Int) < l.length := by omega
        have k2 : (k : Int) < r.length := by omega
        have HQ := Cd.run_neqOp l[k] r[k]
        have HK2 : Hid (Cd.eqO l[k] r[k] = true → ∀ j (h1 : j < l.length) (h2 : j < r.length), j < k + 1 → Cd.eqO l[j] r[j] = true) := fun he j h1 h2 hj => by
          rcases Nat.lt_succ_iff_lt_or_eq.1 hj with h | rfl
          · exact HK.out j h1 h2 h
          · exact he
        have HK3 : Hid (Cd.eqO l[k] r[k] = false → Cd.eqOs l r = false) := fun he => by
          by_cases hq : Cd.eqOs l r = true
          · have e : l = r := Cd.eqOs_iff.1 hq
            subst e
            rw [Cd.eqO_iff.2 rfl] at he
            cases he
          · simpa using hq
        have HBD : Hid (Below w.heap.size w wr.drew) := HB.out.drew
        generalize Cd.eqO l[k] r[k] = q at HQ HK2 HK3
        generalize l[k] = x at c0 c1 c2' c3 c4 HQ
        generalize r[k] = y at d0 d1 d2 d3 d4 HQ
        clear hadb hadb2 hlt hlt2 hne hn
        cases q with
        | true =>
          have HK4 := Lib.hid (HK2.out rfl)
          clear HK2 HK3
          go_upto_region 6 with fail
          go_region
          all_goals
            go_wp2_with fail
            go_roundw
            case rel => exact ⟨k + 1, by omega, by go_num, HK4.out, HBD.out⟩
            case measure => simp [intOf]; omega
        | false =>
          have HK4 := Lib.hid (HK3.out rfl)
          clear HK2 HK3
          go_upto_region 6 with fail
          go_region
          all_goals
            go_wp2_with fail
            go_ret
            exact ⟨by rw [HK4.out]; rfl, HBD.out⟩
      · have k1 : ¬ ((k : Int) < l.length) := by omega
        have HE : Hid (Cd.eqOs l r = true) := Cd.eqOs_iff.2 (Cd.eqOs_take hn (fun j hj h1 h2 => HK.out j h1 h2 (by omega)))
        go_wp2_with fail
        go_ret
        exact ⟨by rw [HE.out]; rfl, HB.out⟩
  · have hne : ((l.length : Int) != r.length) = true := by simp; omega
    have HE : Hid (Cd.eqOs l r = false) := by
      show _ = _
      by_cases hq : Cd.eqOs l r = true
      · exact absurd (by rw [Cd.eqOs_iff.1 hq]) hn
      · simpa using hq
    clear hn
    go_enter Try.func63, Try.ntmps63
    go_wp2_with fail
    go_ret
    exact ⟨by rw [HE.out]; rfl, Below.refl _ _⟩

namespace Cd
def eqF (f g : FnV) : Bool := decide (f.args = g.args) && (decide (f.regs = g.regs) && eqOs f.ops g.ops)
theorem eqF_iff {f g : FnV} : eqF f g = true ↔ f = g := by
  unfold eqF
  simp only [Bool.and_eq_true, decide_eq_true_eq, eqOs_iff]
  constructor
  · intro h
    cases f
    cases g
    simp_all
  · intro h
    subst h
    simp
def eqFs : List FnV → List FnV → Bool
  | [], [] => true
  | x :: l, y :: r => eqF x y && eqFs l r
  | _, _ => false
theorem eqFs_iff {l r : List FnV} : eqFs l r = true ↔ l = r := by
  induction l generalizing r with
  | nil => cases r <;> simp [eqFs]
  | cons x l ih =>
    cases r with
    | nil => simp [eqFs]
    | cons y r => simp [eqFs, eqF_iff, ih]
end Cd

set_option maxHeartbeats 600000 in
set_option maxRecDepth 20000 in
theorem csame (m p : Cd.Fm) (hm : m.f.Rng) (hp : p.f.Rng) (w : World) (hl : Lies w w.heap.size m.A (Cd.ocells m.f.ops)) (hr : Lies w w.heap.size p.A (Cd.ocells p.f.ops)) :
    Calls Try.prog 39 #[.agg #[.int .i64 m.f.args, .int .i64 m.f.regs, .slice m.A m.f.ops.length m.c], .agg #[.int .i64 p.f.args, .int .i64 p.f.regs, .slice p.A p.f.ops.length p.c]] w fun e w' => e = .returned (.bool (Cd.eqF m.f p.f)) ∧ Below w.heap.size w w' := by
  obtain ⟨V, hV⟩ : ∃ V, V = w.alloc (.cells #[.int .i64 m.f.args, .int .i64 m.f.regs, .slice m.A m.f.ops.length m.c] 41) := ⟨_, rfl⟩
  have hVs : V.heap.size = w.heap.size + 1 := by rw [hV]; simp
  obtain ⟨W, hW⟩ : ∃ W, W = V.alloc (.cells #[.int .i64 p.f.args, .int .i64 p.f.regs, .slice p.A p.f.ops.length p.c] 41) := ⟨_, rfl⟩
  have hb1 : Below w.heap.size w V := by rw [hV]; exact Cd.fn1 _ _ _
  have hb2 : Below V.heap.size V W := by rw [hW]; exact Cd.fn1 _ _ _
  have hb : Below w.heap.size w W := hb1.trans (hb2.mono hb1.size)
  have hF : W.heap[w.heap.size]? = some (.cells #[.int .i64 m.f.args, .int .i64 m.f.regs, .slice m.A m.f.ops.length m.c] 41 (0, 0)) := by
    rw [hb2.block _ (by rw [hVs]; omega), hV]
    exact heap_alloc_new w _
  have hG : W.heap[w.heap.size + 1]? = some (.cells #[.int .i64 p.f.args, .int .i64 p.f.regs, .slice p.A p.f.ops.length p.c] 41 (0, 0)) := by
    rw [← hVs, hW]
    exact heap_alloc_new V _
  have HB := Lib.hid hb
  have HEQ := Lib.hid (cequal m.f.ops p.f.ops m.A p.A m.c p.c W ((hl.below hb).mono hb.size) ((hr.below hb).mono hb.size) hm.len hp.len)
  have f0 : W.cell? ⟨w.heap.size, 0, none⟩ = some (.int .i64 m.f.args) := cell_of_row _ _ 0 _ _ _ hF
  have f1 : W.cell? ⟨w.heap.size, 1, none⟩ = some (.int .i64 m.f.regs) := cell_of_row _ _ 1 _ _ _ hF
  have f2 : W.cell? ⟨w.heap.size, 2, none⟩ = some (.slice m.A m.f.ops.length m.c) := cell_of_row _ _ 2 _ _ _ hF
  have g0 : W.cell? ⟨w.heap.size + 1, 0, none⟩ = some (.int .i64 p.f.args) := cell_of_row _ _ 0 _ _ _ hG
  have g1 : W.cell? ⟨w.heap.size + 1, 1, none⟩ = some (.int .i64 p.f.regs) := cell_of_row _ _ 1 _ _ _ hG
  have g2 : W.cell? ⟨w.heap.size + 1, 2, none⟩ = some (.slice p.A p.f.ops.length p.c) := cell_of_row _ _ 2 _ _ _ hG
  clear hb1 hb2 hb hF hG hl hr hm hp hVs
  go_enter Try.func39, Try.ntmps39
  go_upto_region 1 with fail
  rw [← hV, ← hW]
  clear hW hV
  by_cases h0 : m.f.args = p.f.args
  · have e0 : (m.f.args == p.f.args) = true := by simpa using h0
    by_cases h1 : m.f.regs = p.f.regs
    · have e1 : (m.f.regs == p.f.regs) = true := by simpa using h1
      have HE : Hid (Cd.eqF m.f p.f = Cd.eqOs m.f.ops p.f.ops) := by show _ = _; unfold Cd.eqF; rw [decide_eq_true h0, decide_eq_true h1]; rfl
      clear h0 h1
      go_wp2_with fail
      refine HEQ.out.mono ?_
      rintro e w2 ⟨rfl, hb2⟩
      have HB2 : Hid (Below w.heap.size w w2) := HB.out.trans (hb2.mono HB.out.size)
      clear hb2
      go_wp2_with fail
      go_ret
      exact ⟨by rw [HE.out]; rfl, HB2.out⟩
    · have e1 : (m.f.regs == p.f.regs) = false := by simpa using h1
      have HE : Hid (Cd.eqF m.f p.f = false) := by show _ = _; unfold Cd.eqF; rw [decide_eq_false h1]; simp
      clear h0 h1
      go_wp2_with fail
      go_ret
      exact ⟨by rw [HE.out]; rfl, HB.out⟩
  · have e0 : (m.f.args == p.f.args) = false := by simpa using h0
    have HE : Hid (Cd.eqF m.f p.f = false) := by show _ = _; unfold Cd.eqF; rw [decide_eq_false h0]; rfl
    clear h0
    go_wp2_with fail
    go_ret
    exact ⟨by rw [HE.out]; rfl, HB.out⟩
end Go.Proofs.Ytndgafjnifkghaa
