/-
  Timers in memory: rows of them; the document's Same.
-/
import Derived.Test.YtnojjfpccnmbeaaTkM
import Derived.Test.YtnojjfpccnmbeaaOpen
import Derived.Test.YtnojjfpccnmbeaaProg
import Derived.BigQuiet
import Derived.WalkSmall
import Derived.Deep.OwnRows
import Derived.Lib.Hide
namespace Go.Proofs.Ytnojjfpccnmbeaa
open Go.RowKit

namespace Tk
/-- The cells of timers. -/
def tks (l : List Tm) : List Value := l.flatMap fun x => [Value.string x.1, Value.int .i64 x.2]
theorem tks_cons (x : Tm) (l : List Tm) : tks (x :: l) = [Value.string x.1, Value.int .i64 x.2] ++ tks l := by simp [tks]
theorem tks_app (l m : List Tm) : tks (l ++ m) = tks l ++ tks m := by simp [tks]
theorem tks_snoc (l : List Tm) (x : Tm) : tks (l ++ [x]) = tks l ++ [Value.string x.1, Value.int .i64 x.2] := by simp [tks]
theorem tks_len (l : List Tm) : (tks l).length = l.length * 2 := by
  induction l with
  | nil => rfl
  | cons x l ih => rw [tks_cons, List.length_append, ih, List.length_cons]; simp; omega
theorem tks_at (l : List Tm) (k : Nat) (h : k < l.length) : (tks l)[2 * k]? = some (.string l[k].1) ∧ (tks l)[2 * k + 1]? = some (.int .i64 l[k].2) := by
  induction l generalizing k with
  | nil => simp at h
  | cons x l ih =>
    rw [tks_cons]
    cases k with
    | zero => exact ⟨rfl, rfl⟩
    | succ k =>
      have := ih k (by simpa using h)
      rw [show 2 * (k + 1) = 2 * k + 2 by omega]
      simpa using this
theorem pair1 (A : Addr) (k : Nat) : (⟨(A.add (k * 2)).block, (A.add (k * 2)).off + 1, none⟩ : Addr) = A.add (2 * k + 1) := by
  unfold Addr.add
  by_cases h : k = 0
  · subst h; simp
  · rw [if_neg (by omega), if_neg (by omega)]
    simp
    omega
/-- One timer of a row that lies, in the walk's spelling. -/
theorem at2 {w : World} {B : Nat} {A : Option Addr} {l : List Tm} (h : Lies w B A (tks l)) {k : Nat} (hk : k < l.length) : ∃ p, A = some p ∧ p.block < B ∧ w.cell? (p.add (k * 2)) = some (.string l[k].1) ∧ w.cell? ⟨(p.add (k * 2)).block, (p.add (k * 2)).off + 1, none⟩ = some (.int .i64 l[k].2) := by
  obtain ⟨a0, a1⟩ := tks_at l k hk
  obtain ⟨p, rfl, hpb, hp0⟩ := h.at_ a0
  obtain ⟨p', hp', _, hp1⟩ := h.at_ a1
  cases hp'
  exact ⟨p, rfl, hpb, by rw [Nat.mul_comm]; exact hp0, by rw [pair1]; exact hp1⟩
/-- A row that is owned lies. -/
theorem own_lies {w : World} {base n c : Nat} {A : Option Addr} {T : TypeId} {l : List Tm} (h : w.ownsRow base T 2 (.slice A n c) n (tks l)) : Lies w w.heap.size A (tks l) := fun hp => by
  rcases h.2 with ⟨e, h0⟩ | ⟨g, cap, cur, e1, hg, hh, _⟩
  · have := h.1
    omega
  · obtain rfl : A = some ⟨g, 0, none⟩ := by injection e1
    exact ⟨⟨g, 0, none⟩, rfl, (h.lt g rfl).2, fun j u hu => h.cells (g := g) rfl j u hu⟩
theorem own_len {w : World} {base n c : Nat} {A : Option Addr} {T : TypeId} {l : List Tm} (h : w.ownsRow base T 2 (.slice A n c) n (tks l)) : n = l.length := by
  have h1 := h.1
  rw [tks_len] at h1
  omega
end Tk

set_option maxRecDepth 20000 in
set_option maxHeartbeats 1000000 in
theorem tsame (l m : List Tk.Tm) (A B : Option Addr) (ca cb : Nat) (w : World) (ha : Lies w w.heap.size A (Tk.tks l)) (hb : Lies w w.heap.size B (Tk.tks m)) (hl : l.length ≤ maxLen) (hm : m.length ≤ maxLen) :
    Calls Try.prog 18 #[.slice A l.length ca, .slice B m.length cb] w fun e w' => e = .returned (.bool (decide (l = m))) ∧ Below w.heap.size w w' := by
  unfold maxLen at hl hm
  have HA := Lib.hid ha
  have HB := Lib.hid hb
  clear ha hb
  by_cases hlm : l.length = m.length
  · have hz : ((l.length : Int) != (m.length : Int)) = false := by simp [hlm]
    have HLM := Lib.hid hlm
    clear hlm
    go_enter Try.func18, Try.ntmps18
    go_wp2_with fail
    go_loopw [5] (fun i wr => ∃ k : Nat, k ≤ l.length ∧ i = .int .i64 k ∧ Hid (l.take k = m.take k) ∧ Below w.heap.size w wr) (fun i _ => l.length - (intOf i).toNat)
    case atStart => exact ⟨0, Nat.zero_le _, rfl, by show _ = _; simp, Below.refl _ _⟩
    case round =>
      obtain ⟨k, hk, rfl, HE, hbel⟩ := hrel
      by_cases hlt : k < l.length
      · have hlt2 : k < m.length := by have := HLM.out; omega
        obtain ⟨p, rfl, hpb, hp0, hp1⟩ := Tk.at2 (HA.out.below hbel) hlt
        obtain ⟨q, rfl, hqb, hq0, hq1⟩ := Tk.at2 (HB.out.below hbel) hlt2
        have k0 : (0 : Int) ≤ (k : Int) := by omega
        have k1 : (k : Int) < l.length := by omega
        have k2 : (k : Int) < m.length := by omega
        have HS : Hid (l[k] = m[k] → l.take (k + 1) = m.take (k + 1)) := fun e => by
          rw [List.take_succ_eq_append_getElem hlt, List.take_succ_eq_append_getElem hlt2, HE.out, e]
        have HD : Hid (l[k] ≠ m[k] → decide (l = m) = false) := fun hne => by
          rw [decide_eq_false_iff_not]
          intro e
          subst e
          exact hne rfl
        generalize l[k] = x at hp0 hp1 HS HD
        generalize m[k] = y at hq0 hq1 HS HD
        obtain ⟨x1, x2⟩ := x
        obtain ⟨y1, y2⟩ := y
        simp only [] at hp0 hp1 hq0 hq1
        by_cases e : x1 = y1
        · subst e
          by_cases e' : x2 = y2
          · subst e'
            have HS2 := Lib.hid (HS.out rfl)
            clear HD
            go_wp2_with fail
            go_region
            go_wp2_with fail
            go_roundw
            case rel => exact ⟨k + 1, by omega, by go_num, HS2.out, hbel.drew⟩
            case measure => simp [intOf]; omega
          · have e2 : (x2 == y2) = false := by rw [beq_eq_false_iff_ne]; exact e'
            have HD2 := Lib.hid (HD.out (fun h => e' (Prod.mk.inj h).2))
            clear HS HD e'
            go_wp2_with fail
            go_region
            go_wp2_with fail
            go_ret
            exact ⟨by rw [HD2.out]; rfl, hbel.drew⟩
        · have e2 : (x1.toList == y1.toList) = false := by
            rw [beq_eq_false_iff_ne]
            intro h
            rw [Lib.toList_data, Lib.toList_data] at h
            exact e (ByteArray.ext (Array.ext' h))
          have HD2 := Lib.hid (HD.out (fun h => e (Prod.mk.inj h).1))
          clear HS HD
          go_wp2_with fail
          go_region
          go_wp2_with fail
          go_ret
          exact ⟨by rw [HD2.out]; rfl, hbel.drew⟩
      · have HD : Hid (decide (l = m) = true) := by
          show _ = _
          rw [decide_eq_true_iff]
          have h1 := HE.out
          have h2 := HLM.out
          rw [List.take_of_length_le (by omega), List.take_of_length_le (by omega)] at h1
          exact h1
        go_wp2_with fail
        go_ret
        exact ⟨by rw [HD.out]; rfl, hbel⟩
  · have hz : ((l.length : Int) != (m.length : Int)) = true := by rw [bne_iff_ne]; omega
    have HD : Hid (decide (l = m) = false) := by
      show _ = _
      rw [decide_eq_false_iff_not]
      intro e
      rw [e] at hlm
      exact hlm rfl
    clear hlm
    go_enter Try.func18, Try.ntmps18
    go_wp2_with fail
    go_ret
    exact ⟨by rw [HD.out]; rfl, Below.refl _ _⟩
end Go.Proofs.Ytnojjfpccnmbeaa
