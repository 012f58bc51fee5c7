/-
  Contracts of the document's turn, powers, left.
-/
import Derived.Test.YtnalpmiinoohoaaSumB
import Derived.Test.YtnalpmiinoohoaaSumRefM
namespace Go.Proofs.Ytnalpmiinoohoaa
open Go.RowKit

namespace Crc
/-- The bits l from place o of block B on. -/
def Bits (B o : Nat) (l : List Bool) (w : World) : Prop := ∀ i (h : i < l.length), w.cell? ⟨B, o + i, none⟩ = some (.bool l[i]) ∧ w.frozen? ⟨B, o + i, none⟩ = false

theorem Bits.set {B o : Nat} {l : List Bool} {w : World} (h : Bits B o l w) (q : Nat) (hq : q < l.length) (v : Bool) : Bits B o (l.set q v) (w.setCell ⟨B, o + q, none⟩ (.bool v)) := by
  intro i hi
  have hi' : i < l.length := by simpa using hi
  refine ⟨?_, by rw [World.frozen?_setCell]; exact (h i hi').2⟩
  by_cases e : i = q
  · subst e
    rw [World.cell?_setCell_same _ _ _ (h i hi').1, List.getElem_set_self]
  · rw [World.cell?_setCell_other _ _ _ _ (by intro hh; injection hh with _ h2 _; omega), List.getElem_set_ne (fun h => e h.symm)]
    exact (h i hi').1
theorem Bits.drop {B o : Nat} {l : List Bool} {w : World} (h : Bits B o l w) (k : Nat) : Bits B (o + k) (l.drop k) w := by
  intro i hi
  have hi' : k + i < l.length := by rw [List.length_drop] at hi; omega
  have := h (k + i) hi'
  rw [← Nat.add_assoc] at this
  rw [List.getElem_drop]
  exact this
end Crc

set_option maxRecDepth 20000 in
set_option maxHeartbeats 1000000 in
theorem turn_any (B o n cap base : Nat) (l : List Bool) (w : World) (hB : base ≤ B) (hn : l.length = n) (h32 : 32 ≤ n) (hbit : Crc.Bits B o l w) :
    Calls Try.prog 38 #[.slice (some ⟨B, o, none⟩) n cap] w
      fun e w' => e = .returned (.tuple #[]) ∧ (∃ l', l'.length = n ∧ Crc.val l' = Crc.val l ^^^ Crc.M ∧ Crc.Bits B o l' w') ∧ Below base w w' := by
  have HN := Lib.hid hn
  clear hn
  go_enter Try.func38, Try.ntmps38
  go_wp2
  go_loopw [2] (fun a wr => ∃ (i : Nat) (l' : List Bool), i ≤ 32 ∧ a = .int .i64 i ∧ l'.length = n ∧ Crc.val l' = Crc.val l ^^^ Crc.M % 2 ^ i ∧ Crc.Bits B o l' wr ∧ Below base w wr) (fun a _ => 32 - (intOf a).toNat)
  case atStart => exact ⟨0, l, by omega, rfl, HN.out, by simp [Nat.mod_one], hbit, Below.refl _ _⟩
  case round =>
    clear hbit
    obtain ⟨i, l', hi, rfl, hl, hv, hb, hbel⟩ := hrel
    have HL := Lib.hid hl
    have HV := Lib.hid hv
    have HB := Lib.hid hb
    clear hl hv hb
    by_cases hlt : i < 32
    · have hq : i < l'.length := by rw [HL.out]; omega
      have hin : i < n := by omega
      obtain ⟨hc, hf⟩ := HB.out i hq
      go_wp2
      go_roundw
      case rel =>
        refine ⟨i + 1, l'.set i (!l'[i]), by omega, by go_num, by rw [List.length_set]; exact HL.out, ?_, HB.out.set i hq _, hbel.setCell hB _⟩
        rw [Crc.val_set l' i hq, HV.out, Crc.mod_succ_bit _ _ (Crc.M_bit i hlt), Nat.xor_assoc]
      case measure => simp [intOf]; omega
    · have e : i = 32 := by omega
      have HE := Lib.hid e
      clear e
      go_wp2
      go_end0
      refine ⟨rfl, ⟨l', HL.out, ?_, HB.out⟩, hbel⟩
      have := HV.out
      rw [HE.out, Crc.M_mod] at this
      exact this

/-- The row of powers, in a block. -/
def Crc.Pows (B : Nat) (w : World) : Prop := ∀ j, j < 17 → w.cell? ⟨B, j, none⟩ = some (.int .i64 ((Crc.powers.getD j 0 : Nat) : Int))

set_option maxHeartbeats 400000 in
theorem powers_any (w : World) :
    Calls Try.prog 52 #[] w
      fun e w' => e = .returned (.slice (some ⟨w.heap.size, 0, none⟩) 17 17) ∧ Crc.Pows w.heap.size w' ∧ w.heap.size < w'.heap.size ∧ Below w.heap.size w w' := by
  go_enter Try.func52, Try.ntmps52
  go_wp2
  go_ret
  refine ⟨rfl, ?_, by simp, (Below.refl _ _).alloc (Nat.le_refl _) _⟩
  intro j hj
  rw [World.cell?_alloc_at _ _ _ _ rfl]
  have : j = 0 ∨ j = 1 ∨ j = 2 ∨ j = 3 ∨ j = 4 ∨ j = 5 ∨ j = 6 ∨ j = 7 ∨ j = 8 ∨ j = 9 ∨ j = 10 ∨ j = 11 ∨ j = 12 ∨ j = 13 ∨ j = 14 ∨ j = 15 ∨ j = 16 := by omega
  rcases this with rfl | rfl | rfl | rfl | rfl | rfl | rfl | rfl | rfl | rfl | rfl | rfl | rfl | rfl | rfl | rfl | rfl <;> rfl

theorem Crc.Bits.below {B o base : Nat} {l : List Bool} {w w' : World} (h : Crc.Bits B o l w) (hb : Below base w w') (hB : B < base) : Crc.Bits B o l w' := by
  intro i hi
  rw [hb.cell (p := ⟨B, o + i, none⟩) hB, hb.frozen (p := ⟨B, o + i, none⟩) hB]
  exact h i hi

set_option maxRecDepth 20000 in
set_option maxHeartbeats 4000000 in
theorem left_any (B n cap base : Nat) (l : List Bool) (w : World) (hB : base ≤ B) (hbase : base ≤ w.heap.size) (hBw : B < w.heap.size) (hn : l.length = n) (h32 : 32 ≤ n) (hlim : n ≤ 16777216) (hcap : n ≤ cap) (hbit : Crc.Bits B 0 l w) :
    Calls Try.prog 39 #[.slice (some ⟨B, 0, none⟩) n cap] w
      fun e w' => e = .returned (.int .u32 (Crc.Rn (n - 32) (Crc.val l) ^^^ Crc.M : Nat)) ∧ Below base w w' := by
  have HN := Lib.hid hn
  clear hn
  go_enter Try.func39, Try.ntmps39
  go_wp2_with fail
  refine (powers_any _).mono ?_
  rintro e w1 ⟨rfl, hpw, hw1, hb1⟩
  have hbit1 := hbit.below hb1 hBw
  have hbb := hb1.mono hbase
  clear hbit hb1
  go_wp2_with fail
  go_loopw [4] (fun a wr => ∃ (i : Nat) (l' : List Bool), i + 32 ≤ n ∧ a = .int .i64 i ∧ l'.length = n ∧ Crc.val (l'.drop i) = Crc.Rn i (Crc.val l) ∧ Crc.Bits B 0 l' wr ∧ Crc.Pows w.heap.size wr ∧ Below base w wr) (fun a _ => n - (intOf a).toNat)
  case atStart => exact ⟨0, l, by omega, rfl, HN.out, rfl, hbit1, hpw, hbb⟩
  case round =>
    clear hbit1 hpw hbb
    obtain ⟨i, l', hi, rfl, hl, hv, hb, hpw, hbel⟩ := hrel
    have HL := Lib.hid hl
    have HV := Lib.hid hv
    have HB := Lib.hid hb
    have HP := Lib.hid hpw
    clear hl hv hb hpw
    by_cases hlt : i + 32 < n
    · have hq : i < l'.length := by rw [HL.out]; omega
      have hin : i < n := by omega
      obtain ⟨hc, hf⟩ := HB.out i hq
      rw [Nat.zero_add] at hc hf
      cases hbv : l'[i] with
      | false =>
        rw [hbv] at hc
        have HE := Lib.hid (Crc.step_none l' i hq hbv)
        clear hbv
        go_wp2_with fail
        go_roundw
        case rel =>
          refine ⟨i + 1, l', by omega, by go_num, HL.out, ?_, HB.out, HP.out, hbel⟩
          rw [HE.out, HV.out]
          exact (Crc.Rn_R i _).symm
        case measure => simp [intOf]; omega
      | true =>
        rw [hbv] at hc
        have HE := Lib.hid (Crc.step_some l' i hq hbv)
        clear hbv
        go_wp2_with fail
        clear hc hf
        obtain ⟨wo, rfl⟩ : ∃ wo : World, wo = wr := ⟨_, rfl⟩
        go_loopw [5] (fun a wr => ∃ (k : Nat) (L : List Bool), k ≤ 17 ∧ a = .int .i64 k ∧ L.length = n ∧ Crc.val (L.drop (i + 1)) = Crc.val (l'.drop (i + 1)) ^^^ Crc.Dk k ∧ Crc.Bits B 0 L wr ∧ Crc.Pows w.heap.size wr ∧ Below base w wr) (fun a _ => 17 - (intOf a).toNat)
        case atStart => exact ⟨0, l', by omega, rfl, HL.out, by rw [show Crc.Dk 0 = 0 from rfl, Nat.xor_zero], HB.out, HP.out, hbel⟩
        case round =>
          clear HB HP hbel
          obtain ⟨k, L, hk, rfl, hl, hv, hb, hpw, hbel⟩ := hrel
          have HL2 := Lib.hid hl
          have HV2 := Lib.hid hv
          have HB := Lib.hid hb
          have HP := Lib.hid hpw
          clear hl hv hb hpw
          by_cases hk17 : k < 17
          · have hD := Crc.Dk_succ ⟨k, hk17⟩
            have hp28 := Crc.powers_le ⟨k, hk17⟩
            have hpc := HP.out k hk17
            simp only at hD hp28
            generalize Crc.powers.getD k 0 = p at hD hp28 hpc
            have HD := Lib.hid hD
            clear hD
            obtain ⟨q, hq2, hqs⟩ : ∃ q : Nat, (i : Int) + 32 - (p : Int) = (q : Int) ∧ q - (i + 1) = 31 - p := ⟨i + 32 - p, by omega, by omega⟩
            have HQ := Lib.hid hqs
            have hqi : i + 1 ≤ q := by omega
            have hqn : q < n := by omega
            have hqL : q < L.length := by rw [HL2.out]; exact hqn
            obtain ⟨hc, hf⟩ := HB.out q hqL
            rw [Nat.zero_add] at hc hf
            have hset := HB.out.set q hqL (!L[q])
            rw [Nat.zero_add] at hset
            have HS := Lib.hid hset
            have HPs : Hid (Crc.Pows w.heap.size (wr.setCell ⟨B, q, none⟩ (.bool !L[q]))) := fun j hj => by
              rw [World.cell?_setCell_other _ _ _ _ (by intro hh; injection hh with h1 _ _; omega)]
              exact HP.out j hj
            clear hqs hset
            go_wp2_with fail
            go_roundw
            case rel =>
              refine ⟨k + 1, L.set q (!L[q]), by omega, by go_num, by rw [List.length_set]; exact HL2.out, ?_, HS.out, HPs.out, hbel.setCell hB _⟩
              rw [Crc.val_drop_set L (i + 1) q hqL hqi, HV2.out, HQ.out, HD.out, Nat.xor_assoc]
            case measure => simp [intOf]; omega
          · have hke : k = 17 := by omega
            have HK := Lib.hid hke
            clear hke
            have hk17' : ¬ (k : Int) < 17 := by omega
            go_wp2_with fail
            go_roundw
            case rel =>
              refine ⟨i + 1, L, by omega, by go_num, HL2.out, ?_, HB.out, HP.out, hbel⟩
              rw [HV2.out, HK.out, Crc.Dk_all, HE.out, HV.out]
              exact (Crc.Rn_R i _).symm
            case measure => simp [intOf]; omega
    · have hdl : (l'.drop (n - 32)).length = n - (n - 32) := by rw [List.length_drop, HL.out]
      have hbd := HB.out.drop (n - 32)
      rw [Nat.zero_add] at hbd
      have HBD := Lib.hid hbd
      have HDL := Lib.hid hdl
      have HVV : Hid (Crc.val (l'.drop (n - 32)) = Crc.Rn (n - 32) (Crc.val l)) := by
        show _ = _
        have e : i = n - 32 := by omega
        rw [← e]; exact HV.out
      clear hbd hdl
      have h32' : 32 ≤ n - (n - 32) := by omega
      have hlen : n - (n - 32) = 32 := by omega
      have HLEN := Lib.hid hlen
      clear hlen
      go_wp2_with fail
      refine (turn_any B (n - 32) _ _ base _ _ hB HDL.out h32' HBD.out).mono ?_
      rintro e w2 ⟨rfl, ⟨l2, hl2, hv2, hbit2⟩, hbel2⟩
      have HL2 := Lib.hid hl2
      have HV2 := Lib.hid hv2
      have HB2 := Lib.hid hbit2
      clear hl2 hv2 hbit2
      have hbelA := hbel.trans hbel2
      go_wp2_with fail
      go_loop [8, 9] (fun x a => ∃ j : Nat, j ≤ 32 ∧ a = .int .i64 ((j : Int) - 1) ∧ x = .int .u32 ((Crc.val (l2.drop j) : Nat) : Int)) (fun _ a => (intOf a + 1).toNat)
      case atStart => exact ⟨32, by omega, rfl, by rw [List.drop_eq_nil_of_le (by rw [HL2.out, HLEN.out]; omega)]; rfl⟩
      case round =>
        obtain ⟨j, hj, rfl, rfl⟩ := hrel
        cases j with
        | zero =>
          rw [show (((0 : Nat) : Int) - 1) = -1 from rfl]
          go_wp2_with fail
          go_ret
          refine ⟨Crc.retI ?_, hbelA⟩
          rw [HV2.out, HVV.out]
        | succ j =>
          have hjl : j < l2.length := by rw [HL2.out, HLEN.out]; omega
          have hvl := Crc.val_lt (l2.drop (j + 1))
          have hvd := Crc.val_drop l2 j hjl
          have hbd : Crc.val (l2.drop (j + 1)) < 2147483648 := by
            refine Nat.lt_of_lt_of_le hvl ?_
            rw [List.length_drop, HL2.out, HLEN.out]
            exact Nat.pow_le_pow_right (by omega) (show 32 - (j + 1) ≤ 31 by omega)
          have hidx : (((j + 1 : Nat) : Int) - 1) = (j : Int) := by omega
          rw [hidx]
          obtain ⟨hc, _⟩ := HB2.out j hjl
          generalize Crc.val (l2.drop (j + 1)) = v at hvd hbd
          have HVD := Lib.hid hvd
          clear hvl hvd hidx
          cases hbv : l2[j] with
          | false =>
            rw [hbv] at hc HVD
            clear hbv
            go_wp2_with fail
            go_round
            case rel => exact ⟨j, by omega, by go_num, by rw [HVD.out, Bool.toNat_false, Nat.zero_add]; simp⟩
            case measure => simp [intOf]
          | true =>
            rw [hbv] at hc HVD
            clear hbv
            go_wp2_with fail
            go_round
            case rel => exact ⟨j, by omega, by go_num, by rw [HVD.out, Bool.toNat_true]; simp; omega⟩
            case measure => simp [intOf]
end Go.Proofs.Ytnalpmiinoohoaa
