/-
  Contracts of layer 4's same and turned.
-/
import Derived.Test.YtnalpmiinoohoaaFrameS
import Derived.Deep.DeepCutAuto
import Derived.Lib.ConvBytes
import Derived.BigQuiet
import Derived.WalkSmall
namespace Go.Proofs.Ytnalpmiinoohoaa
open Go.RowKit

namespace Frame
theorem pair1 (A : Addr) (k : Nat) : (⟨(A.add (k * 2)).block, (A.add (k * 2)).off + 1, none⟩ : Addr) = A.add (2 * k + 1) := by
  unfold Addr.add
  by_cases h : k = 0
  · subst h; simp
  · rw [if_neg (by omega), if_neg (by omega)]
    simp
    omega
end Frame

set_option maxRecDepth 20000 in
set_option maxHeartbeats 1000000 in
/-- Rows that are alike. -/
theorem same_yes (l : List (UInt8 × List UInt8)) (A B : Option Addr) (ca cb : Nat) (w : World) (ha : Lies w w.heap.size A (Frame.fcells l)) (hb : Lies w w.heap.size B (Frame.fcells l)) (hl : l.length ≤ maxLen) :
    Calls Try.prog 16 #[.slice A l.length ca, .slice B l.length cb] w fun e w' => e = .returned (.bool true) ∧ Below w.heap.size w w' := by
  unfold maxLen at hl
  have HA := Lib.hid ha
  have HB := Lib.hid hb
  clear ha hb
  go_enter Try.func16, Try.ntmps16
  go_wp2_with fail
  go_loopw [5] (fun i wr => ∃ k : Nat, k ≤ l.length ∧ i = .int .i64 k ∧ Below w.heap.size w wr) (fun i _ => l.length - (intOf i).toNat)
  case atStart => exact ⟨0, Nat.zero_le _, rfl, Below.refl _ _⟩
  case round =>
    obtain ⟨k, hk, rfl, hbel⟩ := hrel
    by_cases hlt : k < l.length
    · obtain ⟨a0, a1⟩ := Frame.fcells_at l k hlt
      obtain ⟨p, rfl, hpb, hp0⟩ := (HA.out.below hbel).at_ a0
      obtain ⟨p', hp', _, hp1⟩ := (HA.out.below hbel).at_ a1
      cases hp'
      obtain ⟨q, rfl, hqb, hq0⟩ := (HB.out.below hbel).at_ a0
      obtain ⟨q', hq', _, hq1⟩ := (HB.out.below hbel).at_ a1
      cases hq'
      have hp0' : wr.cell? (p.add (k * 2)) = some (.int .u8 (l[k].1.toNat : Int)) := by rw [Nat.mul_comm]; exact hp0
      have hq0' : wr.cell? (q.add (k * 2)) = some (.int .u8 (l[k].1.toNat : Int)) := by rw [Nat.mul_comm]; exact hq0
      have hp1' : wr.cell? ⟨(p.add (k * 2)).block, (p.add (k * 2)).off + 1, none⟩ = some (.string ⟨l[k].2.toArray⟩) := by
        rw [Frame.pair1]; exact hp1
      have hq1' : wr.cell? ⟨(q.add (k * 2)).block, (q.add (k * 2)).off + 1, none⟩ = some (.string ⟨l[k].2.toArray⟩) := by
        rw [Frame.pair1]; exact hq1
      have k0 : (0 : Int) ≤ (k : Int) := by omega
      have k1 : (k : Int) < l.length := by omega
      clear hp0 hq0 hp1 hq1 a0 a1
      go_wp2_with fail
      go_region
      go_wp2_with fail
      go_roundw
      case rel => exact ⟨k + 1, by omega, by go_num, hbel.drew⟩
      case measure => simp [intOf]; omega
    · go_wp2_with fail
      go_ret
      exact ⟨rfl, hbel⟩

namespace Turn
/-- The bytes of l at the head of block B. -/
def Held (B : Nat) (l : List UInt8) (w : World) : Prop := ∀ i (h : i < l.length), w.cell? ⟨B, i, none⟩ = some (.int .u8 (l[i].toNat : Int)) ∧ w.frozen? ⟨B, i, none⟩ = false

theorem Held.set {B : Nat} {l : List UInt8} {w : World} (h : Held B l w) (q : Nat) (hq : q < l.length) (x : UInt8) (v : Int) (hv : v = (x.toNat : Int)) : Held B (l.set q x) (w.setCell ⟨B, q, none⟩ (.int .u8 v)) := by
  intro i hi
  have hi' : i < l.length := by simpa using hi
  refine ⟨?_, by rw [World.frozen?_setCell]; exact (h i hi').2⟩
  by_cases e : i = q
  · subst e
    rw [World.cell?_setCell_same _ _ _ (h i hi').1, hv, List.getElem_set_self]
  · rw [World.cell?_setCell_other _ _ _ _ (by intro hh; injection hh with _ h2 _; exact e h2.symm), List.getElem_set_ne (fun h => e h.symm)]
    exact (h i hi').1

theorem Held.start (w : World) (t : TypeId) (s : ByteArray) : Held w.heap.size s.data.toList (Lib.bytesWorld w t s) := by
  intro i hi
  have hi' : i < s.size := by simpa using hi
  refine ⟨?_, ?_⟩
  · rw [Lib.bytesWorld_cell w t s i hi']
    simp [List.getD, hi']
  · have : i < (Lib.bytesCells w t s).size := by simp [Lib.bytesCells]; omega
    simp [World.frozen?, Lib.bytesWorld_at_new]
    omega

theorem Held.conv {B : Nat} {l : List UInt8} {w : World} (h : Held B l w) (n cap : Nat) (hn : l.length = n) :
    (convert 44 9 (.slice (some ⟨B, 0, none⟩) n cap)).run Try.prog w = .ok (.string ⟨l.toArray⟩) w := by
  subst hn
  exact run_convert_bytes_back w 44 9 5 ⟨B, 0, none⟩ cap l Try.underlying44 Try.underlying5 Try.underlying9 (fun j hj => by
    have : (⟨B, 0, none⟩ : Addr).add j = ⟨B, j, none⟩ := by unfold Addr.add; split <;> simp_all
    rw [this]; exact (h j hj).1)

theorem below_bytes (w : World) (t : TypeId) (s : ByteArray) : Below w.heap.size w (Lib.bytesWorld w t s) :=
  ⟨rfl, rfl, rfl, by rw [Lib.bytesWorld_size]; omega, fun j hj => Lib.bytesWorld_at_old w t s j hj⟩

theorem mod_hit (b i : Nat) (h : b / 2 ^ i % 2 = 1) : b % 2 ^ (i + 1) ≠ 0 := by
  have e : b % 2 ^ (i + 1) = 2 ^ i + b % 2 ^ i := by
    rw [Nat.pow_succ, Nat.mod_mul, h]; omega
  have := Nat.two_pow_pos i
  omega

theorem bit_and (b i : Nat) (h : b < 4294967296) : bits BinOp.and IntKind.u32 ((b : Int) / 2 ^ i) 1 = ((b / 2 ^ i % 2 : Nat) : Int) := by
  have e : (b : Int) / 2 ^ i = ((b / 2 ^ i : Nat) : Int) := by simp
  have hl : b / 2 ^ i < 4294967296 := Nat.lt_of_le_of_lt (Nat.div_le_self _ _) h
  rw [e]
  generalize b / 2 ^ i = q at hl
  have := bits_mask .u32 32 (by decide) wraps_u32 1 (by omega) (q : Int) (by omega) (by omega)
  simpa using this

theorem bit_xor (v : UInt8) (r : Nat) (h : r < 8) : bits BinOp.xor IntKind.u8 (v.toNat : Int) (2 ^ r % 256) = ((v ^^^ UInt8.ofNat (2 ^ r)).toNat : Int) := by
  have hr : (2 : Nat) ^ r < 256 := Nat.lt_of_lt_of_le (Nat.pow_lt_pow_right (by omega) h) (by decide)
  have e : (2 : Int) ^ r % 256 = ((2 ^ r : Nat) : Int) := by
    have : (2 : Int) ^ r = ((2 ^ r : Nat) : Int) := by simp
    rw [this]
    generalize (2 : Nat) ^ r = p at hr
    omega
  rw [e, u8_xor_nat _ _ v.toNat_lt hr, UInt8.toNat_xor, UInt8.toNat_ofNat_of_lt' hr]

theorem bit_val (r : Nat) (h : r < 8) : (UInt8.ofNat (2 ^ r)).toNat = 2 ^ r := by
  have hr : (2 : Nat) ^ r < 256 := Nat.lt_of_lt_of_le (Nat.pow_lt_pow_right (by omega) h) (by decide)
  rw [UInt8.toNat_ofNat_of_lt' hr]
end Turn
end Go.Proofs.Ytnalpmiinoohoaa
