/-
  Contracts of sum.On's closure, sum.On, sum.Of, sum.Bytes, sum.Is.
-/
import Derived.Test.YtnalpmiinoohoaaSumT
namespace Go.Proofs.Ytnalpmiinoohoaa
open Go.RowKit

set_option maxRecDepth 20000 in
set_option maxHeartbeats 1000000 in
theorem behind_any (b r rb lb : Nat) (w : World) (hb : b < 256) (hr : r < 4294967296) (hc : w.cell? ⟨rb, 0, none⟩ = some (.int .u32 r)) (hf : w.frozen? ⟨rb, 0, none⟩ = false) (ht : Crc.Row 93 lb Crc.table w) :
    Calls Try.prog 51 #[.int .u8 b, .pointer (some ⟨rb, 0, none⟩), .pointer (some ⟨lb, 0, none⟩)] w
      fun e w' => e = .returned (.tuple #[]) ∧ w' = (w.setCell ⟨rb, 0, none⟩ (.int .u32 ((Crc.Rn 8 (r ^^^ b) : Nat) : Int))).drew := by
  have hx : bits .xor .u8 ((r : Int) % 256) (b : Int) = (((r % 256 ^^^ b : Nat)) : Int) := by
    have := u8_xor_nat (r % 256) b (by omega) hb
    rw [← this]; rfl
  have hlt : (r % 256 ^^^ b) < 256 := Nat.xor_lt_two_pow (n := 8) (by omega) hb
  have hcell : w.cell? ⟨lb, r % 256 ^^^ b, none⟩ = some (.int .u32 ((Crc.T (r % 256 ^^^ b) : Nat) : Int)) := by rw [ht.cell, Crc.table_get _ hlt]
  have hT := Crc.T_lt hlt
  have hy : bits .xor .u32 ((r : Int) / 256) ((Crc.T (r % 256 ^^^ b) : Nat) : Int) = ((Crc.Rn 8 (r ^^^ b) : Nat) : Int) := by
    rw [← Crc.byte_step r b, ← u32_xor_nat _ _ (by omega) hT]; rfl
  have HH := Lib.hid ht
  clear ht
  go_enter Try.func51, Try.ntmps51
  go_wp2
  go_region
  all_goals (go_end0; exact ⟨rfl, rfl⟩)

namespace Crc
theorem not_u32 (a : Nat) (h : a < 4294967296) : bits .xor .u32 IntKind.u32.max (a : Int) = ((a ^^^ M : Nat) : Int) := by
  rw [Nat.xor_comm]
  exact u32_xor_nat M a (by decide) h
theorem run_snoc (r : Nat) (s : ByteArray) (k : Nat) (h : k < s.size) : run r (s.data.toList.take (k + 1)) = Rn 8 (run r (s.data.toList.take k) ^^^ s[k].toNat) := by
  rw [List.take_succ_eq_append_getElem (by simpa using h), run_append]
  rfl
theorem run_all (r : Nat) (s : ByteArray) (k : Nat) (h : s.size ≤ k) : run r (s.data.toList.take k) = run r s.data.toList := by
  rw [List.take_of_length_le (by simpa using h)]
end Crc

set_option maxRecDepth 20000 in
set_option maxHeartbeats 2000000 in
theorem on_any (a : Nat) (s : ByteArray) (w : World) (ha : a < 4294967296) (hs : s.size ≤ maxLen) :
    Calls Try.prog 35 #[.int .u32 a, .string s] w fun e w' => e = .returned (.int .u32 (Crc.on a s.data.toList : Nat)) ∧ Below w.heap.size w w' := by
  unfold maxLen at hs
  have hz := Crc.zero
  have hne := Crc.zeros_ne
  have hmf : ∀ (fn : Fn) (first cap : Array Value) (w : World), (Instr.makeFunc fn first cap).run Try.prog w = .ok (.func fn first cap) w := fun _ _ _ _ => rfl
  have hnot := Crc.not_u32 a ha
  have hM := Crc.xorM_lt ha
  have HI : Hid ((Try.prog.info? 93).map (·.size) = some Crc.table.size) := by
    show _ = _
    rw [Crc.table_size]; exact Crc.info
  go_enter Try.func35, Try.ntmps35
  go_wp2_with fail
  refine (leftovers_any _).mono ?_
  rintro e w1 ⟨rfl, hb1⟩
  have HZ : Hid (∀ w : World, (w.alloc (.cells Crc.zeros 93)).heap[w.heap.size]? = some (.cells Crc.zeros 93 (0, 0))) := fun w => heap_alloc_new w _
  go_wp2_with (
    refine wpList_store_row rfl 93 (.tmp 5) (.tmp 9) rfl w1.heap.size Crc.table rfl rfl 93 Crc.zeros (HZ.out w1) HI.out (by rw [Crc.zeros_size, Crc.table_size]) Crc.table_one ?_)
  clear hz hne hmf hnot
  have hsz : (w1.alloc (.cells Crc.zeros 93)).heap.size = w1.heap.size + 1 := by simp
  have hrow : Crc.Row 93 w1.heap.size Crc.table (((w1.alloc (.cells Crc.zeros 93)).setRow w1.heap.size Crc.table).alloc (.cells #[.int .u32 ((a ^^^ Crc.M : Nat) : Int)] 48)) :=
    ⟨Crc.table_size, by rw [Below.heap_alloc _ _ w1.heap.size (by simp)]; exact setRow_heap _ _ _ _ _ _ (HZ.out w1)⟩
  have hcell : (((w1.alloc (.cells Crc.zeros 93)).setRow w1.heap.size Crc.table).alloc (.cells #[.int .u32 ((a ^^^ Crc.M : Nat) : Int)] 48)).cell? ⟨w1.heap.size + 1, 0, none⟩ = some (.int .u32 ((a ^^^ Crc.M : Nat) : Int)) := by
    rw [World.cell?_alloc_at _ _ _ _ (by simp)]; rfl
  have hfro : (((w1.alloc (.cells Crc.zeros 93)).setRow w1.heap.size Crc.table).alloc (.cells #[.int .u32 ((a ^^^ Crc.M : Nat) : Int)] 48)).frozen? ⟨w1.heap.size + 1, 0, none⟩ = false := by
    rw [World.frozen?_alloc_at _ _ _ _ (by simp)]
  have hbel : Below w.heap.size w (((w1.alloc (.cells Crc.zeros 93)).setRow w1.heap.size Crc.table).alloc (.cells #[.int .u32 ((a ^^^ Crc.M : Nat) : Int)] 48)) :=
    (Crc.below_row (hb1.alloc hb1.size _) _ _ hb1.size).alloc (by have := hb1.size; simp; omega) _
  have hsize := hb1.size
  clear HZ hb1 HI
  revert hrow hcell hfro hbel
  generalize ((w1.alloc (.cells Crc.zeros 93)).setRow w1.heap.size Crc.table).alloc (.cells #[.int .u32 ((a ^^^ Crc.M : Nat) : Int)] 48) = w2
  intro hrow hcell hfro hbel
  go_loopw [15] (fun i wr => ∃ k : Nat, k ≤ s.size ∧ i = .int .i64 k ∧ Crc.Row 93 w1.heap.size Crc.table wr ∧ wr.cell? ⟨w1.heap.size + 1, 0, none⟩ = some (.int .u32 ((Crc.run (a ^^^ Crc.M) (s.data.toList.take k) : Nat) : Int)) ∧ wr.frozen? ⟨w1.heap.size + 1, 0, none⟩ = false ∧ Below w.heap.size w wr)
    (fun i _ => s.size - (intOf i).toNat)
  case atStart => exact ⟨0, Nat.zero_le _, rfl, hrow, hcell, hfro, hbel⟩
  case round =>
    clear hrow hcell hfro hbel
    obtain ⟨k, hk, rfl, hrow, hcell, hfro, hbel⟩ := hrel
    by_cases hlt : k < s.size
    · have HS := Lib.hid (Crc.run_snoc (a ^^^ Crc.M) s k hlt)
      have hbyte := s[k].toNat_lt
      have hrl := Crc.run_lt (s.data.toList.take k) hM
      have HR := Lib.hid hrow
      have HC := Lib.hid hcell
      have HF := Lib.hid hfro
      clear hrow hcell hfro
      go_wp2_with (go_at_call 51; refine (behind_any s[k].toNat _ _ _ _ (by omega) hrl HC.out HF.out HR.out).mono ?_; rintro e w' ⟨rfl, rfl⟩)
      go_roundw
      case rel =>
        refine ⟨k + 1, by omega, by go_num, ⟨Crc.table_size, ?_⟩, ?_, ?_, (hbel.setCell (by simp; omega) _).drew⟩
        · rw [heap_drew, heap_setCell_other _ _ _ _ (by simp)]
          exact HR.out.2
        · rw [HS.out, World.cell?_drew, World.cell?_setCell_same _ _ _ HC.out]
        · rw [World.frozen?_drew, World.frozen?_setCell]
          exact HF.out
      case measure => simp [intOf]; omega
    · have HA := Lib.hid (Crc.run_all (a ^^^ Crc.M) s k (by omega))
      have hrl := Crc.run_lt s.data.toList hM
      have hn := Lib.hid (Crc.not_u32 _ hrl)
      rw [HA.out] at hcell
      clear hrow
      go_wp2
      go_ret
      exact ⟨Crc.retI hn.out, hbel⟩

set_option maxHeartbeats 400000 in
theorem of_any (s : ByteArray) (w : World) (hs : s.size ≤ maxLen) :
    Calls Try.prog 21 #[.string s] w fun e w' => e = .returned (.int .u32 (Crc.on 0 s.data.toList : Nat)) ∧ Below w.heap.size w w' := by
  go_enter Try.func21, Try.ntmps21
  go_wp2_with fail
  refine (on_any 0 s _ (by omega) hs).mono ?_
  rintro e w1 ⟨rfl, hb1⟩
  go_wp2_with fail
  go_ret
  exact ⟨rfl, hb1⟩
end Go.Proofs.Ytnalpmiinoohoaa
