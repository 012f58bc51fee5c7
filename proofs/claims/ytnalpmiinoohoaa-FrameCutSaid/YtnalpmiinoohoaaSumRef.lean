/-
  Contracts of the document's bits, Of, On, Join, Bytes.
-/
import Derived.Test.YtnalpmiinoohoaaSumRefW
namespace Go.Proofs.Ytnalpmiinoohoaa
open Go.RowKit

theorem Crc.infoBool : (Try.prog.info? 4).map (fun i => (i.zero, i.size, i.bytes)) = some (some (.bool false), 1, 1) := by kernel_rfl

namespace Crc
theorem take_snoc (s : ByteArray) (i : Nat) (h : i < s.size) : s.data.toList.take (i + 1) = s.data.toList.take i ++ [s[i]] := by
  rw [List.take_succ_eq_append_getElem (by simpa using h)]; rfl
theorem text_step (s : ByteArray) (i : Nat) (h : i < s.size) : textBits (s.data.toList.take i) ++ bits8 s[i].toNat 8 = textBits (s.data.toList.take (i + 1)) := by
  rw [take_snoc s i h, textBits_snoc]
theorem byte_bit (b k : Nat) (hb : b < 256) : (bits BinOp.and IntKind.u8 ((b : Int) / 2 ^ k) 1 == 1) = bit b k := by
  have e : (b : Int) / 2 ^ k = ((b / 2 ^ k : Nat) : Int) := by simp
  have hl : b / 2 ^ k < 256 := Nat.lt_of_le_of_lt (Nat.div_le_self _ _) hb
  unfold bit
  rw [e]
  generalize b / 2 ^ k = q at hl
  have := bits_mask .u8 8 (by decide) wraps_u8 1 (by omega) (q : Int) (by omega) (by omega)
  have e2 : bits BinOp.and IntKind.u8 (q : Int) 1 = ((q % 2 : Nat) : Int) := by simpa using this
  rw [e2]
  rcases Nat.mod_two_eq_zero_or_one q with h | h <;> rw [h] <;> rfl
theorem bit_and (b i : Nat) (h : b < 4294967296) : bits BinOp.and IntKind.u32 ((b : Int) / 2 ^ i) 1 = ((b / 2 ^ i % 2 : Nat) : Int) := by
  have e : (b : Int) / 2 ^ i = ((b / 2 ^ i : Nat) : Int) := by simp
  have hl : b / 2 ^ i < 4294967296 := Nat.lt_of_le_of_lt (Nat.div_le_self _ _) h
  rw [e]
  generalize b / 2 ^ i = q at hl
  have := bits_mask .u32 32 (by decide) wraps_u32 1 (by omega) (q : Int) (by omega) (by omega)
  simpa using this

/-- Bits as values. -/
def vals (l : List Bool) : List Value := l.map .bool
theorem vals_snoc (l : List Bool) (b : Bool) : vals l ++ [.bool b] = vals (l ++ [b]) := by simp [vals]
theorem one_cell (w : World) (t : TypeId) (b : Bool) : ∀ j u, [Value.bool b][j]? = some u → (w.alloc (.cells #[.bool b] t)).cell? ((⟨w.heap.size, 0, none⟩ : Addr).add j) = some u := by
  intro j u h
  match j, h with
  | 0, h =>
    simp at h
    subst h
    rw [show (⟨w.heap.size, 0, none⟩ : Addr).add 0 = ⟨w.heap.size, 0, none⟩ by simp [Addr.add], World.cell?_alloc_at _ _ _ _ rfl]
    rfl
theorem one_one (b : Bool) : ∀ u ∈ [Value.bool b], u.oneCell' = true := by
  intro u hu
  simp at hu
  subst hu
  rfl
theorem text_bits (l : List UInt8) (b j : Nat) : textBits l ++ bits8 b j ++ [bit b j] = textBits l ++ bits8 b (j + 1) := by
  rw [List.append_assoc, ← bits8_succ]
end Crc

theorem Crc.Bits.ofOwn {B n cap base : Nat} {t : TypeId} {l : List Bool} {w : World} (h : w.ownsRow base t 1 (.slice (some ⟨B, 0, none⟩) n cap) n (Crc.vals l)) (hn : l.length = n) : Crc.Bits B 0 l w := by
  intro i hi
  rw [Nat.zero_add]
  refine ⟨?_, h.frozenAt i⟩
  rw [h.cellAt i (by omega)]
  simp [Crc.vals, hi]

set_option maxRecDepth 20000 in
set_option maxHeartbeats 2000000 in
theorem bits_any (s : ByteArray) (w : World) (hs : s.size ≤ 1048576) :
    Calls Try.prog 37 #[.string s] w
      fun e w' => e = .returned (.slice (some ⟨w.heap.size, 0, none⟩) (8 * s.size + 32) (8 * s.size + 32)) ∧ Crc.Bits w.heap.size 0 (Crc.whole s.data.toList) w' ∧ w.heap.size < w'.heap.size ∧ Below w.heap.size w w' := by
  obtain ⟨i0, hi, hz0, hz1, hz2⟩ := info_parts Crc.infoBool
  obtain ⟨N, hN, hNN⟩ : ∃ N : Nat, (8 : Int) * (s.size : Int) + 32 = (N : Int) ∧ N = 8 * s.size + 32 := ⟨8 * s.size + 32, by omega, rfl⟩
  have hNl : N ≤ 9000000 := by omega
  have HNN := Lib.hid hNN
  rw [← hNN]
  clear hNN
  go_enter Try.func37, Try.ntmps37
  go_wp2_with (at_make; refine wpList_make_own _ rfl _ _ 82 rfl w.heap.size 4 i0 (.bool false) 1 Try.underlying82 hi hz0 hz1 _ _ _ N rfl rfl rfl ?b2 ?b3 (Nat.le_refl _) ?_)
  case b2 => rw [hz2]; omega
  case b3 => unfold maxLen; omega
  intro w0 hown0 hgrow0
  clear hN
  have hb0 : Below w.heap.size w w0 := (Below.refl _ _).grown hgrow0 (Nat.le_refl _) (fun k h => by cases h)
  go_wp2
  go_loopw [3, 4] (fun out a wr => ∃ i : Nat, i ≤ s.size ∧ a = .int .i64 i ∧ out = .slice (some ⟨w.heap.size, 0, none⟩) (8 * i) N ∧
      wr.ownsRow w.heap.size 4 1 (.slice (some ⟨w.heap.size, 0, none⟩) (8 * i) N) (8 * i) (Crc.vals (Crc.textBits (s.data.toList.take i))) ∧ Below w.heap.size w wr ∧ w.heap.size < wr.heap.size)
    (fun _ a _ => s.size - (intOf a).toNat)
  case atStart => exact ⟨0, Nat.zero_le _, rfl, rfl, hown0, hb0, (hown0.lt _ rfl).2⟩
  case round =>
    clear hown0 hgrow0 hb0
    obtain ⟨i, hil, rfl, rfl, hown, hbel, hlt0⟩ := hrel
    by_cases hlt : i < s.size
    · go_wp2
      obtain ⟨wo, rfl⟩ : ∃ wo : World, wo = wr := ⟨_, rfl⟩
      have hbyte := s[i].toNat_lt
      have HT := Lib.hid (Crc.text_step s i hlt)
      go_loopw [3, 5] (fun out a wr => ∃ j : Nat, j ≤ 8 ∧ a = .int .i64 j ∧ out = .slice (some ⟨w.heap.size, 0, none⟩) (8 * i + j) N ∧
          wr.ownsRow w.heap.size 4 1 (.slice (some ⟨w.heap.size, 0, none⟩) (8 * i + j) N) (8 * i + j) (Crc.vals (Crc.textBits (s.data.toList.take i) ++ Crc.bits8 s[i].toNat j)) ∧ Below w.heap.size w wr ∧ w.heap.size < wr.heap.size)
        (fun _ a _ => 8 - (intOf a).toNat)
      case atStart => exact ⟨0, by omega, rfl, rfl, by rw [show Crc.bits8 s[i].toNat 0 = [] from rfl, List.append_nil, Nat.add_zero]; exact hown, hbel, hlt0⟩
      case round =>
        clear hown hbel hlt0
        obtain ⟨j, hjl, rfl, rfl, hown, hbel, hlt0⟩ := hrel
        by_cases hj8 : j < 8
        · have hroom : 8 * i + j + 1 ≤ N := by have := HNN.out; omega
          have hbit := Crc.byte_bit s[i].toNat j hbyte
          go_wp2_with (at_builtin; refine wpList_append_fits _ rfl (.tmp 22) (.tmp 31) 82 rfl w.heap.size 4 i0 1 Try.underlying82 hi hz1 w.heap.size (8 * i + j) N _ rfl (hown.alloc _) ⟨wr.heap.size, 0, none⟩ 1 1 [.bool (Crc.bit s[i].toNat j)] rfl rfl (Crc.one_cell _ _ _) (Crc.one_one _) hroom ?_; intro w1 hown1 hgrow1)
          go_roundw
          case rel =>
            refine ⟨j + 1, by omega, by go_num, rfl, ?_, (hbel.alloc (by omega) _).grown hgrow1 (by simp; omega) (fun k hk => by cases hk; exact Nat.le_refl _), (hown1.lt _ rfl).2⟩
            rw [Crc.vals_snoc, Crc.text_bits] at hown1
            exact hown1
          case measure => simp [intOf]; omega
        · have e8 : j = 8 := by omega
          have HE := Lib.hid e8
          clear e8
          have hj8' : ¬ (j : Int) < 8 := by omega
          go_wp2
          go_roundw
          case rel =>
            refine ⟨i + 1, by omega, by go_num, ?_, ?_, hbel, hlt0⟩
            · rw [HE.out]; rfl
            · have := hown
              rw [HE.out, HT.out] at this
              exact this
          case measure => simp [intOf]; omega
    · have hi8 : Crc.textBits (s.data.toList.take i) = Crc.textBits s.data.toList := by
        rw [List.take_of_length_le (by simp; omega)]
      have e8 : 8 * i = 8 * s.size := by omega
      rw [hi8] at hown
      have HE := Lib.hid e8
      clear hi8 e8
      go_wp2
      obtain ⟨wo, rfl⟩ : ∃ wo : World, wo = wr := ⟨_, rfl⟩
      go_loopw [3, 6] (fun out a wr => ∃ j : Nat, j ≤ 32 ∧ a = .int .i64 j ∧ out = .slice (some ⟨w.heap.size, 0, none⟩) (8 * i + j) N ∧
          wr.ownsRow w.heap.size 4 1 (.slice (some ⟨w.heap.size, 0, none⟩) (8 * i + j) N) (8 * i + j) (Crc.vals (Crc.textBits s.data.toList ++ List.replicate j false)) ∧ Below w.heap.size w wr ∧ w.heap.size < wr.heap.size)
        (fun _ a _ => 32 - (intOf a).toNat)
      case atStart => exact ⟨0, by omega, rfl, rfl, by rw [show List.replicate 0 false = [] from rfl, List.append_nil, Nat.add_zero]; exact hown, hbel, hlt0⟩
      case round =>
        clear hown hbel hlt0
        obtain ⟨j, hjl, rfl, rfl, hown, hbel, hlt0⟩ := hrel
        by_cases hj32 : j < 32
        · have hroom : 8 * i + j + 1 ≤ N := by have := HNN.out; have := HE.out; omega
          go_wp2_with (at_builtin; refine wpList_append_fits _ rfl (.tmp 37) (.tmp 38) 82 rfl w.heap.size 4 i0 1 Try.underlying82 hi hz1 w.heap.size (8 * i + j) N _ rfl (hown.alloc _) ⟨wr.heap.size, 0, none⟩ 1 1 [.bool false] rfl rfl (Crc.one_cell _ _ _) (Crc.one_one _) hroom ?_; intro w1 hown1 hgrow1)
          go_roundw
          case rel =>
            refine ⟨j + 1, by omega, by go_num, rfl, ?_, (hbel.alloc (by omega) _).grown hgrow1 (by simp; omega) (fun k hk => by cases hk; exact Nat.le_refl _), (hown1.lt _ rfl).2⟩
            rw [Crc.vals_snoc, List.append_assoc, show List.replicate j false ++ [false] = List.replicate (j + 1) false from List.replicate_succ'.symm] at hown1
            exact hown1
          case measure => simp [intOf]; omega
        · have e32 : j = 32 := by omega
          have HJ := Lib.hid e32
          clear e32
          have hj32' : ¬ (j : Int) < 32 := by omega
          go_wp2
          go_ret
          have eN : 8 * i + j = N := by have := HNN.out; have := HE.out; have := HJ.out; omega
          rw [HJ.out] at hown
          have eN' : 8 * i + 32 = N := by have := HNN.out; have := HE.out; omega
          refine ⟨by rw [← eN]; rfl, ?_, hlt0, hbel⟩
          exact Crc.Bits.ofOwn hown (by rw [Crc.whole_len]; simp; have := HE.out; omega)

set_option maxRecDepth 20000 in
set_option maxHeartbeats 1000000 in
theorem rof_any (s : ByteArray) (w : World) (hs : s.size ≤ 1048576) :
    Calls Try.prog 24 #[.string s] w fun e w' => e = .returned (.int .u32 (Crc.on 0 s.data.toList : Nat)) ∧ Below w.heap.size w w' := by
  have HL := Lib.hid (Crc.whole_len s.data.toList)
  have hv : Hid (Crc.on 0 s.data.toList = Crc.Rn (8 * s.size) (Crc.val (Crc.whole s.data.toList) ^^^ Crc.M) ^^^ Crc.M) := by
    show _ = _
    have := Crc.on_num 0 s.data.toList
    rw [Nat.zero_xor] at this
    rw [this, Crc.val_whole]
    simp
  go_enter Try.func24, Try.ntmps24
  go_wp2_with fail
  refine (bits_any s _ hs).mono ?_
  rintro e w1 ⟨rfl, hbit1, hw1, hb1⟩
  have HB1 := Lib.hid hbit1
  clear hbit1
  go_wp2_with fail
  refine (turn_any w.heap.size 0 _ _ w.heap.size _ _ (Nat.le_refl _) (by rw [HL.out]; simp) (by omega) HB1.out).mono ?_
  rintro e w2 ⟨rfl, ⟨l2, hl2, hv2, hbit2⟩, hb2⟩
  have HL2 := Lib.hid hl2
  have HV2 := Lib.hid hv2
  have HB2 := Lib.hid hbit2
  have hw2 := hb2.size
  clear hl2 hv2 hbit2
  go_wp2_with fail
  refine (left_any w.heap.size _ _ w.heap.size l2 _ (Nat.le_refl _) (by omega) (by omega) HL2.out (by omega) (by omega) (by omega) HB2.out).mono ?_
  rintro e w3 ⟨rfl, hb3⟩
  go_wp2_with fail
  go_ret
  refine ⟨Crc.retI ?_, (hb1.trans hb2).trans hb3⟩
  rw [hv.out, HV2.out]

set_option maxRecDepth 20000 in
set_option maxHeartbeats 1000000 in
theorem rbytes_any (a : Nat) (w : World) (ha : a < 4294967296) :
    Calls Try.prog 23 #[.int .u32 a] w fun e w' => e = .returned (.string (Crc.four a)) ∧ Below w.heap.size w w' := by
  have hc := four_conv ((a : Int) % 256) ((a : Int) / 256 % 256) ((a : Int) / 65536 % 256) ((a : Int) / 16777216) w
  go_enter Try.func23, Try.ntmps23
  go_wp2
  rw [Crc.four_nums a ha]
  go_ret
  exact ⟨rfl, (Below.refl _ _).alloc (Nat.le_refl _) _⟩

theorem Crc.infoByte : (Try.prog.info? 5).map (fun i => (i.zero, i.size, i.bytes)) = some (some (.int .u8 0), 1, 1) := by kernel_rfl

namespace Crc
def zeroText (n : Nat) : ByteArray := ⟨(List.replicate n (0 : UInt8)).toArray⟩
theorem zeroText_size (n : Nat) : (zeroText n).size = n := by
  show (List.replicate n (0 : UInt8)).toArray.size = n
  simp
theorem zeroText_list (n : Nat) : (zeroText n).data.toList = List.replicate n 0 := by
  show (List.replicate n (0 : UInt8)).toArray.toList = _
  simp
theorem join_zero (a b n : Nat) : on a (List.replicate n 0) ^^^ on 0 (List.replicate n 0) ^^^ b = join a b n := by
  have h := on_xor 0 a (List.replicate n 0)
  rw [Nat.zero_xor, List.length_replicate] at h
  rw [h, Nat.xor_comm (on 0 _) (Rn _ _), Nat.xor_assoc (Rn _ _), Nat.xor_self, Nat.xor_zero]
  rfl
end Crc

theorem Crc.zero_conv {B n cap base : Nat} {w : World} (h : w.ownsRow base 5 1 (.slice (some ⟨B, 0, none⟩) n cap) n (madeCells #[Value.int .u8 0] n).toList) :
    (convert 44 9 (.slice (some ⟨B, 0, none⟩) n cap)).run Try.prog w = .ok (.string (Crc.zeroText n)) w := by
  have hl : (List.replicate n (0 : UInt8)).length = n := List.length_replicate
  have := run_convert_bytes_back (P := Try.prog) w 44 9 5 ⟨B, 0, none⟩ cap (List.replicate n 0) Try.underlying44 Try.underlying5 Try.underlying9 (fun j hj => by
    have e : (⟨B, 0, none⟩ : Addr).add j = ⟨B, j, none⟩ := by unfold Addr.add; split <;> simp_all
    rw [e, h.cellAt j (by omega), toList_madeCells_one, List.getElem?_replicate, if_pos (by omega)]
    simp)
  rw [hl] at this
  exact this

end Go.Proofs.Ytnalpmiinoohoaa
