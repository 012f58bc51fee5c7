/-
  Contracts of num.Read and num.ReadInt: the number at the front of bytes.
-/
import Derived.Test.YtndgafjnifkghaaNumZ
namespace Go.Proofs.Ytndgafjnifkghaa
open Go.RowKit

theorem Num.byte_at (s : ByteArray) (k : Nat) (h : k < s.size) : s.data.toList[k]?.getD 0 = s[k] := by
  have h' : k < s.data.toList.length := by simpa using h
  rw [List.getElem?_eq_getElem h', Option.getD_some]
  rfl

theorem retI3 {k1 k2 k3 : IntKind} {a b c a' b' c' : Int} (h1 : a = a') (h2 : b = b') (h3 : c = c') :
    Ending.returned (.tuple #[.int k1 a, .int k2 b, .int k3 c]) = .returned (.tuple #[.int k1 a', .int k2 b', .int k3 c']) := by rw [h1, h2, h3]

/-- The last byte of a number, laid on top of those ahead of it. -/
theorem Num.step_last (s : ByteArray) (k : Nat) (x : Int) (es : k < s.size) (hc : s[k].toNat < 128) (hx : x = (Num.lev (s.data.toList.take k) : Nat)) (hr : Num.rd s.data.toList = (Num.lev (s.data.toList.take (k + 1)), k + 1, 0)) :
    bits BinOp.or IntKind.u64 x (IntKind.u64.wrap ((s[k].toNat : Int) * 2 ^ (7 * k))) = ((Num.lev (s.data.toList.take (k + 1)) : Nat) : Int) := by
  have hb := (Num.rd_bound s.data.toList).2.2.1
  rw [hr] at hb
  simp only [] at hb
  have hl := Num.lev_take_succ s.data.toList k (by simpa using es)
  rw [Num.byte_at s k es, Nat.mod_eq_of_lt hc] at hl
  have hlt := Num.lev_take_lt s.data.toList k
  have e : s[k].toNat * 128 ^ k = 128 ^ k * s[k].toNat := Nat.mul_comm _ _
  rw [hx, Num.or_add _ _ k hlt (by omega) (by omega), hl]

/-- A byte that is not the last one, laid on top of those ahead of it. -/
theorem Num.step_more (s : ByteArray) (k : Nat) (x : Int) (es : k < s.size) (hc : 128 ≤ s[k].toNat) (hk : k ≤ 9) (hx0 : 0 ≤ x) (hx1 : x ≤ 18446744073709551615) (hx : k ≤ 9 → x = (Num.lev (s.data.toList.take k) : Nat)) :
    0 ≤ bits BinOp.or IntKind.u64 x (IntKind.u64.wrap (((s[k].toNat : Int) - 128) % 256 * 2 ^ (7 * k))) ∧
    bits BinOp.or IntKind.u64 x (IntKind.u64.wrap (((s[k].toNat : Int) - 128) % 256 * 2 ^ (7 * k))) ≤ 18446744073709551615 ∧
    (k + 1 ≤ 9 → bits BinOp.or IntKind.u64 x (IntKind.u64.wrap (((s[k].toNat : Int) - 128) % 256 * 2 ^ (7 * k))) = ((Num.lev (s.data.toList.take (k + 1)) : Nat) : Int)) := by
  have hb : s[k].toNat < 256 := UInt8.toNat_lt _
  obtain ⟨m, hm⟩ : ∃ m : Nat, IntKind.u64.wrap (((s[k].toNat : Int) - 128) % 256 * 2 ^ (7 * k)) = (m : Int) ∧ m < 18446744073709551616 := by
    rw [IntKind.wrap_u64]
    exact ⟨((((s[k].toNat : Int) - 128) % 256 * 2 ^ (7 * k)) % 18446744073709551616).toNat, by omega, by omega⟩
  obtain ⟨y, rfl⟩ := Int.eq_ofNat_of_zero_le hx0
  have hr := Num.or_range y m (by omega) hm.2
  rw [← hm.1] at hr
  refine ⟨hr.1, hr.2, fun h9 => ?_⟩
  have hl := Num.lev_take_succ s.data.toList k (by simpa using es)
  rw [Num.byte_at s k es] at hl
  have e : ((s[k].toNat : Int) - 128) % 256 = ((s[k].toNat % 128 : Nat) : Int) := by omega
  have hlt := Num.lev_take_lt s.data.toList k
  have h8 : (128 : Nat) ^ k ≤ 128 ^ 8 := Nat.pow_le_pow_right (by decide) (by omega)
  have h8' : (128 : Nat) ^ 8 = 72057594037927936 := by decide
  rw [h8'] at h8
  have hm2 : s[k].toNat % 128 * 128 ^ k ≤ 127 * 128 ^ k := Nat.mul_le_mul_right _ (by omega)
  rw [hx (by omega), e, Num.or_add _ _ k hlt (by omega) (by omega), hl]

set_option maxRecDepth 20000 in
set_option maxHeartbeats 400000 in
theorem read_any (s : ByteArray) (w : World) (hs : s.size ≤ maxLen) :
    Calls Try.prog 52 #[.string s] w fun e w' => e = .returned (.tuple #[.int .u64 (Num.rd s.data.toList).1, .int .i64 (Num.rd s.data.toList).2.1, .int .i64 (Num.rd s.data.toList).2.2]) ∧ w = w' := by
  unfold maxLen at hs
  go_enter Try.func52, Try.ntmps52
  go_wp2
  go_step3
  go_wp2
  go_step3
  go_wp2
  go_loop [2, 3] (fun X i => ∃ (k : Nat) (x : Int), X = .int .u64 x ∧ i = .int .i64 k ∧ k ≤ s.size ∧ k ≤ 10 ∧ 0 ≤ x ∧ x ≤ 18446744073709551615 ∧ (k ≤ 9 → x = Num.lev (s.data.toList.take k)) ∧ ∀ j, j < k → 128 ≤ (s.data.toList[j]?.getD 0).toNat)
    (fun _ i => 10 - (intOf i).toNat)
  case atStart => exact ⟨0, 0, rfl, rfl, by omega, by omega, by omega, by omega, fun _ => rfl, fun j hj => by omega⟩
  case round =>
    obtain ⟨k, x, rfl, rfl, hk, hk10, hx0, hx1, hx, hall⟩ := hrel
    have HX := Lib.hid hx
    have HA := Lib.hid hall
    clear hx hall
    by_cases e10 : k = 10
    · have HR : Hid (Num.rd s.data.toList = (0, 0, 8)) := by
        have h1 := Num.cnt_ge HA.out (by simpa using hk) hk10
        have h2 := Num.cnt_le10 s.data.toList
        show _ = _
        unfold Num.rd
        rw [if_pos (by omega)]
      subst e10
      go_wp2_with fail
      go_ret3
      exact ⟨by rw [HR.out]; rfl, rfl⟩
    · by_cases es : k < s.size
      · by_cases hc : s[k].toNat < 128
        · have hcI : ((s[k].toNat : Nat) : Int) < 128 := by omega
          have hlt : (k : Int) < s.size := by omega
          have hne : ((k : Int) == 10) = false := by simp; omega
          have hne2 : ((k : Int) == (s.size : Int)) = false := by simp; omega
          have HC : Hid (Num.cnt s.data.toList = k) := Num.cnt_at HA.out (by simpa using es) (by rw [Num.byte_at s k es]; exact hc) (by omega)
          go_wp2_with fail
          cases he : Num.endsB s[k].toNat k
          · have HE := Lib.hid he
            clear he
            refine (ends_is _ _ false _ (by omega) (by omega) (by omega) (by omega) (by simpa using HE.out)).mono ?_
            rintro e w' ⟨rfl, rfl⟩
            go_wp2_with fail
            rw [Exit.noGoto_ret]
            go_ret3
            have hr : Num.rd s.data.toList = (0, 0, 8) := by
              have h3 : s.data.toList.length = s.size := by simp
              unfold Num.rd
              rw [HC.out, if_neg e10, if_neg (by omega), Num.byte_at s k es, HE.out]
              rfl
            exact ⟨by rw [hr]; rfl, rfl⟩
          · have HE := Lib.hid he
            clear he
            refine (ends_is _ _ true _ (by omega) (by omega) (by omega) (by omega) (by simpa using HE.out)).mono ?_
            rintro e w' ⟨rfl, rfl⟩
            go_wp2_with fail
            rw [Exit.noGoto_ret]
            go_ret3
            have hr : Num.rd s.data.toList = (Num.lev (s.data.toList.take (k + 1)), k + 1, 0) := by
              have h3 : s.data.toList.length = s.size := by simp
              unfold Num.rd
              rw [HC.out, if_neg e10, if_neg (by omega), Num.byte_at s k es, HE.out]
              rfl
            refine ⟨?_, rfl⟩
            rw [hr]
            exact retI3 (Num.step_last s k x es hc (HX.out (by omega)) hr) (by simp) rfl
        · have hcI : 128 ≤ ((s[k].toNat : Nat) : Int) := by omega
          have hlt : (k : Int) < s.size := by omega
          have hne : ((k : Int) == 10) = false := by simp; omega
          have hne2 : ((k : Int) == (s.size : Int)) = false := by simp; omega
          go_wp2_with fail
          have hst := Num.step_more s k x es (by omega) (by omega) hx0 hx1 (fun h => HX.out h)
          refine ⟨⟨k + 1, _, rfl, by go_num, by omega, by omega, hst.1, hst.2.1, hst.2.2, ?_⟩, by simp [intOf]; omega⟩
          intro j hj
          by_cases e : j = k
          · rw [e, Num.byte_at s k es]; omega
          · exact HA.out j (by omega)
      · have hks : k = s.size := by omega
        have HR : Hid (Num.rd s.data.toList = (0, 0, 10)) := by
          have h1 := Num.cnt_ge HA.out (by simpa using hk) hk10
          have h2 := Num.cnt_le s.data.toList
          have h3 : s.data.toList.length = s.size := by simp
          show _ = _
          unfold Num.rd
          rw [if_neg (by omega), if_pos (by omega)]
        have hne : ((k : Int) == 10) = false := by simp; omega
        have hne2 : ((k : Int) == (s.size : Int)) = true := by simp; omega
        clear hks
        go_wp2_with fail
        go_ret3
        exact ⟨by rw [HR.out]; rfl, rfl⟩

set_option maxHeartbeats 400000 in
theorem readint_any (s : ByteArray) (w : World) (hs : s.size ≤ maxLen) :
    Calls Try.prog 97 #[.string s] w fun e w' => e = .returned (.tuple #[.int .i64 (Num.zag (Num.rd s.data.toList).1), .int .i64 (Num.rd s.data.toList).2.1, .int .i64 (Num.rd s.data.toList).2.2]) ∧ w = w' := by
  have hb := (Num.rd_bound s.data.toList).2.2.1
  have hb2 : (((Num.rd s.data.toList).1 : Nat) : Int) ≤ 18446744073709551615 := by omega
  clear hb
  generalize hR : Num.rd s.data.toList = R at *
  have HR := Lib.hid hR
  clear hR
  go_enter Try.func97, Try.ntmps97
  go_wp2_with fail
  refine (read_any s _ hs).mono ?_
  rintro e w' ⟨rfl, rfl⟩
  rw [HR.out]
  go_wp2_with fail
  refine (zag_any _ _ (by omega) hb2).mono ?_
  rintro e w' ⟨rfl, rfl⟩
  go_wp2_with fail
  go_ret3
  exact ⟨rfl, rfl⟩
end Go.Proofs.Ytndgafjnifkghaa
