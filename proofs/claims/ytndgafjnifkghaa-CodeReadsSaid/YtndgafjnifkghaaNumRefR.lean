/-
  Contracts of the document's answers for numbers: Read, ReadInt.
-/
import Derived.Test.YtndgafjnifkghaaNumRef
import Derived.BigQuiet
namespace Go.Proofs.Ytndgafjnifkghaa
open Go.RowKit

theorem Num.lev_drop_step (s : ByteArray) (k q : Nat) (hq : q < s.size) (hk : q ≤ k) :
    Num.lev ((s.data.toList.take (k + 1)).drop q) = s[q].toNat % 128 + 128 * Num.lev ((s.data.toList.take (k + 1)).drop (q + 1)) := by
  have h1 : q < (s.data.toList.take (k + 1)).length := by
    rw [List.length_take]
    have h3 : s.data.toList.length = s.size := by simp
    omega
  rw [List.drop_eq_getElem_cons h1, List.getElem_take]
  rfl

theorem Num.drop0 (s : ByteArray) (k : Nat) : (s.data.toList.take (k + 1)).drop 0 = s.data.toList.take (k + 1) := rfl

theorem Num.ref_cmp (s : ByteArray) (k x : Nat) (hc : Num.cnt s.data.toList = k) (hk : k < s.size) (h10 : k ≠ 10) (hx : x = Num.lev ((s.data.toList.take (k + 1)).drop 0) % 18446744073709551616) :
    (Lib.uvarint x == (s.extract 0 (k + 1)).toList) = Num.endsB s[k].toNat k := by
  have h3 : s.data.toList.length = s.size := by simp
  have h := Num.uv_mod_iff (l := s.data.toList) (by omega) (by omega)
  rw [hc, Num.byte_at s k hk] at h
  have e : (s.extract 0 (k + 1)).toList = s.data.toList.take (k + 1) := by
    rw [Lib.toList_data, Lib.extract_data]; simp
  rw [e, hx, Num.drop0, Bool.eq_iff_iff, beq_iff_eq]
  exact h

theorem Num.rd_no (s : ByteArray) (k : Nat) (hc : Num.cnt s.data.toList = k) (hk : k < s.size) (h10 : k ≠ 10) (he : Num.endsB s[k].toNat k = false) : Num.rd s.data.toList = (0, 0, 8) := by
  have h3 : s.data.toList.length = s.size := by simp
  unfold Num.rd
  rw [hc, if_neg h10, if_neg (by omega), Num.byte_at s k hk, he]
  rfl

theorem Num.rd_yes (s : ByteArray) (k x : Nat) (hc : Num.cnt s.data.toList = k) (hk : k < s.size) (h10 : k ≠ 10) (he : Num.endsB s[k].toNat k = true) (hx : x = Num.lev ((s.data.toList.take (k + 1)).drop 0) % 18446744073709551616) :
    Num.rd s.data.toList = (x, k + 1, 0) := by
  have h3 : s.data.toList.length = s.size := by simp
  have hr : Num.rd s.data.toList = (Num.lev (s.data.toList.take (k + 1)), k + 1, 0) := by
    unfold Num.rd
    rw [hc, if_neg h10, if_neg (by omega), Num.byte_at s k hk, he]
    rfl
  have hb := (Num.rd_bound s.data.toList).2.2.1
  rw [hr] at hb
  rw [hr, hx, Num.drop0, Nat.mod_eq_of_lt hb]

set_option maxRecDepth 20000 in
set_option maxHeartbeats 1000000 in
theorem rread_any (s : ByteArray) (w : World) (hs : s.size ≤ maxLen) :
    Calls Try.prog 60 #[.string s] w fun e w' => e = .returned (.tuple #[.int .u64 (Num.rd s.data.toList).1, .int .i64 (Num.rd s.data.toList).2.1, .int .i64 (Num.rd s.data.toList).2.2]) ∧ Below w.heap.size w w' := by
  unfold maxLen at hs
  go_enter Try.func60, Try.ntmps60
  go_wp2_with fail
  go_loop [5] (fun i => ∃ (k : Nat), i = .int .i64 k ∧ k ≤ s.size ∧ k ≤ 10 ∧ ∀ j, j < k → 128 ≤ (s.data.toList[j]?.getD 0).toNat)
    (fun i => 10 - (intOf i).toNat)
  case atStart => exact ⟨0, rfl, by omega, by omega, fun j hj => by omega⟩
  case round =>
    obtain ⟨k, rfl, hk, hk10, hall⟩ := hrel
    have HA := Lib.hid hall
    clear hall
    by_cases hgo : k < s.size ∧ k < 10 ∧ 128 ≤ (s.data.toList[k]?.getD 0).toNat
    · obtain ⟨g1, g2, g3⟩ := hgo
      rw [Num.byte_at s k g1] at g3
      have d1 : decide ((k : Int) < (s.size : Int)) = true := by simp; omega
      have d2 : decide ((k : Int) < 10) = true := by simp; omega
      have d3 : (128 : Int) ≤ (s[k].toNat : Int) := by omega
      go_wp2_with fail
      refine ⟨⟨k + 1, by go_num, by omega, by omega, ?_⟩, by simp [intOf]; omega⟩
      intro j hj
      by_cases e : j = k
      · rw [e, Num.byte_at s k g1]; exact g3
      · exact HA.out j (by omega)
    · have hcnt : Num.cnt s.data.toList = k := by
        have h1 := Num.cnt_ge HA.out (by simpa using hk) hk10
        have h2 := Num.cnt_le s.data.toList
        have h3 : s.data.toList.length = s.size := by simp
        have h4 := Num.cnt_le10 s.data.toList
        have h5 := Num.cnt_all s.data.toList
        apply Classical.byContradiction
        intro hn
        exact hgo ⟨by omega, by omega, h5 k (by omega)⟩
      have HC := Lib.hid hcnt
      clear hcnt
      by_cases g1 : k < s.size
      · by_cases g2 : k < 10
        · have g3 : s[k].toNat < 128 := by
            apply Classical.byContradiction
            intro hn
            exact hgo ⟨g1, g2, by rw [Num.byte_at s k g1]; omega⟩
          have d1 : decide ((k : Int) < (s.size : Int)) = true := by simp; omega
          have d2 : decide ((k : Int) < 10) = true := by simp; omega
          have d3 : (s[k].toNat : Int) < 128 := by omega
          have hne : ((k : Int) == 10) = false := by simp; omega
          have hne2 : ((k : Int) == (s.size : Int)) = false := by simp; omega
          clear hgo
          go_wp2_with fail
          go_loop [6, 7] (fun X i => ∃ (m x : Nat), X = .int .u64 x ∧ i = .int .i64 ((m : Int) - 1) ∧ m ≤ k + 1 ∧ x = Num.lev ((s.data.toList.take (k + 1)).drop m) % 18446744073709551616)
            (fun _ i => (intOf i + 1).toNat)
          case atStart => exact ⟨k + 1, 0, rfl, by go_num, by omega, by rw [List.drop_of_length_le (by rw [List.length_take]; exact Nat.min_le_left _ _)]; rfl⟩
          case round =>
            obtain ⟨m, x, rfl, rfl, hm, hx⟩ := hrel
            have HX := Lib.hid hx
            have hxl : (x : Int) ≤ 18446744073709551615 := by omega
            clear hx
            by_cases hm0 : m = 0
            · subst hm0
              go_wp2_with fail
              have hx0 : (0 : Int) ≤ x := by omega
              have hk1 : (0 : Int) ≤ (k : Int) + 1 := by omega
              have hk3 : (k : Int) + 1 ≤ s.size := by omega
              have hk2 : ((k : Int) + 1).toNat = k + 1 := by omega
              have hkw : IntKind.i64.wrap ((k : Int) + 1) = (k : Int) + 1 := IntWalk.i64_in _ (by omega)
              have hiff := Num.ref_cmp s k x HC.out g1 (by omega) HX.out
              cases he : Num.endsB s[k].toNat k
              · have HR : Hid (Num.rd s.data.toList = (0, 0, 8)) := Num.rd_no s k HC.out g1 (by omega) he
                rw [he] at hiff
                clear he
                go_region_with ((go_at_call 81; refine (ruint_any _ _ hx0 hxl).mono ?_; rintro e w1 ⟨rfl, hb⟩))
                all_goals
                  clear hkw hk2
                  go_wp2
                  go_ret3
                  exact ⟨by rw [HR.out]; rfl, (Below.refl _ _).drew.trans hb⟩
              · have HR : Hid (Num.rd s.data.toList = (x, k + 1, 0)) := Num.rd_yes s k x HC.out g1 (by omega) he HX.out
                rw [he] at hiff
                clear he
                go_region_with ((go_at_call 81; refine (ruint_any _ _ hx0 hxl).mono ?_; rintro e w1 ⟨rfl, hb⟩))
                all_goals
                  clear hkw hk2
                  go_wp2
                  go_ret3
                  exact ⟨by rw [HR.out]; exact retI3 rfl (by simp) rfl, (Below.refl _ _).drew.trans hb⟩
            · obtain ⟨q, rfl⟩ : ∃ q, m = q + 1 := ⟨m - 1, by omega⟩
              have e : ((q + 1 : Nat) : Int) - 1 = q := by omega
              rw [e]
              clear e
              have hq : q < s.size := by omega
              have HS : Hid (IntKind.u64.wrap (IntKind.u64.wrap (128 * (x : Int)) + (s[q].toNat : Int) % 128) = ((Num.lev ((s.data.toList.take (k + 1)).drop q) % 18446744073709551616 : Nat) : Int)) := by
                have h := Num.lev_drop_step s k q hq (by omega)
                have h2 := HX.out
                show _ = _
                rw [IntKind.wrap_u64, IntKind.wrap_u64]
                omega
              go_wp2_with fail
              exact ⟨⟨q, _, by rw [HS.out], rfl, by omega, rfl⟩, by simp [intOf]⟩
        · have hk : k = 10 := by omega
          have HR : Hid (Num.rd s.data.toList = (0, 0, 8)) := by
            show _ = _
            unfold Num.rd
            rw [if_pos (by have := HC.out; omega)]
          have d1 : decide ((k : Int) < (s.size : Int)) = true := by simp; omega
          have d2 : decide ((k : Int) < 10) = false := by simp; omega
          have hne2 : ((k : Int) == (s.size : Int)) = false := by simp; omega
          have hne : ((k : Int) == 10) = true := by simp; omega
          clear hgo hk
          go_wp2_with fail
          go_ret3
          exact ⟨by rw [HR.out]; rfl, Below.refl _ _⟩
      · have h3 : s.data.toList.length = s.size := by simp
        have d1 : decide ((k : Int) < (s.size : Int)) = false := by simp; omega
        have hne2 : ((k : Int) == (s.size : Int)) = true := by simp; omega
        by_cases g2 : k < 10
        · have HR : Hid (Num.rd s.data.toList = (0, 0, 10)) := by
            have := HC.out
            show _ = _
            unfold Num.rd
            rw [if_neg (by omega), if_pos (by omega)]
          have d2 : decide ((k : Int) < 10) = true := by simp; omega
          clear hgo h3
          go_wp2_with fail
          go_ret3
          exact ⟨by rw [HR.out]; rfl, Below.refl _ _⟩
        · have HR : Hid (Num.rd s.data.toList = (0, 0, 8)) := by
            have := HC.out
            show _ = _
            unfold Num.rd
            rw [if_pos (by omega)]
          have d2 : decide ((k : Int) < 10) = false := by simp; omega
          have hne : ((k : Int) == 10) = true := by simp; omega
          clear hgo h3
          go_wp2_with fail
          go_ret3
          exact ⟨by rw [HR.out]; rfl, Below.refl _ _⟩

set_option maxHeartbeats 400000 in
theorem rreadint_any (s : ByteArray) (w : World) (hs : s.size ≤ maxLen) :
    Calls Try.prog 82 #[.string s] w fun e w' => e = .returned (.tuple #[.int .i64 (Num.zag (Num.rd s.data.toList).1), .int .i64 (Num.rd s.data.toList).2.1, .int .i64 (Num.rd s.data.toList).2.2]) ∧ Below w.heap.size w w' := by
  have hb := (Num.rd_bound s.data.toList).2.2.1
  have hb2 : (((Num.rd s.data.toList).1 : Nat) : Int) ≤ 18446744073709551615 := by omega
  clear hb
  generalize hR : Num.rd s.data.toList = R at *
  have HR := Lib.hid hR
  clear hR
  go_enter Try.func82, Try.ntmps82
  go_wp2_with fail
  refine (rread_any s _ hs).mono ?_
  rintro e w' ⟨rfl, hbel⟩
  rw [HR.out]
  go_wp2_with fail
  refine (rzag_any _ _ (by omega) hb2).mono ?_
  rintro e w' ⟨rfl, rfl⟩
  go_wp2_with fail
  go_ret3
  exact ⟨rfl, hbel⟩
end Go.Proofs.Ytndgafjnifkghaa
