/-
  strings.Clone, strings.HasPrefix.
-/
import Derived.Test.YtaijafkfiogmlaaDoorBrA
import Derived.Test.YtaijafkfiogmlaaDoorLowOpen
namespace Go.Proofs.YtaijafkfiogmlaaDoor
open Go.RowKit

theorem Br.pre_size {s p : ByteArray} (h : Br.pre p.data.toList s.data.toList = true) : p.size ≤ s.size := by
  obtain ⟨c, h⟩ := Br.pre_iff.1 h
  have := congrArg List.length h
  rw [List.length_append, Br.len_list, Br.len_list] at this
  omega
theorem Br.pre_take {s p : ByteArray} (_h : p.size ≤ s.size) : ((s.extract 0 p.size).toList == p.toList) = Br.pre p.data.toList s.data.toList := by
  rw [Bool.eq_iff_iff, Br.pre_iff, beq_iff_eq, Lib.toList_data, Lib.toList_data, Lib.extract_data]
  simp only [List.drop_zero, Nat.sub_zero]
  constructor
  · intro h2
    exact ⟨s.data.toList.drop p.size, by rw [← h2]; simp⟩
  · rintro ⟨c, h2⟩
    rw [h2, ← Br.len_list p, List.take_left']
    rfl
theorem bprefix0 (s p : ByteArray) (w : World) (_hs : s.size ≤ 1000000) (_hp : p.size ≤ 1000000) : Calls Tryd.prog 27 #[.string s, .string p] w fun e w' => e = .returned (.bool (Br.pre p.data.toList s.data.toList)) ∧ w = w' := by
  by_cases h : p.size ≤ s.size
  · have e := Br.pre_take h
    have d1 : decide ((p.size : Int) ≤ (s.size : Int)) = true := decide_eq_true (by omega)
    have n1 : (p.size : Int) ≤ (s.size : Int) := by omega
    cases hc : Br.pre p.data.toList s.data.toList with
    | true =>
      rw [hc] at e
      clear hc
      go_enter Tryd.func27, Tryd.ntmps27
      go_wp2_with fail
      go_ret
      exact ⟨rfl, rfl⟩
    | false =>
      rw [hc] at e
      clear hc
      go_enter Tryd.func27, Tryd.ntmps27
      go_wp2_with fail
      go_ret
      exact ⟨rfl, rfl⟩
  · have d1 : decide ((p.size : Int) ≤ (s.size : Int)) = false := decide_eq_false (by omega)
    have e : Br.pre p.data.toList s.data.toList = false := by
      rw [← Bool.not_eq_true]
      exact fun h2 => h (Br.pre_size h2)
    rw [e]
    have n1 : ¬ ((p.size : Int) ≤ (s.size : Int)) := by omega
    clear h e
    go_enter Tryd.func27, Tryd.ntmps27
    go_wp2_with fail
    go_ret
    exact ⟨rfl, rfl⟩
theorem bprefix (s p : ByteArray) (w : World) (hs : s.size ≤ 1000000) (hp : p.size ≤ 1000000) : Calls Tryd.prog 21 #[.string s, .string p] w fun e w' => e = .returned (.bool (Br.pre p.data.toList s.data.toList)) ∧ w = w' := by
  have HC := Lib.hid (bprefix0 s p w hs hp)
  generalize Br.pre p.data.toList s.data.toList = r at HC ⊢
  go_enter Tryd.func21, Tryd.ntmps21
  go_wp2_with fail
  refine HC.out.mono ?_
  rintro e w1 ⟨rfl, rfl⟩
  go_wp2_with fail
  go_ret
  exact ⟨rfl, rfl⟩
end Go.Proofs.YtaijafkfiogmlaaDoor
