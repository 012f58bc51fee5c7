/-
  Layer 10's Heavy: which programs a statement looks at.
-/
import Derived.Test.YtepnofklmdofmaaGreatDoorLowCdF
namespace Go.Proofs.YtepnofklmdofmaaGreatDoor
open Go.RowKit

/-- What Heavy tells. -/
def HeavyP (l : List Cd.Fm) (w : World) (e : Ending) (w' : World) : Prop := ∃ b : Bool, e = .returned (.bool b) ∧ (b = false → l.length ≤ 60 ∧ ∀ m ∈ l, m.f.ops.length ≤ 200) ∧ Below w.heap.size w w'

set_option maxHeartbeats 1000000 in
set_option maxRecDepth 20000 in
theorem heavyp (l : List Cd.Fm) (hR : ∀ m ∈ l, m.f.Rng) (hn : l.length ≤ maxLen) (A : Option Addr) (c : Nat) (w : World) (hP : Cd.Prog w w.heap.size A l) :
    Calls Tryz.prog 32 #[.agg #[.slice A l.length c]] w (HeavyP l w) := by
  unfold maxLen at hn
  obtain ⟨W, hW⟩ : ∃ W, W = w.alloc (.cells #[.slice A l.length c] 24) := ⟨_, rfl⟩
  have hb : Below w.heap.size w W := by rw [hW]; exact Cd.fn1 _ _ _
  have HF : Hid (W.heap[w.heap.size]? = some (.cells #[.slice A l.length c] 24 (0, 0))) := by show _ = _; rw [hW]; exact heap_alloc_new w _
  have HB := Lib.hid hb
  have HP := Lib.hid hP
  have HR := Lib.hid hR
  have c0 : W.cell? ⟨w.heap.size, 0, none⟩ = some (.slice A l.length c) := cell_of_row _ _ 0 _ _ _ HF.out
  clear hb hP hR
  go_enter Tryz.func32, Tryz.ntmps32
  go_upto_region 1 with fail
  rw [← hW]
  clear hW
  by_cases h60 : 60 < l.length
  · have h60i : (60 : Int) < l.length := by omega
    clear h60
    go_wp2_with fail
    go_ret
    exact ⟨true, rfl, (fun h => by cases h), HB.out⟩
  · have h60i : ¬ (60 : Int) < l.length := by omega
    have H60 := Lib.hid h60
    clear h60
    go_wp2_with fail
    go_loopw [3] (fun s3 wr => ∃ k : Nat, k ≤ l.length ∧ s3 = .int .i64 k ∧ Hid (∀ m ∈ l.take k, m.f.ops.length ≤ 200) ∧ wr = W) (fun s3 _ => l.length - (intOf s3).toNat)
    case atStart => exact ⟨0, Nat.zero_le _, rfl, (show Hid _ from fun m hm => by simp at hm), rfl⟩
    case round =>
      obtain ⟨k, hk, rfl, HK, rfl⟩ := hrel
      by_cases hlt : k < l.length
      · obtain ⟨ad, rfl, hadb, d0, d1, d2⟩ := Cd.fn_at (HP.out.below HB.out).fs hlt
        have k0 : (0 : Int) ≤ (k : Int) := by omega
        have k1 : (k : Int) < l.length := by omega
        have hlen := (HR.out _ (List.getElem_mem hlt)).len
        unfold maxLen at hlen
        have HK2 : Hid (l[k].f.ops.length ≤ 200 → ∀ m ∈ l.take (k + 1), m.f.ops.length ≤ 200) := fun h m hm => by
          rw [List.take_succ_eq_append_getElem hlt] at hm
          rcases List.mem_append.1 hm with hm | hm
          · exact HK.out m hm
          · rw [List.mem_singleton.1 hm]; exact h
        generalize l[k] = m at d0 d1 d2 hlen HK2
        clear hadb hlt
        by_cases h2 : 200 < m.f.ops.length
        · have h2i : (200 : Int) < m.f.ops.length := by omega
          clear h2
          go_wp2_with fail
          go_ret
          exact ⟨true, rfl, (fun h => by cases h), HB.out⟩
        · have h2i : ¬ (200 : Int) < m.f.ops.length := by omega
          have HK3 := Lib.hid (HK2.out (by omega))
          clear h2 HK2
          go_wp2_with fail
          go_roundw
          case rel => first | exact ⟨k + 1, by omega, by go_num, HK3.out, rfl⟩ | exact ⟨k + 1, by omega, by go_num, HK3.out, trivial⟩
          case measure => simp [intOf]; omega
      · have k1 : ¬ ((k : Int) < l.length) := by omega
        have HE : Hid (l.length ≤ 60 ∧ ∀ m ∈ l, m.f.ops.length ≤ 200) := by
          refine ⟨by have := H60.out; omega, ?_⟩
          have := HK.out
          rwa [List.take_of_length_le (by omega)] at this
        go_wp2_with fail
        go_ret
        exact ⟨false, rfl, (fun _ => HE.out), HB.out⟩
end Go.Proofs.YtepnofklmdofmaaGreatDoor
