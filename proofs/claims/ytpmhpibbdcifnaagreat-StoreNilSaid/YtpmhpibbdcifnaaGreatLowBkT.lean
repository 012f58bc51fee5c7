/-
  The document's book: a sector as a stream makes it.
  The document's book: two lists alike (Texts).
  The document's book: has the disk these sectors (may)?
-/
import Derived.Test.YtpmhpibbdcifnaaGreatLowRd
import Derived.Test.YtpmhpibbdcifnaaGreatLowBkP
import Derived.Test.YtpmhpibbdcifnaaGreatOpen
import Derived.BigQuiet
import Derived.WalkSmall
section
namespace Go.Proofs.YtpmhpibbdcifnaaGreat
open Go.RowKit
attribute [local go_sem ↓] Go.wp_at_zero Go.wp_at_succ

theorem rd_conv1 (b : UInt8) (B : Nat) (w' : World) (h : w'.heap[B]? = some (.cells #[.int .u8 (b.toNat : Int)] 5 (0, 0))) :
    (convert 94 9 (.slice (some ⟨B, 0, none⟩) 1 1)).run Tryz.prog w' = .ok (.string ⟨#[b]⟩) w' := by
  have hr := run_convert_bytes_back (P := Tryz.prog) w' 94 9 5 ⟨B, 0, none⟩ 1 [b] Tryz.underlying94 Tryz.underlying5 Tryz.underlying9 (fun j hj => by
    rw [Addr.add_mid, cell_of_row w' _ _ _ _ _ h]
    have hj' : j = 0 := by simp at hj; omega
    subst hj'
    rfl)
  exact hr

/-- The zeros and the length's byte, whichever is laid first. -/
theorem kconvs (w : World) (N : Nat) (b : UInt8) (L : Nat) (hb : (b.toNat : Int) = (L : Int)) :
    ((convert 94 9 (.slice (some ⟨w.heap.size, 0, none⟩) 1 1)).run Tryz.prog (w.alloc (.cells #[.int .u8 (L : Int)] 5)).drew = .ok (.string ⟨#[b]⟩) (w.alloc (.cells #[.int .u8 (L : Int)] 5)).drew) ∧
    ((convert 94 9 (.slice (some ⟨w.heap.size, 0, none⟩) N N)).run Tryz.prog ((w.alloc (.cells (madeCells #[.int .u8 0] N) 5)).alloc (.cells #[.int .u8 (L : Int)] 5)).drew = .ok (.string (Sec.zB N)) ((w.alloc (.cells (madeCells #[.int .u8 0] N) 5)).alloc (.cells #[.int .u8 (L : Int)] 5)).drew) ∧
    ((convert 94 9 (.slice (some ⟨w.heap.size + 1, 0, none⟩) 1 1)).run Tryz.prog ((w.alloc (.cells (madeCells #[.int .u8 0] N) 5)).alloc (.cells #[.int .u8 (L : Int)] 5)).drew = .ok (.string ⟨#[b]⟩) ((w.alloc (.cells (madeCells #[.int .u8 0] N) 5)).alloc (.cells #[.int .u8 (L : Int)] 5)).drew) ∧
    ((convert 94 9 (.slice (some ⟨w.heap.size, 0, none⟩) 1 1)).run Tryz.prog ((w.alloc (.cells #[.int .u8 (L : Int)] 5)).alloc (.cells (madeCells #[.int .u8 0] N) 5)).drew = .ok (.string ⟨#[b]⟩) ((w.alloc (.cells #[.int .u8 (L : Int)] 5)).alloc (.cells (madeCells #[.int .u8 0] N) 5)).drew) ∧
    ((convert 94 9 (.slice (some ⟨w.heap.size + 1, 0, none⟩) N N)).run Tryz.prog ((w.alloc (.cells #[.int .u8 (L : Int)] 5)).alloc (.cells (madeCells #[.int .u8 0] N) 5)).drew = .ok (.string (Sec.zB N)) ((w.alloc (.cells #[.int .u8 (L : Int)] 5)).alloc (.cells (madeCells #[.int .u8 0] N) 5)).drew) := by
  rw [← hb]
  have n1 : ∀ (o : Obj), (w.alloc o).heap.size = w.heap.size + 1 := fun o => by simp
  have old : ∀ (o p : Obj), ((w.alloc o).alloc p).heap[w.heap.size]? = (w.alloc o).heap[w.heap.size]? := fun o p => Below.heap_alloc (w.alloc o) _ _ (by simp)
  refine ⟨rd_conv1 b _ _ (heap_alloc_new w _), rd_conv0 N _ _ ((old _ _).trans (heap_alloc_new w _)), ?_, rd_conv1 b _ _ ((old _ _).trans (heap_alloc_new w _)), ?_⟩
  · exact rd_conv1 b _ _ (by rw [← n1]; exact heap_alloc_new _ _)
  · exact rd_conv0 N _ _ (by rw [← n1]; exact heap_alloc_new _ _)

end Go.Proofs.YtpmhpibbdcifnaaGreat
end

section
namespace Go.Proofs.YtpmhpibbdcifnaaGreat
open Go.RowKit

set_option maxRecDepth 20000 in
set_option maxHeartbeats 1000000 in
theorem ktexts (l m : List ByteArray) (A B : Option Addr) (ca cb : Nat) (w : World) (ha : Lies w w.heap.size A (tcells l)) (hb : Lies w w.heap.size B (tcells m)) (hl : l.length ≤ maxLen) (hm : m.length ≤ maxLen) :
    Calls Tryz.prog 15 #[.slice A l.length ca, .slice B m.length cb] w fun e w' => e = .returned (.bool (decide (l = m))) ∧ Below w.heap.size w w' := by
  unfold maxLen at hl hm
  have HA := Lib.hid ha
  have HB := Lib.hid hb
  clear ha hb
  by_cases hlm : l.length = m.length
  · have hz : ((l.length : Int) != (m.length : Int)) = false := by simp [hlm]
    have HLM := Lib.hid hlm
    clear hlm
    go_enter Tryz.func15, Tryz.ntmps15
    go_wp2_with fail
    go_loopw [5] (fun i wr => ∃ k : Nat, k ≤ l.length ∧ i = .int .i64 k ∧ Hid (l.take k = m.take k) ∧ Below w.heap.size w wr) (fun i _ => l.length - (intOf i).toNat)
    case atStart => exact ⟨0, Nat.zero_le _, rfl, by show _ = _; simp, Below.refl _ _⟩
    case round =>
      obtain ⟨k, hk, rfl, HE, hbel⟩ := hrel
      by_cases hlt : k < l.length
      · have hlt2 : k < m.length := by have := HLM.out; omega
        obtain ⟨p, rfl, hpb, hp0⟩ := (HA.out.below hbel).at_ (tcells_at hlt)
        obtain ⟨q, rfl, hqb, hq0⟩ := (HB.out.below hbel).at_ (tcells_at hlt2)
        have k0 : (0 : Int) ≤ (k : Int) := by omega
        have k1 : (k : Int) < l.length := by omega
        have k2 : (k : Int) < m.length := by omega
        have HS : Hid (l[k] = m[k] → l.take (k + 1) = m.take (k + 1)) := fun e => by
          rw [List.take_succ_eq_append_getElem hlt, List.take_succ_eq_append_getElem hlt2, HE.out, e]
        have HD : Hid (l[k] ≠ m[k] → decide (l = m) = false) := fun hne => by
          rw [decide_eq_false_iff_not]
          intro e
          subst e
          exact hne rfl
        generalize l[k] = x at hp0 HS HD
        generalize m[k] = y at hq0 HS HD
        by_cases e : x = y
        · subst e
          have HS2 := Lib.hid (HS.out rfl)
          clear HD
          go_wp2_with fail
          go_region
          go_wp2_with fail
          go_roundw
          case rel => exact ⟨k + 1, by omega, by go_num, HS2.out, hbel.drew⟩
          case measure => simp [intOf]; omega
        · have e2 : (x.toList == y.toList) = false := by
            rw [beq_eq_false_iff_ne]
            intro h
            rw [Lib.toList_data, Lib.toList_data] at h
            exact e (ByteArray.ext (Array.ext' h))
          have HD2 := Lib.hid (HD.out e)
          clear HS HD
          go_wp2_with fail
          go_region
          go_wp2_with fail
          go_ret
          exact ⟨by rw [HD2.out]; rfl, hbel.drew⟩
      · have HD : Hid (decide (l = m) = true) := by
          show _ = _
          rw [decide_eq_true_iff]
          have h1 := HE.out
          have h2 := HLM.out
          rw [List.take_of_length_le (by omega), List.take_of_length_le (by omega)] at h1
          exact h1
        go_wp2_with fail
        go_ret
        exact ⟨by rw [HD.out]; rfl, hbel⟩
  · have hz : ((l.length : Int) != (m.length : Int)) = true := by simp; omega
    have hne : decide (l = m) = false := by
      rw [decide_eq_false_iff_not]
      intro e
      exact hlm (by rw [e])
    have HNE := Lib.hid hne
    clear hlm hne
    go_enter Tryz.func15, Tryz.ntmps15
    go_wp2_with fail
    go_ret
    exact ⟨by rw [HNE.out]; rfl, Below.refl _ _⟩
end Go.Proofs.YtpmhpibbdcifnaaGreat
end

section
namespace Go.Proofs.YtpmhpibbdcifnaaGreat
open Go.RowKit
attribute [local go_sem ↓] Go.wp_at_zero Go.wp_at_succ

/-- The sectors from a, b of them, lie on a disk of n. -/
def Book.fits (n : Nat) (a b : Int) : Bool := decide (0 ≤ a) && decide (1 ≤ b) && decide (a ≤ (n : Int)) && decide (b ≤ (n : Int) - a)

end Go.Proofs.YtpmhpibbdcifnaaGreat
end
