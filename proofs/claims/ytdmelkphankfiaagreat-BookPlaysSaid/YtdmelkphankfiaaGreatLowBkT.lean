/-
  The document's book: a sector as a stream makes it.
  The document's book: two lists alike (Texts).
  The document's book: has the disk these sectors (may)?
-/
import Derived.Test.YtdmelkphankfiaaGreatLowRd
import Derived.Test.YtdmelkphankfiaaGreatLowBkP
import Derived.Test.YtdmelkphankfiaaGreatOpen
import Derived.BigQuiet
import Derived.WalkSmall
section
namespace Go.Proofs.YtdmelkphankfiaaGreat
open Go.RowKit
attribute [local go_sem ↓] Go.wp_at_zero Go.wp_at_succ

theorem rd_conv1 (b : UInt8) (B : Nat) (w' : World) (h : w'.heap[B]? = some (.cells #[.int .u8 (b.toNat : Int)] 5 (0, 0))) :
    (convert 57 9 (.slice (some ⟨B, 0, none⟩) 1 1)).run Tryz.prog w' = .ok (.string ⟨#[b]⟩) w' := by
  have hr := run_convert_bytes_back (P := Tryz.prog) w' 57 9 5 ⟨B, 0, none⟩ 1 [b] Tryz.underlying57 Tryz.underlying5 Tryz.underlying9 (fun j hj => by
    rw [Addr.add_mid, cell_of_row w' _ _ _ _ _ h]
    have hj' : j = 0 := by simp at hj; omega
    subst hj'
    rfl)
  exact hr

/-- The zeros and the length's byte, whichever is laid first. -/
theorem kconvs (w : World) (N : Nat) (b : UInt8) (L : Nat) (hb : (b.toNat : Int) = (L : Int)) :
    ((convert 57 9 (.slice (some ⟨w.heap.size, 0, none⟩) 1 1)).run Tryz.prog (w.alloc (.cells #[.int .u8 (L : Int)] 5)).drew = .ok (.string ⟨#[b]⟩) (w.alloc (.cells #[.int .u8 (L : Int)] 5)).drew) ∧
    ((convert 57 9 (.slice (some ⟨w.heap.size, 0, none⟩) N N)).run Tryz.prog ((w.alloc (.cells (madeCells #[.int .u8 0] N) 5)).alloc (.cells #[.int .u8 (L : Int)] 5)).drew = .ok (.string (Sec.zB N)) ((w.alloc (.cells (madeCells #[.int .u8 0] N) 5)).alloc (.cells #[.int .u8 (L : Int)] 5)).drew) ∧
    ((convert 57 9 (.slice (some ⟨w.heap.size + 1, 0, none⟩) 1 1)).run Tryz.prog ((w.alloc (.cells (madeCells #[.int .u8 0] N) 5)).alloc (.cells #[.int .u8 (L : Int)] 5)).drew = .ok (.string ⟨#[b]⟩) ((w.alloc (.cells (madeCells #[.int .u8 0] N) 5)).alloc (.cells #[.int .u8 (L : Int)] 5)).drew) ∧
    ((convert 57 9 (.slice (some ⟨w.heap.size, 0, none⟩) 1 1)).run Tryz.prog ((w.alloc (.cells #[.int .u8 (L : Int)] 5)).alloc (.cells (madeCells #[.int .u8 0] N) 5)).drew = .ok (.string ⟨#[b]⟩) ((w.alloc (.cells #[.int .u8 (L : Int)] 5)).alloc (.cells (madeCells #[.int .u8 0] N) 5)).drew) ∧
    ((convert 57 9 (.slice (some ⟨w.heap.size + 1, 0, none⟩) N N)).run Tryz.prog ((w.alloc (.cells #[.int .u8 (L : Int)] 5)).alloc (.cells (madeCells #[.int .u8 0] N) 5)).drew = .ok (.string (Sec.zB N)) ((w.alloc (.cells #[.int .u8 (L : Int)] 5)).alloc (.cells (madeCells #[.int .u8 0] N) 5)).drew) := by
  rw [← hb]
  have n1 : ∀ (o : Obj), (w.alloc o).heap.size = w.heap.size + 1 := fun o => by simp
  have old : ∀ (o p : Obj), ((w.alloc o).alloc p).heap[w.heap.size]? = (w.alloc o).heap[w.heap.size]? := fun o p => Below.heap_alloc (w.alloc o) _ _ (by simp)
  refine ⟨rd_conv1 b _ _ (heap_alloc_new w _), rd_conv0 N _ _ ((old _ _).trans (heap_alloc_new w _)), ?_, rd_conv1 b _ _ ((old _ _).trans (heap_alloc_new w _)), ?_⟩
  · exact rd_conv1 b _ _ (by rw [← n1]; exact heap_alloc_new _ _)
  · exact rd_conv0 N _ _ (by rw [← n1]; exact heap_alloc_new _ _)

set_option maxHeartbeats 2000000 in
set_option maxRecDepth 20000 in
theorem kmade (s : ByteArray) (hs : s.size ≤ 1000000) (k : Nat) (hk : k ≤ 100000) (w : World) :
    Calls Tryz.prog 58 #[.string s, .int .i64 (k : Int)] w fun e w' => e = .returned (.string ⟨(Book.made s.data.toList k).toArray⟩) ∧ Below w.heap.size w w' := by
  have hs1 : (s.size : Int) ≤ 1000000 := by omega
  have hk1 : (k : Int) ≤ 100000 := by omega
  have hk0 : (0 : Int) ≤ (k : Int) := by omega
  obtain ⟨A, hA⟩ : ∃ A, A = min s.size (k * 127) := ⟨_, rfl⟩
  obtain ⟨B, hB⟩ : ∃ B, B = min s.size ((k + 1) * 127) := ⟨_, rfl⟩
  have e1 : min (s.size : Int) ((k : Int) * 127) = (A : Int) := by omega
  have e2 : min (s.size : Int) (((k : Int) + 1) * 127) = (B : Int) := by omega
  have hAB : A ≤ B := by omega
  have hBs : B ≤ s.size := by omega
  have hABi : (A : Int) ≤ (B : Int) := by omega
  have hBsi : (B : Int) ≤ (s.size : Int) := by omega
  have ht : (s.extract A B).size ≤ 127 := by rw [ByteArray.size_extract]; omega
  obtain ⟨T, hT⟩ : ∃ T, T = s.extract A B := ⟨_, rfl⟩
  rw [← hT] at ht
  have HT := Lib.hid hT
  obtain ⟨N, hN⟩ : ∃ N, N = 127 - T.size := ⟨_, rfl⟩
  obtain ⟨b, hb⟩ : ∃ b : UInt8, b = UInt8.ofNat T.size := ⟨_, rfl⟩
  have hbn : b.toNat = T.size := by rw [hb, UInt8.toNat_ofNat']; omega
  have hsub : IntKind.i64.wrap (127 - (T.size : Int)) = (N : Int) := by rw [IntKind.wrap_i64]; omega
  have hmk := run_make_row' (P := Tryz.prog) 57 5 (.int .u8 0) 1 Tryz.underlying57 byte_info1 rfl .i64 .i64 N (by omega) (by omega)
  have hti : (T.size : Int) ≤ 127 := by omega
  have hzs : (Sec.zB N).size ≤ 127 := by rw [Sec.zB_size]; omega
  have c1 : (convert 57 9 (.slice (some ⟨w.heap.size, 0, none⟩) N N)).run Tryz.prog (w.alloc (.cells (madeCells #[.int .u8 0] N) 5)).drew = .ok (.string (Sec.zB N)) (w.alloc (.cells (madeCells #[.int .u8 0] N) 5)).drew := rd_conv0 N w.heap.size _ (heap_alloc_new w _)
  have hbI : (b.toNat : Int) = (T.size : Int) := by omega
  obtain ⟨c2, c3, c4, c5, c6⟩ := kconvs w N b T.size hbI
  have hno1 : ¬ 9223372036854775807 < T.size + (Sec.zB N).size := by omega
  have hno2 : ¬ 9223372036854775807 < T.size + (Sec.zB N).size + 1 := by omega
  have HM : Hid (IntKind.i64.wrap (127 - (T.size : Int)) = (N : Int)) := hsub
  have hTd : T.data.toList = Book.part s.data.toList k := by
    rw [hT, Lib.extract_data, hA, hB]
    exact Book.part_ends s.data.toList k
  have hTl : (Book.part s.data.toList k).length = T.size := by rw [← hTd]; rfl
  have hfin : T ++ Sec.zB N ++ ⟨#[b]⟩ = ⟨(Book.made s.data.toList k).toArray⟩ := by
    apply ByteArray.ext
    rw [ByteArray.data_append, ByteArray.data_append]
    apply Array.ext'
    rw [Book.made, hTl, ← hTd, ← hN, ← hb]
    simp [Sec.zB]
  have HFIN := Lib.hid hfin
  clear hA hB hT hb hN hTd hTl hfin
  go_enter Tryz.func58, Tryz.ntmps58
  go_wp2_with fail
  rw [← HT.out]
  go_region
  all_goals
    simp only [Exit.then]
    go_at_K
    go_wp2_with fail
    go_ret
    refine ⟨by rw [← HFIN.out]; rfl, ?_⟩
  · exact (((Below.refl _ _).alloc (Nat.le_refl _) _).alloc (by simp) _).drew
  · exact (((Below.refl _ _).alloc (Nat.le_refl _) _).alloc (by simp) _).drew
end Go.Proofs.YtdmelkphankfiaaGreat
end

section
namespace Go.Proofs.YtdmelkphankfiaaGreat
open Go.RowKit

set_option maxRecDepth 20000 in
set_option maxHeartbeats 1000000 in
theorem ktexts (l m : List ByteArray) (A B : Option Addr) (ca cb : Nat) (w : World) (ha : Lies w w.heap.size A (tcells l)) (hb : Lies w w.heap.size B (tcells m)) (hl : l.length ≤ maxLen) (hm : m.length ≤ maxLen) :
    Calls Tryz.prog 21 #[.slice A l.length ca, .slice B m.length cb] w fun e w' => e = .returned (.bool (decide (l = m))) ∧ Below w.heap.size w w' := by
  unfold maxLen at hl hm
  have HA := Lib.hid ha
  have HB := Lib.hid hb
  clear ha hb
  by_cases hlm : l.length = m.length
  · have hz : ((l.length : Int) != (m.length : Int)) = false := by simp [hlm]
    have HLM := Lib.hid hlm
    clear hlm
    go_enter Tryz.func21, Tryz.ntmps21
    go_wp2_with fail
    go_loopw [5] (fun i wr => ∃ k : Nat, k ≤ l.length ∧ i = .int .i64 k ∧ Hid (l.take k = m.take k) ∧ Below w.heap.size w wr) (fun i _ => l.length - (intOf i).toNat)
    case atStart => exact ⟨0, Nat.zero_le _, rfl, by show _ = _; simp, Below.refl _ _⟩
    case round =>
      obtain ⟨k, hk, rfl, HE, hbel⟩ := hrel
      by_cases hlt : k < l.length
      · have hlt2 : k < m.length := by have := HLM.out; omega
        obtain ⟨p, rfl, hpb, hp0⟩ := (HA.out.below hbel).at_ (tcells_at hlt)
        obtain ⟨q, rfl, hqb, hq0⟩ := (HB.out.below hbel).at_ (tcells_at hlt2)
        have k0 : (0 : Int) ≤ (k : Int) := by omega
        have k1 : (k : Int) < l.length := by omega
        have k2 : (k : Int) < m.length := by omega
        have HS : Hid (l[k] = m[k] → l.take (k + 1) = m.take (k + 1)) := fun e => by
          rw [List.take_succ_eq_append_getElem hlt, List.take_succ_eq_append_getElem hlt2, HE.out, e]
        have HD : Hid (l[k] ≠ m[k] → decide (l = m) = false) := fun hne => by
          rw [decide_eq_false_iff_not]
          intro e
          subst e
          exact hne rfl
        generalize l[k] = x at hp0 HS HD
        generalize m[k] = y at hq0 HS HD
        by_cases e : x = y
        · subst e
          have HS2 := Lib.hid (HS.out rfl)
          clear HD
          go_wp2_with fail
          go_region
          go_wp2_with fail
          go_roundw
          case rel => exact ⟨k + 1, by omega, by go_num, HS2.out, hbel.drew⟩
          case measure => simp [intOf]; omega
        · have e2 : (x.toList == y.toList) = false := by
            rw [beq_eq_false_iff_ne]
            intro h
            rw [Lib.toList_data, Lib.toList_data] at h
            exact e (ByteArray.ext (Array.ext' h))
          have HD2 := Lib.hid (HD.out e)
          clear HS HD
          go_wp2_with fail
          go_region
          go_wp2_with fail
          go_ret
          exact ⟨by rw [HD2.out]; rfl, hbel.drew⟩
      · have HD : Hid (decide (l = m) = true) := by
          show _ = _
          rw [decide_eq_true_iff]
          have h1 := HE.out
          have h2 := HLM.out
          rw [List.take_of_length_le (by omega), List.take_of_length_le (by omega)] at h1
          exact h1
        go_wp2_with fail
        go_ret
        exact ⟨by rw [HD.out]; rfl, hbel⟩
  · have hz : ((l.length : Int) != (m.length : Int)) = true := by simp; omega
    have hne : decide (l = m) = false := by
      rw [decide_eq_false_iff_not]
      intro e
      exact hlm (by rw [e])
    have HNE := Lib.hid hne
    clear hlm hne
    go_enter Tryz.func21, Tryz.ntmps21
    go_wp2_with fail
    go_ret
    exact ⟨by rw [HNE.out]; rfl, Below.refl _ _⟩
end Go.Proofs.YtdmelkphankfiaaGreat
end

section
namespace Go.Proofs.YtdmelkphankfiaaGreat
open Go.RowKit
attribute [local go_sem ↓] Go.wp_at_zero Go.wp_at_succ

/-- The sectors from a, b of them, lie on a disk of n. -/
def Book.fits (n : Nat) (a b : Int) : Bool := decide (0 ≤ a) && decide (1 ≤ b) && decide (a ≤ (n : Int)) && decide (b ≤ (n : Int) - a)

set_option maxHeartbeats 1000000 in
set_option maxRecDepth 20000 in
theorem kmay (R : Sec.Rl) (s : Sec.St) (w : World) (h : Sec.RHas R s w) (hs : s.Ok) (a b : Int) :
    Calls Tryz.prog 45 #[.pointer (some ⟨R.b, 0, none⟩), .int .i64 a, .int .i64 b] w fun e w' => e = .returned (.bool (Book.fits s.n a b)) ∧ Below w.heap.size w w' := by
  have hn2 := hs.n2
  have h0 := h
  unfold Sec.RHas at h0
  obtain ⟨g, cap, hv, _⟩ := h0.g_eq (by rw [Sec.chunks_len]; have := hs.n1; omega)
  have c0 := h0.c0
  rw [hv, Sec.chunks_len] at c0
  clear h h0 hv hs
  by_cases a0 : 0 ≤ a
  · by_cases b1 : 1 ≤ b
    · by_cases an : a ≤ (s.n : Int)
      · have hsub : IntKind.i64.wrap ((s.n : Int) - a) = (s.n : Int) - a := by rw [IntKind.wrap_i64]; omega
        have d1 : decide (0 ≤ a) = true := by simpa using a0
        have d2 : decide (1 ≤ b) = true := by simpa using b1
        have d3 : decide (a ≤ (s.n : Int)) = true := by simpa using an
        by_cases bn : b ≤ (s.n : Int) - a
        · have d4 : decide (b ≤ (s.n : Int) - a) = true := by simpa using bn
          have hf : Book.fits s.n a b = true := by unfold Book.fits; rw [d1, d2, d3, d4]; rfl
          go_enter Tryz.func45, Tryz.ntmps45
          go_wp2_with fail
          go_ret
          exact ⟨by rw [hf]; rfl, Below.refl _ _⟩
        · have d4 : decide (b ≤ (s.n : Int) - a) = false := by simpa using bn
          have hf : Book.fits s.n a b = false := by unfold Book.fits; rw [d1, d2, d3, d4]; rfl
          go_enter Tryz.func45, Tryz.ntmps45
          go_wp2_with fail
          go_ret
          exact ⟨rfl, Below.refl _ _⟩
      · have d3 : decide (a ≤ (s.n : Int)) = false := by simpa using an
        have hf : Book.fits s.n a b = false := by unfold Book.fits; rw [d3]; simp
        go_enter Tryz.func45, Tryz.ntmps45
        go_wp2_with fail
        go_ret
        exact ⟨rfl, Below.refl _ _⟩
    · have d2 : decide (1 ≤ b) = false := by simpa using b1
      have hf : Book.fits s.n a b = false := by unfold Book.fits; rw [d2]; simp
      go_enter Tryz.func45, Tryz.ntmps45
      go_wp2_with fail
      go_ret
      exact ⟨rfl, Below.refl _ _⟩
  · have d1 : decide (0 ≤ a) = false := by simpa using a0
    have hf : Book.fits s.n a b = false := by unfold Book.fits; rw [d1]; simp
    go_enter Tryz.func45, Tryz.ntmps45
    go_wp2_with fail
    go_ret
    exact ⟨rfl, Below.refl _ _⟩
end Go.Proofs.YtdmelkphankfiaaGreat
end
