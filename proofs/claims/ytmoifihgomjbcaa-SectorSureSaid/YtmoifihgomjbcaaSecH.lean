/-
  The contract of layer 5's 'front', where it is true.
-/
import Derived.Test.YtmoifihgomjbcaaSecS
import Derived.Deep.OwnRows
namespace Go.Proofs.Ytmoifihgomjbcaa
open Go.RowKit
attribute [local go_sem ↓] Go.wp_at_zero Go.wp_at_succ

namespace Sec
def padB (t : ByteArray) : ByteArray := ⟨(pad t.data.toList).toArray⟩
def zerB (n : Nat) : ByteArray := ⟨(List.replicate n 0).toArray⟩
theorem padB_size {t : ByteArray} (h : t.size ≤ 128) : (padB t).size = 128 := by
  show (pad t.data.toList).toArray.size = 128
  rw [List.size_toArray, pad_len h]
theorem padB_front {t : ByteArray} : (padB t).extract 0 t.size = t := by
  apply ByteArray.ext
  rw [ByteArray.data_extract]
  apply Array.ext'
  have hl : t.data.toList.length = t.size := rfl
  simp only [padB, pad, Array.toList_extract, List.toList_toArray, List.extract_eq_take_drop, List.drop_zero, Nat.sub_zero]
  rw [List.take_left' hl]
theorem padB_rest {t : ByteArray} : (padB t).extract t.size 128 = zerB (128 - t.size) := by
  apply ByteArray.ext
  rw [ByteArray.data_extract]
  apply Array.ext'
  have hl : t.data.toList.length = t.size := rfl
  simp only [padB, pad, zerB, Array.toList_extract, List.toList_toArray, List.extract_eq_take_drop]
  rw [List.drop_left' hl, List.take_of_length_le (by simp [hl]), hl]
end Sec

theorem sec_conv0 (n : Nat) (w w' : World) (h : w'.heap[w.heap.size]? = some (.cells (madeCells #[.int .u8 0] n) 5 (0, 0))) :
    (convert 61 9 (.slice (some ⟨w.heap.size, 0, none⟩) n n)).run Try.prog w' = .ok (.string (Sec.zerB n)) w' := by
  have hr := run_convert_bytes_back (P := Try.prog) w' 61 9 5 ⟨w.heap.size, 0, none⟩ n (List.replicate n 0) Try.underlying61 Try.underlying5 Try.underlying9 (fun j hj => by
    rw [Addr.add_mid, cell_of_row w' _ _ _ _ _ h]
    have hj' : j < n := by simpa using hj
    rw [Array.getElem?_eq_getElem (by simpa [size_madeCells] using hj')]
    simp [madeCells, Nat.mod_one])
  rw [List.length_replicate] at hr
  exact hr

set_option maxHeartbeats 2000000 in
set_option maxRecDepth 20000 in
theorem front_yes (D : Sec.Bl) (s : Sec.St) (w : World) (h : Sec.At D s w) (hs : s.Ok) (hd : s.still = false) (t : ByteArray) (ht : t.size ≤ 128) (hnow : (s.now.drop 0).take 128 = Sec.pad t.data.toList) :
    Calls Try.prog 18 #[D.ptr, .string t] w fun e w' => e = .returned (.bool true) ∧ Below w.heap.size w w' := by
  have H := Lib.hid h
  have HS := Lib.hid hs
  have HD := Lib.hid hd
  have HN : Hid ((⟨((s.now.drop (0 * 128)).take 128).toArray⟩ : ByteArray) = Sec.padB t) := by
    show _ = _
    unfold Sec.padB
    rw [← hnow]
  have hsz := Sec.padB_size ht
  have hx1 := Sec.padB_front (t := t)
  have hx2 := Sec.padB_rest (t := t)
  obtain ⟨N, hN⟩ : ∃ N, N = 128 - t.size := ⟨_, rfl⟩
  have hsub : IntKind.i64.wrap (128 - (t.size : Int)) = (N : Int) := by rw [IntKind.wrap_i64]; omega
  have hmk := run_make_row' (P := Try.prog) 61 5 (.int .u8 0) 1 Try.underlying61 byte_cells rfl .i64 .i64 N (by omega) (by omega)
  have hcv : (convert 61 9 (.slice (some ⟨w.heap.size, 0, none⟩) N N)).run Try.prog (w.alloc (.cells (madeCells #[.int .u8 0] N) 5)).drew = .ok (.string (Sec.zerB N)) (w.alloc (.cells (madeCells #[.int .u8 0] N) 5)).drew := sec_conv0 N w _ (heap_alloc_new w _)
  rw [← hN] at hx2
  clear hN
  have hti : (t.size : Int) ≤ 128 := by omega
  have hq1 : (t.toList == t.toList) = true := by simp
  have hq2 : ((Sec.zerB N).toList == (Sec.zerB N).toList) = true := by simp
  clear h hs hd hnow
  go_enter Try.func18, Try.ntmps18
  go_wp2_with fail
  refine (sec_read D s _ H.out HS.out 0 (by have := HS.out.n1; omega) HD.out).mono ?_
  rintro e w' ⟨rfl, rfl⟩
  rw [HN.out]
  go_wp2_with fail
  go_region
  all_goals
    go_wp2
    go_ret
    exact ⟨rfl, ((Below.refl _ _).alloc (Nat.le_refl _) _).drew⟩
end Go.Proofs.Ytmoifihgomjbcaa
