/-
  Contracts of frame.textAt and frame.Read.
-/
import Derived.Test.YtnalpmiinoohoaaFrameRef
import Derived.Test.YtnalpmiinoohoaaFrameRd
import Derived.Test.YtnalpmiinoohoaaWireD
import Derived.Test.YtnalpmiinoohoaaSumB
import Derived.BigQuiet
import Derived.Deep.RegionWith
import Derived.Deep.DrawnRows
import Derived.Deep.RegionHeld3
import Derived.Deep.DeepCutAuto
import Derived.WalkSmall
namespace Go.Proofs.Ytnalpmiinoohoaa
open Go.RowKit

namespace Frame
/-- What textAt answers. -/
def txt (s : ByteArray) (m : Int) : ByteArray × Nat × Nat :=
  if (Num.rd (s.extract 2 s.size).data.toList).2.2 = 10 then (⟨#[]⟩, 0, 40)
  else if (Num.rd (s.extract 2 s.size).data.toList).2.2 ≠ 0 then (⟨#[]⟩, 0, 8)
  else if m < 0 ∨ m < (Num.rd (s.extract 2 s.size).data.toList).1 then (⟨#[]⟩, 0, 4)
  else if s.size < 2 + (Num.rd (s.extract 2 s.size).data.toList).2.1 + (Num.rd (s.extract 2 s.size).data.toList).1 + 4 then (⟨#[]⟩, 0, 40)
  else (s.extract (2 + (Num.rd (s.extract 2 s.size).data.toList).2.1) (2 + (Num.rd (s.extract 2 s.size).data.toList).2.1 + (Num.rd (s.extract 2 s.size).data.toList).1), 2 + (Num.rd (s.extract 2 s.size).data.toList).2.1 + (Num.rd (s.extract 2 s.size).data.toList).1, 0)

/-- As a value. -/
def tval (r : ByteArray × Nat × Nat) : Value := .tuple #[.string r.1, .int .i64 (r.2.1 : Int), .int .i64 (r.2.2 : Int)]

theorem ex_ex (s : ByteArray) (a b c d : Nat) (h : a + d ≤ b) : (s.extract a b).extract c d = s.extract (a + c) (a + d) := by
  apply ByteArray.ext
  apply Array.ext'
  rw [Lib.extract_data, Lib.extract_data, Lib.extract_data, List.drop_take, List.drop_drop, List.take_take, Nat.add_sub_add_left]
  congr 1
  omega
end Frame

set_option maxRecDepth 20000 in
set_option maxHeartbeats 1000000 in
theorem textAt_bad (s : ByteArray) (m : Int) (w : World) (hs : s.size ≤ 1000000) (h2 : 2 ≤ s.size) (m0 : -9223372036854775808 ≤ m) (m1 : m ≤ 131072) (g : Nat) (hg : g ≠ 0) (t : ByteArray) (ht : t.size ≤ maxLen) (hT : Wire.text m (s.extract 2 s.size) 0 = (⟨#[]⟩, t, g)) (r : Nat) (hr : (g = 10 ∧ r = 40) ∨ (g ≠ 10 ∧ r = g)) :
    Calls Try.prog 26 #[.string s, .int .i64 m] w fun e w' => e = .returned (Frame.tval (⟨#[]⟩, 0, r)) ∧ Below w.heap.size w w' := by
  have hm : (s.size : Int) ≤ 1000000 := by omega
  have h2i : (2 : Int) ≤ s.size := by omega
  have hqm : (s.extract 2 s.size).size ≤ maxLen := by rw [ByteArray.size_extract]; unfold maxLen; omega
  have HQ := Lib.hid hqm
  have HT := Lib.hid hT
  have HTS := Lib.hid ht
  clear hqm hT ht
  have hg0 : ((g : Int) == 0) = false := by simpa using (by omega : ¬ (g : Int) = 0)
  have hg0' : ((g : Int) != 0) = true := by simpa using (by omega : ¬ (g : Int) = 0)
  rcases hr with ⟨rfl, rfl⟩ | ⟨h10, rfl⟩
  · clear hg hg0 hg0'
    go_enter Try.func26, Try.ntmps26
    go_wp2_with fail
    refine (new_any _ _).mono ?_
    rintro e w1 ⟨rfl, hr, hb⟩
    have R1 := Lib.hid hr
    have hk1 := hb.size
    have HB1 := Lib.hid hb
    clear hr hb
    go_wp2_with fail
    refine (rText_any m m0 (by omega) _ _ _ _ R1.out HQ.out (.inl (by omega))).mono ?_
    rw [HT.out]
    rintro e w2 ⟨rfl, hA⟩
    have R2 := Lib.hid hA.1
    have HG2 := Lib.hid (HB1.out.grown hA.2 hk1 (fun k h => by injection h; omega))
    clear hA
    go_wp2_with fail
    refine (err_any _ _ _ _ R2.out).mono ?_
    rintro e w' ⟨rfl, rfl⟩
    go_wp2_with fail
    exact bodyPost_ret (v := Frame.tval (⟨#[]⟩, 0, 40)) (by simp [results, Try.results26, go_sem, Frame.tval]) rfl ⟨rfl, HG2.out⟩
  · have h10b : ((r : Int) == 10) = false := by simpa using (by omega : ¬ (r : Int) = 10)
    clear hg h10
    go_enter Try.func26, Try.ntmps26
    go_wp2_with fail
    refine (new_any _ _).mono ?_
    rintro e w1 ⟨rfl, hr, hb⟩
    have R1 := Lib.hid hr
    have hk1 := hb.size
    have HB1 := Lib.hid hb
    clear hr hb
    go_wp2_with fail
    refine (rText_any m m0 (by omega) _ _ _ _ R1.out HQ.out (.inl (by omega))).mono ?_
    rw [HT.out]
    rintro e w2 ⟨rfl, hA⟩
    have R2 := Lib.hid hA.1
    have HG2 := Lib.hid (HB1.out.grown hA.2 hk1 (fun k h => by injection h; omega))
    clear hA
    go_wp2_with fail
    refine (err_any _ _ _ _ R2.out).mono ?_
    rintro e w' ⟨rfl, rfl⟩
    go_wp2_with fail
    exact bodyPost_ret (v := Frame.tval (⟨#[]⟩, 0, r)) (by simp [results, Try.results26, go_sem, Frame.tval]) rfl ⟨rfl, HG2.out⟩

set_option maxRecDepth 20000 in
set_option maxHeartbeats 1000000 in
theorem textAt_left (s : ByteArray) (m : Int) (w : World) (hs : s.size ≤ 1000000) (h2 : 2 ≤ s.size) (m0 : -9223372036854775808 ≤ m) (m1 : m ≤ 131072) (T t : ByteArray) (hl : t.size ≤ s.size) (hT : Wire.text m (s.extract 2 s.size) 0 = (T, t, 0)) (r : ByteArray × Nat × Nat) (hr : (t.size < 4 ∧ r = (⟨#[]⟩, 0, 40)) ∨ (4 ≤ t.size ∧ r = (T, s.size - t.size, 0))) :
    Calls Try.prog 26 #[.string s, .int .i64 m] w fun e w' => e = .returned (Frame.tval r) ∧ Below w.heap.size w w' := by
  have hm : (s.size : Int) ≤ 1000000 := by omega
  have h2i : (2 : Int) ≤ s.size := by omega
  have hqm : (s.extract 2 s.size).size ≤ maxLen := by rw [ByteArray.size_extract]; unfold maxLen; omega
  have hti : (t.size : Int) ≤ s.size := by omega
  have HQ := Lib.hid hqm
  have HT := Lib.hid hT
  clear hqm hT
  rcases hr with ⟨h4, rfl⟩ | ⟨h4, rfl⟩
  · have h4i : (t.size : Int) < 4 := by omega
    clear h4
    go_enter Try.func26, Try.ntmps26
    go_wp2_with fail
    refine (new_any _ _).mono ?_
    rintro e w1 ⟨rfl, hr, hb⟩
    have R1 := Lib.hid hr
    have hk1 := hb.size
    have HB1 := Lib.hid hb
    clear hr hb
    go_wp2_with fail
    refine (rText_any m m0 (by omega) _ _ _ _ R1.out HQ.out (.inl (by omega))).mono ?_
    rw [HT.out]
    rintro e w2 ⟨rfl, hA⟩
    have R2 := Lib.hid hA.1
    have HG2 := Lib.hid (HB1.out.grown hA.2 hk1 (fun k h => by injection h; omega))
    clear hA
    go_wp2_with fail
    refine (err_any _ _ _ _ R2.out).mono ?_
    rintro e w' ⟨rfl, rfl⟩
    go_wp2_with fail
    refine (rleft_any _ _ _ _ R2.out).mono ?_
    rintro e w' ⟨rfl, rfl⟩
    go_wp2_with fail
    exact bodyPost_ret (v := Frame.tval (⟨#[]⟩, 0, 40)) (by simp [results, Try.results26, go_sem, Frame.tval]) rfl ⟨rfl, HG2.out⟩
  · have h4i : ¬ (t.size : Int) < 4 := by omega
    have hcast : ((s.size : Int) - t.size) = ((s.size - t.size : Nat) : Int) := by omega
    have HC := Lib.hid hcast
    clear h4 hcast
    go_enter Try.func26, Try.ntmps26
    go_wp2_with fail
    refine (new_any _ _).mono ?_
    rintro e w1 ⟨rfl, hr, hb⟩
    have R1 := Lib.hid hr
    have hk1 := hb.size
    have HB1 := Lib.hid hb
    clear hr hb
    go_wp2_with fail
    refine (rText_any m m0 (by omega) _ _ _ _ R1.out HQ.out (.inl (by omega))).mono ?_
    rw [HT.out]
    rintro e w2 ⟨rfl, hA⟩
    have R2 := Lib.hid hA.1
    have HG2 := Lib.hid (HB1.out.grown hA.2 hk1 (fun k h => by injection h; omega))
    clear hA
    go_wp2_with fail
    refine (err_any _ _ _ _ R2.out).mono ?_
    rintro e w' ⟨rfl, rfl⟩
    go_wp2_with fail
    refine (rleft_any _ _ _ _ R2.out).mono ?_
    rintro e w' ⟨rfl, rfl⟩
    go_wp2_with fail
    refine (rleft_any _ _ _ _ R2.out).mono ?_
    rintro e w' ⟨rfl, rfl⟩
    go_wp2_with fail
    refine bodyPost_ret (v := .tuple #[.string T, .int .i64 ((s.size : Int) - t.size), .int .i64 0]) (by simp [results, Try.results26, go_sem]) rfl ⟨?_, HG2.out⟩
    rw [HC.out]
    rfl

theorem Frame.text_bad {m : Int} {q : ByteArray} {x n g : Nat} (hR : Num.rd q.data.toList = (x, n, g)) (hg : g ≠ 0) : Wire.text m q 0 = (⟨#[]⟩, q, g) := by
  unfold Wire.text
  rw [Wire.step_bad hR hg]
  simp only [Wire.extract00, Wire.extract_all]
theorem Frame.text_wrong {m : Int} {q : ByteArray} {x n g : Nat} (hR : Num.rd q.data.toList = (x, n, 0)) (hw : Wire.wC m x (q.size - n) = g) (hg : g ≠ 0) : Wire.text m q 0 = (⟨#[]⟩, q, g) := by
  unfold Wire.text
  rw [Wire.step_wrong hR hw hg]
  simp only [Wire.extract00, Wire.extract_all]
theorem Frame.text_ok {m : Int} {q : ByteArray} {x n : Nat} (hR : Num.rd q.data.toList = (x, n, 0)) (hw : Wire.wC m x (q.size - n) = 0) : Wire.text m q 0 = ((q.extract n q.size).extract 0 x, (q.extract n q.size).extract x (q.extract n q.size).size, 0) := by
  unfold Wire.text
  rw [Wire.step_ok hR hw]

theorem textAt_any (s : ByteArray) (m : Int) (w : World) (hs : s.size ≤ 1000000) (h2 : 2 ≤ s.size) (m0 : -9223372036854775808 ≤ m) (m1 : m ≤ 131072) :
    Calls Try.prog 26 #[.string s, .int .i64 m] w fun e w' => e = .returned (Frame.tval (Frame.txt s m)) ∧ Below w.heap.size w w' := by
  have hqs : (s.extract 2 s.size).size = s.size - 2 := by rw [ByteArray.size_extract]; omega
  have hqm : (s.extract 2 s.size).size ≤ maxLen := by rw [hqs]; unfold maxLen; omega
  have hbd := Num.rd_bound (s.extract 2 s.size).data.toList
  unfold Frame.txt
  generalize hR : Num.rd (s.extract 2 s.size).data.toList = R at hbd
  obtain ⟨x, n, g⟩ := R
  simp only [] at hbd ⊢
  obtain ⟨hq1, hn10, hx64, hg3, hz⟩ := hbd
  have hnq : n ≤ s.size - 2 := by
    have l : (s.extract 2 s.size).data.toList.length = (s.extract 2 s.size).size := by simp
    omega
  by_cases hg : g = 0
  · subst hg
    rw [if_neg (by decide), if_neg (by decide)]
    by_cases hm : m < 0 ∨ m < (x : Int)
    · rw [if_pos hm]
      exact textAt_bad s m w hs h2 m0 m1 4 (by decide) _ hqm (Frame.text_wrong hR (Wire.wC_long hm) (by decide)) 4 (.inr ⟨by decide, rfl⟩)
    · rw [if_neg hm]
      by_cases hb : (s.extract 2 s.size).size - n < x
      · rw [if_pos (by omega)]
        exact textAt_bad s m w hs h2 m0 m1 10 (by decide) _ hqm (Frame.text_wrong hR (Wire.wC_short hm hb) (by decide)) 40 (.inl ⟨rfl, rfl⟩)
      · have ht := Frame.text_ok hR (Wire.wC_ok hm hb)
        have e1 : (s.extract 2 s.size).extract n (s.extract 2 s.size).size = s.extract (2 + n) s.size := by
          rw [Frame.ex_ex _ _ _ _ _ (by omega), hqs, show 2 + (s.size - 2) = s.size from by omega]
        have e2 : (s.extract (2 + n) s.size).size = s.size - (2 + n) := by rw [ByteArray.size_extract]; omega
        rw [e1, e2, Frame.ex_ex _ _ _ _ _ (by omega), Frame.ex_ex _ _ _ _ _ (by omega)] at ht
        have e3 : (s.extract (2 + n + x) (2 + n + (s.size - (2 + n)))).size = s.size - (2 + n + x) := by rw [ByteArray.size_extract]; omega
        refine textAt_left s m w hs h2 m0 m1 _ _ (by rw [e3]; omega) ht _ ?_
        by_cases h4 : s.size < 2 + n + x + 4
        · exact .inl ⟨by rw [e3]; omega, by rw [if_pos h4]⟩
        · refine .inr ⟨by rw [e3]; omega, ?_⟩
          rw [if_neg h4, e3, show s.size - (s.size - (2 + n + x)) = 2 + n + x from by omega]
          rfl
  · by_cases h10 : g = 10
    · rw [if_pos h10]
      subst h10
      exact textAt_bad s m w hs h2 m0 m1 10 (by decide) _ hqm (Frame.text_bad hR (by decide)) 40 (.inl ⟨rfl, rfl⟩)
    · rw [if_neg h10, if_pos hg]
      have h8 : g = 8 := by omega
      subst h8
      exact textAt_bad s m w hs h2 m0 m1 8 (by decide) _ hqm (Frame.text_bad hR (by decide)) 8 (.inr ⟨by decide, rfl⟩)
end Go.Proofs.Ytnalpmiinoohoaa
