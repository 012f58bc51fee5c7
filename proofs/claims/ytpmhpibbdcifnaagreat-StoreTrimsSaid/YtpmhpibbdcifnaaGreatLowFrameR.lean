/-
  Contracts of frame.textAt and frame.Read.
  The contract of frame.Read.
-/
import Derived.Test.YtpmhpibbdcifnaaGreatLowFrameRef
import Derived.Test.YtpmhpibbdcifnaaGreatLowWireR
import Derived.Test.YtpmhpibbdcifnaaGreatLowSum
import Derived.BigQuiet
import Derived.Deep.RegionWith
import Derived.Deep.DrawnRows
import Derived.Deep.RegionHeld3
import Derived.Deep.DeepCutAuto
import Derived.WalkSmall
section
namespace Go.Proofs.YtpmhpibbdcifnaaGreat
open Go.RowKit

namespace Frame
/-- What textAt answers. -/
def txt (s : ByteArray) (m : Int) : ByteArray × Nat × Nat :=
  if (Num.rd (s.extract 2 s.size).data.toList).2.2 = 10 then (⟨#[]⟩, 0, 40)
  else if (Num.rd (s.extract 2 s.size).data.toList).2.2 ≠ 0 then (⟨#[]⟩, 0, 8)
  else if m < 0 ∨ m < (Num.rd (s.extract 2 s.size).data.toList).1 then (⟨#[]⟩, 0, 4)
  else if s.size < 2 + (Num.rd (s.extract 2 s.size).data.toList).2.1 + (Num.rd (s.extract 2 s.size).data.toList).1 + 4 then (⟨#[]⟩, 0, 40)
  else (s.extract (2 + (Num.rd (s.extract 2 s.size).data.toList).2.1) (2 + (Num.rd (s.extract 2 s.size).data.toList).2.1 + (Num.rd (s.extract 2 s.size).data.toList).1), 2 + (Num.rd (s.extract 2 s.size).data.toList).2.1 + (Num.rd (s.extract 2 s.size).data.toList).1, 0)

/-- As a value. -/
def tval (r : ByteArray × Nat × Nat) : Value := .tuple #[.string r.1, .int .i64 (r.2.1 : Int), .int .i64 (r.2.2 : Int)]

theorem ex_ex (s : ByteArray) (a b c d : Nat) (h : a + d ≤ b) : (s.extract a b).extract c d = s.extract (a + c) (a + d) := by
  apply ByteArray.ext
  apply Array.ext'
  rw [Lib.extract_data, Lib.extract_data, Lib.extract_data, List.drop_take, List.drop_drop, List.take_take, Nat.add_sub_add_left]
  congr 1
  omega
end Frame

set_option maxRecDepth 20000 in
set_option maxHeartbeats 1000000 in
theorem textAt_bad (s : ByteArray) (m : Int) (w : World) (hs : s.size ≤ 1000000) (h2 : 2 ≤ s.size) (m0 : -9223372036854775808 ≤ m) (m1 : m ≤ 131072) (g : Nat) (hg : g ≠ 0) (t : ByteArray) (ht : t.size ≤ maxLen) (hT : Wire.text m (s.extract 2 s.size) 0 = (⟨#[]⟩, t, g)) (r : Nat) (hr : (g = 10 ∧ r = 40) ∨ (g ≠ 10 ∧ r = g)) :
    Calls Tryz.prog 111 #[.string s, .int .i64 m] w fun e w' => e = .returned (Frame.tval (⟨#[]⟩, 0, r)) ∧ Below w.heap.size w w' := by
  have hm : (s.size : Int) ≤ 1000000 := by omega
  have h2i : (2 : Int) ≤ s.size := by omega
  have hqm : (s.extract 2 s.size).size ≤ maxLen := by rw [ByteArray.size_extract]; unfold maxLen; omega
  have HQ := Lib.hid hqm
  have HT := Lib.hid hT
  have HTS := Lib.hid ht
  clear hqm hT ht
  have hg0 : ((g : Int) == 0) = false := by simpa using (by omega : ¬ (g : Int) = 0)
  have hg0' : ((g : Int) != 0) = true := by simpa using (by omega : ¬ (g : Int) = 0)
  rcases hr with ⟨rfl, rfl⟩ | ⟨h10, rfl⟩
  · clear hg hg0 hg0'
    go_enter Tryz.func111, Tryz.ntmps111
    go_wp2_with fail
    refine (new_any _ _).mono ?_
    rintro e w1 ⟨rfl, hr, hb⟩
    have R1 := Lib.hid hr
    have hk1 := hb.size
    have HB1 := Lib.hid hb
    clear hr hb
    go_wp2_with fail
    refine (rText_any m m0 (by omega) _ _ _ _ R1.out HQ.out (.inl (by omega))).mono ?_
    rw [HT.out]
    rintro e w2 ⟨rfl, hA⟩
    have R2 := Lib.hid hA.1
    have HG2 := Lib.hid (HB1.out.grown hA.2 hk1 (fun k h => by injection h; omega))
    clear hA
    go_wp2_with fail
    refine (err_any _ _ _ _ R2.out).mono ?_
    rintro e w' ⟨rfl, rfl⟩
    go_wp2_with fail
    exact bodyPost_ret (v := Frame.tval (⟨#[]⟩, 0, 40)) (by simp [results, Tryz.results111, go_sem, Frame.tval]) rfl ⟨rfl, HG2.out⟩
  · have h10b : ((r : Int) == 10) = false := by simpa using (by omega : ¬ (r : Int) = 10)
    clear hg h10
    go_enter Tryz.func111, Tryz.ntmps111
    go_wp2_with fail
    refine (new_any _ _).mono ?_
    rintro e w1 ⟨rfl, hr, hb⟩
    have R1 := Lib.hid hr
    have hk1 := hb.size
    have HB1 := Lib.hid hb
    clear hr hb
    go_wp2_with fail
    refine (rText_any m m0 (by omega) _ _ _ _ R1.out HQ.out (.inl (by omega))).mono ?_
    rw [HT.out]
    rintro e w2 ⟨rfl, hA⟩
    have R2 := Lib.hid hA.1
    have HG2 := Lib.hid (HB1.out.grown hA.2 hk1 (fun k h => by injection h; omega))
    clear hA
    go_wp2_with fail
    refine (err_any _ _ _ _ R2.out).mono ?_
    rintro e w' ⟨rfl, rfl⟩
    go_wp2_with fail
    exact bodyPost_ret (v := Frame.tval (⟨#[]⟩, 0, r)) (by simp [results, Tryz.results111, go_sem, Frame.tval]) rfl ⟨rfl, HG2.out⟩

set_option maxRecDepth 20000 in
set_option maxHeartbeats 1000000 in
theorem textAt_left (s : ByteArray) (m : Int) (w : World) (hs : s.size ≤ 1000000) (h2 : 2 ≤ s.size) (m0 : -9223372036854775808 ≤ m) (m1 : m ≤ 131072) (T t : ByteArray) (hl : t.size ≤ s.size) (hT : Wire.text m (s.extract 2 s.size) 0 = (T, t, 0)) (r : ByteArray × Nat × Nat) (hr : (t.size < 4 ∧ r = (⟨#[]⟩, 0, 40)) ∨ (4 ≤ t.size ∧ r = (T, s.size - t.size, 0))) :
    Calls Tryz.prog 111 #[.string s, .int .i64 m] w fun e w' => e = .returned (Frame.tval r) ∧ Below w.heap.size w w' := by
  have hm : (s.size : Int) ≤ 1000000 := by omega
  have h2i : (2 : Int) ≤ s.size := by omega
  have hqm : (s.extract 2 s.size).size ≤ maxLen := by rw [ByteArray.size_extract]; unfold maxLen; omega
  have hti : (t.size : Int) ≤ s.size := by omega
  have HQ := Lib.hid hqm
  have HT := Lib.hid hT
  clear hqm hT
  rcases hr with ⟨h4, rfl⟩ | ⟨h4, rfl⟩
  · have h4i : (t.size : Int) < 4 := by omega
    clear h4
    go_enter Tryz.func111, Tryz.ntmps111
    go_wp2_with fail
    refine (new_any _ _).mono ?_
    rintro e w1 ⟨rfl, hr, hb⟩
    have R1 := Lib.hid hr
    have hk1 := hb.size
    have HB1 := Lib.hid hb
    clear hr hb
    go_wp2_with fail
    refine (rText_any m m0 (by omega) _ _ _ _ R1.out HQ.out (.inl (by omega))).mono ?_
    rw [HT.out]
    rintro e w2 ⟨rfl, hA⟩
    have R2 := Lib.hid hA.1
    have HG2 := Lib.hid (HB1.out.grown hA.2 hk1 (fun k h => by injection h; omega))
    clear hA
    go_wp2_with fail
    refine (err_any _ _ _ _ R2.out).mono ?_
    rintro e w' ⟨rfl, rfl⟩
    go_wp2_with fail
    refine (rleft_any _ _ _ _ R2.out).mono ?_
    rintro e w' ⟨rfl, rfl⟩
    go_wp2_with fail
    exact bodyPost_ret (v := Frame.tval (⟨#[]⟩, 0, 40)) (by simp [results, Tryz.results111, go_sem, Frame.tval]) rfl ⟨rfl, HG2.out⟩
  · have h4i : ¬ (t.size : Int) < 4 := by omega
    have hcast : ((s.size : Int) - t.size) = ((s.size - t.size : Nat) : Int) := by omega
    have HC := Lib.hid hcast
    clear h4 hcast
    go_enter Tryz.func111, Tryz.ntmps111
    go_wp2_with fail
    refine (new_any _ _).mono ?_
    rintro e w1 ⟨rfl, hr, hb⟩
    have R1 := Lib.hid hr
    have hk1 := hb.size
    have HB1 := Lib.hid hb
    clear hr hb
    go_wp2_with fail
    refine (rText_any m m0 (by omega) _ _ _ _ R1.out HQ.out (.inl (by omega))).mono ?_
    rw [HT.out]
    rintro e w2 ⟨rfl, hA⟩
    have R2 := Lib.hid hA.1
    have HG2 := Lib.hid (HB1.out.grown hA.2 hk1 (fun k h => by injection h; omega))
    clear hA
    go_wp2_with fail
    refine (err_any _ _ _ _ R2.out).mono ?_
    rintro e w' ⟨rfl, rfl⟩
    go_wp2_with fail
    refine (rleft_any _ _ _ _ R2.out).mono ?_
    rintro e w' ⟨rfl, rfl⟩
    go_wp2_with fail
    refine (rleft_any _ _ _ _ R2.out).mono ?_
    rintro e w' ⟨rfl, rfl⟩
    go_wp2_with fail
    refine bodyPost_ret (v := .tuple #[.string T, .int .i64 ((s.size : Int) - t.size), .int .i64 0]) (by simp [results, Tryz.results111, go_sem]) rfl ⟨?_, HG2.out⟩
    rw [HC.out]
    rfl

theorem Frame.text_bad {m : Int} {q : ByteArray} {x n g : Nat} (hR : Num.rd q.data.toList = (x, n, g)) (hg : g ≠ 0) : Wire.text m q 0 = (⟨#[]⟩, q, g) := by
  unfold Wire.text
  rw [Wire.step_bad hR hg]
  simp only [Wire.extract00, Wire.extract_all]
theorem Frame.text_wrong {m : Int} {q : ByteArray} {x n g : Nat} (hR : Num.rd q.data.toList = (x, n, 0)) (hw : Wire.wC m x (q.size - n) = g) (hg : g ≠ 0) : Wire.text m q 0 = (⟨#[]⟩, q, g) := by
  unfold Wire.text
  rw [Wire.step_wrong hR hw hg]
  simp only [Wire.extract00, Wire.extract_all]
theorem Frame.text_ok {m : Int} {q : ByteArray} {x n : Nat} (hR : Num.rd q.data.toList = (x, n, 0)) (hw : Wire.wC m x (q.size - n) = 0) : Wire.text m q 0 = ((q.extract n q.size).extract 0 x, (q.extract n q.size).extract x (q.extract n q.size).size, 0) := by
  unfold Wire.text
  rw [Wire.step_ok hR hw]

theorem textAt_any (s : ByteArray) (m : Int) (w : World) (hs : s.size ≤ 1000000) (h2 : 2 ≤ s.size) (m0 : -9223372036854775808 ≤ m) (m1 : m ≤ 131072) :
    Calls Tryz.prog 111 #[.string s, .int .i64 m] w fun e w' => e = .returned (Frame.tval (Frame.txt s m)) ∧ Below w.heap.size w w' := by
  have hqs : (s.extract 2 s.size).size = s.size - 2 := by rw [ByteArray.size_extract]; omega
  have hqm : (s.extract 2 s.size).size ≤ maxLen := by rw [hqs]; unfold maxLen; omega
  have hbd := Num.rd_bound (s.extract 2 s.size).data.toList
  unfold Frame.txt
  generalize hR : Num.rd (s.extract 2 s.size).data.toList = R at hbd
  obtain ⟨x, n, g⟩ := R
  simp only [] at hbd ⊢
  obtain ⟨hq1, hn10, hx64, hg3, hz⟩ := hbd
  have hnq : n ≤ s.size - 2 := by
    have l : (s.extract 2 s.size).data.toList.length = (s.extract 2 s.size).size := by simp
    omega
  by_cases hg : g = 0
  · subst hg
    rw [if_neg (by decide), if_neg (by decide)]
    by_cases hm : m < 0 ∨ m < (x : Int)
    · rw [if_pos hm]
      exact textAt_bad s m w hs h2 m0 m1 4 (by decide) _ hqm (Frame.text_wrong hR (Wire.wC_long hm) (by decide)) 4 (.inr ⟨by decide, rfl⟩)
    · rw [if_neg hm]
      by_cases hb : (s.extract 2 s.size).size - n < x
      · rw [if_pos (by omega)]
        exact textAt_bad s m w hs h2 m0 m1 10 (by decide) _ hqm (Frame.text_wrong hR (Wire.wC_short hm hb) (by decide)) 40 (.inl ⟨rfl, rfl⟩)
      · have ht := Frame.text_ok hR (Wire.wC_ok hm hb)
        have e1 : (s.extract 2 s.size).extract n (s.extract 2 s.size).size = s.extract (2 + n) s.size := by
          rw [Frame.ex_ex _ _ _ _ _ (by omega), hqs, show 2 + (s.size - 2) = s.size from by omega]
        have e2 : (s.extract (2 + n) s.size).size = s.size - (2 + n) := by rw [ByteArray.size_extract]; omega
        rw [e1, e2, Frame.ex_ex _ _ _ _ _ (by omega), Frame.ex_ex _ _ _ _ _ (by omega)] at ht
        have e3 : (s.extract (2 + n + x) (2 + n + (s.size - (2 + n)))).size = s.size - (2 + n + x) := by rw [ByteArray.size_extract]; omega
        refine textAt_left s m w hs h2 m0 m1 _ _ (by rw [e3]; omega) ht _ ?_
        by_cases h4 : s.size < 2 + n + x + 4
        · exact .inl ⟨by rw [e3]; omega, by rw [if_pos h4]⟩
        · refine .inr ⟨by rw [e3]; omega, ?_⟩
          rw [if_neg h4, e3, show s.size - (s.size - (2 + n + x)) = 2 + n + x from by omega]
          rfl
  · by_cases h10 : g = 10
    · rw [if_pos h10]
      subst h10
      exact textAt_bad s m w hs h2 m0 m1 10 (by decide) _ hqm (Frame.text_bad hR (by decide)) 40 (.inl ⟨rfl, rfl⟩)
    · rw [if_neg h10, if_pos hg]
      have h8 : g = 8 := by omega
      subst h8
      exact textAt_bad s m w hs h2 m0 m1 8 (by decide) _ hqm (Frame.text_bad hR (by decide)) 8 (.inr ⟨by decide, rfl⟩)
end Go.Proofs.YtpmhpibbdcifnaaGreat
end

section
namespace Go.Proofs.YtpmhpibbdcifnaaGreat
open Go.RowKit

namespace Frame
theorem txt_bad (s : ByteArray) (most m : Int) (hm : m = if most ≤ 131072 then most else 131072) (h2 : 2 ≤ s.size) (hv : s[0] = 1) (h : (txt s m).2.2 ≠ 0) : rd s.data.toList most = bad (txt s m).2.2 := by
  have h2' := two s h2
  have hrd := rd_two s[1] (s.extract 2 s.size).data.toList most
  rw [← hv, ← h2'] at hrd
  have hbd := Num.rd_bound (s.extract 2 s.size).data.toList
  have hl : s.data.toList.length = s.size := by simp
  unfold txt at h ⊢
  rw [hrd]
  generalize Num.rd (s.extract 2 s.size).data.toList = R at hbd h ⊢
  obtain ⟨x, n, g⟩ := R
  simp only [] at hbd h ⊢
  by_cases h10 : g = 10
  · rw [if_pos h10, if_pos h10]
  · rw [if_neg h10] at h ⊢
    rw [if_neg h10]
    by_cases h0 : g ≠ 0
    · rw [if_pos h0, if_pos h0]
    · rw [if_neg h0] at h ⊢
      rw [if_neg h0]
      have hiff : (m < 0 ∨ m < (x : Int)) ↔ (most < 0 ∨ most < (x : Int) ∨ 131072 < x) := by
        rw [hm]
        split <;> omega
      by_cases hc : m < 0 ∨ m < (x : Int)
      · rw [if_pos hc, if_pos (hiff.1 hc)]
      · rw [if_neg hc] at h ⊢
        rw [if_neg (fun k => hc (hiff.2 k))]
        by_cases hs : s.size < 2 + n + x + 4
        · rw [if_pos hs, if_pos (by omega)]
        · rw [if_neg hs] at h
          exact absurd rfl h

theorem txt_ok (s : ByteArray) (most m : Int) (hm : m = if most ≤ 131072 then most else 131072) (h2 : 2 ≤ s.size) (hv : s[0] = 1) (h : (txt s m).2.2 = 0) : (txt s m).2.1 + 4 ≤ s.size ∧
    rd s.data.toList most = if (s.extract (txt s m).2.1 ((txt s m).2.1 + 4)).toList ≠ (Crc.four (Crc.on 0 (s.extract 0 (txt s m).2.1).data.toList)).toList then bad 41 else (s[1], (txt s m).1.data.toList, (txt s m).2.1 + 4, 0) := by
  have h2' := two s h2
  have hrd := rd_two s[1] (s.extract 2 s.size).data.toList most
  rw [← hv, ← h2'] at hrd
  have hbd := Num.rd_bound (s.extract 2 s.size).data.toList
  have hl : s.data.toList.length = s.size := by simp
  unfold txt at h ⊢
  rw [hrd]
  generalize Num.rd (s.extract 2 s.size).data.toList = R at hbd h ⊢
  obtain ⟨x, n, g⟩ := R
  simp only [] at hbd h ⊢
  by_cases h10 : g = 10
  · rw [if_pos h10] at h; cases h
  · rw [if_neg h10] at h ⊢
    rw [if_neg h10]
    by_cases h0 : g ≠ 0
    · rw [if_pos h0] at h; cases h
    · rw [if_neg h0] at h ⊢
      rw [if_neg h0]
      have hiff : (m < 0 ∨ m < (x : Int)) ↔ (most < 0 ∨ most < (x : Int) ∨ 131072 < x) := by
        rw [hm]
        split <;> omega
      by_cases hc : m < 0 ∨ m < (x : Int)
      · rw [if_pos hc] at h; cases h
      · rw [if_neg hc] at h ⊢
        rw [if_neg (fun k => hc (hiff.2 k))]
        by_cases hs : s.size < 2 + n + x + 4
        · rw [if_pos hs] at h; cases h
        · rw [if_neg hs, if_neg (by omega)]
          simp only []
          refine ⟨by omega, ?_⟩
          have e1 : (s.data.toList.drop (2 + n + x)).take 4 = (s.extract (2 + n + x) (2 + n + x + 4)).toList := by
            rw [Lib.toList_data, Lib.extract_data]
            congr 1
            omega
          have e2 : Crc.fourL (Crc.on 0 (s.data.toList.take (2 + n + x))) = (Crc.four (Crc.on 0 (s.extract 0 (2 + n + x)).data.toList)).toList := by
            rw [Lib.toList_data, Lib.extract_data]
            rfl
          have e3 : (s.data.toList.drop (2 + n)).take x = (s.extract (2 + n) (2 + n + x)).data.toList := by
            rw [Lib.extract_data]
            congr 1
            omega
          rw [e1, e2, e3]
end Frame

set_option maxRecDepth 20000 in
set_option maxHeartbeats 1000000 in
theorem fread_deep (s : ByteArray) (most m : Int) (w : World) (hs : s.size ≤ 1000000) (h2 : 2 ≤ s.size) (hv : s[0] = 1) (m0 : -9223372036854775808 ≤ most)
    (hmm : m = if most ≤ 131072 then most else 131072) :
    Calls Tryz.prog 107 #[.string s, .int .i64 most] w fun e w' => e = .returned (Frame.val (Frame.rd s.data.toList most)) ∧ Below w.heap.size w w' := by
  have hm : (s.size : Int) ≤ 1000000 := by omega
  have hp : 0 < s.size := by omega
  have hv1 : ((s[0].toNat : Int) != 1) = false := by rw [hv]; rfl
  have hge : ¬ (s.size : Int) < 2 := by omega
  have hs0 : ((s.size : Int) == 0) = false := by simpa using (by omega : ¬ (s.size : Int) = 0)
  have hmle : m ≤ 131072 := by rw [hmm]; split <;> omega
  have hm0 : -9223372036854775808 ≤ m := by rw [hmm]; split <;> omega
  have hmin : min most 131072 = m := by rw [hmm]; omega
  have HT := Lib.hid (fun w => textAt_any s m w hs h2 hm0 hmle)
  have HBAD := Lib.hid (Frame.txt_bad s most m hmm h2 hv)
  have HOK := Lib.hid (Frame.txt_ok s most m hmm h2 hv)
  generalize Frame.txt s m = R at HT HBAD HOK
  obtain ⟨T, E, f⟩ := R
  have HV := Lib.hid hv
  clear hmm hv
  by_cases hf : f = 0
  · subst hf
    obtain ⟨hE, hrd⟩ := HOK.out rfl
    simp only [] at hE hrd
    have HE := Lib.hid hrd
    clear HOK HBAD hrd
    go_enter Tryz.func107, Tryz.ntmps107
    go_wp2_with fail
    refine (HT.out _).mono ?_
    unfold Frame.tval
    rintro e w1 ⟨rfl, hb⟩
    obtain ⟨hcl, hfr⟩ := kept_cells hb
    have f0 := hfr w.heap.size 0 (by simp)
    have f1 := hfr w.heap.size 1 (by simp)
    simp [go_sem] at f0 f1
    go_wp2_with fail
    obtain ⟨F, hF⟩ : ∃ F, F = Crc.four (Crc.on 0 (s.extract 0 E).data.toList) := ⟨_, rfl⟩
    have HI : Hid (∀ w : World, Calls Tryz.prog 112 #[.string (s.extract 0 E), .string (s.extract E (E + 4))] w fun e w' => e = .returned (.bool ((s.extract E (E + 4)).toList == F.toList)) ∧ Below w.heap.size w w') := fun w => by
      rw [hF]
      exact is_any _ _ _ (by rw [ByteArray.size_extract]; unfold maxLen; omega)
    rw [← hF] at HE
    have HF := Lib.hid hF
    clear hF hfr
    have k0 : (0 : Int) ≤ (E : Int) := by omega
    have k1 : (E : Int) ≤ (E : Int) + 4 := by omega
    have k2 : (E : Int) + 4 ≤ s.size := by omega
    have k3 : (E : Int) ≤ s.size := by omega
    have k4 : IntKind.i64.wrap ((E : Int) + 4) = (E : Int) + 4 := IntWalk.i64_in _ (by omega)
    have k6 : ((E : Int) + 4).toNat = E + 4 := by omega
    go_cut [46] (fun v wx => v = .bool (!(s.extract E (E + 4)).toList == F.toList) ∧ Below w1.heap.size w1 wx)
    case first =>
      go_region_held3 (fun w' => Below w1.heap.size w1 w') (first | assumption | exact Below.refl _ _ | exact (Below.refl _ _).drew | exact Frame.keep (by assumption) hb2) (
        (go_at_call 112; refine (HI.out _).mono ?_; rintro e w2 ⟨rfl, hb2⟩))
      go_wp2
      go_meet
      exact ⟨rfl, by assumption⟩
    case rest =>
      obtain ⟨hcv, hbel⟩ := hcut
      have hbw := hb.trans (hbel.mono hb.size)
      obtain ⟨hcl, hfr⟩ := kept_cells hbw
      have f0 := hfr w.heap.size 0 (by simp)
      have f1 := hfr w.heap.size 1 (by simp)
      simp [go_sem] at f0 f1
      have c0 : wc.cell? ⟨w.heap.size, 0, none⟩ = some (.int .u8 0) := (hcl w.heap.size 0 (by simp)).trans (by simp [go_sem])
      have c1 : wc.cell? ⟨w.heap.size, 1, none⟩ = some (.string ⟨#[]⟩) := (hcl w.heap.size 1 (by simp)).trans (by simp [go_sem])
      by_cases he : (s.extract E (E + 4)).toList = F.toList
      · have hb1 : (!(s.extract E (E + 4)).toList == F.toList) = false := by simpa using he
        rw [hb1] at hcv
        subst hcv
        clear hb1
        have HN : Hid (Frame.rd s.data.toList most = (s[1], T.data.toList, E + 4, 0)) := by
          show _ = _
          rw [HE.out, if_neg (fun h => h he)]
        clear he
        have j2 : (1 : Int) < s.size := by omega
        go_wp2_with fail
        have c := Frame.cells2 c0 c1 (.int .u8 (s[1].toNat : Int)) (.string T)
        exact bodyPost_ret (v := .tuple #[.agg #[.int .u8 (s[1].toNat : Int), .string T], .int .i64 ((E : Int) + 4), .int .i64 0]) (by simp [results, Tryz.results107, go_sem, c.1, c.2]) rfl ⟨Frame.retV (by rw [HN.out]; exact Frame.val_ok _ _ _ (by omega)), ((((((Below.refl w.heap.size w).alloc (Nat.le_refl _) _).trans (hbw.mono (by simp))).setCell (by simp) _).setCell (by simp) _))⟩
      · have hb1 : (!(s.extract E (E + 4)).toList == F.toList) = true := by simpa using he
        rw [hb1] at hcv
        subst hcv
        clear hb1
        have HN : Hid (Frame.rd s.data.toList most = Frame.bad 41) := by
          show _ = _
          rw [HE.out, if_pos he]
        clear he
        go_wp2_with fail
        have c := Frame.cells2 c0 c1 (.int .u8 0) (.string ⟨#[]⟩)
        exact bodyPost_ret (v := .tuple #[.agg #[.int .u8 0, .string ⟨#[]⟩], .int .i64 0, .int .i64 41]) (by simp [results, Tryz.results107, go_sem, c.1, c.2]) rfl ⟨Frame.retV (by rw [HN.out]; rfl), ((((Below.refl w.heap.size w).alloc (Nat.le_refl _) _).trans (hbw.mono (by simp))).setCell (by simp) _).setCell (by simp) _⟩
  · have HF := Lib.hid (HBAD.out hf)
    simp only [] at HF
    have hfb : ((f : Int) != 0) = true := by simpa using (by omega : ¬ (f : Int) = 0)
    clear HOK HBAD hf
    go_enter Tryz.func107, Tryz.ntmps107
    go_wp2_with fail
    refine (HT.out _).mono ?_
    unfold Frame.tval
    rintro e w1 ⟨rfl, hb⟩
    obtain ⟨hcl, hfr⟩ := kept_cells hb
    have f0 := hfr w.heap.size 0 (by simp)
    have f1 := hfr w.heap.size 1 (by simp)
    simp [go_sem] at f0 f1
    go_wp2_with fail
    have c := Frame.cells2 (a := .int .u8 0) (b := .string ⟨#[]⟩) ((hcl w.heap.size 0 (by simp)).trans (by simp [go_sem])) ((hcl w.heap.size 1 (by simp)).trans (by simp [go_sem])) (.int .u8 0) (.string ⟨#[]⟩)
    exact bodyPost_ret (v := .tuple #[.agg #[.int .u8 0, .string ⟨#[]⟩], .int .i64 0, .int .i64 f]) (by simp [results, Tryz.results107, go_sem, c.1, c.2]) rfl ⟨Frame.retV (by rw [HF.out]; rfl), ((((Below.refl w.heap.size w).alloc (Nat.le_refl _) _).trans (hb.mono (by simp))).setCell (by simp) _).setCell (by simp) _⟩

set_option maxRecDepth 20000 in
set_option maxHeartbeats 1000000 in
theorem fread_any (s : ByteArray) (most : Int) (w : World) (hs : s.size ≤ 1000000) (m0 : -9223372036854775808 ≤ most) :
    Calls Tryz.prog 107 #[.string s, .int .i64 most] w fun e w' => e = .returned (Frame.val (Frame.rd s.data.toList most)) ∧ Below w.heap.size w w' := by
  have hm : (s.size : Int) ≤ 1000000 := by omega
  by_cases h0 : s.size = 0
  · have hs0 : s = ⟨#[]⟩ := by
      apply ByteArray.ext
      exact Array.eq_empty_of_size_eq_zero h0
    subst hs0
    go_enter Tryz.func107, Tryz.ntmps107
    go_wp2_with fail
    exact bodyPost_ret (v := .tuple #[.agg #[.int .u8 0, .string ⟨#[]⟩], .int .i64 0, .int .i64 40]) (by simp [results, Tryz.results107, go_sem]) rfl ⟨rfl, by first | exact (Below.refl _ _).alloc (Nat.le_refl _) _ | exact (((Below.refl _ _).alloc (Nat.le_refl _) _).setCell (by simp) _).setCell (by simp) _⟩
  have hp : 0 < s.size := by omega
  by_cases hv : s[0] = 1
  · by_cases h1 : s.size = 1
    · have hv1 : ((s[0].toNat : Int) != 1) = false := by rw [hv]; rfl
      have hlt : (s.size : Int) < 2 := by omega
      have hs0 : ((s.size : Int) == 0) = false := by simpa using (by omega : ¬ (s.size : Int) = 0)
      have HR : Hid (Frame.rd s.data.toList most = Frame.bad 40) := by
        show _ = _
        rw [Frame.one s h1, hv]; rfl
      clear h1 h0 hv
      go_enter Tryz.func107, Tryz.ntmps107
      go_wp2_with fail
      exact bodyPost_ret (v := .tuple #[.agg #[.int .u8 0, .string ⟨#[]⟩], .int .i64 0, .int .i64 40]) (by simp [results, Tryz.results107, go_sem]) rfl ⟨Frame.retV (by rw [HR.out]; rfl), by first | exact (Below.refl _ _).alloc (Nat.le_refl _) _ | exact (((Below.refl _ _).alloc (Nat.le_refl _) _).setCell (by simp) _).setCell (by simp) _⟩
    · exact fread_deep s most _ w hs (by omega) hv m0 rfl
  · have hv1 : ((s[0].toNat : Int) != 1) = true := by
      rw [bne_iff_ne]
      intro h
      apply hv
      have e1 : (1 : UInt8).toNat = 1 := rfl
      exact UInt8.toNat_inj.1 (by omega)
    have hs0 : ((s.size : Int) == 0) = false := by simpa using (by omega : ¬ (s.size : Int) = 0)
    have HR : Hid (Frame.rd s.data.toList most = Frame.bad 42) := by
      show _ = _
      have hl : s.data.toList.length = s.size := by simp
      rw [← List.drop_zero (l := s.data.toList), List.drop_eq_getElem_cons (by omega)]
      exact Frame.rd_foreign _ _ hv
    clear h0 hv
    go_enter Tryz.func107, Tryz.ntmps107
    go_wp2_with fail
    exact bodyPost_ret (v := .tuple #[.agg #[.int .u8 0, .string ⟨#[]⟩], .int .i64 0, .int .i64 42]) (by simp [results, Tryz.results107, go_sem]) rfl ⟨Frame.retV (by rw [HR.out]; rfl), by first | exact (Below.refl _ _).alloc (Nat.le_refl _) _ | exact (((Below.refl _ _).alloc (Nat.le_refl _) _).setCell (by simp) _).setCell (by simp) _⟩
end Go.Proofs.YtpmhpibbdcifnaaGreat
end
