/-
  The contract of the document's Scan.
-/
import Derived.Test.YtdmelkphankfiaaGreatLowFrameRef
import Derived.Test.YtdmelkphankfiaaGreatLowFrameS
namespace Go.Proofs.YtdmelkphankfiaaGreat
open Go.RowKit

set_option maxRecDepth 100000 in
set_option maxHeartbeats 2000000 in
theorem frscan_any (s : ByteArray) (most : Int) (w : World) (m0 : -9223372036854775808 ≤ most) (m1 : most ≤ 9223372036854775807) (hs : s.size ≤ 1000000) :
    Calls Tryz.prog 75 #[.string s, .int .i64 most] w (Frame.ScanOut w (Frame.sc s.data.toList most)) := by
  have hm : (s.size : Int) ≤ 1000000 := by omega
  obtain ⟨i0, hi, hz0, hz1, hz2⟩ := info_parts Frame.frame_info
  go_enter Tryz.func75, Tryz.ntmps75
  go_wp2_with fail
  go_loopw [7, 8] (fun L g wr => ∃ (A : Option Addr) (cp p : Nat) (pre : List Frame.Told), L = .slice A pre.length cp ∧ g = .int .i64 p ∧ p ≤ s.size ∧ pre.length ≤ p ∧ Hid (p = Frame.bytes pre) ∧ Hid (Frame.steps s.data.toList most = pre ++ Frame.steps (s.data.toList.drop p) most) ∧ Hid (Frame.allOk pre) ∧
      Hid (wr.ownsRow w.heap.size 115 2 (.slice A pre.length cp) pre.length (Frame.fcells (Frame.frames pre))) ∧ Hid (Below w.heap.size w wr))
    (fun _ g _ => s.size - (intOf g).toNat)
  case atStart => exact ⟨none, 0, 0, [], rfl, rfl, Nat.zero_le _, Nat.zero_le _, by show _ = _; rfl, by show _ = _; rw [List.drop_zero]; rfl, Frame.allOk_nil, World.ownsRow_nil _ _ _ _, Below.refl _ _⟩
  case round =>
    obtain ⟨A, cp, p, pre, rfl, rfl, hp, hpl, HBY, HS, HO, HROW, HW⟩ := hrel
    by_cases hlt : p < s.size
    · generalize hR : Frame.rd (s.extract p s.size).data.toList most = R
      have hRd : ∀ w, Calls Tryz.prog 93 #[.string (s.extract p s.size), .int .i64 most] w fun e w' => e = .returned (Frame.val R) ∧ Below w.heap.size w w' := fun w => by
        rw [← hR]
        exact frread_any _ most w (by rw [ByteArray.size_extract]; omega) m0 m1
      have HRd := Lib.hid hRd
      have hne : s.data.toList.drop p ≠ [] := by
        intro h
        have := congrArg List.length h
        simp at this
        omega
      have hex : (s.extract p s.size).data.toList = s.data.toList.drop p := by
        rw [Lib.extract_data, List.take_of_length_le (by simp)]
      rw [hex] at hR
      have hok : R.2.2.2 = 0 → 7 ≤ R.2.2.1 ∧ p + R.2.2.1 ≤ s.size ∧ Hid (Frame.steps s.data.toList most = (pre ++ [R]) ++ Frame.steps (s.data.toList.drop (p + R.2.2.1)) most) := by
        intro he
        rw [← hR] at he
        have hle := Frame.rd_le _ _ he
        rw [hR] at hle
        refine ⟨hle.1, by have := hle.2; simp at this; omega, ?_⟩
        show _ = _
        rw [HS.out, Frame.steps_ok hne he, hR, List.drop_drop, List.append_assoc]
        rfl
      have hbad : R.2.2.2 ≠ 0 → Hid (Frame.sc s.data.toList most = (Frame.frames pre, p, R.2.2.2)) := by
        intro he
        rw [← hR] at he
        have h1 := HS.out
        rw [Frame.steps_bad hne he, hR] at h1
        rw [hR] at he
        show _ = _
        rw [Frame.sc_stop h1 HO.out he, ← HBY.out]
      have HOK := Lib.hid hok
      have HBAD := Lib.hid hbad
      have hws := HW.out.size
      clear hRd hR hok hbad hne hex
      obtain ⟨tg, tx, k, er⟩ := R
      by_cases he : er = 0
      · subst he
        obtain ⟨hk7, hks, HS2⟩ := HOK.out rfl
        have hBY2 : Hid (p + k = Frame.bytes (pre ++ [(tg, tx, k, 0)])) := by
          show _ = _
          rw [Frame.bytes_snoc, ← HBY.out]
        clear HBAD HOK
        go_wp2_with fail
        refine (HRd.out _).mono ?_
        unfold Frame.val
        rintro e w1 ⟨rfl, hb⟩
        have h1 := hb.size
        have hrow1 : w1.ownsRow w.heap.size 115 2 (.slice A pre.length cp) pre.length (Frame.fcells (Frame.frames pre)) := HROW.out.kept (grown_of hb none) (by cases A <;> simp [Value.ownBlock])
        have HROW1 := Lib.hid hrow1
        have HB1 := Lib.hid (HW.out.trans (hb.mono hws))
        clear hb hrow1
        go_wp2_with (at_builtin; refine wpList_append_own _ rfl _ _ 111 rfl w.heap.size 115 i0 (.agg #[.int .u8 0, .string ⟨#[]⟩]) 2 24 Tryz.underlying111 hi hz0 hz1 hz2 rfl (by decide) _ _ _ rfl ((HROW1.out.alloc _).alloc _) ⟨w1.heap.size + 1, 0, none⟩ 1 1 [.int .u8 (tg.toNat : Int), .string ⟨tx.toArray⟩] rfl rfl ?c1 (by simp [Value.oneCell']) (by unfold maxLen; omega) (by omega) (by simp; omega) ?_)
        case c1 =>
          have := Frame.cell_two_new (w1.alloc (.cells #[.int .u8 (tg.toNat : Int), .string ⟨tx.toArray⟩] 115)) (.int .u8 (tg.toNat : Int)) (.string ⟨tx.toArray⟩) 115
          rw [World.size_alloc] at this
          exact this
        intro v' w2 hown' hgrow _
        obtain ⟨g', cap', rfl⟩ := ownsRow_succ hown'
        have hlt2 := fun k => (HROW1.out.lt k)
        have hb2 : Below w.heap.size w w2 := ((HB1.out.alloc (by omega) _).alloc (by simp; omega) _).grown hgrow (by simp; omega) (fun k hk => (hlt2 k hk).1)
        have HB2 := Lib.hid hb2
        have hr2 : w2.ownsRow w.heap.size 115 2 (.slice (some ⟨g', 0, none⟩) (pre ++ [(tg, tx, k, 0)]).length cap') (pre ++ [(tg, tx, k, 0)]).length (Frame.fcells (Frame.frames (pre ++ [(tg, tx, k, 0)]))) := by
          rw [Frame.frames_snoc, Frame.fcells_snoc, List.length_append]
          exact hown'
        have HR2 := Lib.hid hr2
        clear hown' hgrow hlt2 hb2 hr2
        go_wp2_with fail
        go_roundw
        case rel => exact ⟨some ⟨g', 0, none⟩, cap', p + k, pre ++ [(tg, tx, k, 0)], by simp, by go_num, by omega, by simp; omega, hBY2, HS2, Frame.allOk_snoc HO.out rfl, HR2, HB2⟩
        case measure => simp [intOf]; omega
      · have heb : ((er : Int) != 0) = true := by simpa using (by omega : ¬ (er : Int) = 0)
        have HSC := HBAD.out he
        simp only [] at HSC
        clear HBAD HOK he
        go_wp2_with fail
        refine (HRd.out _).mono ?_
        unfold Frame.val
        rintro e w1 ⟨rfl, hb⟩
        have h1 := hb.size
        have hrow1 : w1.ownsRow w.heap.size 115 2 (.slice A pre.length cp) pre.length (Frame.fcells (Frame.frames pre)) := HROW.out.kept (grown_of hb none) (by cases A <;> simp [Value.ownBlock])
        have HROW1 := Lib.hid hrow1
        have HB1 := Lib.hid (HW.out.trans (hb.mono hws))
        clear hb hrow1
        obtain ⟨A2, cp2, hv2, hcap2, hl2⟩ := Frame.owns_lies (l := Frame.frames pre) (by rw [Frame.frames_len]; exact HROW1.out)
        rw [Frame.frames_len] at hv2 hcap2
        cases hv2
        have HCAP := Lib.hid hcap2
        have HLI := Lib.hid hl2
        clear hcap2 hl2
        go_wp2_with fail
        refine bodyPost_ret (v := .tuple #[.slice A pre.length cp, .int .i64 (p : Int), .int .i64 (er : Int)]) (by simp [results, Tryz.results75, go_sem]) rfl ?_
        have hB2 := HB1.out.alloc (show w.heap.size ≤ w1.heap.size by omega) (.cells #[.int .u8 (tg.toNat : Int), .string ⟨tx.toArray⟩] 115)
        rw [HSC.out]
        refine ⟨A, cp, by rw [Frame.frames_len], by rw [Frame.frames_len]; exact HCAP.out, ?_, hB2⟩
        exact (HLI.out.below ((Below.refl _ _).alloc (Nat.le_refl _) _)).mono (by simp)
    · have hd : s.data.toList.drop p = [] := List.drop_of_length_le (by simp; omega)
      have hS := HS.out
      rw [hd, Frame.steps_nil, List.append_nil] at hS
      have HSC := Lib.hid (Frame.sc_done hS HO.out)
      obtain ⟨A2, cp2, hv2, hcap2, hl2⟩ := Frame.owns_lies (l := Frame.frames pre) (by rw [Frame.frames_len]; exact HROW.out)
      rw [Frame.frames_len] at hv2 hcap2
      cases hv2
      have HCAP := Lib.hid hcap2
      have HLI := Lib.hid hl2
      clear hcap2 hl2 hS hd
      go_wp2_with fail
      refine bodyPost_ret (v := .tuple #[.slice A pre.length cp, .int .i64 (p : Int), .int .i64 0]) (by simp [results, Tryz.results75, go_sem]) rfl ?_
      rw [HSC.out, ← HBY.out]
      exact ⟨A, cp, by rw [Frame.frames_len]; rfl, by rw [Frame.frames_len]; exact HCAP.out, HLI.out, HW.out⟩
end Go.Proofs.YtdmelkphankfiaaGreat
