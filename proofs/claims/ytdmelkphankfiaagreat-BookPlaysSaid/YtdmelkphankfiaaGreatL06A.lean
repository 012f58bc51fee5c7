/-
  The contract of layer 6's 'alive': it is true.
-/
import Derived.Test.YtdmelkphankfiaaGreatLowPbE
import Derived.Test.YtdmelkphankfiaaGreatLowBkT
namespace Go.Proofs.YtdmelkphankfiaaGreat
open Go.RowKit
attribute [local go_sem ↓] Go.wp_at_zero Go.wp_at_succ

namespace Book
def ab : List ByteArray := [⟨#[97]⟩, ⟨#[98]⟩]
def cc : List ByteArray := [⟨#[99]⟩]
def zz : List ByteArray := [Sec.zB 600]
theorem raw_small {x : List UInt8} (h : x.length = 1) : (Frame.raw 1 x).length ≤ 17 := by
  have := Lib.uvarint_length64 (x := x.length) (by omega)
  rw [Frame.raw_length]
  omega
theorem ab_len : (frb ab).length ≤ 34 := by
  have e : frb ab = Frame.raw 1 [97] ++ (Frame.raw 1 [98] ++ []) := rfl
  have h1 := raw_small (x := [97]) rfl
  have h2 := raw_small (x := [98]) rfl
  rw [e, List.append_nil, List.length_append]
  omega
theorem cc_len : (frb cc).length ≤ 17 := by
  have e : frb cc = Frame.raw 1 [99] ++ [] := rfl
  have h1 := raw_small (x := [99]) rfl
  rw [e, List.append_nil]
  exact h1
theorem zz_len : 600 ≤ (frb zz).length := by
  have e : frb zz = Frame.raw 1 (List.replicate 600 0) ++ [] := rfl
  rw [e, List.append_nil, Frame.raw_length, List.length_replicate]
  omega
theorem ab_max : ∀ x ∈ ab, x.size ≤ maxLen := fun x hx => by
  unfold ab at hx
  rcases List.mem_cons.1 hx with rfl | hx
  · show (1 : Nat) ≤ maxLen; unfold maxLen; omega
  · rw [List.mem_singleton.1 hx]; show (1 : Nat) ≤ maxLen; unfold maxLen; omega
theorem cc_max : ∀ x ∈ cc, x.size ≤ maxLen := fun x hx => by
  rw [List.mem_singleton.1 hx]; show (1 : Nat) ≤ maxLen; unfold maxLen; omega
theorem zz_max : ∀ x ∈ zz, x.size ≤ maxLen := fun x hx => by
  rw [List.mem_singleton.1 hx, Sec.zB_size]; unfold maxLen; omega
theorem ab_long : long ab = false := rfl
theorem cc_long : long cc = false := rfl
theorem zz_long : long zz = false := by
  unfold long zz
  simp [Sec.zB_size]
theorem ab_frs : frb ab = frs [[97], [98]] := rfl
theorem one_lies (w : World) (x : ByteArray) : Lies (w.alloc (.cells #[.string x] 9)) (w.alloc (.cells #[.string x] 9)).heap.size (some ⟨w.heap.size, 0, none⟩) (tcells [x]) :=
  lies_one _ _ _ (cell_of_row _ _ 0 _ _ _ (heap_alloc_new w (.cells #[.string x] 9))) (by simp)
theorem two_lies (w : World) (x y : ByteArray) : Lies (w.alloc (.cells #[.string x, .string y] 9)) (w.alloc (.cells #[.string x, .string y] 9)).heap.size (some ⟨w.heap.size, 0, none⟩) (tcells [x, y]) :=
  lies_two _ _ _ _ (cell_of_row _ _ 0 _ _ _ (heap_alloc_new w (.cells #[.string x, .string y] 9))) (cell_of_row _ _ 1 _ _ _ (heap_alloc_new w (.cells #[.string x, .string y] 9))) (by simp)
end Book

set_option maxHeartbeats 4000000 in
set_option maxRecDepth 20000 in
theorem alive6_any (w : World) :
    Calls Tryz.prog 5 #[] w fun e w' => e = .returned (.bool true) ∧ Below w.heap.size w w' := by
  have HL0 := Lib.hid (Book.Laid.fresh (a := 1) (n := 3) (N := 4) (by omega) (by omega) (by omega))
  go_enter Tryz.func5, Tryz.ntmps5
  go_wp2_with fail
  refine (has_new 4 _ (by omega) (by omega)).mono ?_
  rintro e w1 ⟨p, rfl, hA, hb1⟩
  have H0 := Lib.hid hA
  have B1 := Lib.hid hb1
  obtain ⟨s0, hs0⟩ : ∃ s0, s0 = Sec.St.fresh 4 := ⟨_, rfl⟩
  rw [← hs0] at H0 HL0
  have HLO0 : Hid (s0.loose = []) := by show _ = _; rw [hs0]; rfl
  clear hA hb1 hs0
  go_wp2_with fail
  refine (has_clear (a := 1) (n := 3) H0.out HL0.out (by omega) (by rw [HLO0.out]; simp)).mono ?_
  rintro e w2 ⟨rfl, hA, hb⟩
  have H2 := Lib.hid hA
  have B2 := Lib.hid (B1.out.trans hb)
  clear hA hb
  go_wp2_with fail
  refine (has_open (lo := w.heap.size) (a := 1) (n := 3) H2.out (Nat.le_refl _) [] (by simp) HL0.out (by omega) (by rw [HLO0.out]; simp)).mono ?_
  rintro e w3 ⟨B, A3, c3, rfl, hlv, hb, hli⟩
  have L3 : Hid (Book.Live p w.heap.size B 1 3 [] false s0 w3) := hlv
  have B3 := Lib.hid (B2.out.trans hb)
  clear hlv hb hli
  have HLN : Hid (Calls Tryz.prog 10 #[.pointer (some ⟨B, 0, none⟩)] w3 fun e w' => e = .returned (.int .i64 0) ∧ Below w3.heap.size w3 w') := live_len L3.out (by simp)
  go_wp2_with fail
  refine HLN.out.mono ?_
  rintro e w4 ⟨rfl, hb⟩
  have L4 := Lib.hid (L3.out.below hb)
  have B4 := Lib.hid (B3.out.trans (hb.mono L3.out.lo_le))
  clear hb HLN
  have HRM : Hid (Calls Tryz.prog 11 #[.pointer (some ⟨B, 0, none⟩)] w4 fun e w' => e = .returned (.int .i64 381) ∧ Below w4.heap.size w4 w') := live_room (n := 3) L4.out (by omega) (by simp)
  go_wp2_with fail
  refine HRM.out.mono ?_
  rintro e w5 ⟨rfl, hb⟩
  have L5 := Lib.hid (L4.out.below hb)
  have B5 := Lib.hid (B4.out.trans (hb.mono L4.out.lo_le))
  clear hb HRM
  -- a and b
  have L6 := Lib.hid (L5.out.below ((Below.refl _ _).alloc (Nat.le_refl _) (.cells #[.string ⟨#[97]⟩, .string ⟨#[98]⟩] 9)))
  have B6 := Lib.hid (B5.out.alloc L5.out.lo_le (.cells #[.string ⟨#[97]⟩, .string ⟨#[98]⟩] 9))
  have HAP : Hid (Calls Tryz.prog 18 #[.pointer (some ⟨B, 0, none⟩), .slice (some ⟨w5.heap.size, 0, none⟩) 2 2] (w5.alloc (.cells #[.string ⟨#[97]⟩, .string ⟨#[98]⟩] 9)) fun e w' => ∃ s', e = .returned (.int .i64 0) ∧ Book.Live p w.heap.size B 1 3 ([] ++ Book.frb Book.ab) false s' w' ∧ Below w.heap.size (w5.alloc (.cells #[.string ⟨#[97]⟩, .string ⟨#[98]⟩] 9)) w' ∧ Book.Laid 1 3 4 ([] ++ Book.frb Book.ab) s' ∧ s'.good = s0.good ∧ s'.loose.length ≤ s0.loose.length + 3) :=
    live_append_ok L6.out HL0.out (by rw [HLO0.out]; simp) Book.ab _ 2 (by simp [Book.ab, maxLen]) Book.ab_max (Book.two_lies w5 _ _) Book.ab_long (by have := Book.ab_len; simp; omega)
  go_wp2_with fail
  refine HAP.out.mono ?_
  rintro e w7 ⟨s1, rfl, hlv, hb, hL, hg, hlo⟩
  have L7 := Lib.hid hlv
  have B7 := Lib.hid (B6.out.trans hb)
  have HL1 := Lib.hid hL
  have HLO1 : Hid (s1.loose.length ≤ 4) := by show _ ≤ _; rw [HLO0.out] at hlo; simp at hlo; omega
  clear hlv hb hL hg hlo HAP L6 B6
  go_wp2_with fail
  refine (live_sync L7.out HL1.out (by have := HLO1.out; omega)).mono ?_
  rintro e w8 ⟨s2, rfl, hlv, hb, hL, hlo⟩
  have L8 := Lib.hid hlv
  have B8 := Lib.hid (B7.out.trans hb)
  have HL2 := Lib.hid hL
  have HLO2 := Lib.hid hlo
  clear hlv hb hL hlo
  -- c
  have L9 := Lib.hid (L8.out.below ((Below.refl _ _).alloc (Nat.le_refl _) (.cells #[.string ⟨#[99]⟩] 9)))
  have B9 := Lib.hid (B8.out.alloc L8.out.lo_le (.cells #[.string ⟨#[99]⟩] 9))
  have HAP : Hid (Calls Tryz.prog 18 #[.pointer (some ⟨B, 0, none⟩), .slice (some ⟨w8.heap.size, 0, none⟩) 1 1] (w8.alloc (.cells #[.string ⟨#[99]⟩] 9)) fun e w' => ∃ s', e = .returned (.int .i64 0) ∧ Book.Live p w.heap.size B 1 3 ([] ++ Book.frb Book.ab ++ Book.frb Book.cc) false s' w' ∧ Below w.heap.size (w8.alloc (.cells #[.string ⟨#[99]⟩] 9)) w' ∧ Book.Laid 1 3 4 ([] ++ Book.frb Book.ab ++ Book.frb Book.cc) s' ∧ s'.good = s2.good ∧ s'.loose.length ≤ s2.loose.length + 3) :=
    live_append_ok L9.out HL2.out (by have := HLO2.out; rw [this]; simp) Book.cc _ 1 (by simp [Book.cc, maxLen]) Book.cc_max (Book.one_lies w8 _) Book.cc_long (by have := Book.ab_len; have := Book.cc_len; simp; omega)
  go_wp2_with fail
  refine HAP.out.mono ?_
  rintro e w10 ⟨s3, rfl, hlv, hb, hL, hg, hlo⟩
  have L10 := Lib.hid hlv
  have B10 := Lib.hid (B9.out.trans hb)
  have HL3 := Lib.hid hL
  have HG3 := Lib.hid hg
  have HLO3 : Hid (s3.loose.length ≤ 3) := by have := HLO2.out; rw [this] at hlo; show _ ≤ _; simpa using hlo
  clear hlv hb hL hg hlo HAP L9 B9
  go_wp2_with fail
  refine (live_crash L10.out HL3.out.ok (by have := HLO3.out; omega)).mono ?_
  rintro e w11 ⟨rfl, hlv, hb⟩
  have L11 := Lib.hid hlv
  have B11 := Lib.hid (B10.out.trans hb)
  have HL4 : Hid (Book.Laid 1 3 4 (Book.frs [[97], [98]]) (s3.crash [])) := Book.Laid.crash HL3.out.ok HL3.out.nn HL2.out HLO2.out HG3.out
  have HLO4 : Hid ((s3.crash []).loose = []) := rfl
  clear hlv hb
  generalize s3.crash [] = s4 at L11 HL4 HLO4
  go_wp2_with fail
  refine (live_open (a := 1) (n := 3) L11.out [[97], [98]] (fun x hx => by
    rcases List.mem_cons.1 hx with rfl | hx
    · simp
    · rw [List.mem_singleton.1 hx]; simp) HL4.out (by omega) (by rw [HLO4.out]; simp)).mono ?_
  rintro e w12 ⟨B', A12, c12, rfl, hlv, hb, hli⟩
  have L12 := Lib.hid hlv
  have B12 := Lib.hid (B11.out.trans hb)
  have LI := Lib.hid hli
  clear hlv hb hli
  have L13 := Lib.hid (L12.out.below ((Below.refl _ _).alloc (Nat.le_refl _) (.cells #[.string ⟨#[97]⟩, .string ⟨#[98]⟩] 9)))
  have B13 := Lib.hid (B12.out.alloc L12.out.lo_le (.cells #[.string ⟨#[97]⟩, .string ⟨#[98]⟩] 9))
  have HTX : Hid (Calls Tryz.prog 21 #[.slice A12 2 c12, .slice (some ⟨w12.heap.size, 0, none⟩) 2 2] (w12.alloc (.cells #[.string ⟨#[97]⟩, .string ⟨#[98]⟩] 9)) fun e w' => e = .returned (.bool true) ∧ Below (w12.alloc (.cells #[.string ⟨#[97]⟩, .string ⟨#[98]⟩] 9)).heap.size (w12.alloc (.cells #[.string ⟨#[97]⟩, .string ⟨#[98]⟩] 9)) w') := by
    have hl2 : Lies (w12.alloc (.cells #[.string ⟨#[97]⟩, .string ⟨#[98]⟩] 9)) (w12.alloc (.cells #[.string ⟨#[97]⟩, .string ⟨#[98]⟩] 9)).heap.size A12 (tcells Book.ab) := (Lies.below LI.out ((Below.refl _ _).alloc (Nat.le_refl _) _)).mono (by simp)
    have := ktexts Book.ab Book.ab A12 (some ⟨w12.heap.size, 0, none⟩) c12 2 _ hl2 (Book.two_lies w12 _ _) (by simp [Book.ab, maxLen]) (by simp [Book.ab, maxLen])
    have e : decide (Book.ab = Book.ab) = true := by simp
    rw [e] at this
    exact this
  go_wp2_with fail
  refine HTX.out.mono ?_
  rintro e w14 ⟨rfl, hb⟩
  have L14 := Lib.hid (L13.out.below hb)
  have B14 := Lib.hid (B13.out.trans (hb.mono L13.out.lo_le))
  clear hb HTX LI L13 B13
  have HCL : Hid (Calls Tryz.prog 16 #[.pointer (some ⟨p, 0, none⟩), .int .i64 2, .int .i64 3] w14 fun e w' => e = .returned (.int .i64 2) ∧ Below w14.heap.size w14 w') := live_clear_no L14.out HL4.out.ok 2 3 (by omega) (by have := HL4.out.nn; unfold Book.fits; rw [this]; rfl)
  go_wp2_with fail
  refine HCL.out.mono ?_
  rintro e w15 ⟨rfl, hb⟩
  have L15 := Lib.hid (L14.out.below hb)
  have B15 := Lib.hid (B14.out.trans (hb.mono L14.out.lo_le))
  clear hb HCL
  have hmk : ∀ w : World, (Instr.makeSlice 57 (.int .i64 600) (.int .i64 600)).run Tryz.prog w = .ok (.slice (some ⟨w.heap.size, 0, none⟩) 600 600) (w.alloc (.cells (madeCells #[.int .u8 0] 600) 5)) := run_make_row' (P := Tryz.prog) 57 5 (.int .u8 0) 1 Tryz.underlying57 byte_info1 rfl .i64 .i64 600 (by omega) (by omega)
  have hcv := rd_conv0 600 w15.heap.size (w15.alloc (.cells (madeCells #[.int .u8 0] 600) 5)) (heap_alloc_new w15 _)
  have L16 : Hid (Book.Live p w.heap.size B 1 3 ([] ++ Book.frb Book.ab ++ Book.frb Book.cc) false s4 ((w15.alloc (.cells (madeCells #[.int .u8 0] 600) 5)).alloc (.cells #[.string (Sec.zB 600)] 9))) := L15.out.below (((Below.refl _ _).alloc (Nat.le_refl _) _).alloc (by simp) _)
  have B16 : Hid (Below w.heap.size w ((w15.alloc (.cells (madeCells #[.int .u8 0] 600) 5)).alloc (.cells #[.string (Sec.zB 600)] 9))) := (B15.out.alloc L15.out.lo_le _).alloc (by have := L15.out.lo_le; simp; omega) _
  have LI16 : Hid (Lies ((w15.alloc (.cells (madeCells #[.int .u8 0] 600) 5)).alloc (.cells #[.string (Sec.zB 600)] 9)) ((w15.alloc (.cells (madeCells #[.int .u8 0] 600) 5)).alloc (.cells #[.string (Sec.zB 600)] 9)).heap.size (some ⟨w15.heap.size + 1, 0, none⟩) (tcells Book.zz)) := by
    have := Book.one_lies (w15.alloc (.cells (madeCells #[.int .u8 0] 600) 5)) (Sec.zB 600)
    have e : (w15.alloc (.cells (madeCells #[.int .u8 0] 600) 5)).heap.size = w15.heap.size + 1 := by simp
    rw [e] at this
    exact this
  obtain ⟨w16, hw16⟩ : ∃ w16, w16 = (w15.alloc (.cells (madeCells #[.int .u8 0] 600) 5)).alloc (.cells #[.string (Sec.zB 600)] 9) := ⟨_, rfl⟩
  rw [← hw16] at L16 B16 LI16
  have HAP : Hid (Calls Tryz.prog 18 #[.pointer (some ⟨B, 0, none⟩), .slice (some ⟨w15.heap.size + 1, 0, none⟩) 1 1] w16 fun e w' => e = .returned (.int .i64 6) ∧ Book.Live p w.heap.size B 1 3 ([] ++ Book.frb Book.ab ++ Book.frb Book.cc) false s4 w' ∧ Below w.heap.size w16 w') := by
    have h1 := Book.ab_len
    have h2 := Book.cc_len
    have h3 := Book.zz_len
    exact live_append_no (a := 1) (n := 3) L16.out HL4.out.ok (by simp; omega) (by have := HL4.out.nn; omega) (by rw [HLO4.out]; simp) Book.zz _ 1 (by simp [Book.zz, maxLen]) Book.zz_max LI16.out (by intro h; have := h.2; omega) 6 (by rw [Book.zz_long]; rfl)
  go_wp2_with fail
  rw [← hw16]
  clear hw16 hmk hcv
  refine HAP.out.mono ?_
  rintro e w17 ⟨rfl, hlv, hb⟩
  have B17 := Lib.hid (B16.out.trans hb)
  clear hlv hb HAP
  go_wp2_with fail
  go_ret
  exact ⟨rfl, B17.out⟩
end Go.Proofs.YtdmelkphankfiaaGreat
