/-
  Contracts of the document's answers for frames: Raw, Read, Scan.
  Contracts of the document's answers for frames: Read, where the length is told and all bytes are there.
  Contracts of the document's answers for frames: Read.
-/
import Derived.Test.YtdmelkphankfiaaGreatLowFrameP
import Derived.Test.YtdmelkphankfiaaGreatWireF
import Derived.Test.YtdmelkphankfiaaGreatLowSumRef
import Derived.Test.YtdmelkphankfiaaGreatLowNumRef
import Derived.BigQuiet
import Derived.Deep.RegionWith
import Derived.Deep.DrawnRows
import Derived.Deep.RegionHeld3
import Derived.Deep.DeepCutAuto
import Derived.WalkSmall
section
namespace Go.Proofs.YtdmelkphankfiaaGreat
open Go.RowKit

theorem conv_two (W : World) (b : Nat) (x y : Int) (h : W.cell? ⟨b, 0, none⟩ = some (.int .u8 x)) (h' : W.cell? ⟨b, 1, none⟩ = some (.int .u8 y)) :
    (convert 57 9 (.slice (some ⟨b, 0, none⟩) 2 2)).run Tryz.prog W = .ok (.string ⟨#[UInt8.ofNat x.toNat, UInt8.ofNat y.toNat]⟩) W := by
  have := run_convert_bytes_arg (P := Tryz.prog) W 57 5 Tryz.underlying57 Tryz.underlying5 b 0 2 2 [x, y] rfl
    (fun i hi => by
      have : i = 0 ∨ i = 1 := by omega
      rcases this with rfl | rfl
      · exact h
      · exact h') 9 Tryz.underlying9
  simpa [strOfNums] using this

namespace Frame
theorem hd_bytes (tag : UInt8) (t : ByteArray) : (⟨#[1, tag]⟩ : ByteArray) ++ ⟨(Lib.uvarint t.size ++ t.data.toList).toArray⟩ = ⟨(hd tag t.data.toList).toArray⟩ := by
  have e : t.data.toList.length = t.size := by simp
  unfold hd
  rw [e]
  apply ByteArray.ext
  simp
theorem raw_bytes (tag : UInt8) (t : List UInt8) : (⟨(hd tag t).toArray⟩ : ByteArray) ++ Crc.four (Crc.on 0 (hd tag t)) = ⟨(raw tag t).toArray⟩ := by
  unfold raw Crc.four Crc.fourL
  apply ByteArray.ext
  simp
end Frame

set_option maxRecDepth 20000 in
set_option maxHeartbeats 1000000 in
theorem fraw_any (tag : UInt8) (t : ByteArray) (w : World) (ht : t.size ≤ 1000000) :
    Calls Tryz.prog 57 #[.int .u8 (tag.toNat : Int), .string t] w fun e w' => e = .returned (.string ⟨(Frame.raw tag t.data.toList).toArray⟩) ∧ Below w.heap.size w w' := by
  have hcv := fun b W => conv_two W b 1 (tag.toNat : Int)
  have hlen := Lib.uvarint_length64 (x := t.size) (by omega)
  have HB := Lib.hid (Frame.hd_bytes tag t)
  have HR := Lib.hid (Frame.raw_bytes tag t.data.toList)
  have HL : Hid ((Frame.hd tag t.data.toList).length = 2 + (Lib.uvarint t.size).length + t.size) := by
    show _ = _
    rw [Frame.hd_length]; simp
  have HT := Lib.hid (show UInt8.ofNat ((tag.toNat : Int)).toNat = tag by simp)
  have hlt := Crc.on_lt (a := 0) (Frame.hd tag t.data.toList) (by decide)
  go_enter Tryz.func57, Tryz.ntmps57
  go_upto_region 1 with fail
  go_cut [5] (fun v wx => v = .string ⟨(Frame.hd tag t.data.toList).toArray⟩ ∧ Below w.heap.size w wx)
  case first =>
    go_region_with ((go_at_call 80; refine (ftext_any t _ (by omega)).mono ?_; rintro e w1 ⟨rfl, hb⟩; obtain ⟨hcl, hfr⟩ := kept_cells hb))
    all_goals
      go_wp2
      go_meet
      refine ⟨by rw [HB.out], ?_⟩
      first
        | exact ((((Below.refl _ _).drew).alloc (by simp) _)).trans (hb.mono (by simp))
        | exact ((((Below.refl _ _).alloc (Nat.le_refl _) _).drew).trans (hb.mono (by simp)))
        | exact ((Below.refl _ _).drew.trans hb).alloc (by have := hb.size; simpa using this) _
  case rest =>
    obtain ⟨rfl, hbel⟩ := hcut
    have l1 : (Frame.hd tag t.data.toList).length ≤ 1000100 := by have := HL.out; omega
    have l2 : (Crc.four (Crc.on 0 (Frame.hd tag t.data.toList))).size ≤ 4 := Nat.le_refl 4
    clear hcv
    go_wp2_with fail
    refine (rof_any _ _ (by rw [mk_size, HL.out]; omega)).mono ?_
    rintro e w2 ⟨rfl, hb2⟩
    go_wp2_with fail
    refine (rbytes_any _ _ hlt).mono ?_
    rintro e w3 ⟨rfl, hb3⟩
    go_wp2_with fail
    go_ret
    exact ⟨by rw [HR.out]; rfl, (hbel.trans (hb2.mono hbel.size)).trans (hb3.mono (by have := hbel.size; have := hb2.size; omega))⟩

namespace Frame
/-- What Read answers, as a value. -/
def val (r : UInt8 × List UInt8 × Nat × Nat) : Value := .tuple #[.agg #[.int .u8 (r.1.toNat : Int), .string ⟨r.2.1.toArray⟩], .int .i64 (r.2.2.1 : Int), .int .i64 (r.2.2.2 : Int)]
theorem val_bad (e : Nat) : val (bad e) = .tuple #[.agg #[.int .u8 0, .string ⟨#[]⟩], .int .i64 0, .int .i64 (e : Int)] := rfl
theorem two (s : ByteArray) (h : 2 ≤ s.size) : s.data.toList = s[0] :: s[1] :: (s.extract 2 s.size).data.toList := by
  have hl : s.data.toList.length = s.size := by simp
  rw [Lib.extract_data, List.take_of_length_le (by rw [List.length_drop]; omega)]
  have e1 := List.drop_eq_getElem_cons (l := s.data.toList) (i := 1) (by omega)
  have e0 := List.drop_eq_getElem_cons (l := s.data.toList) (i := 0) (by omega)
  exact e0.trans (congrArg (s.data.toList[0] :: ·) e1)
theorem one (s : ByteArray) (h : s.size = 1) : s.data.toList = [s[0]] := by
  have hl : s.data.toList.length = s.size := by simp
  have h1 : s.data.toList.drop 1 = [] := List.drop_of_length_le (by omega)
  have := List.drop_eq_getElem_cons (l := s.data.toList) (i := 0) (by omega)
  rw [List.drop_zero, h1] at this
  exact this
theorem cells2 {w1 : World} {B : Nat} {a b : Value} (h0 : w1.cell? ⟨B, 0, none⟩ = some a) (h1 : w1.cell? ⟨B, 1, none⟩ = some b) (x y : Value) :
    (w1.setCell ⟨B, 0, none⟩ x).cell? ⟨B, 0, none⟩ = some x ∧ ((w1.setCell ⟨B, 0, none⟩ x).setCell ⟨B, 1, none⟩ y).cell? ⟨B, 1, none⟩ = some y := by
  have h1' : (w1.setCell ⟨B, 0, none⟩ x).cell? ⟨B, 1, none⟩ = some b := by
    rw [World.cell?_setCell_other _ _ _ _ (by intro hh; injection hh with _ h2 _; omega)]; exact h1
  exact ⟨World.cell?_setCell_same _ _ _ h0, World.cell?_setCell_same _ _ _ h1'⟩
theorem retV {a b : Value} (h : a = b) : Ending.returned a = .returned b := by rw [h]
end Frame
end Go.Proofs.YtdmelkphankfiaaGreat
end

section
namespace Go.Proofs.YtdmelkphankfiaaGreat
open Go.RowKit

theorem Frame.val_ok (tag : UInt8) (b : ByteArray) {p : Int} (k : Nat) (h : p = k) : Value.tuple #[.agg #[.int .u8 (tag.toNat : Int), .string b], .int .i64 p, .int .i64 0] = Frame.val (tag, b.data.toList, k, 0) := by
  subst h
  rfl
theorem Frame.keep {base : Nat} {w wx w2 : World} (h : Below base w wx) (hb : Below wx.heap.size wx w2) (hw : base ≤ w.heap.size := by exact Nat.le_refl _) : Below base w w2 :=
  h.trans (hb.mono (Nat.le_trans hw h.size))

set_option maxRecDepth 20000 in
set_option maxHeartbeats 1000000 in
theorem frread_deep (s : ByteArray) (most : Int) (w : World) (hs : s.size ≤ 1000000) (h2s : 2 ≤ s.size) (hv : s[0] = 1) {x n : Nat} (hR : Num.rd (s.extract 2 s.size).data.toList = (x, n, 0))
    (hm1 : ¬ most < 0) (hm2 : ¬ most < (x : Int)) (hm3 : ¬ 131072 < x) (hm4 : ¬ s.size < 2 + n + x + 4) (m1 : most ≤ 9223372036854775807) :
    Calls Tryz.prog 93 #[.string s, .int .i64 most] w fun e w' => e = .returned (Frame.val (Frame.rd s.data.toList most)) ∧ Below w.heap.size w w' := by
  have hm : (s.size : Int) ≤ 1000000 := by omega
  have hne : ¬ s.toList = [] := by
    intro h
    rw [Lib.toList_data] at h
    have l : s.data.toList.length = s.size := by simp
    rw [h] at l
    simp at l
    omega
  have hne2 : s.toList.isEmpty = false := by simpa using hne
  have hp : 0 < s.size := by omega
  have hv1 : ((s[0].toNat : Int) != 1) = false := by rw [hv]; rfl
  have hge : ¬ (s.size : Int) < 2 := by omega
  have h2 := Frame.two s (by omega)
  have hqs : (s.extract 2 s.size).size = s.size - 2 := by rw [ByteArray.size_extract]; omega
  have hrd := Frame.rd_two s[1] (s.extract 2 s.size).data.toList most
  have hbd := Num.rd_bound (s.extract 2 s.size).data.toList
  rw [← hv, ← h2, hR] at hrd
  rw [hR] at hbd
  simp only [] at hrd hbd
  obtain ⟨hq1, hn10, hx64, hg3, hz⟩ := hbd
  have HRD := Lib.hid hrd
  have HR := Lib.hid hR
  have HQ := Lib.hid hqs
  clear hrd hR hz hqs h2 hq1 hg3
  have hqm : (s.extract 2 s.size).size ≤ maxLen := by rw [HQ.out]; unfold maxLen; omega
  have HQM := Lib.hid hqm
  clear hqm
  have hmw : IntKind.u64.wrap most = most := IntWalk.u64_in _ (by omega)
  have hxw : IntKind.i64.wrap (x : Int) = x := IntWalk.i64_in _ (by omega)
  have hm4i : ¬ ((s.size : Int) < 2 + n + x + 4) := by omega
  have hsz : (s.extract 0 (2 + n + x)).size = 2 + n + x := by rw [ByteArray.size_extract]; omega
  have HSZ := Lib.hid hsz
  have hlt := Crc.on_lt (a := 0) (s.extract 0 (2 + n + x)).data.toList (by decide)
  clear hsz
  go_enter Tryz.func93, Tryz.ntmps93
  go_wp2_with fail
  refine (rread_any _ _ HQM.out).mono ?_
  rintro e w1 ⟨rfl, hb⟩
  obtain ⟨hcl, hfr⟩ := kept_cells hb
  rw [HR.out]
  go_wp2_with fail
  obtain ⟨c, hc⟩ : ∃ c, c = Crc.on 0 (s.extract 0 (2 + n + x)).data.toList := ⟨_, rfl⟩
  obtain ⟨F, hF⟩ : ∃ F, F = Crc.four c := ⟨_, rfl⟩
  rw [← hc] at hlt
  have HO : Hid (∀ w : World, Calls Tryz.prog 82 #[.string (s.extract 0 (2 + n + x))] w fun e w' => e = .returned (.int .u32 (c : Nat)) ∧ Below w.heap.size w w') := fun w => by rw [hc]; exact rof_any _ _ (by rw [HSZ.out]; omega)
  have HY : Hid (∀ w : World, Calls Tryz.prog 81 #[.int .u32 (c : Nat)] w fun e w' => e = .returned (.string F) ∧ Below w.heap.size w w') := fun w => by rw [hF]; exact rbytes_any _ _ hlt
  have HE : Hid (Frame.rd s.data.toList most = if (s.extract (2 + n + x) (2 + n + x + 4)).toList ≠ F.toList then Frame.bad 41 else (s[1], (s.extract (2 + n) (2 + n + x)).data.toList, 2 + n + x + 4, 0)) := by
    show _ = _
    have e1 : (s.data.toList.drop (2 + n + x)).take 4 = (s.extract (2 + n + x) (2 + n + x + 4)).toList := by
      rw [Lib.toList_data, Lib.extract_data]
      congr 1
      omega
    have e2 : Crc.fourL (Crc.on 0 (s.data.toList.take (2 + n + x))) = F.toList := by
      rw [hF, hc, Lib.toList_data, Lib.extract_data]
      rfl
    have e3 : (s.data.toList.drop (2 + n)).take x = (s.extract (2 + n) (2 + n + x)).data.toList := by
      rw [Lib.extract_data]
      congr 1
      omega
    have hl : s.data.toList.length = s.size := by simp
    rw [HRD.out, if_neg (by decide), if_neg (by decide), if_neg (by omega), if_neg (by omega), e1, e2, e3]
  have HC := Lib.hid hc
  have HF := Lib.hid hF
  have HV := Lib.hid hv
  clear hc hF hv hv1 hne hne2 hge hmw hxw hfr
  have k0 : (0 : Int) ≤ 2 + (n : Int) + x := by omega
  have k1 : 2 + (n : Int) + x ≤ 2 + (n : Int) + x + 4 := by omega
  have k2 : 2 + (n : Int) + x + 4 ≤ s.size := by omega
  have k3 : 2 + (n : Int) + x ≤ s.size := by omega
  have k4 : IntKind.i64.wrap (2 + (n : Int) + x + 4) = 2 + (n : Int) + x + 4 := IntWalk.i64_in _ (by omega)
  have k5 : (2 + (n : Int) + x).toNat = 2 + n + x := by omega
  have k6 : (2 + (n : Int) + x + 4).toNat = 2 + n + x + 4 := by omega
  go_cut [71] (fun v wx => v = .bool (!(s.extract (2 + n + x) (2 + n + x + 4)).toList == F.toList) ∧ Below w1.heap.size w1 wx)
  case first =>
    go_region_held3 (fun w' => Below w1.heap.size w1 w') (first | assumption | exact Below.refl _ _ | exact (Below.refl _ _).drew | exact Frame.keep (by assumption) hb2) (first
      | (go_at_call 82; refine (HO.out _).mono ?_; rintro e w2 ⟨rfl, hb2⟩)
      | (go_at_call 81; refine (HY.out _).mono ?_; rintro e w3 ⟨rfl, hb2⟩))
    go_wp2
    go_meet
    exact ⟨rfl, by assumption⟩
  case rest =>
    obtain ⟨hcv, hbel⟩ := hcut
    have hbw := hb.trans (hbel.mono hb.size)
    obtain ⟨hcl, hfr⟩ := kept_cells hbw
    have f0 := hfr w.heap.size 0 (by simp)
    have f1 := hfr w.heap.size 1 (by simp)
    simp [go_sem] at f0 f1
    have c0 : wc.cell? ⟨w.heap.size, 0, none⟩ = some (.int .u8 0) := (hcl w.heap.size 0 (by simp)).trans (by simp [go_sem])
    have c1 : wc.cell? ⟨w.heap.size, 1, none⟩ = some (.string ⟨#[]⟩) := (hcl w.heap.size 1 (by simp)).trans (by simp [go_sem])
    by_cases he : (s.extract (2 + n + x) (2 + n + x + 4)).toList = F.toList
    · have hb1 : (!(s.extract (2 + n + x) (2 + n + x + 4)).toList == F.toList) = false := by simpa using he
      rw [hb1] at hcv
      subst hcv
      clear hb1
      have HN : Hid (Frame.rd s.data.toList most = (s[1], (s.extract (2 + n) (2 + n + x)).data.toList, 2 + n + x + 4, 0)) := by
        show _ = _
        rw [HE.out, if_neg (fun h => h he)]
      clear he
      go_wp2_with fail
      have j0 : (0 : Int) ≤ 2 + (n : Int) := by omega
      have j1 : 2 + (n : Int) ≤ 2 + (n : Int) + x := by omega
      have j2 : (1 : Int) < s.size := by omega
      have j5 : (2 + (n : Int)).toNat = 2 + n := by omega
      go_region
      go_wp2_with fail
      have c := Frame.cells2 c0 c1 (.int .u8 (s[1].toNat : Int)) (.string (s.extract (2 + n) (2 + n + x)))
      exact bodyPost_ret (v := .tuple #[.agg #[.int .u8 (s[1].toNat : Int), .string (s.extract (2 + n) (2 + n + x))], .int .i64 (2 + (n : Int) + x + 4), .int .i64 0]) (by simp [results, Tryz.results93, go_sem, c.1, c.2]) rfl ⟨Frame.retV (by rw [HN.out]; exact Frame.val_ok _ _ _ (by omega)), ((((((Below.refl w.heap.size w).alloc (Nat.le_refl _) _).trans (hbw.mono (by simp))).setCell (by simp) _).setCell (by simp) _).drew)⟩
    · have hb1 : (!(s.extract (2 + n + x) (2 + n + x + 4)).toList == F.toList) = true := by simpa using he
      rw [hb1] at hcv
      subst hcv
      clear hb1
      have HN : Hid (Frame.rd s.data.toList most = Frame.bad 41) := by
        show _ = _
        rw [HE.out, if_pos he]
      clear he
      go_wp2_with fail
      have c := Frame.cells2 c0 c1 (.int .u8 0) (.string ⟨#[]⟩)
      exact bodyPost_ret (v := .tuple #[.agg #[.int .u8 0, .string ⟨#[]⟩], .int .i64 0, .int .i64 41]) (by simp [results, Tryz.results93, go_sem, c.1, c.2]) rfl ⟨Frame.retV (by rw [HN.out]; rfl), ((((Below.refl w.heap.size w).alloc (Nat.le_refl _) _).trans (hbw.mono (by simp))).setCell (by simp) _).setCell (by simp) _⟩
end Go.Proofs.YtdmelkphankfiaaGreat
end

section
namespace Go.Proofs.YtdmelkphankfiaaGreat
open Go.RowKit

set_option maxRecDepth 20000 in
set_option maxHeartbeats 4000000 in
theorem frread_any (s : ByteArray) (most : Int) (w : World) (hs : s.size ≤ 1000000) (m0 : -9223372036854775808 ≤ most) (m1 : most ≤ 9223372036854775807) :
    Calls Tryz.prog 93 #[.string s, .int .i64 most] w fun e w' => e = .returned (Frame.val (Frame.rd s.data.toList most)) ∧ Below w.heap.size w w' := by
  have hm : (s.size : Int) ≤ 1000000 := by omega
  by_cases h0 : s.size = 0
  · have hs0 : s = ⟨#[]⟩ := by
      apply ByteArray.ext
      exact Array.eq_empty_of_size_eq_zero h0
    subst hs0
    go_enter Tryz.func93, Tryz.ntmps93
    go_wp2_with fail
    exact bodyPost_ret (v := .tuple #[.agg #[.int .u8 0, .string ⟨#[]⟩], .int .i64 0, .int .i64 40]) (by simp [results, Tryz.results93, go_sem]) rfl ⟨rfl, by first | exact (Below.refl _ _).alloc (Nat.le_refl _) _ | exact (((Below.refl _ _).alloc (Nat.le_refl _) _).setCell (by simp) _).setCell (by simp) _⟩
  have hne : ¬ s.toList = [] := by
    intro h
    rw [Lib.toList_data] at h
    have l : s.data.toList.length = s.size := by simp
    rw [h] at l
    exact h0 l.symm
  have hne2 : s.toList.isEmpty = false := by simpa using hne
  have hp : 0 < s.size := by omega
  by_cases hv : s[0] = 1
  · have hv1 : ((s[0].toNat : Int) != 1) = false := by rw [hv]; rfl
    by_cases h1 : s.size = 1
    · have hlt : (s.size : Int) < 2 := by omega
      have HR : Hid (Frame.rd s.data.toList most = Frame.bad 40) := by
        show _ = _
        rw [Frame.one s h1, hv]; rfl
      clear h1
      go_enter Tryz.func93, Tryz.ntmps93
      go_wp2_with fail
      exact bodyPost_ret (v := .tuple #[.agg #[.int .u8 0, .string ⟨#[]⟩], .int .i64 0, .int .i64 40]) (by simp [results, Tryz.results93, go_sem]) rfl ⟨Frame.retV (by rw [HR.out]; rfl), by first | exact (Below.refl _ _).alloc (Nat.le_refl _) _ | exact (((Below.refl _ _).alloc (Nat.le_refl _) _).setCell (by simp) _).setCell (by simp) _⟩
    have hge : ¬ (s.size : Int) < 2 := by omega
    have h2 := Frame.two s (by omega)
    have hqs : (s.extract 2 s.size).size = s.size - 2 := by rw [ByteArray.size_extract]; omega
    have hrd := Frame.rd_two s[1] (s.extract 2 s.size).data.toList most
    rw [← hv, ← h2] at hrd
    have hbd := Num.rd_bound (s.extract 2 s.size).data.toList
    generalize hR : Num.rd (s.extract 2 s.size).data.toList = R at hrd hbd
    obtain ⟨x, n, g⟩ := R
    simp only [] at hrd hbd
    obtain ⟨hq1, hn10, hx64, hg3, hz⟩ := hbd
    have hnq : n ≤ s.size - 2 := by
      have l : (s.extract 2 s.size).data.toList.length = (s.extract 2 s.size).size := by simp
      omega
    have HRD := Lib.hid hrd
    have HR := Lib.hid hR
    have HZ := Lib.hid hz
    have HQ := Lib.hid hqs
    clear hrd hR hz hqs h2 hq1
    have hqm : (s.extract 2 s.size).size ≤ maxLen := by rw [HQ.out]; unfold maxLen; omega
    have HQM := Lib.hid hqm
    clear hqm
    by_cases hg10 : g = 10
    · subst hg10
      have HF : Hid (Frame.rd s.data.toList most = Frame.bad 40) := by
        show _ = _
        rw [HRD.out, if_pos rfl]
      go_enter Tryz.func93, Tryz.ntmps93
      go_wp2_with fail
      refine (rread_any _ _ HQM.out).mono ?_
      rintro e w1 ⟨rfl, hb⟩
      obtain ⟨hcl, hfr⟩ := kept_cells hb
      rw [HR.out]
      go_wp2_with fail
      have c := Frame.cells2 (a := .int .u8 0) (b := .string ⟨#[]⟩) ((hcl w.heap.size 0 (by simp)).trans (by simp [go_sem])) ((hcl w.heap.size 1 (by simp)).trans (by simp [go_sem])) (.int .u8 0) (.string ⟨#[]⟩)
      exact bodyPost_ret (v := .tuple #[.agg #[.int .u8 0, .string ⟨#[]⟩], .int .i64 0, .int .i64 40]) (by simp [results, Tryz.results93, go_sem, c.1, c.2]) rfl ⟨Frame.retV (by rw [HF.out]; rfl), ((((Below.refl w.heap.size w).alloc (Nat.le_refl _) _).trans (hb.mono (by simp))).setCell (by simp) _).setCell (by simp) _⟩
    · have hgb : ((g : Int) == 10) = false := by simpa using (by omega : ¬ (g : Int) = 10)
      by_cases hg0 : g = 0
      · subst hg0
        by_cases hm1 : most < 0
        · have HF : Hid (Frame.rd s.data.toList most = Frame.bad 4) := by
            show _ = _
            rw [HRD.out, if_neg (by decide), if_neg (by decide), if_pos (Or.inl hm1)]
          go_enter Tryz.func93, Tryz.ntmps93
          go_wp2_with fail
          refine (rread_any _ _ HQM.out).mono ?_
          rintro e w1 ⟨rfl, hb⟩
          obtain ⟨hcl, hfr⟩ := kept_cells hb
          rw [HR.out]
          go_wp2_with fail
          have c := Frame.cells2 (a := .int .u8 0) (b := .string ⟨#[]⟩) ((hcl w.heap.size 0 (by simp)).trans (by simp [go_sem])) ((hcl w.heap.size 1 (by simp)).trans (by simp [go_sem])) (.int .u8 0) (.string ⟨#[]⟩)
          exact bodyPost_ret (v := .tuple #[.agg #[.int .u8 0, .string ⟨#[]⟩], .int .i64 0, .int .i64 4]) (by simp [results, Tryz.results93, go_sem, c.1, c.2]) rfl ⟨Frame.retV (by rw [HF.out]; rfl), ((((Below.refl w.heap.size w).alloc (Nat.le_refl _) _).trans (hb.mono (by simp))).setCell (by simp) _).setCell (by simp) _⟩
        have hmw : IntKind.u64.wrap most = most := IntWalk.u64_in _ (by omega)
        by_cases hm2 : most < (x : Int)
        · have HF : Hid (Frame.rd s.data.toList most = Frame.bad 4) := by
            show _ = _
            rw [HRD.out, if_neg (by decide), if_neg (by decide), if_pos (Or.inr (Or.inl hm2))]
          go_enter Tryz.func93, Tryz.ntmps93
          go_wp2_with fail
          refine (rread_any _ _ HQM.out).mono ?_
          rintro e w1 ⟨rfl, hb⟩
          obtain ⟨hcl, hfr⟩ := kept_cells hb
          rw [HR.out]
          go_wp2_with fail
          have c := Frame.cells2 (a := .int .u8 0) (b := .string ⟨#[]⟩) ((hcl w.heap.size 0 (by simp)).trans (by simp [go_sem])) ((hcl w.heap.size 1 (by simp)).trans (by simp [go_sem])) (.int .u8 0) (.string ⟨#[]⟩)
          exact bodyPost_ret (v := .tuple #[.agg #[.int .u8 0, .string ⟨#[]⟩], .int .i64 0, .int .i64 4]) (by simp [results, Tryz.results93, go_sem, c.1, c.2]) rfl ⟨Frame.retV (by rw [HF.out]; rfl), ((((Below.refl w.heap.size w).alloc (Nat.le_refl _) _).trans (hb.mono (by simp))).setCell (by simp) _).setCell (by simp) _⟩
        by_cases hm3 : 131072 < x
        · have HF : Hid (Frame.rd s.data.toList most = Frame.bad 4) := by
            show _ = _
            rw [HRD.out, if_neg (by decide), if_neg (by decide), if_pos (Or.inr (Or.inr hm3))]
          go_enter Tryz.func93, Tryz.ntmps93
          go_wp2_with fail
          refine (rread_any _ _ HQM.out).mono ?_
          rintro e w1 ⟨rfl, hb⟩
          obtain ⟨hcl, hfr⟩ := kept_cells hb
          rw [HR.out]
          go_wp2_with fail
          have c := Frame.cells2 (a := .int .u8 0) (b := .string ⟨#[]⟩) ((hcl w.heap.size 0 (by simp)).trans (by simp [go_sem])) ((hcl w.heap.size 1 (by simp)).trans (by simp [go_sem])) (.int .u8 0) (.string ⟨#[]⟩)
          exact bodyPost_ret (v := .tuple #[.agg #[.int .u8 0, .string ⟨#[]⟩], .int .i64 0, .int .i64 4]) (by simp [results, Tryz.results93, go_sem, c.1, c.2]) rfl ⟨Frame.retV (by rw [HF.out]; rfl), ((((Below.refl w.heap.size w).alloc (Nat.le_refl _) _).trans (hb.mono (by simp))).setCell (by simp) _).setCell (by simp) _⟩
        have hxw : IntKind.i64.wrap (x : Int) = x := IntWalk.i64_in _ (by omega)
        have hl : s.data.toList.length = s.size := by simp
        by_cases hm4 : s.size < 2 + n + x + 4
        · have hm4i : ((s.size : Int) < 2 + n + x + 4) := by omega
          have HF : Hid (Frame.rd s.data.toList most = Frame.bad 40) := by
            show _ = _
            rw [HRD.out, if_neg (by decide), if_neg (by decide), if_neg (by omega), if_pos (by omega)]
          go_enter Tryz.func93, Tryz.ntmps93
          go_wp2_with fail
          refine (rread_any _ _ HQM.out).mono ?_
          rintro e w1 ⟨rfl, hb⟩
          obtain ⟨hcl, hfr⟩ := kept_cells hb
          rw [HR.out]
          go_wp2_with fail
          have c := Frame.cells2 (a := .int .u8 0) (b := .string ⟨#[]⟩) ((hcl w.heap.size 0 (by simp)).trans (by simp [go_sem])) ((hcl w.heap.size 1 (by simp)).trans (by simp [go_sem])) (.int .u8 0) (.string ⟨#[]⟩)
          exact bodyPost_ret (v := .tuple #[.agg #[.int .u8 0, .string ⟨#[]⟩], .int .i64 0, .int .i64 40]) (by simp [results, Tryz.results93, go_sem, c.1, c.2]) rfl ⟨Frame.retV (by rw [HF.out]; rfl), ((((Below.refl w.heap.size w).alloc (Nat.le_refl _) _).trans (hb.mono (by simp))).setCell (by simp) _).setCell (by simp) _⟩
        exact frread_deep s most w hs (by omega) hv HR.out hm1 hm2 hm3 hm4 m1
      · have hg0b : ((g : Int) != 0) = true := by simpa using (by omega : ¬ (g : Int) = 0)
        have HF : Hid (Frame.rd s.data.toList most = Frame.bad 8) := by
          show _ = _
          rw [HRD.out, if_neg hg10, if_pos hg0]
        clear hg10 hg0
        go_enter Tryz.func93, Tryz.ntmps93
        go_wp2_with fail
        refine (rread_any _ _ HQM.out).mono ?_
        rintro e w1 ⟨rfl, hb⟩
        obtain ⟨hcl, hfr⟩ := kept_cells hb
        rw [HR.out]
        go_wp2_with fail
        have c := Frame.cells2 (a := .int .u8 0) (b := .string ⟨#[]⟩) ((hcl w.heap.size 0 (by simp)).trans (by simp [go_sem])) ((hcl w.heap.size 1 (by simp)).trans (by simp [go_sem])) (.int .u8 0) (.string ⟨#[]⟩)
        exact bodyPost_ret (v := .tuple #[.agg #[.int .u8 0, .string ⟨#[]⟩], .int .i64 0, .int .i64 8]) (by simp [results, Tryz.results93, go_sem, c.1, c.2]) rfl ⟨Frame.retV (by rw [HF.out]; rfl), ((((Below.refl w.heap.size w).alloc (Nat.le_refl _) _).trans (hb.mono (by simp))).setCell (by simp) _).setCell (by simp) _⟩
  · have hv1 : ((s[0].toNat : Int) != 1) = true := by
      rw [bne_iff_ne]
      intro h
      apply hv
      have e1 : (1 : UInt8).toNat = 1 := rfl
      exact UInt8.toNat_inj.1 (by omega)
    have HR : Hid (Frame.rd s.data.toList most = Frame.bad 42) := by
      show _ = _
      have hl : s.data.toList.length = s.size := by simp
      rw [← List.drop_zero (l := s.data.toList), List.drop_eq_getElem_cons (by omega)]
      exact Frame.rd_foreign _ _ hv
    go_enter Tryz.func93, Tryz.ntmps93
    go_wp2_with fail
    exact bodyPost_ret (v := .tuple #[.agg #[.int .u8 0, .string ⟨#[]⟩], .int .i64 0, .int .i64 42]) (by simp [results, Tryz.results93, go_sem]) rfl ⟨Frame.retV (by rw [HR.out]; rfl), by first | exact (Below.refl _ _).alloc (Nat.le_refl _) _ | exact (((Below.refl _ _).alloc (Nat.le_refl _) _).setCell (by simp) _).setCell (by simp) _⟩
end Go.Proofs.YtdmelkphankfiaaGreat
end
