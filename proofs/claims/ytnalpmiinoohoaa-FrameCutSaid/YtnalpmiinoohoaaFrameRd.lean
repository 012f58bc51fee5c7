/-
  Contracts of the document's answers for frames: Read, where the length is told and all bytes are there.
-/
import Derived.Test.YtnalpmiinoohoaaFrameRef
import Derived.BigQuiet
import Derived.Deep.RegionWith
import Derived.Deep.DrawnRows
import Derived.Deep.RegionHeld3
import Derived.Deep.DeepCutAuto
import Derived.WalkSmall
namespace Go.Proofs.Ytnalpmiinoohoaa
open Go.RowKit

theorem Frame.val_ok (tag : UInt8) (b : ByteArray) {p : Int} (k : Nat) (h : p = k) : Value.tuple #[.agg #[.int .u8 (tag.toNat : Int), .string b], .int .i64 p, .int .i64 0] = Frame.val (tag, b.data.toList, k, 0) := by
  subst h
  rfl
theorem Frame.keep {base : Nat} {w wx w2 : World} (h : Below base w wx) (hb : Below wx.heap.size wx w2) (hw : base ≤ w.heap.size := by exact Nat.le_refl _) : Below base w w2 :=
  h.trans (hb.mono (Nat.le_trans hw h.size))

set_option maxRecDepth 20000 in
set_option maxHeartbeats 1000000 in
theorem frread_deep (s : ByteArray) (most : Int) (w : World) (hs : s.size ≤ 1000000) (h2s : 2 ≤ s.size) (hv : s[0] = 1) {x n : Nat} (hR : Num.rd (s.extract 2 s.size).data.toList = (x, n, 0))
    (hm1 : ¬ most < 0) (hm2 : ¬ most < (x : Int)) (hm3 : ¬ 131072 < x) (hm4 : ¬ s.size < 2 + n + x + 4) (m1 : most ≤ 9223372036854775807) :
    Calls Try.prog 13 #[.string s, .int .i64 most] w fun e w' => e = .returned (Frame.val (Frame.rd s.data.toList most)) ∧ Below w.heap.size w w' := by
  have hm : (s.size : Int) ≤ 1000000 := by omega
  have hne : ¬ s.toList = [] := by
    intro h
    rw [Lib.toList_data] at h
    have l : s.data.toList.length = s.size := by simp
    rw [h] at l
    simp at l
    omega
  have hne2 : s.toList.isEmpty = false := by simpa using hne
  have hp : 0 < s.size := by omega
  have hv1 : ((s[0].toNat : Int) != 1) = false := by rw [hv]; rfl
  have hge : ¬ (s.size : Int) < 2 := by omega
  have h2 := Frame.two s (by omega)
  have hqs : (s.extract 2 s.size).size = s.size - 2 := by rw [ByteArray.size_extract]; omega
  have hrd := Frame.rd_two s[1] (s.extract 2 s.size).data.toList most
  have hbd := Num.rd_bound (s.extract 2 s.size).data.toList
  rw [← hv, ← h2, hR] at hrd
  rw [hR] at hbd
  simp only [] at hrd hbd
  obtain ⟨hq1, hn10, hx64, hg3, hz⟩ := hbd
  have HRD := Lib.hid hrd
  have HR := Lib.hid hR
  have HQ := Lib.hid hqs
  clear hrd hR hz hqs h2 hq1 hg3
  have hqm : (s.extract 2 s.size).size ≤ maxLen := by rw [HQ.out]; unfold maxLen; omega
  have HQM := Lib.hid hqm
  clear hqm
  have hmw : IntKind.u64.wrap most = most := IntWalk.u64_in _ (by omega)
  have hxw : IntKind.i64.wrap (x : Int) = x := IntWalk.i64_in _ (by omega)
  have hm4i : ¬ ((s.size : Int) < 2 + n + x + 4) := by omega
  have hsz : (s.extract 0 (2 + n + x)).size = 2 + n + x := by rw [ByteArray.size_extract]; omega
  have HSZ := Lib.hid hsz
  have hlt := Crc.on_lt (a := 0) (s.extract 0 (2 + n + x)).data.toList (by decide)
  clear hsz
  go_enter Try.func13, Try.ntmps13
  go_wp2_with fail
  refine (rread_any _ _ HQM.out).mono ?_
  rintro e w1 ⟨rfl, hb⟩
  obtain ⟨hcl, hfr⟩ := kept_cells hb
  rw [HR.out]
  go_wp2_with fail
  obtain ⟨c, hc⟩ : ∃ c, c = Crc.on 0 (s.extract 0 (2 + n + x)).data.toList := ⟨_, rfl⟩
  obtain ⟨F, hF⟩ : ∃ F, F = Crc.four c := ⟨_, rfl⟩
  rw [← hc] at hlt
  have HO : Hid (∀ w : World, Calls Try.prog 24 #[.string (s.extract 0 (2 + n + x))] w fun e w' => e = .returned (.int .u32 (c : Nat)) ∧ Below w.heap.size w w') := fun w => by rw [hc]; exact rof_any _ _ (by rw [HSZ.out]; omega)
  have HY : Hid (∀ w : World, Calls Try.prog 23 #[.int .u32 (c : Nat)] w fun e w' => e = .returned (.string F) ∧ Below w.heap.size w w') := fun w => by rw [hF]; exact rbytes_any _ _ hlt
  have HE : Hid (Frame.rd s.data.toList most = if (s.extract (2 + n + x) (2 + n + x + 4)).toList ≠ F.toList then Frame.bad 41 else (s[1], (s.extract (2 + n) (2 + n + x)).data.toList, 2 + n + x + 4, 0)) := by
    show _ = _
    have e1 : (s.data.toList.drop (2 + n + x)).take 4 = (s.extract (2 + n + x) (2 + n + x + 4)).toList := by
      rw [Lib.toList_data, Lib.extract_data]
      congr 1
      omega
    have e2 : Crc.fourL (Crc.on 0 (s.data.toList.take (2 + n + x))) = F.toList := by
      rw [hF, hc, Lib.toList_data, Lib.extract_data]
      rfl
    have e3 : (s.data.toList.drop (2 + n)).take x = (s.extract (2 + n) (2 + n + x)).data.toList := by
      rw [Lib.extract_data]
      congr 1
      omega
    have hl : s.data.toList.length = s.size := by simp
    rw [HRD.out, if_neg (by decide), if_neg (by decide), if_neg (by omega), if_neg (by omega), e1, e2, e3]
  have HC := Lib.hid hc
  have HF := Lib.hid hF
  have HV := Lib.hid hv
  clear hc hF hv hv1 hne hne2 hge hmw hxw hfr
  have k0 : (0 : Int) ≤ 2 + (n : Int) + x := by omega
  have k1 : 2 + (n : Int) + x ≤ 2 + (n : Int) + x + 4 := by omega
  have k2 : 2 + (n : Int) + x + 4 ≤ s.size := by omega
  have k3 : 2 + (n : Int) + x ≤ s.size := by omega
  have k4 : IntKind.i64.wrap (2 + (n : Int) + x + 4) = 2 + (n : Int) + x + 4 := IntWalk.i64_in _ (by omega)
  have k5 : (2 + (n : Int) + x).toNat = 2 + n + x := by omega
  have k6 : (2 + (n : Int) + x + 4).toNat = 2 + n + x + 4 := by omega
  go_cut [71] (fun v wx => v = .bool (!(s.extract (2 + n + x) (2 + n + x + 4)).toList == F.toList) ∧ Below w1.heap.size w1 wx)
  case first =>
    go_region_held3 (fun w' => Below w1.heap.size w1 w') (first | assumption | exact Below.refl _ _ | exact (Below.refl _ _).drew | exact Frame.keep (by assumption) hb2) (first
      | (go_at_call 24; refine (HO.out _).mono ?_; rintro e w2 ⟨rfl, hb2⟩)
      | (go_at_call 23; refine (HY.out _).mono ?_; rintro e w3 ⟨rfl, hb2⟩))
    go_wp2
    go_meet
    exact ⟨rfl, by assumption⟩
  case rest =>
    obtain ⟨hcv, hbel⟩ := hcut
    have hbw := hb.trans (hbel.mono hb.size)
    obtain ⟨hcl, hfr⟩ := kept_cells hbw
    have f0 := hfr w.heap.size 0 (by simp)
    have f1 := hfr w.heap.size 1 (by simp)
    simp [go_sem] at f0 f1
    have c0 : wc.cell? ⟨w.heap.size, 0, none⟩ = some (.int .u8 0) := (hcl w.heap.size 0 (by simp)).trans (by simp [go_sem])
    have c1 : wc.cell? ⟨w.heap.size, 1, none⟩ = some (.string ⟨#[]⟩) := (hcl w.heap.size 1 (by simp)).trans (by simp [go_sem])
    by_cases he : (s.extract (2 + n + x) (2 + n + x + 4)).toList = F.toList
    · have hb1 : (!(s.extract (2 + n + x) (2 + n + x + 4)).toList == F.toList) = false := by simpa using he
      rw [hb1] at hcv
      subst hcv
      clear hb1
      have HN : Hid (Frame.rd s.data.toList most = (s[1], (s.extract (2 + n) (2 + n + x)).data.toList, 2 + n + x + 4, 0)) := by
        show _ = _
        rw [HE.out, if_neg (fun h => h he)]
      clear he
      go_wp2_with fail
      have j0 : (0 : Int) ≤ 2 + (n : Int) := by omega
      have j1 : 2 + (n : Int) ≤ 2 + (n : Int) + x := by omega
      have j2 : (1 : Int) < s.size := by omega
      have j5 : (2 + (n : Int)).toNat = 2 + n := by omega
      go_region
      go_wp2_with fail
      have c := Frame.cells2 c0 c1 (.int .u8 (s[1].toNat : Int)) (.string (s.extract (2 + n) (2 + n + x)))
      exact bodyPost_ret (v := .tuple #[.agg #[.int .u8 (s[1].toNat : Int), .string (s.extract (2 + n) (2 + n + x))], .int .i64 (2 + (n : Int) + x + 4), .int .i64 0]) (by simp [results, Try.results13, go_sem, c.1, c.2]) rfl ⟨Frame.retV (by rw [HN.out]; exact Frame.val_ok _ _ _ (by omega)), ((((((Below.refl w.heap.size w).alloc (Nat.le_refl _) _).trans (hbw.mono (by simp))).setCell (by simp) _).setCell (by simp) _).drew)⟩
    · have hb1 : (!(s.extract (2 + n + x) (2 + n + x + 4)).toList == F.toList) = true := by simpa using he
      rw [hb1] at hcv
      subst hcv
      clear hb1
      have HN : Hid (Frame.rd s.data.toList most = Frame.bad 41) := by
        show _ = _
        rw [HE.out, if_pos he]
      clear he
      go_wp2_with fail
      have c := Frame.cells2 c0 c1 (.int .u8 0) (.string ⟨#[]⟩)
      exact bodyPost_ret (v := .tuple #[.agg #[.int .u8 0, .string ⟨#[]⟩], .int .i64 0, .int .i64 41]) (by simp [results, Try.results13, go_sem, c.1, c.2]) rfl ⟨Frame.retV (by rw [HN.out]; rfl), ((((Below.refl w.heap.size w).alloc (Nat.le_refl _) _).trans (hbw.mono (by simp))).setCell (by simp) _).setCell (by simp) _⟩
end Go.Proofs.Ytnalpmiinoohoaa
