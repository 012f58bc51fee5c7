/-
  Contracts of the document's answers for frames: Read.
-/
import Derived.Test.YtnalpmiinoohoaaFrameRd
import Derived.BigQuiet
import Derived.Deep.RegionWith
import Derived.Deep.DrawnRows
import Derived.Deep.RegionHeld3
import Derived.Deep.DeepCutAuto
import Derived.WalkSmall
namespace Go.Proofs.Ytnalpmiinoohoaa
open Go.RowKit

set_option maxRecDepth 20000 in
set_option maxHeartbeats 4000000 in
theorem frread_any (s : ByteArray) (most : Int) (w : World) (hs : s.size ≤ 1000000) (m0 : -9223372036854775808 ≤ most) (m1 : most ≤ 9223372036854775807) :
    Calls Try.prog 13 #[.string s, .int .i64 most] w fun e w' => e = .returned (Frame.val (Frame.rd s.data.toList most)) ∧ Below w.heap.size w w' := by
  have hm : (s.size : Int) ≤ 1000000 := by omega
  by_cases h0 : s.size = 0
  · have hs0 : s = ⟨#[]⟩ := by
      apply ByteArray.ext
      exact Array.eq_empty_of_size_eq_zero h0
    subst hs0
    go_enter Try.func13, Try.ntmps13
    go_wp2_with fail
    exact bodyPost_ret (v := .tuple #[.agg #[.int .u8 0, .string ⟨#[]⟩], .int .i64 0, .int .i64 40]) (by simp [results, Try.results13, go_sem]) rfl ⟨rfl, by first | exact (Below.refl _ _).alloc (Nat.le_refl _) _ | exact (((Below.refl _ _).alloc (Nat.le_refl _) _).setCell (by simp) _).setCell (by simp) _⟩
  have hne : ¬ s.toList = [] := by
    intro h
    rw [Lib.toList_data] at h
    have l : s.data.toList.length = s.size := by simp
    rw [h] at l
    exact h0 l.symm
  have hne2 : s.toList.isEmpty = false := by simpa using hne
  have hp : 0 < s.size := by omega
  by_cases hv : s[0] = 1
  · have hv1 : ((s[0].toNat : Int) != 1) = false := by rw [hv]; rfl
    by_cases h1 : s.size = 1
    · have hlt : (s.size : Int) < 2 := by omega
      have HR : Hid (Frame.rd s.data.toList most = Frame.bad 40) := by
        show _ = _
        rw [Frame.one s h1, hv]; rfl
      clear h1
      go_enter Try.func13, Try.ntmps13
      go_wp2_with fail
      exact bodyPost_ret (v := .tuple #[.agg #[.int .u8 0, .string ⟨#[]⟩], .int .i64 0, .int .i64 40]) (by simp [results, Try.results13, go_sem]) rfl ⟨Frame.retV (by rw [HR.out]; rfl), by first | exact (Below.refl _ _).alloc (Nat.le_refl _) _ | exact (((Below.refl _ _).alloc (Nat.le_refl _) _).setCell (by simp) _).setCell (by simp) _⟩
    have hge : ¬ (s.size : Int) < 2 := by omega
    have h2 := Frame.two s (by omega)
    have hqs : (s.extract 2 s.size).size = s.size - 2 := by rw [ByteArray.size_extract]; omega
    have hrd := Frame.rd_two s[1] (s.extract 2 s.size).data.toList most
    rw [← hv, ← h2] at hrd
    have hbd := Num.rd_bound (s.extract 2 s.size).data.toList
    generalize hR : Num.rd (s.extract 2 s.size).data.toList = R at hrd hbd
    obtain ⟨x, n, g⟩ := R
    simp only [] at hrd hbd
    obtain ⟨hq1, hn10, hx64, hg3, hz⟩ := hbd
    have hnq : n ≤ s.size - 2 := by
      have l : (s.extract 2 s.size).data.toList.length = (s.extract 2 s.size).size := by simp
      omega
    have HRD := Lib.hid hrd
    have HR := Lib.hid hR
    have HZ := Lib.hid hz
    have HQ := Lib.hid hqs
    clear hrd hR hz hqs h2 hq1
    have hqm : (s.extract 2 s.size).size ≤ maxLen := by rw [HQ.out]; unfold maxLen; omega
    have HQM := Lib.hid hqm
    clear hqm
    by_cases hg10 : g = 10
    · subst hg10
      have HF : Hid (Frame.rd s.data.toList most = Frame.bad 40) := by
        show _ = _
        rw [HRD.out, if_pos rfl]
      go_enter Try.func13, Try.ntmps13
      go_wp2_with fail
      refine (rread_any _ _ HQM.out).mono ?_
      rintro e w1 ⟨rfl, hb⟩
      obtain ⟨hcl, hfr⟩ := kept_cells hb
      rw [HR.out]
      go_wp2_with fail
      have c := Frame.cells2 (a := .int .u8 0) (b := .string ⟨#[]⟩) ((hcl w.heap.size 0 (by simp)).trans (by simp [go_sem])) ((hcl w.heap.size 1 (by simp)).trans (by simp [go_sem])) (.int .u8 0) (.string ⟨#[]⟩)
      exact bodyPost_ret (v := .tuple #[.agg #[.int .u8 0, .string ⟨#[]⟩], .int .i64 0, .int .i64 40]) (by simp [results, Try.results13, go_sem, c.1, c.2]) rfl ⟨Frame.retV (by rw [HF.out]; rfl), ((((Below.refl w.heap.size w).alloc (Nat.le_refl _) _).trans (hb.mono (by simp))).setCell (by simp) _).setCell (by simp) _⟩
    · have hgb : ((g : Int) == 10) = false := by simpa using (by omega : ¬ (g : Int) = 10)
      by_cases hg0 : g = 0
      · subst hg0
        by_cases hm1 : most < 0
        · have HF : Hid (Frame.rd s.data.toList most = Frame.bad 4) := by
            show _ = _
            rw [HRD.out, if_neg (by decide), if_neg (by decide), if_pos (Or.inl hm1)]
          go_enter Try.func13, Try.ntmps13
          go_wp2_with fail
          refine (rread_any _ _ HQM.out).mono ?_
          rintro e w1 ⟨rfl, hb⟩
          obtain ⟨hcl, hfr⟩ := kept_cells hb
          rw [HR.out]
          go_wp2_with fail
          have c := Frame.cells2 (a := .int .u8 0) (b := .string ⟨#[]⟩) ((hcl w.heap.size 0 (by simp)).trans (by simp [go_sem])) ((hcl w.heap.size 1 (by simp)).trans (by simp [go_sem])) (.int .u8 0) (.string ⟨#[]⟩)
          exact bodyPost_ret (v := .tuple #[.agg #[.int .u8 0, .string ⟨#[]⟩], .int .i64 0, .int .i64 4]) (by simp [results, Try.results13, go_sem, c.1, c.2]) rfl ⟨Frame.retV (by rw [HF.out]; rfl), ((((Below.refl w.heap.size w).alloc (Nat.le_refl _) _).trans (hb.mono (by simp))).setCell (by simp) _).setCell (by simp) _⟩
        have hmw : IntKind.u64.wrap most = most := IntWalk.u64_in _ (by omega)
        by_cases hm2 : most < (x : Int)
        · have HF : Hid (Frame.rd s.data.toList most = Frame.bad 4) := by
            show _ = _
            rw [HRD.out, if_neg (by decide), if_neg (by decide), if_pos (Or.inr (Or.inl hm2))]
          go_enter Try.func13, Try.ntmps13
          go_wp2_with fail
          refine (rread_any _ _ HQM.out).mono ?_
          rintro e w1 ⟨rfl, hb⟩
          obtain ⟨hcl, hfr⟩ := kept_cells hb
          rw [HR.out]
          go_wp2_with fail
          have c := Frame.cells2 (a := .int .u8 0) (b := .string ⟨#[]⟩) ((hcl w.heap.size 0 (by simp)).trans (by simp [go_sem])) ((hcl w.heap.size 1 (by simp)).trans (by simp [go_sem])) (.int .u8 0) (.string ⟨#[]⟩)
          exact bodyPost_ret (v := .tuple #[.agg #[.int .u8 0, .string ⟨#[]⟩], .int .i64 0, .int .i64 4]) (by simp [results, Try.results13, go_sem, c.1, c.2]) rfl ⟨Frame.retV (by rw [HF.out]; rfl), ((((Below.refl w.heap.size w).alloc (Nat.le_refl _) _).trans (hb.mono (by simp))).setCell (by simp) _).setCell (by simp) _⟩
        by_cases hm3 : 131072 < x
        · have HF : Hid (Frame.rd s.data.toList most = Frame.bad 4) := by
            show _ = _
            rw [HRD.out, if_neg (by decide), if_neg (by decide), if_pos (Or.inr (Or.inr hm3))]
          go_enter Try.func13, Try.ntmps13
          go_wp2_with fail
          refine (rread_any _ _ HQM.out).mono ?_
          rintro e w1 ⟨rfl, hb⟩
          obtain ⟨hcl, hfr⟩ := kept_cells hb
          rw [HR.out]
          go_wp2_with fail
          have c := Frame.cells2 (a := .int .u8 0) (b := .string ⟨#[]⟩) ((hcl w.heap.size 0 (by simp)).trans (by simp [go_sem])) ((hcl w.heap.size 1 (by simp)).trans (by simp [go_sem])) (.int .u8 0) (.string ⟨#[]⟩)
          exact bodyPost_ret (v := .tuple #[.agg #[.int .u8 0, .string ⟨#[]⟩], .int .i64 0, .int .i64 4]) (by simp [results, Try.results13, go_sem, c.1, c.2]) rfl ⟨Frame.retV (by rw [HF.out]; rfl), ((((Below.refl w.heap.size w).alloc (Nat.le_refl _) _).trans (hb.mono (by simp))).setCell (by simp) _).setCell (by simp) _⟩
        have hxw : IntKind.i64.wrap (x : Int) = x := IntWalk.i64_in _ (by omega)
        have hl : s.data.toList.length = s.size := by simp
        by_cases hm4 : s.size < 2 + n + x + 4
        · have hm4i : ((s.size : Int) < 2 + n + x + 4) := by omega
          have HF : Hid (Frame.rd s.data.toList most = Frame.bad 40) := by
            show _ = _
            rw [HRD.out, if_neg (by decide), if_neg (by decide), if_neg (by omega), if_pos (by omega)]
          go_enter Try.func13, Try.ntmps13
          go_wp2_with fail
          refine (rread_any _ _ HQM.out).mono ?_
          rintro e w1 ⟨rfl, hb⟩
          obtain ⟨hcl, hfr⟩ := kept_cells hb
          rw [HR.out]
          go_wp2_with fail
          have c := Frame.cells2 (a := .int .u8 0) (b := .string ⟨#[]⟩) ((hcl w.heap.size 0 (by simp)).trans (by simp [go_sem])) ((hcl w.heap.size 1 (by simp)).trans (by simp [go_sem])) (.int .u8 0) (.string ⟨#[]⟩)
          exact bodyPost_ret (v := .tuple #[.agg #[.int .u8 0, .string ⟨#[]⟩], .int .i64 0, .int .i64 40]) (by simp [results, Try.results13, go_sem, c.1, c.2]) rfl ⟨Frame.retV (by rw [HF.out]; rfl), ((((Below.refl w.heap.size w).alloc (Nat.le_refl _) _).trans (hb.mono (by simp))).setCell (by simp) _).setCell (by simp) _⟩
        exact frread_deep s most w hs (by omega) hv HR.out hm1 hm2 hm3 hm4 m1
      · have hg0b : ((g : Int) != 0) = true := by simpa using (by omega : ¬ (g : Int) = 0)
        have HF : Hid (Frame.rd s.data.toList most = Frame.bad 8) := by
          show _ = _
          rw [HRD.out, if_neg hg10, if_pos hg0]
        clear hg10 hg0
        go_enter Try.func13, Try.ntmps13
        go_wp2_with fail
        refine (rread_any _ _ HQM.out).mono ?_
        rintro e w1 ⟨rfl, hb⟩
        obtain ⟨hcl, hfr⟩ := kept_cells hb
        rw [HR.out]
        go_wp2_with fail
        have c := Frame.cells2 (a := .int .u8 0) (b := .string ⟨#[]⟩) ((hcl w.heap.size 0 (by simp)).trans (by simp [go_sem])) ((hcl w.heap.size 1 (by simp)).trans (by simp [go_sem])) (.int .u8 0) (.string ⟨#[]⟩)
        exact bodyPost_ret (v := .tuple #[.agg #[.int .u8 0, .string ⟨#[]⟩], .int .i64 0, .int .i64 8]) (by simp [results, Try.results13, go_sem, c.1, c.2]) rfl ⟨Frame.retV (by rw [HF.out]; rfl), ((((Below.refl w.heap.size w).alloc (Nat.le_refl _) _).trans (hb.mono (by simp))).setCell (by simp) _).setCell (by simp) _⟩
  · have hv1 : ((s[0].toNat : Int) != 1) = true := by
      rw [bne_iff_ne]
      intro h
      apply hv
      have e1 : (1 : UInt8).toNat = 1 := rfl
      exact UInt8.toNat_inj.1 (by omega)
    have HR : Hid (Frame.rd s.data.toList most = Frame.bad 42) := by
      show _ = _
      have hl : s.data.toList.length = s.size := by simp
      rw [← List.drop_zero (l := s.data.toList), List.drop_eq_getElem_cons (by omega)]
      exact Frame.rd_foreign _ _ hv
    go_enter Try.func13, Try.ntmps13
    go_wp2_with fail
    exact bodyPost_ret (v := .tuple #[.agg #[.int .u8 0, .string ⟨#[]⟩], .int .i64 0, .int .i64 42]) (by simp [results, Try.results13, go_sem]) rfl ⟨Frame.retV (by rw [HR.out]; rfl), by first | exact (Below.refl _ _).alloc (Nat.le_refl _) _ | exact (((Below.refl _ _).alloc (Nat.le_refl _) _).setCell (by simp) _).setCell (by simp) _⟩
end Go.Proofs.Ytnalpmiinoohoaa
