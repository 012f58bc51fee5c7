/-
  The contract of sector's Sure.
-/
import Derived.Test.YtmoifihgomjbcaaSecG
namespace Go.Proofs.Ytmoifihgomjbcaa
open Go.RowKit

theorem byte_cells : (Try.prog.info? 5).map (fun i => (i.zero, i.size, i.bytes)) = some (some (.int .u8 0), 1, 1) := by kernel_rfl
theorem Sec.take_step {xs : List UInt8} (i : Nat) : Sec.cel (xs.take (i * 128)) ++ Sec.cel ((xs.drop (i * 128)).take 128) = Sec.cel (xs.take ((i + 1) * 128)) := by
  rw [← Sec.cel_app, show (i + 1) * 128 = i * 128 + 128 by omega, List.take_add]

set_option maxHeartbeats 2000000 in
set_option maxRecDepth 100000 in
theorem sec_sure (D : Sec.Bl) (s : Sec.St) (w : World) (h : Sec.At D s w) (hs : s.Ok) :
    Calls Try.prog 13 #[D.ptr] w fun e w' => e = .returned (.string ⟨s.good.toArray⟩) ∧ Below w.heap.size w w' := by
  have hn1 := hs.n1
  have hn2 := hs.n2
  obtain ⟨bi, hbi, hbz⟩ := Option.map_eq_some_iff.1 byte_cells
  simp only [Prod.mk.injEq] at hbz
  obtain ⟨hb1, hb2, hb3⟩ := hbz
  have HB := Lib.hid hbi
  have HB1 := Lib.hid hb1
  have HB2 := Lib.hid hb2
  have HB3 := Lib.hid hb3
  have c0 := h.c0
  have H := Lib.hid h
  have HS := Lib.hid hs
  clear h hs hbi hb1 hb2 hb3
  have e : D.ptr = .pointer (some ⟨D.b, 0, none⟩) := rfl
  rw [e]
  clear e
  go_enter Try.func13, Try.ntmps13
  go_wp2_with fail
  refine (sec_is D s _ H.out HS.out).mono ?_
  rintro e w' ⟨rfl, rfl⟩
  go_wp2_with (refine wpList_make_own _ rfl _ _ 61 rfl w.heap.size 5 bi _ 1 Try.underlying61 HB.out HB1.out HB2.out .i64 .i64 _ (s.n * 128) rfl rfl ?hC ?b2 ?b3 ?b4 ?_)
  case hC => omega
  case b2 => rw [HB3.out]; omega
  case b3 => unfold maxLen; omega
  case b4 => omega
  intro w0 hown0 hgrow0
  have hb0 : Below w.heap.size w w0 := ⟨hgrow0.os, hgrow0.tape, hgrow0.output, hgrow0.size, fun k hk => hgrow0.block k hk (by simp)⟩
  have HA := Lib.hid (H.out.below hb0)
  have HO := Lib.hid hown0
  have HBL := Lib.hid hb0
  clear c0 hown0 hgrow0 hb0
  have c0 := HA.out.c0
  go_wp2
  clear c0
  go_loopw [3, 23] (fun v t wr => ∃ i : Nat, i ≤ s.n ∧ t = .int .i64 i ∧ wr.ownsRow w.heap.size 5 1 v (i * 128) (Sec.cel (s.good.take (i * 128))) ∧ Below w.heap.size w wr) (fun _ t _ => s.n - (intOf t).toNat)
  case atStart => exact ⟨0, Nat.zero_le _, rfl, by simpa [Sec.cel] using HO.out, HBL.out⟩
  case round =>
    obtain ⟨i, hi, rfl, hown, hbel⟩ := hrel
    have HW := Lib.hid hown
    have HL := Lib.hid hbel
    have HR := Lib.hid (H.out.below hbel)
    clear hown hbel
    by_cases hlt : i < s.n
    · have hz : ∀ w : World, (zeroValue 57).run Try.prog w = .ok (.agg Sec.zeros) w := fun w => by rw [← Sec.zeros_eq]; exact sec_zero w
      have hne := Sec.zeros_ne
      have hi0 : (0 : Int) ≤ (i : Int) := by omega
      have hi1 : (i : Int) < (s.n : Int) := by omega
      have hsl := sec_slice ⟨wr.heap.size, 0, none⟩
      have HG := Lib.hid (Sec.range_of_row HR.out.good (i * 128) 128)
      have HX : Hid (((s.good.drop (i * 128)).take 128).length = 128) := by
        have := HS.out.good
        show _ = _
        rw [List.length_take, List.length_drop]; omega
      have HT := Lib.hid (Sec.take_step (xs := s.good) i)
      revert HG HX HT
      generalize (s.good.drop (i * 128)).take 128 = x
      intro HG HX HT
      have HC : Hid ((Try.prog.info? 57).map (·.size) = some (Sec.cel x).length) := by
        show _ = _
        rw [sec_size, Sec.cel_len, HX.out]
      have HONE : Hid ((Sec.cel x).toArray.all (·.oneCell') = true) := all_oneCell_toArray (Sec.cel_one _)
      have HZS : Hid (Sec.zeros.size = (Sec.cel x).toArray.size) := by
        show _ = _
        rw [Sec.zeros_size]; simp [Sec.cel_len, HX.out]
      have HROW : Hid (((wr.alloc (.cells Sec.zeros 57)).setRow wr.heap.size (Sec.cel x).toArray).heap[wr.heap.size]? = some (.cells (Sec.cel x).toArray 57 (0, 0))) := setRow_heap _ _ _ _ _ _ (heap_alloc_new wr _)
      have HLen : Hid ((Sec.cel x).length = 128 * 1) := by show _ = _; rw [Sec.cel_len, HX.out]
      have HKeep : Hid (((wr.alloc (.cells Sec.zeros 57)).setRow wr.heap.size (Sec.cel x).toArray).ownsRow w.heap.size 5 1 u3 (i * 128) (Sec.cel (s.good.take (i * 128)))) :=
        HW.out.kept (row := none) (Sec.grown_of_below (Sec.below_own _ _ _) _) (by cases u3.ownBlock <;> simp)
      have hsz : w.heap.size ≤ wr.heap.size := HL.out.size
      go_wp2_with (first
        | refine wpList_load_mid rfl 57 (.tmp 25) rfl D.s (i * 128) rfl (Sec.cel x) _ HG.out Try.underlying57 rfl HC.out ?_
        | refine wpList_store_row rfl 57 (.tmp 5) (.tmp 26) rfl wr.heap.size (Sec.cel x).toArray rfl rfl 57 Sec.zeros (heap_alloc_new wr _) (by rw [HC.out]; simp) HZS.out HONE.out ?_
        | (at_builtin; refine wpList_append_own_at _ rfl _ _ 61 rfl w.heap.size 5 bi _ 1 1 Try.underlying61 HB.out HB1.out HB2.out HB3.out rfl (by omega) _ _ _ rfl HKeep.out ⟨wr.heap.size, 0, none⟩ 128 128 (Sec.cel x) rfl HLen.out ?hn (Sec.cel_one _) ?h63 ?hby ?hba ?_))
      case hn => exact fun j u hu => World.news_of_block HROW.out j u (by simpa using hu)
      case h63 => unfold maxLen; omega
      case hby => omega
      case hba => simp; omega
      intro v' w1 hown' hgrow _ _
      have HOWN : Hid (w1.ownsRow w.heap.size 5 1 v' ((i + 1) * 128) (Sec.cel (s.good.take ((i + 1) * 128)))) := by
        show World.ownsRow _ _ _ _ _ _ _
        rw [← HT.out, show (i + 1) * 128 = i * 128 + 128 by omega]
        exact hown'
      have HBE : Hid (Below w.heap.size w w1) := (HL.out.trans ((Sec.below_own wr _ _).mono hsz)).grown hgrow (by simp; omega) (fun k hk => (HKeep.out.lt k hk).1)
      clear hown' hgrow hz hne hsl
      go_wp2
      go_roundw
      case rel => exact ⟨i + 1, by omega, by go_num, HOWN.out, HBE.out⟩
      case measure => simp [intOf]; omega
    · obtain rfl : i = s.n := by omega
      obtain ⟨g, cap, rfl, _, _⟩ := HW.out.form (by omega)
      have hg := HS.out.good
      have hcv : (convert 61 9 (.slice (some ⟨g, 0, none⟩) (s.n * 128) cap)).run Try.prog wr = .ok (.string ⟨s.good.toArray⟩) wr := by
        have hr := run_convert_bytes_back (P := Try.prog) wr 61 9 5 ⟨g, 0, none⟩ cap s.good Try.underlying61 Try.underlying5 Try.underlying9 (fun j hj => by
          have hc := HW.out.cells (g := g) rfl j
          rw [List.take_of_length_le (by omega)] at hc
          exact hc _ (Sec.cel_get s.good j hj))
        rwa [hg] at hr
      clear hg
      go_wp2
      go_ret
      exact ⟨rfl, HL.out⟩
end Go.Proofs.Ytmoifihgomjbcaa
