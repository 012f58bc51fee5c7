/-
  The contract of branch.Sort.
-/
import Derived.Test.YtkhpbjjmekmaeaaBrT
import Derived.Laws.OwnMore
namespace Go.Proofs.Ytkhpbjjmekmaeaa
open Go.RowKit

namespace Br
theorem trail_info : (Try.prog.info? 37).map (fun i => (i.zero, i.size, i.bytes)) = some (some (.string ⟨#[]⟩), 1, 16) := by kernel_rfl
theorem str_info1 : (Try.prog.info? 9).map (fun i => (i.zero, i.size, i.bytes)) = some (some (.string ⟨#[]⟩), 1, 16) := by kernel_rfl
/-- What Sort tells. -/
def Sorted (l : List ByteArray) (w : World) (e : Ending) (w' : World) : Prop := ∃ (out : List ByteArray) (B c : Nat), out.length = l.length ∧ out.Perm l ∧ Up out ∧ e = .returned (.slice (some ⟨B, 0, none⟩) l.length c) ∧ Txts B out w' ∧ w.heap.size ≤ B ∧ Below w.heap.size w w'
theorem gr_setT (w : World) (B i : Nat) (u : Value) : w.grownBy (w.setCell ⟨B, i, none⟩ u) (some B) :=
  ⟨rfl, rfl, rfl, by simp [World.setCell], fun k _ hne => Below.heap_setCell _ _ _ _ (by intro e; apply hne; rw [e])⟩
theorem take_set {M l : List ByteArray} {k : Nat} (hm : M.length = l.length) (hk : k < l.length) (h : M.take k = l.take k) : (M.set k (l[k]'hk)).take (k + 1) = l.take (k + 1) := by
  rw [List.take_succ_eq_append_getElem hk, List.take_succ_eq_append_getElem (by rw [List.length_set]; omega), List.getElem_set_self, List.take_set_of_le (Nat.le_refl _), h]
end Br

set_option maxHeartbeats 2000000 in
set_option maxRecDepth 20000 in
theorem bSort (l : List ByteArray) (A : Option Addr) (c : Nat) (w : World) (hl : Lies w w.heap.size A (tcells l)) (nl : l.length ≤ 1000) (hs : ∀ x ∈ l, x.size ≤ 1000000) :
    Calls Try.prog 22 #[.slice A l.length c] w (Br.Sorted l w) := by
  have HL := Lib.hid hl
  have HS := Lib.hid hs
  have HMK : Hid (∀ w : World, (Instr.makeSlice 44 (.int .i64 (l.length : Int)) (.int .i64 (l.length : Int))).run Try.prog w = .ok (.slice (some ⟨w.heap.size, 0, none⟩) l.length l.length) (w.alloc (.cells (madeCells #[.string ⟨#[]⟩] l.length) 37))) := run_make_row' (P := Try.prog) 44 37 (.string ⟨#[]⟩) 16 Try.underlying44 Br.trail_info rfl .i64 .i64 l.length (by omega) (by omega)
  have HMS : Hid (∀ w : World, (Instr.makeSlice 32 (.int .i64 (l.length : Int)) (.int .i64 (l.length : Int))).run Try.prog w = .ok (.slice (some ⟨w.heap.size, 0, none⟩) l.length l.length) (w.alloc (.cells (madeCells #[.string ⟨#[]⟩] l.length) 9))) := run_make_row' (P := Try.prog) 32 9 (.string ⟨#[]⟩) 16 Try.underlying32 Br.str_info1 rfl .i64 .i64 l.length (by omega) (by omega)
  have hmk := HMK.out
  obtain ⟨V, hV⟩ : ∃ V, V = w.alloc (.cells (madeCells #[.string ⟨#[]⟩] l.length) 37) := ⟨_, rfl⟩
  have hVr : V.heap[w.heap.size]? = some (.cells (madeCells #[.string ⟨#[]⟩] l.length) 37 (0, 0)) := by rw [hV]; exact heap_alloc_new w _
  have HBV : Hid (Below w.heap.size w V) := by show Below _ _ _; rw [hV]; exact (Below.refl _ _).alloc (Nat.le_refl _) _
  have HT0 : Hid (Br.Txts w.heap.size (List.replicate l.length ⟨#[]⟩) V) := Br.Txts.made (by rw [hV]; simp) hVr
  clear hVr hl hs HMK
  go_enter Try.func22, Try.ntmps22
  go_upto_region 2 with fail
  rw [← hV]
  clear hV hmk
  obtain ⟨B, hB⟩ : ∃ B, B = w.heap.size := ⟨_, rfl⟩
  have HBE := Lib.hid hB
  rw [← hB] at HT0 ⊢
  clear hB
  go_wp2_with fail
  go_loopw [14] (fun s wr => ∃ (k : Nat) (M : List ByteArray), k ≤ l.length ∧ s = .int .i64 k ∧ Hid (M.length = l.length ∧ M.take k = l.take k ∧ Br.Txts B M wr ∧ Below w.heap.size w wr)) (fun s _ => l.length - (intOf s).toNat)
  case atStart => exact ⟨0, List.replicate l.length ⟨#[]⟩, Nat.zero_le _, rfl, List.length_replicate, rfl, HT0.out, HBV.out⟩
  case round =>
    clear HT0 HBV
    obtain ⟨k, M, hk, rfl, HM⟩ := hrel
    by_cases hlt : k < l.length
    · have k0 : (0 : Int) ≤ (k : Int) := by omega
      have k1 : (k : Int) < (l.length : Int) := by omega
      obtain ⟨ad, rfl, hab, hc⟩ := (HL.out.below HM.out.2.2.2).at_ (tcells_at hlt)
      obtain ⟨v2, hc2, hf2⟩ : ∃ v, wr.cell? ⟨B, k, none⟩ = some v ∧ wr.frozen? ⟨B, k, none⟩ = false := ⟨_, HM.out.2.2.1.2 k (by rw [HM.out.1]; exact hlt)⟩
      have HN : Hid ((M.set k l[k]).length = l.length ∧ (M.set k l[k]).take (k + 1) = l.take (k + 1) ∧ Br.Txts B (M.set k l[k]) (wr.setCell ⟨B, k, none⟩ (.string l[k])) ∧ Below w.heap.size w (wr.setCell ⟨B, k, none⟩ (.string l[k]))) := by
        obtain ⟨m1, m2, m3, m4⟩ := HM.out
        refine ⟨by rw [List.length_set]; exact m1, Br.take_set m1 hlt m2, m3.set k (by omega) _, m4.grown (Br.gr_setT wr B k _) m4.size (fun q hq => by cases hq; exact Nat.le_of_eq HBE.out.symm)⟩
      generalize M.set k l[k] = M2 at HN
      generalize l[k] = x at hc HN
      clear HM hab hlt
      go_wp2_with fail
      go_roundw
      case rel => exact ⟨k + 1, M2, by omega, by go_num, HN.out⟩
      case measure => simp [intOf]; omega
    · obtain rfl : k = l.length := by omega
      have k1 : ¬ (l.length : Int) < (l.length : Int) := by omega
      obtain ⟨m1, m2, m3, m4⟩ := HM.out
      have hMl : M = l := by
        rw [List.take_of_length_le (by omega), List.take_of_length_le (by omega)] at m2
        exact m2
      subst hMl
      have HSO := Lib.hid (bsort (n := M.length) m3 (Nat.le_of_eq HBE.out.symm) (by omega))
      have HM4 := Lib.hid m4
      clear m1 m2 m3 m4 HM hlt
      go_wp2_with fail
      refine HSO.out.mono ?_
      rintro e w2 ⟨rfl, out, ho1, ho2, ho3, ho4, hb2⟩
      have HO := Lib.hid (And.intro ho1 (And.intro ho2 ho3))
      have HO4 := Lib.hid ho4
      have HB2 : Hid (Below w.heap.size w w2) := HM4.out.trans hb2
      clear ho1 ho2 ho3 ho4 hb2 HM4 HSO
      have hms := HMS.out
      obtain ⟨U, hU⟩ : ∃ U, U = w2.alloc (.cells (madeCells #[.string ⟨#[]⟩] M.length) 9) := ⟨_, rfl⟩
      have hUr : U.heap[w2.heap.size]? = some (.cells (madeCells #[.string ⟨#[]⟩] M.length) 9 (0, 0)) := by rw [hU]; exact heap_alloc_new w2 _
      have hbU : Below w2.heap.size w2 U := by rw [hU]; exact (Below.refl _ _).alloc (Nat.le_refl _) _
      have HBU : Hid (Below w.heap.size w U) := HB2.out.trans (hbU.mono HB2.out.size)
      have HT1 : Hid (Br.Txts w2.heap.size (List.replicate M.length ⟨#[]⟩) U) := Br.Txts.made (by rw [hU]; simp) hUr
      have HOU : Hid (Br.Txts B out U) := HO4.out.keep (hbU.block _ HO4.out.1)
      have HGE : Hid (w.heap.size ≤ w2.heap.size ∧ B < w2.heap.size) := ⟨HB2.out.size, HO4.out.1⟩
      clear hUr hbU HO4 HB2 HMS
      go_upto_region 9 with fail
      rw [← hU]
      clear hU hms
      generalize w2.heap.size = C at *
      have hol : out.length = M.length := HO.out.1
      have HOL := Lib.hid hol
      clear hol
      go_wp2_with fail
      go_loopw [31] (fun s wr => ∃ (k : Nat) (R : List ByteArray), k ≤ M.length ∧ s = .int .i64 k ∧ Hid (R.length = out.length ∧ R.take k = out.take k ∧ Br.Txts C R wr ∧ Br.Txts B out wr ∧ Below w.heap.size w wr)) (fun s _ => M.length - (intOf s).toNat)
      case atStart => exact ⟨0, List.replicate M.length ⟨#[]⟩, Nat.zero_le _, rfl, List.length_replicate.trans HOL.out.symm, rfl, HT1.out, HOU.out, HBU.out⟩
      case round =>
        clear HT1 HOU HBU
        obtain ⟨k, R, hk, rfl, HR⟩ := hrel
        by_cases hlt : k < M.length
        · have k0 : (0 : Int) ≤ (k : Int) := by omega
          have k1 : (k : Int) < (M.length : Int) := by omega
          have hko : k < out.length := by rw [HOL.out]; exact hlt
          obtain ⟨hc, hf⟩ := HR.out.2.2.2.1.2 k hko
          have HX := Lib.hid (fun U => btext out[k] U (HS.out _ (HO.out.2.1.subset (List.getElem_mem hko))))
          have HN : Hid (∀ U, Below wr.heap.size wr U → ((∃ v, U.cell? ⟨C, k, none⟩ = some v) ∧ U.frozen? ⟨C, k, none⟩ = false) ∧ (R.set k out[k]).length = out.length ∧ (R.set k out[k]).take (k + 1) = out.take (k + 1) ∧ Br.Txts C (R.set k out[k]) (U.setCell ⟨C, k, none⟩ (.string out[k])) ∧ Br.Txts B out (U.setCell ⟨C, k, none⟩ (.string out[k])) ∧ Below w.heap.size w (U.setCell ⟨C, k, none⟩ (.string out[k]))) := fun U hU => by
            obtain ⟨m1, m2, m3, m5, m4⟩ := HR.out
            have t3 := m3.keep (hU.block _ m3.1)
            have t5 := m5.keep (hU.block _ m5.1)
            obtain ⟨hc2, hf2⟩ := t3.2 k (by omega)
            have hge := HGE.out
            refine ⟨⟨⟨_, hc2⟩, hf2⟩, by rw [List.length_set]; exact m1, Br.take_set m1 hko m2, t3.set k (by omega) _, t5.keep ((Br.gr_setT U C k _).block B t5.1 (by simp; omega)), (m4.trans (hU.mono m4.size)).grown (Br.gr_setT U C k _) ((m4.trans (hU.mono m4.size))).size (fun q hq => by cases hq; exact hge.1)⟩
          generalize R.set k out[k] = R2 at HN
          generalize out[k] = x at hc HX HN
          clear HR hlt hko
          go_wp2_with fail
          refine (HX.out _).mono ?_
          rintro e w5 ⟨rfl, hb5⟩
          obtain ⟨⟨⟨v, hc5⟩, hf5⟩, hN⟩ := HN.out _ hb5
          have HN2 := Lib.hid hN
          clear hb5 hN HN HX hc hf
          go_wp2_with fail
          go_roundw
          case rel => exact ⟨k + 1, R2, by omega, by go_num, HN2.out⟩
          case measure => simp [intOf]; omega
        · obtain rfl : k = M.length := by omega
          have k1 : ¬ (M.length : Int) < (M.length : Int) := by omega
          have HF : Hid (Br.Txts C out wr ∧ Below w.heap.size w wr) := by
            obtain ⟨m1, m2, m3, m5, m4⟩ := HR.out
            rw [List.take_of_length_le (by have := HOL.out; omega), List.take_of_length_le (by have := HOL.out; omega)] at m2
            rw [← m2]
            exact ⟨m3, m4⟩
          clear HR hlt
          go_wp2_with fail
          go_ret
          exact ⟨out, C, M.length, HO.out.1, HO.out.2.1, HO.out.2.2, rfl, HF.out.1, HGE.out.1, HF.out.2⟩
end Go.Proofs.Ytkhpbjjmekmaeaa
