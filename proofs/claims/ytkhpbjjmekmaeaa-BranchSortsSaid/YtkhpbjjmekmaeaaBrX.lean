/-
  The contract of the document's Sort (layer 12).
-/
import Derived.Test.YtkhpbjjmekmaeaaBrU
namespace Go.Proofs.Ytkhpbjjmekmaeaa
open Go.RowKit

namespace Br
def Sorted2 (l : List ByteArray) (w : World) (e : Ending) (w' : World) : Prop := ∃ (out : List ByteArray) (B c : Nat), out.length = l.length ∧ out.Perm l ∧ Up out ∧ e = .returned (.slice (some ⟨B, 0, none⟩) l.length c) ∧ Txts B out w' ∧ w.heap.size ≤ B ∧ Below w.heap.size w w'
theorem gr_setU (w : World) (B i : Nat) (u : Value) : w.grownBy (w.setCell ⟨B, i, none⟩ u) (some B) :=
  ⟨rfl, rfl, rfl, by simp [World.setCell], fun k _ hne => Below.heap_setCell _ _ _ _ (by intro e; apply hne; rw [e])⟩
theorem Txts.swp {B : Nat} {M : List ByteArray} {w : World} (h : Txts B M w) {k : Nat} (hk : k < M.length) (x y : ByteArray) : Txts B (swp M k x y) ((w.setCell ⟨B, k, none⟩ (.string y)).setCell ⟨B, k - 1, none⟩ (.string x)) := (h.set k hk y).set (k - 1) (by rw [List.length_set]; omega) x
theorem quiet {P : Program} {f : FuncId} {args : Array Value} {w : World} {n : Nat} {v : Value} (h : Calls P f args (w.drewN n) fun e w' => e = .returned v ∧ ∃ q, w' = (w.drewN n).drewN q) : Calls P f args (w.drewN n) fun e w'' => e = .returned v ∧ ∃ m, w'' = w.drewN m :=
  h.mono fun _ _ ⟨he, q, hq⟩ => ⟨he, n + q, by rw [hq, World.drewN_drewN]⟩
theorem cmp_neg {x y : ByteArray} : decide (cmpR x y < 0) = decide (x.data.toList < y.data.toList) := by
  rw [Bool.eq_iff_iff, decide_eq_true_iff, decide_eq_true_iff]
  exact (cmp_bytes _ _).1
end Br

set_option maxHeartbeats 2000000 in
set_option maxRecDepth 20000 in
theorem rSort12 (l : List ByteArray) (A : Option Addr) (c : Nat) (w : World) (hl : Lies w w.heap.size A (tcells l)) (nl : l.length ≤ 1000) (hs : ∀ x ∈ l, x.size ≤ 1000000) :
    Calls Try.prog 23 #[.slice A l.length c] w (Br.Sorted2 l w) := by
  obtain ⟨g, cap, W, hrun, hT, hg, hb⟩ := Br.copied w A c l hl (by omega) 32
  have HT := Lib.hid hT
  have HG := Lib.hid hg
  have HB := Lib.hid hb
  have HS := Lib.hid hs
  clear hl hT hg hb hs
  have HR := Lib.hid hrun
  clear hrun
  go_enter Try.func23, Try.ntmps23
  go_wp2_with (at_builtin; refine Lib.wpList_append_run _ rfl (.tmp 7) (.tmp 8) 32 32 rfl _ _ rfl rfl _ _ HR.out ?_)
  clear HR
  go_loopw [4] (fun s wr => ∃ (i : Nat) (M : List ByteArray), i ≤ l.length ∧ s = .int .i64 i ∧ Hid (M.Perm l ∧ Br.UpTo i M ∧ Br.Txts g M wr ∧ Below w.heap.size w wr)) (fun s _ => l.length - (intOf s).toNat)
  case atStart => exact ⟨0, l, Nat.zero_le _, rfl, List.Perm.refl _, fun p q _ h => absurd h (by omega), HT.out, HB.out⟩
  case round =>
    clear HT HB
    obtain ⟨i, M, hi, rfl, HM⟩ := hrel
    by_cases hlt : i < l.length
    · have k0 : (0 : Int) ≤ (i : Int) := by omega
      have k1 : (i : Int) < (l.length : Int) := by omega
      rename World => wo
      go_wp2_with fail
      go_loopw [5] (fun s wr => ∃ (k : Nat) (M : List ByteArray), k ≤ i ∧ s = .int .i64 k ∧ Hid (M.Perm l ∧ Br.But i k M ∧ Br.Txts g M wr ∧ Below w.heap.size w wr)) (fun s _ => (intOf s).toNat)
      case atStart => exact ⟨i, M, Nat.le_refl _, rfl, HM.out.1, HM.out.2.1.but, HM.out.2.2⟩
      case round =>
        clear HM
        obtain ⟨k, N, hk, rfl, HN⟩ := hrel
        have hlen : N.length = l.length := HN.out.1.length_eq
        by_cases h0 : k = 0
        · have d0 : decide ((0 : Int) < (k : Int)) = false := decide_eq_false (by omega)
          have d1 : decide (0 < k) = false := decide_eq_false (by omega)
          have HD : Hid (N.Perm l ∧ Br.UpTo (i + 1) N ∧ Br.Txts g N wr ∧ Below w.heap.size w wr) := ⟨HN.out.1, HN.out.2.1.done hk (.inl h0), HN.out.2.2⟩
          clear HN hlen h0
          go_wp2_with fail
          go_quiet (fail)
          go_wp2_with fail
          exact ⟨⟨i + 1, N, by omega, by go_num, HD.out.1, HD.out.2.1, HD.out.2.2.1.keep rfl, below_drewN HD.out.2.2.2 _⟩, by simp [intOf]; omega⟩
        · have d0 : decide ((0 : Int) < (k : Int)) = true := decide_eq_true (by omega)
          have d1 : decide (0 < k) = true := decide_eq_true (by omega)
          obtain ⟨j, hj⟩ : ∃ j, k - 1 = j := ⟨_, rfl⟩
          have hj1 : (k : Int) - 1 = (j : Int) := by omega
          have j0 : (0 : Int) ≤ (j : Int) := by omega
          have j1 : (j : Int) < (l.length : Int) := by omega
          have n0 : (0 : Int) ≤ (k : Int) := by omega
          have n1 : (k : Int) < (l.length : Int) := by omega
          have hkN : k < N.length := by omega
          have hjN : j < N.length := by omega
          obtain ⟨ck, fk⟩ := HN.out.2.2.1.2 k hkN
          obtain ⟨cj, fj⟩ := HN.out.2.2.1.2 j hjN
          have HSX := Lib.hid (HS.out _ (HN.out.1.subset (List.getElem_mem hkN)))
          have HSY := Lib.hid (HS.out _ (HN.out.1.subset (List.getElem_mem hjN)))
          by_cases hcm : (N[k]'hkN).data.toList < (N[j]'hjN).data.toList
          · have dc : decide (Br.cmpR (N[k]'hkN) (N[j]'hjN) < 0) = true := by rw [Br.cmp_neg]; exact decide_eq_true hcm
            have HD : Hid (∀ n, (Br.swp N k (N[k]'hkN) (N[j]'hjN)).Perm l ∧ Br.But i j (Br.swp N k (N[k]'hkN) (N[j]'hjN)) ∧ Br.Txts g (Br.swp N k (N[k]'hkN) (N[j]'hjN)) (((wr.drewN n).setCell ⟨g, k, none⟩ (.string (N[j]'hjN))).setCell ⟨g, j, none⟩ (.string (N[k]'hkN))) ∧ Below w.heap.size w (((wr.drewN n).setCell ⟨g, k, none⟩ (.string (N[j]'hjN))).setCell ⟨g, j, none⟩ (.string (N[k]'hkN)))) := fun n => by
              obtain ⟨m1, m2, m3, m4⟩ := HN.out
              have h0' : 0 < k := by omega
              subst hj
              refine ⟨(Br.swp_perm hkN h0').trans m1, m2.step hk (by omega) h0' (by rw [Br.at0_eq hkN, Br.at0_eq hjN]; exact hcm), Br.Txts.swp (w := wr.drewN n) (m3.keep rfl) hkN _ _, ?_⟩
              have b1 : Below w.heap.size w (wr.drewN n) := below_drewN m4 n
              have b2 := b1.grown (Br.gr_setU (wr.drewN n) g k (.string N[k - 1])) b1.size (fun q hq => by cases hq; exact HG.out)
              exact b2.grown (Br.gr_setU _ g (k - 1) (.string N[k])) b2.size (fun q hq => by cases hq; exact HG.out)
            generalize Br.swp N k (N[k]'hkN) (N[j]'hjN) = N2 at HD
            generalize N[k]'hkN = x at ck dc HD HSX
            generalize N[j]'hjN = y at cj dc HD HSY
            clear HN hlen h0 hj hcm
            go_wp2_with fail
            go_quiet ((go_at_call 19; exact Br.quiet (rCompare12 x y _ HSX.out HSY.out)))
            go_wp2_with fail
            exact ⟨⟨j, N2, by omega, rfl, HD.out _⟩, by simp [intOf]; omega⟩
          · have dc : decide (Br.cmpR (N[k]'hkN) (N[j]'hjN) < 0) = false := by rw [Br.cmp_neg]; exact decide_eq_false hcm
            have HD : Hid (N.Perm l ∧ Br.UpTo (i + 1) N ∧ Br.Txts g N wr ∧ Below w.heap.size w wr) := ⟨HN.out.1, HN.out.2.1.done hk (.inr (by rw [hj, Br.at0_eq hkN, Br.at0_eq hjN]; exact hcm)), HN.out.2.2⟩
            generalize N[k]'hkN = x at ck dc HSX
            generalize N[j]'hjN = y at cj dc HSY
            clear HN hlen h0 hj hcm
            go_wp2_with fail
            go_quiet ((go_at_call 19; exact Br.quiet (rCompare12 x y _ HSX.out HSY.out)))
            go_wp2_with fail
            exact ⟨⟨i + 1, N, by omega, by go_num, HD.out.1, HD.out.2.1, HD.out.2.2.1.keep rfl, below_drewN HD.out.2.2.2 _⟩, by simp [intOf]; omega⟩
    · obtain rfl : i = l.length := by omega
      have k1 : ¬ (l.length : Int) < (l.length : Int) := by omega
      have HF : Hid (M.length = l.length ∧ M.Perm l ∧ Br.Up M ∧ Br.Txts g M wr ∧ Below w.heap.size w wr) := by
        obtain ⟨m1, m2, m3, m4⟩ := HM.out
        rw [← m1.length_eq] at m2
        exact ⟨m1.length_eq, m1, Br.upTo_up m2, m3, m4⟩
      clear HM hlt
      go_wp2_with fail
      go_ret
      exact ⟨M, g, cap, HF.out.1, HF.out.2.1, HF.out.2.2.1, rfl, HF.out.2.2.2.1, HG.out, HF.out.2.2.2.2⟩
end Go.Proofs.Ytkhpbjjmekmaeaa
