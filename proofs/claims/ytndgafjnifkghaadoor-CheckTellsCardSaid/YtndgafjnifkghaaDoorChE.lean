/-
  The contract of check.wrong.
-/
import Derived.Test.YtndgafjnifkghaaDoorChD
namespace Go.Proofs.YtndgafjnifkghaaDoor
open Go.RowKit

namespace Ck
open Cd
theorem errV_fault (e : Nat) (i k : Nat) (he : e ≠ 0) : errV (e, i, k) = .iface 46 (.agg #[.int .i64 (e : Int), .int .i64 (i : Int), .int .i64 (k : Int)]) := errV_is he
theorem chk_bad {p : List FnV} (h : pok p = false) : chk p = (8, 0, 0) := by unfold chk; rw [h]; rfl
theorem chk_none {p : List FnV} (h : pok p = true) (h0 : p = []) : chk p = (110, 0, 0) := by unfold chk; rw [if_pos h, if_pos h0]
theorem chk_go {p : List FnV} (h : pok p = true) (h0 : p ≠ []) : chk p = fnsE p p 0 := by unfold chk; rw [if_pos h, if_neg h0]
theorem fns_at {l : List Fm} {i : Nat} (hi : i < l.length) : ∃ h : i < (fns l).length, (fns l)[i] = l[i].f := ⟨by rw [fns_len]; exact hi, by unfold fns; simp⟩
end Ck

set_option maxHeartbeats 1000000 in
set_option maxRecDepth 20000 in
theorem kwrong (A : Option Addr) (c : Nat) (l : List Cd.Fm) (w : World) (hR : ∀ m ∈ l, m.f.Rng) (hn : l.length ≤ maxLen) (hP : Cd.Prog w w.heap.size A l) :
    Calls Tryd.prog 15 #[.agg #[.slice A l.length c]] w fun e w' => e = .returned (Ck.errV (Ck.chk (Cd.fns l))) ∧ Below w.heap.size w w' := by
  obtain ⟨W, hW⟩ : ∃ W, W = w.alloc (.cells #[.slice A l.length c] 24) := ⟨_, rfl⟩
  have hb : Below w.heap.size w W := by rw [hW]; exact Cd.fn1 _ _ _
  have hX : Cd.PBlk W w.heap.size (.slice A l.length c) := by show W.heap[_]? = _; rw [hW]; exact heap_alloc_new w _
  have HB := Lib.hid hb
  have HX := Lib.hid hX
  have p0 := hX.c0
  have hPW := (hP.below hb).mono hb.size
  have HM := Lib.hid (cMay l hR hn A c W hPW)
  have HOK : Hid (Cd.pok (Cd.fns l) = true → Ck.PrgP W A l) := fun h => by
    rw [Cd.pok_iff, Bool.and_eq_true, decide_eq_true_eq, List.all_eq_true] at h
    exact ⟨hPW, hR, h.1, h.2⟩
  have HCB : Hid (Cd.pok (Cd.fns l) = false → Ck.chk (Cd.fns l) = (8, 0, 0)) := fun h => Ck.chk_bad h
  have HCN : Hid (Cd.pok (Cd.fns l) = true → l.length = 0 → Ck.chk (Cd.fns l) = (110, 0, 0)) := fun h h0 => Ck.chk_none h (by unfold Cd.fns; rw [List.eq_nil_of_length_eq_zero h0]; rfl)
  have HCG : Hid (Cd.pok (Cd.fns l) = true → l.length ≠ 0 → Ck.chk (Cd.fns l) = Ck.fnsE (Cd.fns l) (Cd.fns l) 0) := fun h h0 => Ck.chk_go h (fun e => h0 (by rw [← Cd.fns_len l, e]; rfl))
  generalize Cd.pok (Cd.fns l) = q at HM HOK HCB HCN HCG
  unfold maxLen at hn
  clear hb hX hP hPW hR
  go_enter Tryd.func15, Tryd.ntmps15
  go_upto_region 1 with fail
  rw [← hW]
  clear hW
  obtain ⟨X, hXe⟩ : ∃ X, X = w.heap.size := ⟨_, rfl⟩
  rw [← hXe] at HX p0 ⊢
  clear hXe
  go_wp2_with fail
  refine HM.out.mono ?_
  rintro e w1 ⟨rfl, hb1⟩
  have H1 := Lib.hid hb1
  have p0 := (HX.out.of_block (hb1.block _ HX.out.lt)).c0
  clear hb1
  cases q with
  | false =>
    have HE := Lib.hid (HCB.out rfl)
    clear HOK HCB HCN HCG
    go_wp2_with fail
    go_ret
    exact ⟨by rw [HE.out]; rfl, HB.out.trans (H1.out.mono HB.out.size)⟩
  | true =>
    by_cases h0 : l.length = 0
    · have HE := Lib.hid (HCN.out rfl h0)
      have e0 : ((l.length : Int) == 0) = true := by rw [beq_iff_eq]; omega
      clear HOK HCB HCN HCG h0
      go_wp2_with fail
      go_ret
      exact ⟨by rw [HE.out]; rfl, HB.out.trans (H1.out.mono HB.out.size)⟩
    · have HE := Lib.hid (HCG.out rfl h0)
      have e0 : ((l.length : Int) == 0) = false := by rw [beq_eq_false_iff_ne]; omega
      have HP := Lib.hid (HOK.out rfl)
      clear HOK HCB HCN HCG h0
      go_wp2_with fail
      clear p0
      go_loopw [21] (fun s21 wr => ∃ k : Nat, k ≤ l.length ∧ s21 = .int .i64 k ∧ Hid (∀ j (hj : j < l.length), j < k → (Ck.fnE (Cd.fns l) l[j].f).1 = 0) ∧ Hid (Below W.heap.size W wr)) (fun s21 _ => l.length - (intOf s21).toNat)
      case atStart => exact ⟨0, Nat.zero_le _, rfl, (show Hid _ from fun j _ h => by omega), H1.out⟩
      case round =>
        obtain ⟨k, hk, rfl, HK, HBW⟩ := hrel
        have p0 := (HX.out.of_block (HBW.out.block _ HX.out.lt)).c0
        by_cases hlt : k < l.length
        · have k1 : (k : Int) < (l.length : Int) := by omega
          have HC := Lib.hid (kwrongFunc A c l wr (HP.out.later HBW.out) k hlt)
          have HK2 : Hid ((Ck.fnE (Cd.fns l) l[k].f).1 = 0 → ∀ j (hj : j < l.length), j < k + 1 → (Ck.fnE (Cd.fns l) l[j].f).1 = 0) := fun h j hj hjk => by
            rcases Nat.lt_succ_iff_lt_or_eq.1 hjk with h1 | rfl
            · exact HK.out j hj h1
            · exact h
          have HK3 : Hid ((Ck.fnE (Cd.fns l) l[k].f).1 ≠ 0 → Ck.chk (Cd.fns l) = ((Ck.fnE (Cd.fns l) l[k].f).1, k, (Ck.fnE (Cd.fns l) l[k].f).2)) := fun h => by
            obtain ⟨hkl, ek⟩ := Ck.fns_at hlt
            have := Ck.fnsE_at (p := Cd.fns l) (l := Cd.fns l) (k := k) (j := 0) (fun j hj hjk => by
              have hj' : j < l.length := by rwa [Cd.fns_len] at hj
              obtain ⟨_, ej⟩ := Ck.fns_at hj'
              rw [ej]
              exact HK.out j hj' hjk) hkl (by rw [ek]; exact h)
            rw [HE.out, this, ek, Nat.zero_add]
          generalize Ck.fnE (Cd.fns l) l[k].f = x at HC HK2 HK3
          obtain ⟨e, op⟩ := x
          simp only at HC HK2 HK3
          by_cases he : e = 0
          · subst he
            have HK4 := Lib.hid (HK2.out rfl)
            have HC2 : Hid (Calls Tryd.prog 25 #[.agg #[.slice A l.length c], .int .i64 (k : Int)] wr fun e w' => e = .returned .nilIface ∧ Below wr.heap.size wr w') := HC.out
            clear HC HK2 HK3 hlt
            go_wp2_with fail
            refine HC2.out.mono ?_
            rintro e2 w3 ⟨rfl, hb3⟩
            have H3 := Lib.hid (HBW.out.trans (hb3.mono HBW.out.size))
            clear hb3 HC2 p0
            go_wp2_with fail
            go_roundw
            case rel => exact ⟨k + 1, by omega, by go_num, HK4.out, H3.out⟩
            case measure => simp [intOf]; omega
          · have HEE := Lib.hid (HK3.out he)
            have HV := Lib.hid (Ck.errV_fault e k op he)
            have HC2 : Hid (Calls Tryd.prog 25 #[.agg #[.slice A l.length c], .int .i64 (k : Int)] wr fun e2 w' => e2 = .returned (.iface 46 (.agg #[.int .i64 (e : Int), .int .i64 (k : Int), .int .i64 (op : Int)])) ∧ Below wr.heap.size wr w') := by
              have := HC.out
              rw [HV.out] at this
              exact this
            clear HC HK2 HK3 hlt he
            go_wp2_with fail
            refine HC2.out.mono ?_
            rintro e2 w3 ⟨rfl, hb3⟩
            have H3 := Lib.hid (HBW.out.trans (hb3.mono HBW.out.size))
            clear hb3 HC2 p0
            go_wp2_with fail
            go_ret
            exact ⟨by rw [HEE.out]; exact congrArg Ending.returned HV.out.symm, HB.out.trans (H3.out.mono HB.out.size)⟩
        · have k1 : ¬ (k : Int) < (l.length : Int) := by omega
          have HEE : Hid (Ck.chk (Cd.fns l) = (0, 0, 0)) := by
            show _ = _
            rw [HE.out]
            exact Ck.fnsE_no (fun j hj => by
              have hj' : j < l.length := by rwa [Cd.fns_len] at hj
              obtain ⟨_, ej⟩ := Ck.fns_at hj'
              rw [ej]
              exact HK.out j hj' (by omega))
          clear hlt
          go_wp2_with fail
          go_ret
          exact ⟨by rw [HEE.out]; rfl, HB.out.trans (HBW.out.mono HB.out.size)⟩
end Go.Proofs.YtndgafjnifkghaaDoor
