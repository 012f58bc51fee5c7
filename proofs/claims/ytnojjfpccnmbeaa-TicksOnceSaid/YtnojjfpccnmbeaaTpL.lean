/-
  The program's timers: Set, Stop.
-/
import Derived.Test.YtnojjfpccnmbeaaTpK
namespace Go.Proofs.Ytnojjfpccnmbeaa
open Go.RowKit

namespace Tk
theorem has_perm {k : ByteArray} {l m : List Tm} (h : l.Perm m) : has k l = has k m := by
  rw [Bool.eq_iff_iff, has_iff, has_iff]
  exact ⟨fun ⟨x, hx, e⟩ => ⟨x, h.subset hx, e⟩, fun ⟨x, hx, e⟩ => ⟨x, h.symm.subset hx, e⟩⟩
theorem drop_perm {k : ByteArray} {l m : List Tm} (h : l.Perm m) : (drop k l).Perm (drop k m) := h.filter _
theorem setC_perm {c : Int} {l m : List Tm} (h : l.Perm m) (k : ByteArray) (a : Int) : setC c l k a = setC c m k a := by
  unfold setC
  rw [has_perm h, h.length_eq]
theorem setL_perm {c : Int} {l m : List Tm} (h : l.Perm m) (k : ByteArray) (a : Int) : (setL c l k a).Perm (setL c m k a) := by
  unfold setL
  rw [setC_perm h]
  split
  · exact (drop_perm h).append_right _
  · exact h
theorem stopC_perm {l m : List Tm} (h : l.Perm m) (k : ByteArray) : stopC k l = stopC k m := by unfold stopC; rw [has_perm h]
/-- What is left when the timers of some keys went. -/
def stopL (ks : List ByteArray) (l : List Tm) : List Tm := ks.foldl (fun l k => drop k l) l
theorem stopL_snoc (ks : List ByteArray) (k : ByteArray) (l : List Tm) : stopL (ks ++ [k]) l = drop k (stopL ks l) := by simp [stopL]
theorem drop_count {l : List Tm} (h : Dist l) (k : ByteArray) : (drop k l).length + (if has k l = true then 1 else 0) = l.length := by
  cases e : has k l with
  | true =>
    obtain ⟨x, hx, hk⟩ := has_iff.1 e
    obtain ⟨i, hi, rfl⟩ := List.getElem_of_mem hx
    rw [← drop_at h i hi hk, List.length_eraseIdx, if_pos hi]
    simp
    omega
  | false =>
    have hno : ∀ y ∈ l, y.1 ≠ k := fun y hy e2 => by
      have := has_iff.2 ⟨y, hy, e2⟩
      rw [e] at this; cases this
    rw [drop_none hno]
    simp
theorem stop_count {l : List Tm} (h : Dist l) (k : ByteArray) : ((l.length - (drop k l).length : Nat) : Int) = stopC k l := by
  have := drop_count h k
  unfold stopC
  split <;> rename_i e
  · rw [if_pos e] at this; omega
  · rw [if_neg e] at this; omega
theorem mvt_cell {off off' : Nat → Prop} {w w' : World} (h : Mvt off off' w w') {a : Addr} (hb : a.block < w.heap.size) (ho : off a.block) : w'.cell? a = w.cell? a := World.cell?_of_block (h.block _ hb ho)
end Tk

set_option maxRecDepth 20000 in
set_option maxHeartbeats 2000000 in
theorem tkset {T Q B : Nat} {v : Value} {c : Int} {l : List Tk.Tm} {w : World} (h : Tk.PTm T Q B v c l w) (hl : l.length ≤ 99990) (k : ByteArray) (a : Int) :
    Calls Try.prog 11 #[.pointer (some ⟨T, 0, none⟩), .string k, .int .i64 a] w fun e w' => e = .returned (.int .i64 (Tk.setC c l k a)) ∧ Hid (∃ v' l', Tk.PTm T Q B v' c l' w' ∧ Tk.Mvt (Tk.POff T Q B v) (Tk.POff T Q B v') w w' ∧ l'.Perm (Tk.setL c l k a)) := by
  have HIS := Lib.hid (tkis h)
  by_cases hk : 64 < k.size
  · have hk2 : decide ((64 : Int) < (k.size : Int)) = true := by simp; omega
    have HC0 : Hid (Tk.setC c l k a = 4) := by show _ = _; unfold Tk.setC; rw [if_pos hk]
    have HE : Hid (∃ v' l', Tk.PTm T Q B v' c l' w ∧ Tk.Mvt (Tk.POff T Q B v) (Tk.POff T Q B v') w w ∧ l'.Perm (Tk.setL c l k a)) := ⟨v, l, h, .refl _ _, by unfold Tk.setL; rw [HC0.out, if_neg (by omega)]⟩
    clear hk h
    go_enter Try.func11, Try.ntmps11
    go_wp2_with (go_at_call 24; refine HIS.out.mono ?_; rintro e w2 ⟨rfl, rfl⟩)
    go_ret
    exact ⟨by rw [HC0.out]; rfl, HE⟩
  have hk2 : decide ((64 : Int) < (k.size : Int)) = false := by simp; omega
  have c0 := h.c0
  by_cases ha : a ≤ c ∨ 17592186044416 < a
  · have HC0 : Hid (Tk.setC c l k a = 2) := by show _ = _; unfold Tk.setC; rw [if_neg hk, if_pos ha]
    have HE : Hid (∃ v' l', Tk.PTm T Q B v' c l' w ∧ Tk.Mvt (Tk.POff T Q B v) (Tk.POff T Q B v') w w ∧ l'.Perm (Tk.setL c l k a)) := ⟨v, l, h, .refl _ _, by unfold Tk.setL; rw [HC0.out, if_neg (by omega)]⟩
    clear hk h
    by_cases h1 : a ≤ c
    · have h1d : decide (a ≤ c) = true := by simpa using h1
      clear ha
      go_enter Try.func11, Try.ntmps11
      go_wp2_with (go_at_call 24; refine HIS.out.mono ?_; rintro e w2 ⟨rfl, rfl⟩)
      go_ret
      exact ⟨by rw [HC0.out]; rfl, HE⟩
    · have h1d : decide (a ≤ c) = false := by simpa using h1
      have h2d : decide (17592186044416 < a) = true := by simp; omega
      clear ha
      go_enter Try.func11, Try.ntmps11
      go_wp2_with (go_at_call 24; refine HIS.out.mono ?_; rintro e w2 ⟨rfl, rfl⟩)
      go_ret
      exact ⟨by rw [HC0.out]; rfl, HE⟩
  have h1d : decide (a ≤ c) = false := by simp; omega
  have h2d : decide (17592186044416 < a) = false := by simp; omega
  have c1 := h.c1
  obtain ⟨f, h1, hix⟩ := h.q.raw
  have HHAS : Hid (Calls Try.prog 25 #[.pointer (some ⟨Q, 0, none⟩), .string k] w fun e w' => e = .returned (.bool (Tk.has k l)) ∧ w = w') := by
    rw [← hix.some_iff]
    exact qhas h1 k (by unfold maxLen; omega)
  have HLEN : Hid (Calls Try.prog 26 #[.pointer (some ⟨Q, 0, none⟩)] w fun e w' => e = .returned (.int .i64 (l.length : Int)) ∧ w = w') := qlen h1
  have HCC : Tk.setC c l k a = if Tk.has k l = false ∧ 1024 ≤ l.length then 6 else 0 := by unfold Tk.setC; rw [if_neg hk, if_neg ha]
  have HQS : Hid (Calls Try.prog 27 #[.pointer (some ⟨Q, 0, none⟩), .string k, .int .i64 a] w fun e w' => e = .returned (.tuple #[]) ∧ Hid (∃ v' l', Tk.PTm T Q B v' c l' w' ∧ Tk.Mvt (Tk.POff T Q B v) (Tk.POff T Q B v') w w' ∧ l'.Perm (Tk.drop k l ++ [(k, a)]))) := by
    refine (qset h.q h.hp hl k (by omega) a).mono ?_
    rintro e w' ⟨he, v', l', q1, q2, q3, q4⟩
    obtain ⟨p1, p2⟩ := h.moved q1 q4 q2
    exact ⟨he, v', l', p1, p2, q3⟩
  by_cases hfull : Tk.has k l = false ∧ 1024 ≤ l.length
  · have hd3 : decide ((1024 : Int) ≤ (l.length : Int)) = true := by simp; omega
    rw [if_pos hfull] at HCC
    have HC0 := Lib.hid HCC
    have HE : Hid (∃ v' l', Tk.PTm T Q B v' c l' w ∧ Tk.Mvt (Tk.POff T Q B v) (Tk.POff T Q B v') w w ∧ l'.Perm (Tk.setL c l k a)) := ⟨v, l, h, .refl _ _, by unfold Tk.setL; rw [HC0.out, if_neg (by omega)]⟩
    rw [hfull.1] at HHAS
    clear hk ha h h1 hix HCC hfull HQS
    go_enter Try.func11, Try.ntmps11
    go_wp2_with (first | (go_at_call 24; refine HIS.out.mono ?_; rintro e w2 ⟨rfl, rfl⟩) | (go_at_call 25; refine HHAS.out.mono ?_; rintro e w2 ⟨rfl, rfl⟩) | (go_at_call 26; refine HLEN.out.mono ?_; rintro e w2 ⟨rfl, rfl⟩))
    go_ret
    exact ⟨by rw [HC0.out]; rfl, HE⟩
  · rw [if_neg hfull] at HCC
    have HC0 := Lib.hid HCC
    have HSL : Hid (Tk.setL c l k a = Tk.drop k l ++ [(k, a)]) := by show _ = _; unfold Tk.setL; rw [HCC, if_pos rfl]
    rw [← HSL.out] at HQS
    cases hhas : Tk.has k l with
    | true =>
      rw [hhas] at HHAS
      clear hk ha h h1 hix HCC hfull hhas HLEN
      go_enter Try.func11, Try.ntmps11
      go_wp2_with (first | (go_at_call 24; refine HIS.out.mono ?_; rintro e w2 ⟨rfl, rfl⟩) | (go_at_call 25; refine HHAS.out.mono ?_; rintro e w2 ⟨rfl, rfl⟩) | (go_at_call 27; refine HQS.out.mono ?_; rintro e w2 ⟨rfl, HE⟩))
      go_ret
      exact ⟨by rw [HC0.out]; rfl, HE⟩
    | false =>
      have hd3 : decide ((1024 : Int) ≤ (l.length : Int)) = false := by simp; have : ¬ 1024 ≤ l.length := fun h => hfull ⟨hhas, h⟩; omega
      rw [hhas] at HHAS
      clear hk ha h h1 hix HCC hfull hhas
      go_enter Try.func11, Try.ntmps11
      go_wp2_with (first | (go_at_call 24; refine HIS.out.mono ?_; rintro e w2 ⟨rfl, rfl⟩) | (go_at_call 25; refine HHAS.out.mono ?_; rintro e w2 ⟨rfl, rfl⟩) | (go_at_call 26; refine HLEN.out.mono ?_; rintro e w2 ⟨rfl, rfl⟩) | (go_at_call 27; refine HQS.out.mono ?_; rintro e w2 ⟨rfl, HE⟩))
      go_ret
      exact ⟨by rw [HC0.out]; rfl, HE⟩

set_option maxRecDepth 20000 in
set_option maxHeartbeats 2000000 in
theorem tkstop {T Q B : Nat} {v : Value} {c : Int} {l : List Tk.Tm} {w : World} (h : Tk.PTm T Q B v c l w) (hl : l.length ≤ 99990) (ks : List ByteArray) (A : Option Addr) (n : Nat) (hks : Lies w w.heap.size A (ks.map Value.string)) (hoff : ∀ ad, A = some ad → Tk.POff T Q B v ad.block) (hsz : ∀ k ∈ ks, k.size ≤ maxLen) (hn : ks.length ≤ 1000000) :
    Calls Try.prog 14 #[.pointer (some ⟨T, 0, none⟩), .slice A ks.length n] w fun e w' => e = .returned (.int .i64 ((l.length - (Tk.stopL ks l).length : Nat) : Int)) ∧ Hid (∃ v' l', Tk.PTm T Q B v' c l' w' ∧ Tk.Mvt (Tk.POff T Q B v) (Tk.POff T Q B v') w w' ∧ l'.Perm (Tk.stopL ks l)) := by
  have HIS := Lib.hid (tkis h)
  have H := Lib.hid h
  have HKS := Lib.hid hks
  have HO := Lib.hid hoff
  have HSZ := Lib.hid hsz
  clear h hks hoff hsz
  go_enter Try.func14, Try.ntmps14
  go_wp2_with (go_at_call 24; refine HIS.out.mono ?_; rintro e w2 ⟨rfl, rfl⟩)
  go_loopw [5, 15] (fun cnt i wr => ∃ (j m : Nat) (v' : Value) (l' : List Tk.Tm), cnt = .int .i64 m ∧ i = .int .i64 j ∧ j ≤ ks.length ∧ m ≤ 99990 ∧ Hid (m + l'.length = l.length) ∧ Hid (Tk.PTm T Q B v' c l' wr) ∧ Hid (Tk.Mvt (Tk.POff T Q B v) (Tk.POff T Q B v') w wr) ∧ Hid (l'.Perm (Tk.stopL (ks.take j) l))) (fun _ i _ => ks.length - (intOf i).toNat)
  case atStart => exact ⟨0, 0, v, l, rfl, rfl, Nat.zero_le _, by omega, by show 0 + l.length = l.length; omega, H.out, .refl _ _, by show List.Perm _ _; simp [Tk.stopL]⟩
  case round =>
    obtain ⟨j, m, v', l', rfl, rfl, hj, hm, HCN, HP, HM, HPE⟩ := hrel
    by_cases hlt : j < ks.length
    · have k0 : (0 : Int) ≤ (j : Int) := by omega
      have k1 : (j : Int) < ks.length := by omega
      obtain ⟨ad, rfl, hadb, hcell⟩ := HKS.out (by simp; omega)
      have hkc : wr.cell? (ad.add j) = some (.string ks[j]) := by
        rw [Tk.mvt_cell HM.out (by rw [Lies.add_block]; exact hadb) (by rw [Lies.add_block]; exact HO.out ad rfl)]
        exact hcell j _ (by simp [hlt])
      have hksz := HSZ.out _ (List.getElem_mem hlt)
      have hc1 := HP.out.c1
      obtain ⟨f, h1, hix⟩ := HP.out.q.raw
      have hq1 := h1.c1
      have HTK : Hid (ks.take (j + 1) = ks.take j ++ [ks[j]]) := List.take_succ_eq_append_getElem hlt
      have HL := Lib.hid (h1.mp.look Try.underlying3 Try.underlying56 (Tk.zero3 _) ks[j] hksz)
      have hPL : (Tk.drop ks[j] l').Perm (Tk.stopL (ks.take (j + 1)) l) := by
        rw [HTK.out, Tk.stopL_snoc]
        exact Tk.drop_perm HPE.out
      have hcnt := Tk.drop_count HP.out.dist ks[j]
      cases hhas : Tk.has ks[j] l' with
      | true =>
        obtain ⟨x, hx, hxk⟩ := Tk.has_iff.1 hhas
        obtain ⟨i, hi, rfl⟩ := List.getElem_of_mem hx
        rw [(hix ks[j]).1 i _ (List.getElem?_eq_getElem hi) hxk] at HL
        rw [hhas, if_pos rfl] at hcnt
        have hcn := HCN.out
        have HTAKE : Hid (Calls Try.prog 30 #[.pointer (some ⟨Q, 0, none⟩), .int .i64 (i : Int)] wr fun e w' => e = .returned (Tk.tmV l'[i]) ∧ Hid (∃ v2 l2, Hid (m + 1 + l2.length = l.length) ∧ Hid (Tk.PTm T Q B v2 c l2 w') ∧ Hid (Tk.Mvt (Tk.POff T Q B v) (Tk.POff T Q B v2) w w') ∧ Hid (l2.Perm (Tk.stopL (ks.take (j + 1)) l)))) := by
          refine (qtake HP.out.q HP.out.hp (by omega) i _ (List.getElem?_eq_getElem hi)).mono ?_
          rintro e w' ⟨he, v2, l2, q1, q2, q3, q4⟩
          obtain ⟨p1, p2⟩ := HP.out.moved q1 q4 q2
          rw [Tk.drop_at HP.out.dist i hi hxk] at q3
          have := q3.length_eq
          exact ⟨he, v2, l2, show m + 1 + l2.length = l.length by omega, p1, HM.out.trans p2, q3.trans hPL⟩
        have hm2 : m + 1 ≤ 99990 := by have : 1 ≤ l'.length := by omega
                                       omega
        generalize ks[j] = k at hkc HL
        generalize Tk.tmV l'[i] = xv at HTAKE
        clear hcell hksz h1 hix hPL hcnt hhas hx hxk hi hcn
        go_wp2_with (at_lookup; refine Tk.wpl_look _ rfl _ _ _ rfl _ _ _ rfl rfl HL.out ?_)
        refine HTAKE.out.mono ?_
        rintro e w3 ⟨rfl, HE⟩
        go_wp2_with fail
        go_roundw
        case rel =>
          obtain ⟨v2, l2, e1, e2, e3, e4⟩ := HE.out
          exact ⟨j + 1, m + 1, v2, l2, by go_num, by go_num, by omega, hm2, e1, e2, e3, e4⟩
        case measure => simp [intOf]; omega
      | false =>
        have hno : ∀ y ∈ l', y.1 ≠ ks[j] := fun y hy e => by
          have := Tk.has_iff.2 ⟨y, hy, e⟩
          rw [hhas] at this; cases this
        rw [(hix ks[j]).2 hno] at HL
        have HE : Hid (l'.Perm (Tk.stopL (ks.take (j + 1)) l)) := by
          show List.Perm _ _
          rwa [Tk.drop_none hno] at hPL
        generalize ks[j] = k at hkc HL
        clear hcell hksz h1 hix hPL hcnt hhas hno
        go_wp2_with (at_lookup; refine Tk.wpl_look _ rfl _ _ _ rfl _ _ _ rfl rfl HL.out ?_)
        go_roundw
        case rel => exact ⟨j + 1, m, v', l', rfl, by go_num, by omega, hm, HCN.out, HP.out, HM.out, HE.out⟩
        case measure => simp [intOf]; omega
    · have k1 : ¬ ((j : Int) < ks.length) := by omega
      have HE : Hid (m = l.length - (Tk.stopL ks l).length ∧ Hid (∃ v' l', Tk.PTm T Q B v' c l' wr ∧ Tk.Mvt (Tk.POff T Q B v) (Tk.POff T Q B v') w wr ∧ l'.Perm (Tk.stopL ks l))) := by
        have hp := HPE.out
        rw [List.take_of_length_le (by omega)] at hp
        have := hp.length_eq
        have := HCN.out
        exact ⟨by omega, v', l', HP.out, HM.out, hp⟩
      go_wp2_with fail
      go_ret
      exact ⟨by rw [← HE.out.1]; rfl, HE.out.2⟩
end Go.Proofs.Ytnojjfpccnmbeaa
