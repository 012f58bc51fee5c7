/-
  The walk of layer 11's CheckTwice.
-/
import Derived.Test.YtkigoidklonhcaaGreatDoorChX
import Derived.Deep.DeepCutAuto
import Derived.Deep.CutBlock
namespace Go.Proofs.YtkigoidklonhcaaGreatDoor
open Go.RowKit

namespace Ck
def HasZz (has : Bool) (z : Int) (L : List Int) : Prop := has = true ↔ z ∈ L
theorem HasZz.nil (z : Int) : HasZz false z [] := by unfold HasZz; simp
theorem HasZz.step {has : Bool} {z u : Int} {L M : List Int} (h : HasZz has z L) (e : M = L ++ [u]) : HasZz (has || (u == z)) z M := by
  unfold HasZz at h ⊢
  rw [e, Bool.or_eq_true, h, beq_iff_eq, List.mem_append, List.mem_singleton]
  exact ⟨fun h => h.imp id Eq.symm, fun h => h.imp id Eq.symm⟩
theorem HasZz.yes {has : Bool} {z : Int} {L : List Int} (h : HasZz has z L) (hz : z ∈ L) : has = true := h.2 hz
end Ck

set_option maxHeartbeats 4000000 in
set_option maxRecDepth 20000 in
theorem twice11 (w : World) (A : Option Addr) (c : Nat) (l : List Cd.Fm) (hR : ∀ m ∈ l, m.f.Rng) (hn : l.length ≤ maxLen) (hP : Cd.Prog w w.heap.size A l) (hL : Ck.Laid w) (fn : Int) (f0 : 0 ≤ fn) (f1 : fn ≤ 255) :
    Calls Tryz.prog 3 #[.agg #[.slice A l.length c], .int .u8 fn] w fun e w' => e = .returned (.bool true) ∧ Below w.heap.size w w' := by
  obtain ⟨W, hW⟩ : ∃ W, W = w.alloc (.cells #[.slice A l.length c] 24) := ⟨_, rfl⟩
  have hb : Below w.heap.size w W := by rw [hW]; exact Cd.fn1 _ _ _
  have hX : Cd.PBlk W w.heap.size (.slice A l.length c) := by show W.heap[_]? = _; rw [hW]; exact heap_alloc_new w _
  have HX := Lib.hid hX
  have p0 := hX.c0
  have HK : Hid (Ck.HeldK W A l) := ⟨⟨(hP.below hb).mono hb.size, hn, hR⟩, hL.later hb⟩
  have HRG := Lib.hid hR
  have HHV := Lib.hid (heavy_at HK.out.h c (Below.refl _ W))
  have HAL : Hid (∀ {U : World}, Below W.heap.size W U → Calls Tryz.prog 5 #[] U fun e w' => e = .returned (.bool true) ∧ Below W.heap.size W w') := fun {U} hU => ckAlive_at HK.out.laid hU
  have HBAD : Hid (∀ w2, Below W.heap.size W w2 → Below w.heap.size w w2) := fun w2 h => hb.trans (h.mono hb.size)
  have HM1 : Hid (∀ U, Below W.heap.size W U → Calls Tryz.prog 6 #[.agg #[.slice A l.length c]] U fun e w' => e = .returned (.tuple #[.int .i64 ((Ck.chk (Cd.fns l)).1 : Int), .int .i64 ((Ck.chk (Cd.fns l)).2.1 : Int), .int .i64 ((Ck.chk (Cd.fns l)).2.2 : Int)]) ∧ Below W.heap.size W w') := fun U hU => ckMay_at HK.out c hU
  clear hb hX hP hL hR
  unfold maxLen at hn
  have hn63 : (l.length : Int) ≤ 9223372036854775807 := by omega
  go_enter Tryz.func3, Tryz.ntmps3
  go_upto_region 1 with fail
  rw [← hW]
  clear hW
  generalize w.heap.size = X at HX p0 ⊢
  go_wp2_with fail
  refine HHV.out.mono ?_
  rintro e w1 ⟨b1, rfl, HSM, hb1⟩
  have H1 := Lib.hid hb1
  have p0 := (HX.out.of_block (hb1.block _ HX.out.lt)).c0
  clear hb1 HHV
  cases b1 with
  | true =>
    clear p0
    go_wp2_with fail
    refine (HAL.out H1.out).mono ?_
    rintro e w2 ⟨rfl, hb2⟩
    have H2 := Lib.hid hb2
    clear hb2
    go_wp2_with fail
    go_ret
    exact ⟨rfl, HBAD.out _ H2.out⟩
  | false =>
    have hsm := (HSM.out rfl).1
    clear HSM
    by_cases hl0 : l.length = 0
    · have d1 : ((l.length : Int) == 0) = true := by rw [beq_iff_eq]; omega
      clear hl0
      go_wp2_with fail
      refine (HAL.out H1.out).mono ?_
      rintro e w2 ⟨rfl, hb2⟩
      have H2 := Lib.hid hb2
      clear hb2
      go_wp2_with fail
      go_ret
      exact ⟨rfl, HBAD.out _ H2.out⟩
    · have d1 : ((l.length : Int) == 0) = false := by rw [beq_eq_false_iff_ne]; omega
      by_cases hc : (Ck.chk (Cd.fns l)).1 = 0
      · have HC := Lib.hid hc
        have hz := Ck.chk_zero hc
        rw [hz] at HM1
        clear hc hz
        go_wp2_with fail
        refine (HM1.out _ H1.out).mono ?_
        rintro e w2 ⟨rfl, hb2⟩
        have H2 := Lib.hid hb2
        have p0 := (HX.out.of_block (H2.out.block _ HX.out.lt)).c0
        have HEN := Lib.hid (encode_at HK.out.h c H2.out)
        have HDC : Hid ((Cd.enc (Cd.fns l)).2 = 0 → ∀ U, Below W.heap.size W U → Calls Tryz.prog 8 #[.string ⟨(Cd.enc (Cd.fns l)).1.toArray⟩] U fun e w' => ∃ (ms : List Cd.Fm) (A : Option Addr) (c : Nat), e = .returned (.tuple #[.agg #[.slice A ms.length c], .int .i64 0]) ∧ Hid (Cd.fns ms = Cd.fns l) ∧ Hid (Cd.HeldP w' A ms) ∧ Below W.heap.size W w') := fun hz U hU => ckDec_at HRG.out hz hU
        generalize (⟨(Cd.enc (Cd.fns l)).1.toArray⟩ : ByteArray) = S at HEN HDC
        generalize (Cd.enc (Cd.fns l)).2 = s1 at HEN HDC
        clear hb2 HM1 H1
        go_wp2_with fail
        refine HEN.out.mono ?_
        rintro e w3 ⟨rfl, hb3⟩
        have H3 := Lib.hid hb3
        clear hb3 H2 HEN p0
        go_upto_if 52 with fail
        go_cut [] (fun wx => Hid (Below W.heap.size W wx))
        case first =>
          by_cases h0 : s1 = 0
          · subst h0
            have HDC2 := Lib.hid (HDC.out rfl)
            clear HDC
            go_wp2_with fail
            refine (HDC2.out _ H3.out).mono ?_
            rintro e w4 ⟨ms, A4, c4, rfl, HMS, HH4, hb4⟩
            obtain ⟨V4, hV4⟩ : ∃ V, V = w4.alloc (.cells #[.slice A4 ms.length c4] 24) := ⟨_, rfl⟩
            have hbV4 : Below w4.heap.size w4 V4 := by rw [hV4]; exact Cd.fn1 _ _ _
            have H4 := Lib.hid (hb4.trans (hbV4.mono hb4.size))
            have q0 : V4.cell? ⟨w4.heap.size, 0, none⟩ = some (.slice A4 ms.length c4) := cell_of_row _ _ 0 _ _ _ (show V4.heap[w4.heap.size]? = some (.cells #[.slice A4 ms.length c4] 24 (0, 0)) by rw [hV4]; exact heap_alloc_new w4 _)
            have HK4 : Hid (Ck.HeldK V4 A4 ms) := ⟨HH4.out.later hbV4, (HK.out.later H4.out).laid⟩
            have HM4 := Lib.hid (ckMay_at HK4.out c4 (Below.refl _ V4))
            rw [HMS.out, Ck.chk_zero HC.out] at HM4
            clear hb4 hbV4 HDC2
            go_upto_region 9 with fail
            rw [← hV4]
            clear hV4
            go_wp2_with fail
            refine HM4.out.mono ?_
            rintro e w5 ⟨rfl, hb5⟩
            have H5 := Lib.hid (H4.out.trans (hb5.mono H4.out.size))
            clear hb5 q0
            go_wp2_with fail
            go_meet
            case rel => exact H5.out
          · have e0 : ((s1 : Int) == 0) = false := by rw [beq_eq_false_iff_ne]; omega
            clear h0 HDC
            go_wp2_with fail
            go_meet
            case rel => exact H3.out
        case rest =>
          have H4 := hcut
          clear hcut H3 HDC
          have p0 := (HX.out.of_block (H4.out.block _ HX.out.lt)).c0
          have hfw : wrap64 fn = fn := by rw [wrap64]; omega
          obtain ⟨j, hj, hjl⟩ : ∃ j : Nat, fn.tmod (l.length : Int) = (j : Int) ∧ j < l.length := by
            have h1 := Int.emod_nonneg fn (b := (l.length : Int)) (by omega)
            have h2 := Int.emod_lt_of_pos fn (b := (l.length : Int)) (by omega)
            exact ⟨(fn % (l.length : Int)).toNat, by rw [Int.tmod_eq_emod_of_nonneg f0]; omega, by omega⟩
          have hne0 : ((l.length : Int) == 0) = false := d1
          have hjw : IntKind.i64.wrap (j : Int) = (j : Int) := by rw [IntKind.wrap_i64]; omega
          have HRJ := Lib.hid (ckReach_at HK.out c (j : Int) H4.out)
          have HJ := Lib.hid hjl
          clear hl0
          go_wp2_with fail
          refine HRJ.out.mono ?_
          rintro e w5 ⟨xs, A5, c5, HO5, rfl, HL5, HB5, hb5⟩
          have H5 := Lib.hid hb5
          have HK5 := Lib.hid (HK.out.later H5.out)
          have HX5 := Lib.hid (HX.out.of_block (H5.out.block _ HX.out.lt))
          have hx16 := HO5.out.2
          clear hb5 HRJ H4 HB5 p0 hj hfw hjw
          go_wp2_with fail
          go_loopw [17] (fun s wr => ∃ k : Nat, k ≤ xs.length ∧ s = .int .i64 k ∧ Hid (Below w5.heap.size w5 wr)) (fun s _ => xs.length - (intOf s).toNat)
          case atStart => exact ⟨0, Nat.zero_le _, rfl, Below.refl _ _⟩
          case round =>
            obtain ⟨k, hk, rfl, HB⟩ := hrel
            by_cases hlt : k < xs.length
            · have k0 : (0 : Int) ≤ (k : Int) := by omega
              have k1 : (k : Int) < (xs.length : Int) := by omega
              obtain ⟨ad, rfl, hadb, -⟩ := HL5.out.at_ (icells_at hlt)
              have HLX : Hid (∀ {U : World}, Below w5.heap.size w5 U → ∀ i (hi : i < xs.length), U.cell? (ad.add i) = some (.int .i64 xs[i])) := fun {U} hU i hi => by
                obtain ⟨ad', e, -, hc⟩ := (HL5.out.below hU).at_ (icells_at hi)
                cases e
                exact hc
              have HSUB : Hid (∀ ys, Ck.Out (Cd.fns l) xs[k] ys → ∀ y ∈ ys, y ∈ xs) := fun ys hy => Ck.out_sub HC.out (by rw [Cd.fns_len]; exact HJ.out) HO5.out.1 (List.getElem_mem hlt) hy
              have HKEEP : Hid (∀ {U : World}, Below w5.heap.size w5 U → U.cell? ⟨X, 0, none⟩ = some (.slice A l.length c) ∧ U.cell? (ad.add k) = some (.int .i64 xs[k]) ∧ Below w5.heap.size w5 U) := fun {U} h => ⟨(HX5.out.of_block (h.block _ HX5.out.lt)).c0, HLX.out h k hlt, h⟩
              have HRC : Hid (∀ {U : World}, Below w5.heap.size w5 U → Calls Tryz.prog 9 #[.agg #[.slice A l.length c], .int .i64 xs[k]] U fun e w' => ∃ (ys : List Int) (A' : Option Addr) (c' : Nat), Hid (Ck.Out (Cd.fns l) xs[k] ys ∧ ys.length ≤ 16) ∧ e = .returned (.slice A' ys.length c') ∧ Hid (Lies w' w'.heap.size A' (icells ys)) ∧ Hid (Below U.heap.size U w') ∧ Below w5.heap.size w5 w') := fun {U} hU => ckReach_at HK5.out c xs[k] hU
              generalize xs[k] = x at HSUB HKEEP HRC
              have bb := HB.out.drew
              have hks := HKEEP.out HB.out
              clear hlt hadb
              go_wp2_with fail
              go_region_held3 (fun wx => wx.cell? ⟨X, 0, none⟩ = some (.slice A l.length c) ∧ wx.cell? (ad.add k) = some (.int .i64 x) ∧ Below w5.heap.size w5 wx)
                (first | with_reducible assumption | with_reducible exact HKEEP.out (by with_reducible assumption))
                (first
                  | (go_at_call 9; with_reducible refine (HRC.out (by with_reducible assumption)).mono ?_; rintro e y1 ⟨ys, A6, c6, HO6, rfl, HL6, HB6, hy1⟩))
              simp only [Exit.then]
              go_at_K
              have hy16 := HO6.out.2
              have HY := Lib.hid hy1
              have HSB := Lib.hid (HSUB.out ys HO6.out.1)
              clear hy1 hks bb HRC HKEEP HSUB HB
              go_wp2_with fail
              go_loopw [19] (fun s wr => ∃ n : Nat, n ≤ ys.length ∧ s = .int .i64 n ∧ ∃ q, wr = y1.drewN q) (fun s _ => ys.length - (intOf s).toNat)
              case atStart => exact ⟨0, Nat.zero_le _, rfl, 0, rfl⟩
              case round =>
                obtain ⟨n, hn', rfl, q, rfl⟩ := hrel
                by_cases hlt2 : n < ys.length
                · have n0 : (0 : Int) ≤ (n : Int) := by omega
                  have n1 : (n : Int) < (ys.length : Int) := by omega
                  obtain ⟨ad6, rfl, -, hc6⟩ := HL6.out.at_ (icells_at hlt2)
                  have HZ := Lib.hid (HSB.out _ (List.getElem_mem hlt2))
                  generalize ys[n] = z at hc6 HZ
                  have HC6 := Lib.hid hc6
                  clear hc6 hlt2
                  go_wp2_with fail
                  go_loopw [20, 21] (fun s20 s21 wr => ∃ (i : Nat) (has : Bool), i ≤ xs.length ∧ s20 = .bool has ∧ s21 = .int .i64 i ∧ Hid (Ck.HasZz has z (xs.take i)) ∧ ∃ q, wr = y1.drewN q) (fun _ s21 _ => xs.length - (intOf s21).toNat)
                  case atStart => exact ⟨0, false, Nat.zero_le _, rfl, rfl, Ck.HasZz.nil z, q, rfl⟩
                  case round =>
                    obtain ⟨i, has, hi, rfl, rfl, HH, q2, rfl⟩ := hrel
                    by_cases hlt3 : i < xs.length
                    · have i0 : (0 : Int) ≤ (i : Int) := by omega
                      have i1 : (i : Int) < (xs.length : Int) := by omega
                      have g1 := HLX.out HY.out i hlt3
                      have g2 := HC6.out
                      have HT := Lib.hid (List.take_succ_eq_append_getElem hlt3)
                      generalize xs[i] = u at g1 HT
                      clear hlt3
                      have HN := Lib.hid (HH.out.step HT.out)
                      clear HH HT
                      cases has with
                      | true =>
                        rw [Bool.true_or] at HN
                        go_wp2_with fail
                        go_quiet (fail)
                        go_wp2_with fail
                        go_roundw
                        case rel => exact ⟨i + 1, true, by omega, rfl, by go_num, HN.out, _, rfl⟩
                        case measure => simp [intOf]; omega
                      | false =>
                        rw [Bool.false_or] at HN
                        cases he : (u == z) with
                        | true =>
                          rw [he] at HN
                          go_wp2_with fail
                          go_quiet (fail)
                          go_wp2_with fail
                          go_roundw
                          case rel => exact ⟨i + 1, true, by omega, rfl, by go_num, HN.out, _, rfl⟩
                          case measure => simp [intOf]; omega
                        | false =>
                          rw [he] at HN
                          go_wp2_with fail
                          go_quiet (fail)
                          go_wp2_with fail
                          go_roundw
                          case rel => exact ⟨i + 1, false, by omega, rfl, by go_num, HN.out, _, rfl⟩
                          case measure => simp [intOf]; omega
                    · have i1 : ¬ (i : Int) < (xs.length : Int) := by omega
                      obtain rfl : has = true := HH.out.yes (by rw [List.take_of_length_le (by omega)]; exact HZ.out)
                      go_wp2_with fail
                      exact ⟨⟨n + 1, by omega, by go_num, q2, rfl⟩, by simp [intOf]; omega⟩
                · have n1 : ¬ (n : Int) < (ys.length : Int) := by omega
                  have HB2 : Hid (Below w5.heap.size w5 (y1.drewN q)) := below_drewN HY.out q
                  go_wp2_with fail
                  exact ⟨⟨k + 1, by omega, by go_num, HB2.out⟩, by simp [intOf]; omega⟩
            · have k1 : ¬ (k : Int) < (xs.length : Int) := by omega
              have HBW : Hid (Below W.heap.size W wr) := H5.out.trans (HB.out.mono H5.out.size)
              have p0 := (HX5.out.of_block (HB.out.block _ HX5.out.lt)).c0
              clear hlt hk
              by_cases h8 : l.length + l.length ≤ 16
              · have d8 : decide ((16 : Int) < 2 * (l.length : Int)) = false := decide_eq_false (by omega)
                have d9 : decide (16 < 2 * l.length) = false := decide_eq_false (by omega)
                have h82 : ¬ (16 : Int) < 2 * (l.length : Int) := by omega
                have HTW := Lib.hid (ckTwice_at HK.out c HC.out h8 HBW.out)
                have hcl : (Cd.fns l).length = l.length := Cd.fns_len l
                have HO1 : Hid (∀ zs, Ck.Out (Ck.dbl (Cd.fns l)) ((l.length + j : Nat) : Int) zs → zs = xs.map (· + (l.length : Int))) := fun zs hz => by
                  have h := Ck.out_back HC.out (by rw [hcl]; exact h8) (by rw [hcl]; exact HJ.out) HO5.out.1
                  rw [hcl] at h
                  exact hz.eq h
                have HO2 : Hid (∀ zs, Ck.Out (Ck.dbl (Cd.fns l)) (j : Int) zs → zs = xs) := fun zs hz => hz.eq (Ck.out_front HC.out (by rw [hcl]; exact h8) (by rw [hcl]; exact HJ.out) HO5.out.1)
                have HXB : Hid (∀ x ∈ xs, 0 ≤ x ∧ x < 16) := fun x hx => by
                  obtain ⟨i, rfl, hr⟩ := (Ck.out_mem HC.out (by rw [hcl]; exact HJ.out) HO5.out.1).1 hx
                  have := Ck.rch_lt HC.out hr
                  rw [hcl] at this
                  omega
                have HDB : Hid (Ck.chk (Ck.dbl (Cd.fns l)) = (0, 0, 0)) := Ck.chk_zero (Ck.chk_dbl HC.out (by rw [hcl]; exact h8))
                have HL5r : Hid (Lies wr wr.heap.size A5 (icells xs)) := (HL5.out.below HB.out).mono HB.out.size
                have hX : X < wr.heap.size := by have := HX5.out.lt; have := HB.out.size; omega
                have HXr := Lib.hid (HX5.out.of_block (HB.out.block _ HX5.out.lt))
                obtain ⟨jj, hjj⟩ : ∃ jj : Nat, jj = l.length + j := ⟨_, rfl⟩
                have hsum : (j : Int) + (l.length : Int) = (jj : Int) := by omega
                have hsw : IntKind.i64.wrap (jj : Int) = (jj : Int) := by rw [IntKind.wrap_i64]; have := HJ.out; omega
                rw [← hjj] at HO1
                clear hcl hjj h8 hX HO5 HL5 HB H5
                go_wp2_with fail
                refine HTW.out.mono ?_
                rintro e w6 ⟨ms, A7, c7, rfl, HMS, HK7, HB66, hb6⟩
                obtain ⟨V, hV⟩ : ∃ V, V = w6.alloc (.cells #[.slice A7 ms.length c7] 24) := ⟨_, rfl⟩
                have hbV : Below w6.heap.size w6 V := by rw [hV]; exact Cd.fn1 _ _ _
                have HQ : Hid (Cd.PBlk V w6.heap.size (.slice A7 ms.length c7)) := by show V.heap[_]? = _; rw [hV]; exact heap_alloc_new w6 _
                have HKV := Lib.hid (HK7.out.later hbV)
                have hbrV : Below wr.heap.size wr V := HB66.out.trans (hbV.mono HB66.out.size)
                have HBV := Lib.hid (HBW.out.trans (hbrV.mono HBW.out.size))
                have HLV := Lib.hid ((HL5r.out.below hbrV).mono hbrV.size)
                have HXV := Lib.hid (HXr.out.of_block (hbrV.block _ HXr.out.lt))
                have HMq := Lib.hid (ckMay_at HKV.out c7 (Below.refl _ V))
                rw [HMS.out, HDB.out] at HMq
                have HRq : Hid (∀ {U : World} (f : Int), Below V.heap.size V U → Calls Tryz.prog 9 #[.agg #[.slice A7 ms.length c7], .int .i64 f] U fun e w' => ∃ (ys : List Int) (A' : Option Addr) (c' : Nat), Hid (Ck.Out (Ck.dbl (Cd.fns l)) f ys ∧ ys.length ≤ 16) ∧ e = .returned (.slice A' ys.length c') ∧ Hid (Lies w' w'.heap.size A' (icells ys)) ∧ Hid (Below U.heap.size U w') ∧ Below V.heap.size V w') := fun {U} f hU => by
                  have := ckReach_at HKV.out c7 f hU
                  rw [HMS.out] at this
                  exact this
                have q0 := HQ.out.c0
                clear hb6 hbV hbrV HL5r HXr p0 HTW
                go_upto_region 31 with fail
                rw [← hV]
                clear hV
                generalize w6.heap.size = Y at HQ q0 ⊢
                go_wp2_with fail
                refine HMq.out.mono ?_
                rintro e w7 ⟨rfl, hb7⟩
                have H7 := Lib.hid hb7
                have q0 := (HQ.out.of_block (H7.out.block _ HQ.out.lt)).c0
                have p0 := (HXV.out.of_block (H7.out.block _ HXV.out.lt)).c0
                clear hb7 HMq
                go_wp2_with fail
                refine (HRq.out _ H7.out).mono ?_
                rintro e w8 ⟨zs, A8, c8, HO8, rfl, HL8, HB8, hb8⟩
                obtain rfl := HO1.out zs HO8.out.1
                have H8 := Lib.hid hb8
                have q0 := (HQ.out.of_block (H8.out.block _ HQ.out.lt)).c0
                have p0 := (HXV.out.of_block (H8.out.block _ HXV.out.lt)).c0
                rw [List.length_map]
                clear hb8 H7 HB8
                have eL : ((xs.length : Int) != (xs.length : Int)) = false := by simp
                go_wp2_with fail
                refine (HRq.out _ H8.out).mono ?_
                rintro e w9 ⟨zs, A9, c9, HO9, rfl, HL9, HB9, hb9⟩
                obtain rfl := HO2.out zs HO9.out.1
                have H9 := Lib.hid hb9
                have HSM := Lib.hid (same11 zs HO9.out.2 A9 A5 c9 c5 w9 HL9.out ((HLV.out.below H9.out).mono H9.out.size))
                have HL8' := Lib.hid ((HL8.out.below HB9.out).mono HB9.out.size)
                clear hb9 H8 HL8 HB9 HRq
                go_wp2_with fail
                refine HSM.out.mono ?_
                rintro e w10 ⟨rfl, hb10⟩
                have H10 := Lib.hid (H9.out.trans (hb10.mono H9.out.size))
                have HL10 := Lib.hid ((HL8'.out.below hb10).mono hb10.size)
                have HLX := Lib.hid ((HLV.out.below H10.out).mono H10.out.size)
                have p0 := (HXV.out.of_block (H10.out.block _ HXV.out.lt)).c0
                clear hb10 H9 HL8' HSM q0 HL9
                go_wp2_with fail
                go_loopw [27] (fun s wr => ∃ k : Nat, k ≤ zs.length ∧ s = .int .i64 k ∧ ∃ q, wr = w10.drewN q) (fun s _ => zs.length - (intOf s).toNat)
                case atStart => exact ⟨0, Nat.zero_le _, rfl, 0, rfl⟩
                case round =>
                  obtain ⟨k, hk, rfl, q, rfl⟩ := hrel
                  by_cases hlt : k < zs.length
                  · have k0 : (0 : Int) ≤ (k : Int) := by omega
                    have k1 : (k : Int) < (zs.length : Int) := by omega
                    obtain ⟨a5, rfl, -, g1⟩ := HLX.out.at_ (icells_at hlt)
                    obtain ⟨a8, rfl, -, g2⟩ := HL10.out.at_ (icells_at (xs := zs.map (· + (l.length : Int))) (k := k) (by rw [List.length_map]; exact hlt))
                    rw [List.getElem_map] at g2
                    have hxr := HXB.out _ (List.getElem_mem hlt)
                    generalize zs[k] = x at g1 g2 hxr
                    obtain ⟨y, hy⟩ : ∃ y, x + (l.length : Int) = y := ⟨_, rfl⟩
                    rw [hy] at g2
                    have hyw : IntKind.i64.wrap y = y := by rw [IntKind.wrap_i64]; omega
                    have ey : ((y : Int) != y) = false := by simp
                    clear hlt hxr
                    go_wp2_with fail
                    go_quiet (fail)
                    go_wp2_with fail
                    go_roundw
                    case rel => exact ⟨k + 1, by omega, by go_num, _, rfl⟩
                    case measure => simp [intOf]; omega
                  · have k1 : ¬ (k : Int) < (zs.length : Int) := by omega
                    have HBE : Hid (Below W.heap.size W (w10.drewN q)) := below_drewN (HBV.out.trans (H10.out.mono HBV.out.size)) q
                    go_wp2_with fail
                    refine (HAL.out HBE.out).mono ?_
                    rintro e w11 ⟨rfl, hb11⟩
                    have H11 := Lib.hid hb11
                    clear hb11
                    go_wp2_with fail
                    go_ret
                    exact ⟨rfl, HBAD.out _ H11.out⟩
              · have d8 : decide ((16 : Int) < 2 * (l.length : Int)) = true := decide_eq_true (by omega)
                have d9 : decide (16 < 2 * l.length) = true := decide_eq_true (by omega)
                have h82 : (16 : Int) < 2 * (l.length : Int) := by omega
                clear h8
                go_wp2_with fail
                refine (HAL.out HBW.out).mono ?_
                rintro e w6 ⟨rfl, hb6⟩
                have H6 := Lib.hid hb6
                clear hb6
                go_wp2_with fail
                go_ret
                exact ⟨rfl, HBAD.out _ H6.out⟩
      · have d2 : (((Ck.chk (Cd.fns l)).1 : Int) != 0) = true := by rw [bne_iff_ne]; omega
        have d3 : (((Ck.chk (Cd.fns l)).1 : Int) == 0) = false := by rw [beq_eq_false_iff_ne]; omega
        generalize Ck.chk (Cd.fns l) = ck at HM1 d2 d3 hc
        obtain ⟨k1, k2, k3⟩ := ck
        dsimp only at HM1 d2 d3 hc
        clear hc
        go_wp2_with fail
        refine (HM1.out _ H1.out).mono ?_
        rintro e w2 ⟨rfl, hb2⟩
        have H2 := Lib.hid hb2
        clear hb2 p0
        go_wp2_with fail
        refine (HAL.out H2.out).mono ?_
        rintro e w3 ⟨rfl, hb3⟩
        have H3 := Lib.hid hb3
        clear hb3
        go_wp2_with fail
        go_ret
        exact ⟨rfl, HBAD.out _ H3.out⟩
end Go.Proofs.YtkigoidklonhcaaGreatDoor
