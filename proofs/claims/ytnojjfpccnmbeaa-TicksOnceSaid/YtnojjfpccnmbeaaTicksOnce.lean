/-
  A timer is told once, with the first Tick that comes to it, and what is told comes in order (TicksOnce).
-/
import Derived.Test.YtnojjfpccnmbeaaRows
import Derived.Laws.Cover1
import Derived.Test.YtnojjfpccnmbeaaTpV
import Derived.Deep.DeepCutAuto
import Derived.Deep.CutBlock
import Derived.Deep.RegionHeld3
import Derived.ProofKit
import Derived.OpenShut
import Derived.ShutString
namespace Go.Proofs.Ytnojjfpccnmbeaa.ticksOnce
open Go.ChangeShapes Go.WideShapes Go.ChangeAt Go.RowKit
open Go.ChangeMaps (open_string shut_string)

set_option maxHeartbeats 16000000 in
set_option maxRecDepth 20000 in
theorem walk (w : World) (l : List StepT) (A : Option Addr) (c : Nat) (la : LiesT w w.heap.size A l) (nl : l.length ≤ maxLen) (ok : ∀ a ∈ l, a.Ok) :
    Calls Try.prog 4 #[.slice A l.length c] w fun e w' => e = .returned (.bool true) ∧ Below w.heap.size w w' := by
  have LA := Lib.hid la
  have OK := Lib.hid ok
  have HHV := Lib.hid (heavyt l A c w la nl)
  have hmm := @run_makeMap Try.prog
  clear la ok
  go_enter Try.func4, Try.ntmps4
  go_wp2_with fail
  refine HHV.out.mono ?_
  rintro e w0 ⟨b, rfl, hsm, hb0⟩
  have HB0 := Lib.hid hb0
  clear hb0 HHV
  cases b with
  | true =>
    clear hsm
    go_wp2_with fail
    refine (alive8_any _).mono ?_
    rintro e w2 ⟨rfl, hb2⟩
    have HB2 := Lib.hid (HB0.out.trans (hb2.mono HB0.out.size))
    clear hb2
    go_wp2_with fail
    go_ret
    exact ⟨rfl, HB2.out⟩
  | false =>
    have hl300 := hsm rfl
    clear hsm nl
    go_wp2_with fail
    refine (tknew w0).mono ?_
    rintro e w1 ⟨T, Q, B, rfl, h1, hb1, hT, hQ, hB⟩
    have hbw1 : Below w.heap.size w w1 := HB0.out.trans (hb1.mono HB0.out.size)
    obtain ⟨W, hW⟩ : ∃ W, W = w1.alloc (.map #[] 0) := ⟨_, rfl⟩
    have hbW : Below w1.heap.size w1 W := by rw [hW]; exact (Below.refl _ _).alloc (Nat.le_refl _) _
    have HST : Hid (Tk.St4 w T Q B w1.heap.size W) := by
      have hs := HB0.out.size
      have hs1 := hb1.size
      refine ⟨_, 0, [], [], ⟨h1.below hbW, by rw [hW]; exact Tk.MapOf.made w1, h1.fresh (Nat.le_refl _), fun i hi => ⟨⟨by omega, by omega, by omega, by simp [Value.ownBlock]⟩, by omega⟩, hbw1.trans (hbW.mono hbw1.size)⟩, List.Perm.refl _, by simp, by omega, by omega, fun x hx => absurd hx List.not_mem_nil⟩
    clear h1 hb1 hT hQ hB hbw1 hbW
    go_wp2_with fail
    rw [← hW]
    clear hW
    generalize w1.heap.size = M at HST
    go_loopg [5] l.length (fun g i wr => ∃ k : Nat, k ≤ l.length ∧ g = l.length - k ∧ i = .int .i64 k ∧ Hid (Tk.St4 w T Q B M wr))
    case atStart => exact ⟨0, Nat.zero_le _, rfl, rfl, HST.out⟩
    case round =>
      clear HST hmm
      obtain ⟨k, hk, rfl, rfl, HST⟩ := hrel
      by_cases hlt : k < l.length
      · obtain ⟨v, c2, l2, m, hD, hp, hl, c0, c1, hca⟩ := HST.out
        obtain ⟨ad, rfl, hadb, hc⟩ := (LA.out.below hD.bel) (by omega)
        obtain ⟨q0, q1, q2, q3⟩ := stt_at hlt (ad.add (k * 4)) (hc k hlt)
        have hok := OK.out l[k] (List.getElem_mem hlt)
        generalize l[k] = a at q0 q1 q2 q3 hok
        obtain ⟨act, key, oth, t⟩ := a
        simp only [] at q0 q1 q2 q3
        have HOK := Lib.hid hok
        have k0 : (0 : Int) ≤ (k : Int) := by omega
        have k1 : (k : Int) < l.length := by omega
        clear hc hok HST
        go_upto_region 11 with fail
        obtain ⟨W, hW⟩ : ∃ W, W = wr.alloc (.cells #[.int .i64 act, .string key, .string oth, .int .i64 t] 32) := ⟨_, rfl⟩
        have hbW : Below wr.heap.size wr W := by rw [hW]; exact (Below.refl _ _).alloc (Nat.le_refl _) _
        have hrow : W.heap[wr.heap.size]? = some (.cells #[.int .i64 act, .string key, .string oth, .int .i64 t] 32 (0, 0)) := by rw [hW]; exact heap_alloc_new wr _
        have hfr := hD.p.fresh (i := wr.heap.size) (Nat.le_refl _)
        have HD := Lib.hid (hD.below hbW)
        have HRO := Lib.hid (And.intro hrow hfr)
        have s0 : W.cell? ⟨wr.heap.size, 0, none⟩ = some (.int .i64 act) := cell_of_row _ _ 0 _ _ _ hrow
        have s1 : W.cell? ⟨wr.heap.size, 1, none⟩ = some (.string key) := cell_of_row _ _ 1 _ _ _ hrow
        have s3 : W.cell? ⟨wr.heap.size, 3, none⟩ = some (.int .i64 t) := cell_of_row _ _ 3 _ _ _ hrow
        have HPL := Lib.hid (And.intro hp (And.intro hl (And.intro c0 (And.intro c1 hca))))
        rw [← hW]
        clear hW hbW hrow hfr hD q0 q1 q2 q3 hp hl hca hadb
        generalize wr.heap.size = S at *
        go_upto_block 2 with fail
        go_cut [] (fun wx => Tk.St4 w T Q B M wx)
        case first =>
          by_cases a0 : act = 0
          · as_aux_lemma =>
            subst a0
            obtain ⟨hp, hl, hc0, hc1, hca⟩ := HPL.out
            have hbd : Below W.heap.size W W.drew := below_drewN (Below.refl _ _) 1
            by_cases hz : Tk.setC c2 l2 key (nearT c2 t) = 0
            · have HS0 := Lib.hid (once_set0 (HD.out.below hbd) hp hl hc0 hc1 hca key (nearT c2 t) ((hbd.block _ (Tk.ltHeap HRO.out.1)).trans HRO.out.1) HRO.out.2 hz)
              have HNOW := Lib.hid (tknow (HD.out.below hbd).p)
              have CC0 : Hid (W.cell? ⟨S, 0, none⟩ = some (.int .i64 0) ∧ W.cell? ⟨S, 1, none⟩ = some (.string key) ∧ W.cell? ⟨S, 3, none⟩ = some (.int .i64 t)) := ⟨s0, s1, s3⟩
              clear hp hl hbd hz hca hc0 hc1
              go_wp2_with fail
              go_region_held3 (fun wx => wx.cell? ⟨S, 0, none⟩ = some (.int .i64 0) ∧ wx.cell? ⟨S, 1, none⟩ = some (.string key) ∧ wx.cell? ⟨S, 3, none⟩ = some (.int .i64 t)) (first | with_reducible assumption | with_reducible exact CC0.out | exact CC0.out)
                (first
                | (go_at_call 21; refine HNOW.out.mono ?_; rintro e w' ⟨rfl, rfl⟩)
                | (go_at_call 12; refine (neart _ _ _).mono ?_; rintro e w' ⟨rfl, rfl⟩))
              all_goals
                simp only [Exit.then]
                go_at_K
                have t0 : W.drew.cell? ⟨S, 0, none⟩ = some (.int .i64 0) := s0
                have t1 : W.drew.cell? ⟨S, 1, none⟩ = some (.string key) := s1
                have t3 : W.drew.cell? ⟨S, 3, none⟩ = some (.int .i64 t) := s3
                go_wp2_with fail
                refine HS0.out.mono ?_
                rintro e w2 ⟨rfl, r2, HE2⟩
                have u1 : w2.cell? ⟨S, 1, none⟩ = some (.string key) := cell_of_row _ _ 1 _ _ _ r2
                obtain ⟨W3, hr3, hs3⟩ := HE2.out
                have HR3 := Lib.hid hr3
                have HS3 := Lib.hid hs3
                clear r2 hr3 hs3 HE2 t0 t1 t3 s0 s1 s3
                go_wp2_with (at_mapUpdate; refine Tk.wpl_upd _ rfl _ _ _ _ rfl _ _ _ rfl rfl rfl W3 HR3.out ?_)
                go_meet
                exact HS3.out
            · have HS0 := Lib.hid (once_setN (HD.out.below hbd) hp hl hc0 hc1 hca key (nearT c2 t) ((hbd.block _ (Tk.ltHeap HRO.out.1)).trans HRO.out.1) HRO.out.2 hz)
              have HNOW := Lib.hid (tknow (HD.out.below hbd).p)
              have CC0 : Hid (W.cell? ⟨S, 0, none⟩ = some (.int .i64 0) ∧ W.cell? ⟨S, 1, none⟩ = some (.string key) ∧ W.cell? ⟨S, 3, none⟩ = some (.int .i64 t)) := ⟨s0, s1, s3⟩
              have hzc : (Tk.setC c2 l2 key (nearT c2 t) == 0) = false := by rw [beq_eq_false_iff_ne]; exact hz
              generalize Tk.setC c2 l2 key (nearT c2 t) = C at HS0 hzc
              clear hp hl hbd hz hca hc0 hc1
              go_wp2_with fail
              go_region_held3 (fun wx => wx.cell? ⟨S, 0, none⟩ = some (.int .i64 0) ∧ wx.cell? ⟨S, 1, none⟩ = some (.string key) ∧ wx.cell? ⟨S, 3, none⟩ = some (.int .i64 t)) (first | with_reducible assumption | with_reducible exact CC0.out | exact CC0.out)
                (first
                | (go_at_call 21; refine HNOW.out.mono ?_; rintro e w' ⟨rfl, rfl⟩)
                | (go_at_call 12; refine (neart _ _ _).mono ?_; rintro e w' ⟨rfl, rfl⟩))
              all_goals
                simp only [Exit.then]
                go_at_K
                have t0 : W.drew.cell? ⟨S, 0, none⟩ = some (.int .i64 0) := s0
                have t1 : W.drew.cell? ⟨S, 1, none⟩ = some (.string key) := s1
                have t3 : W.drew.cell? ⟨S, 3, none⟩ = some (.int .i64 t) := s3
                go_wp2_with fail
                refine HS0.out.mono ?_
                rintro e w2 ⟨rfl, HS3⟩
                clear t0 t1 t3 s0 s1 s3
                go_wp2_with fail
                go_meet
                exact HS3.out
          by_cases a3 : act = 3
          · as_aux_lemma =>
            subst a3
            obtain ⟨hp, hl, hc0, hc1, hca⟩ := HPL.out
            have hbd : Below W.heap.size W W.drew := below_drewN (Below.refl _ _) 1
            by_cases hz : Tk.setC c2 l2 key t = 0
            · have HS0 := Lib.hid (once_set0 (HD.out.below hbd) hp hl hc0 hc1 hca key t ((hbd.block _ (Tk.ltHeap HRO.out.1)).trans HRO.out.1) HRO.out.2 hz)
              have HNOW := Lib.hid (tknow (HD.out.below hbd).p)
              have CC0 : Hid (W.cell? ⟨S, 0, none⟩ = some (.int .i64 3) ∧ W.cell? ⟨S, 1, none⟩ = some (.string key) ∧ W.cell? ⟨S, 3, none⟩ = some (.int .i64 t)) := ⟨s0, s1, s3⟩
              clear hp hl hbd hz hca hc0 hc1
              go_wp2_with fail
              go_region_held3 (fun wx => wx.cell? ⟨S, 0, none⟩ = some (.int .i64 3) ∧ wx.cell? ⟨S, 1, none⟩ = some (.string key) ∧ wx.cell? ⟨S, 3, none⟩ = some (.int .i64 t)) (first | with_reducible assumption | with_reducible exact CC0.out | exact CC0.out)
                (first
                | (go_at_call 21; refine HNOW.out.mono ?_; rintro e w' ⟨rfl, rfl⟩)
                | (go_at_call 12; refine (neart _ _ _).mono ?_; rintro e w' ⟨rfl, rfl⟩))
              all_goals
                simp only [Exit.then]
                go_at_K
                have t0 : W.drew.cell? ⟨S, 0, none⟩ = some (.int .i64 3) := s0
                have t1 : W.drew.cell? ⟨S, 1, none⟩ = some (.string key) := s1
                have t3 : W.drew.cell? ⟨S, 3, none⟩ = some (.int .i64 t) := s3
                go_wp2_with fail
                refine HS0.out.mono ?_
                rintro e w2 ⟨rfl, r2, HE2⟩
                have u1 : w2.cell? ⟨S, 1, none⟩ = some (.string key) := cell_of_row _ _ 1 _ _ _ r2
                obtain ⟨W3, hr3, hs3⟩ := HE2.out
                have HR3 := Lib.hid hr3
                have HS3 := Lib.hid hs3
                clear r2 hr3 hs3 HE2 t0 t1 t3 s0 s1 s3
                go_wp2_with (at_mapUpdate; refine Tk.wpl_upd _ rfl _ _ _ _ rfl _ _ _ rfl rfl rfl W3 HR3.out ?_)
                go_meet
                exact HS3.out
            · have HS0 := Lib.hid (once_setN (HD.out.below hbd) hp hl hc0 hc1 hca key t ((hbd.block _ (Tk.ltHeap HRO.out.1)).trans HRO.out.1) HRO.out.2 hz)
              have HNOW := Lib.hid (tknow (HD.out.below hbd).p)
              have CC0 : Hid (W.cell? ⟨S, 0, none⟩ = some (.int .i64 3) ∧ W.cell? ⟨S, 1, none⟩ = some (.string key) ∧ W.cell? ⟨S, 3, none⟩ = some (.int .i64 t)) := ⟨s0, s1, s3⟩
              have hzc : (Tk.setC c2 l2 key t == 0) = false := by rw [beq_eq_false_iff_ne]; exact hz
              generalize Tk.setC c2 l2 key t = C at HS0 hzc
              clear hp hl hbd hz hca hc0 hc1
              go_wp2_with fail
              go_region_held3 (fun wx => wx.cell? ⟨S, 0, none⟩ = some (.int .i64 3) ∧ wx.cell? ⟨S, 1, none⟩ = some (.string key) ∧ wx.cell? ⟨S, 3, none⟩ = some (.int .i64 t)) (first | with_reducible assumption | with_reducible exact CC0.out | exact CC0.out)
                (first
                | (go_at_call 21; refine HNOW.out.mono ?_; rintro e w' ⟨rfl, rfl⟩)
                | (go_at_call 12; refine (neart _ _ _).mono ?_; rintro e w' ⟨rfl, rfl⟩))
              all_goals
                simp only [Exit.then]
                go_at_K
                have t0 : W.drew.cell? ⟨S, 0, none⟩ = some (.int .i64 3) := s0
                have t1 : W.drew.cell? ⟨S, 1, none⟩ = some (.string key) := s1
                have t3 : W.drew.cell? ⟨S, 3, none⟩ = some (.int .i64 t) := s3
                go_wp2_with fail
                refine HS0.out.mono ?_
                rintro e w2 ⟨rfl, HS3⟩
                clear t0 t1 t3 s0 s1 s3
                go_wp2_with fail
                go_meet
                exact HS3.out
          by_cases a1 : act = 1
          · as_aux_lemma =>
            subst a1
            obtain ⟨hp, hl, hc0, hc1, hca⟩ := HPL.out
            have hkz := HOK.out.key
            obtain ⟨r, hlk⟩ := HD.out.m.look key hkz
            obtain ⟨W1, hW1⟩ : ∃ W1, W1 = W.alloc (.cells #[.string key] 9) := ⟨_, rfl⟩
            have hb1 : Below W.heap.size W W1 := by rw [hW1]; exact (Below.refl _ _).alloc (Nat.le_refl _) _
            have hr1 : W1.heap[W.heap.size]? = some (.cells #[.string key] 9 (0, 0)) := by rw [hW1]; exact heap_alloc_new W _
            have HSP := Lib.hid (once_stop (n := 1) (HD.out.below hb1) hp hl hc0 hc1 hca key hkz hr1 (HD.out.p.fresh (Nat.le_refl _)) ((hb1.block _ (Tk.ltHeap HRO.out.1)).trans HRO.out.1) HRO.out.2 0)
            cases hb : Tk.has key m with
            | true =>
              have hst : Tk.stopC key m = 1 := by unfold Tk.stopC; rw [if_pos hb]
              rw [hst] at HSP
              rw [hb] at hlk
              have HLK := Lib.hid hlk
              clear hb hst hlk hp hl hc0 hc1 hca hkz hb1 hr1
              go_wp2_with (at_lookup; refine Tk.wpl_look _ rfl _ _ _ rfl _ _ _ rfl rfl HLK.out ?_)
              rw [← hW1]
              clear hW1
              refine HSP.out.mono ?_
              rintro e w2 ⟨rfl, r2, HE2⟩
              have u1 : w2.cell? ⟨S, 1, none⟩ = some (.string key) := cell_of_row _ _ 1 _ _ _ r2
              obtain ⟨W3, hr3, hs3⟩ := HE2.out
              have HR3 := Lib.hid hr3
              have HS3 := Lib.hid hs3
              clear r2 hr3 hs3 HE2 s0 s1 s3
              go_wp2_with (at_delete; refine Tk.wpl_del _ rfl _ _ _ _ rfl _ _ rfl rfl W3 HR3.out ?_)
              go_meet
              exact HS3.out
            | false =>
              have hst : Tk.stopC key m = 0 := by unfold Tk.stopC; rw [if_neg (by rw [hb]; simp)]
              rw [hst] at HSP
              rw [hb] at hlk
              have HLK := Lib.hid hlk
              clear hb hst hlk hp hl hc0 hc1 hca hkz hb1 hr1
              go_wp2_with (at_lookup; refine Tk.wpl_look _ rfl _ _ _ rfl _ _ _ rfl rfl HLK.out ?_)
              rw [← hW1]
              clear hW1
              refine HSP.out.mono ?_
              rintro e w2 ⟨rfl, r2, HE2⟩
              have u1 : w2.cell? ⟨S, 1, none⟩ = some (.string key) := cell_of_row _ _ 1 _ _ _ r2
              obtain ⟨W3, hr3, hs3⟩ := HE2.out
              have HR3 := Lib.hid hr3
              have HS3 := Lib.hid hs3
              clear r2 hr3 hs3 HE2 s0 s1 s3
              go_wp2_with (at_delete; refine Tk.wpl_del _ rfl _ _ _ _ rfl _ _ rfl rfl W3 HR3.out ?_)
              go_meet
              exact HS3.out
          by_cases a2 : act = 2
          · as_aux_lemma =>
            subst a2
            obtain ⟨hp, hl, hc0, hc1, hca⟩ := HPL.out
            by_cases hz : Tk.tickC c2 t = 0
            · have HBD := Lib.hid (Tk.tick_bounds hc0 hc1 hz)
              have HTP := Lib.hid (once_tick HD.out hp hl hc0 hc1 hca t hz)
              have HNOW := Lib.hid (tknow HD.out.p)
              generalize c2 + t = C at HBD HTP
              clear hp hl hz hca hc0 hc1
              go_wp2_with fail
              refine HNOW.out.mono ?_
              rintro e w2 ⟨rfl, rfl⟩
              go_wp2_with fail
              refine HTP.out.mono ?_
              rintro e w2 ⟨A2, n2, out, rest, v2, rfl, HT, HF⟩
              have ho1024 := HF.out.2.1
              clear HTP HNOW s0 s1 s3
              go_wp2_with fail
              go_loopw [13] (fun i wx => ∃ j : Nat, j ≤ out.length ∧ i = .int .i64 j ∧ Hid (Tk.Told8 w T Q B M v2 c2 C out rest A2 j wx)) (fun i _ => out.length - (intOf i).toNat)
              case atStart => exact ⟨0, Nat.zero_le _, rfl, HT.out⟩
              case round =>
                clear HT
                obtain ⟨j, hj, rfl, HT⟩ := hrel
                by_cases hjl : j < out.length
                · obtain ⟨hx1, hx2, hx3⟩ := HF.out.2.2.2.1 out[j] (List.getElem_mem hjl)
                  obtain ⟨p, rfl, hpb, p0, p1⟩ := Tk.at2 HT.out.lies hjl
                  have hlk := HT.out.look hjl hx3
                  obtain ⟨F, hFF⟩ := HT.out.nexts hjl HF.out.2.2.2.2.2 hx3 0
                  have HNOW2 := Lib.hid (tknow HT.out.o.p)
                  have HW : Hid (∀ i, i < j → ∃ hi : i < out.length, (wr.cell? (p.add (i * 2)) = some (.string (out[i]).1) ∧ wr.cell? ⟨(p.add (i * 2)).block, (p.add (i * 2)).off + 1, none⟩ = some (.int .i64 (out[i]).2)) ∧ ((out[i]).2 < (out[j]).2 ∨ ((out[i]).2 = (out[j]).2 ∧ (out[i]).1.data.toList < (out[j]).1.data.toList))) := fun i hij => by
                    have hi : i < out.length := by omega
                    obtain ⟨p', e, _, g0, g1⟩ := Tk.at2 HT.out.lies hi
                    obtain rfl := Option.some.inj e
                    exact ⟨hi, ⟨g0, g1⟩, Tk.row_at HF.out.2.2.2.2.1 HF.out.2.2.2.2.2 hij hjl⟩
                  generalize out[j] = y at hx1 hx2 p0 p1 hlk hFF HW
                  obtain ⟨y1, y2⟩ := y
                  simp only [] at hx1 hx2 p0 p1 hlk hFF HW
                  have HLK := Lib.hid hlk
                  have HFF := Lib.hid hFF
                  have j0 : (0 : Int) ≤ (j : Int) := by omega
                  have j1 : (j : Int) < out.length := by omega
                  have jn : decide ((j : Int) < 0) = false := by simp
                  have d1 : decide (C < y2) = false := by simpa using hx2
                  have d2 : decide (y2 ≤ c2) = false := by simpa using hx1
                  clear hlk hFF hx1 hx2 hx3 HT
                  by_cases jz : j = 0
                  · have z1 : decide (0 < j) = false := by simpa using jz
                    clear jz HW
                    go_wp2_with (first
                      | (at_lookup; refine Tk.wpl_look _ rfl _ _ _ rfl _ _ _ rfl rfl HLK.out ?_)
                      | (go_at_call 21; refine HNOW2.out.mono ?_; rintro e w' ⟨rfl, rfl⟩))
                    go_quiet (fail)
                    go_wp2_with (at_delete; refine Tk.wpl_del _ rfl _ _ _ _ rfl _ _ rfl rfl (F _) (HFF.out _).1 ?_)
                    go_roundw
                    case rel => exact ⟨j + 1, by omega, by go_num, (HFF.out _).2⟩
                    case measure => simp [intOf]; omega
                  · have z1 : decide (0 < j) = true := by simp; omega
                    obtain ⟨i, hi⟩ : ∃ i, j = i + 1 := ⟨j - 1, by omega⟩
                    obtain ⟨hio, ⟨g0, g1⟩, hor⟩ := HW.out i (by omega)
                    have him : (j : Int) - 1 = (i : Int) := by omega
                    have i0 : (0 : Int) ≤ (i : Int) := by omega
                    have i1 : (i : Int) < out.length := by omega
                    have jn2 : decide ((i : Int) < 0) = false := by simp
                    generalize out[i] = x at g0 g1 hor
                    obtain ⟨x1, x2⟩ := x
                    simp only [] at g0 g1 hor
                    have hless := Tk.less_eq x1 y1
                    by_cases hlt2 : x2 < y2
                    · have d3 : decide (y2 < x2) = false := by simp; omega
                      have d4 : (x2 == y2) = false := by rw [beq_eq_false_iff_ne]; omega
                      clear hi hio hor hless hlt2 HW jz
                      go_wp2_with (first
                        | (at_lookup; refine Tk.wpl_look _ rfl _ _ _ rfl _ _ _ rfl rfl HLK.out ?_)
                        | (go_at_call 21; refine HNOW2.out.mono ?_; rintro e w' ⟨rfl, rfl⟩))
                      go_quiet (fail)
                      go_wp2_with (at_delete; refine Tk.wpl_del _ rfl _ _ _ _ rfl _ _ rfl rfl (F _) (HFF.out _).1 ?_)
                      go_roundw
                      case rel => exact ⟨j + 1, by omega, by go_num, (HFF.out _).2⟩
                      case measure => simp [intOf]; omega
                    · have h5 : x2 = y2 ∧ x1.data.toList < y1.data.toList := by
                        rcases hor with h | h
                        · exact absurd h hlt2
                        · exact h
                      have d5 : Op.bytesLess x1.toList y1.toList = true := by rw [hless]; simpa using h5.2
                      obtain ⟨h6, _⟩ := h5
                      subst h6
                      have d4 : (x2 == x2) = true := by simp
                      have d3 : decide (x2 < x2) = false := by simp
                      clear hi hio hor hless hlt2 HW jz
                      go_wp2_with (first
                        | (at_lookup; refine Tk.wpl_look _ rfl _ _ _ rfl _ _ _ rfl rfl HLK.out ?_)
                        | (go_at_call 21; refine HNOW2.out.mono ?_; rintro e w' ⟨rfl, rfl⟩))
                      go_quiet (fail)
                      go_wp2_with (at_delete; refine Tk.wpl_del _ rfl _ _ _ _ rfl _ _ rfl rfl (F _) (HFF.out _).1 ?_)
                      go_roundw
                      case rel => exact ⟨j + 1, by omega, by go_num, (HFF.out _).2⟩
                      case measure => simp [intOf]; omega
                · have j1 : ¬ ((j : Int) < out.length) := by omega
                  have HST4 : Hid (Tk.St4 w T Q B M _) := HT.out.done (by omega) HF.out.1 HBD.out.1 HBD.out.2 HF.out.2.2.1
                  clear HT
                  go_wp2_with fail
                  go_meet
                  exact HST4.out
            · have HTP := Lib.hid (once_tick_no HD.out hl hc0 hc1 t hz)
              have HNOW := Lib.hid (tknow HD.out.p)
              have HST4 : Hid (Tk.St4 w T Q B M W) := ⟨_, _, _, _, HD.out, HPL.out⟩
              have hzc : (Tk.tickC c2 t != 0) = true := by simpa using hz
              generalize Tk.tickC c2 t = C at HTP hzc
              clear hp hl hz hca hc0 hc1
              go_wp2_with fail
              refine HNOW.out.mono ?_
              rintro e w2 ⟨rfl, rfl⟩
              go_wp2_with fail
              refine HTP.out.mono ?_
              rintro e w2 ⟨rfl, rfl⟩
              go_wp2_with fail
              refine HNOW.out.mono ?_
              rintro e w2 ⟨rfl, rfl⟩
              go_wp2_with fail
              go_meet
              exact HST4.out
          · have e0 : (act == 0) = false := by rw [beq_eq_false_iff_ne]; exact a0
            have e1 : (act == 1) = false := by rw [beq_eq_false_iff_ne]; exact a1
            have e2 : (act == 2) = false := by rw [beq_eq_false_iff_ne]; exact a2
            have e3 : (act == 3) = false := by rw [beq_eq_false_iff_ne]; exact a3
            have HST4 : Hid (Tk.St4 w T Q B M W) := ⟨_, _, _, _, HD.out, HPL.out⟩
            clear a0 a1 a2 a3
            go_wp2_with fail
            go_meet
            exact HST4.out
        case rest =>
          as_aux_lemma =>
            rename World => wx
            obtain ⟨v3, c3, l3, m3, hD3, hp3, hl3, hc30, hc31, hca3⟩ := hcut
            have HALL := Lib.hid (once_all hD3 hp3 hl3 hca3)
            have HPL3 := Lib.hid (And.intro hp3 (And.intro hl3 (And.intro hc30 (And.intro hc31 hca3))))
            clear hD3 hp3 hl3 hc30 hc31 hca3 HD HPL HRO HOK s0 s1 s3
            go_wp2_with fail
            refine HALL.out.mono ?_
            rintro e w5 ⟨A3, n3, out, rfl, hlen, HO, HL, HI⟩
            have HLN : Hid (∀ ty, (Builtin.len_ #[47] ty #[.map (some M)]).run Try.prog w5 = .ok (.int .i64 out.length) w5) := fun ty => by rw [hlen]; exact HO.out.m.len ty
            have HNOW := Lib.hid (tknow HO.out.p)
            have ho1024 : out.length ≤ 1024 := by
              have := HPL3.out.1.length_eq
              have := HPL3.out.2.1
              omega
            have HST5 : Hid (Tk.St4 w T Q B M w5) := ⟨_, _, _, _, HO.out, HPL3.out⟩
            clear HALL hlen HPL3
            go_wp2_with (at_len; refine Tk.wpl_len _ rfl _ _ rfl _ _ rfl (HLN.out _) ?_)
            go_loopw [17] (fun i wy => ∃ j : Nat, j ≤ out.length ∧ i = .int .i64 j ∧ wy = w5) (fun i _ => out.length - (intOf i).toNat)
            case atStart => exact ⟨0, Nat.zero_le _, rfl, rfl⟩
            case round =>
              obtain ⟨j, hj, rfl, rfl⟩ := hrel
              by_cases hjl : j < out.length
              · obtain ⟨hi1, hx1, hx3⟩ := HI.out out[j] (List.getElem_mem hjl)
                obtain ⟨p, rfl, hpb, p0, p1⟩ := Tk.at2 HL.out hjl
                have hlk := HO.out.m.at_ hi1 (by unfold maxLen; omega)
                generalize out[j] = x at hx1 p0 p1 hlk
                obtain ⟨x1, x2⟩ := x
                simp only [] at hx1 p0 p1 hlk
                have HLK := Lib.hid hlk
                have j0 : (0 : Int) ≤ (j : Int) := by omega
                have j1 : (j : Int) < out.length := by omega
                have d1 : decide (x2 ≤ c3) = false := by simpa using hx1
                clear hi1 hx1 hx3 hlk
                go_wp2_with (first
                  | (at_lookup; refine Tk.wpl_look _ rfl _ _ _ rfl _ _ _ rfl rfl HLK.out ?_)
                  | (go_at_call 21; refine HNOW.out.mono ?_; rintro e w' ⟨rfl, rfl⟩))
                go_roundw
                case rel => exact ⟨j + 1, by omega, by go_num, trivial⟩
                case measure => simp [intOf]; omega
              · have j1 : ¬ ((j : Int) < out.length) := by omega
                go_wp2_with fail
                go_roundg (l.length - (k + 1))
                case measure => omega
                case rel => exact ⟨k + 1, by omega, rfl, by go_num, HST5.out⟩
      · have k1 : ¬ ((k : Int) < l.length) := by omega
        obtain ⟨v, c2, l2, m, hD, hp, hl, c0, c1, hca⟩ := HST.out
        have HB5 := Lib.hid hD.bel
        clear hD hp hl hca HST
        go_wp2_with fail
        refine (alive8_any _).mono ?_
        rintro e w6 ⟨rfl, hb6⟩
        have HB6 := Lib.hid (HB5.out.trans (hb6.mono HB5.out.size))
        clear hb6
        go_wp2_with fail
        go_ret
        exact ⟨rfl, HB6.out⟩

/-! ### From the walk to the statement -/
theorem own : ownKnob Try.prog.godebug = none := by kernel_rfl

set_option maxRecDepth 20000 in
theorem contract (H : Type) (enc : TypeId × Value → H) (W : World) (base : Nat) (args : Array Value) (ds gs : List (DataW H)) (before : List MemPlace)
    (hval : ∀ (j : Nat) t v, Try.f4.params[j]? = some t → args[j]? = some v → Value.okWide Try.prog W .any base t v)
    (hW : DataW.Whole enc Try.prog Try.f4.params.toList Rows.ticksOnceSpec.vars false W args.toList ds gs before) :
    Calls Try.prog 4 args W fun e W' => ∃ v, e = .returned v ∧ Rows.ticksOnceSpec.post enc Try.prog Try.f4 false true false false W args v W' := by
  have hW' := hW
  obtain ⟨p, q, hA0, hV, rfl, hfz, hnd⟩ := hW
  have hA : DataW.TrodAll enc Try.prog W 0 (fun _ => true) true Try.f4.params.toList args.toList ds p := hA0
  rw [Try.params4] at hA hval
  obtain ⟨v0, vs0, d0, ds0, p0, q0, hargs, rfl, rfl, h0, r0⟩ := trodAll_cons hA
  obtain ⟨rfl, rfl, rfl⟩ := trodAll_nil r0
  obtain rfl : args = #[v0] := by cases args; simp_all
  obtain ⟨rfl, rfl⟩ := trodVars_none hV
  have k0 := h0
  obtain ⟨fuel0, hf0⟩ := h0
  obtain ⟨xs0, A0, c0, hcs0, hn0, hl0, hb0⟩ := trod_stepst hf0
  obtain rfl := slice_of Try.underlying22 (hval 0 22 v0 rfl rfl) hcs0
  clear hA0
  simp only [List.append_nil] at hW'
  refine (walk W xs0 A0 c0 hl0 hn0 hb0).mono fun e W' ⟨he, bel⟩ => ?_
  subst he
  exact ⟨_, rfl, _, _, _, [], _, [], hW', trodAll_mk1 (shut_bool Try.underlying4 _), (trodAll_cons_mk (Below.trod laidOut (by kernel_rfl) (of_decide_eq_true (by kernel_rfl)) k0 bel (fun x hx => DataW.trod_lt _ _ _ _ hf0 x hx)) trodAll_mk0), rfl, bel.frame _, fun h => by cases h⟩

set_option maxRecDepth 100000 in
theorem lifted (os : Os) (started : os.Started) (H : Type) (enc : TypeId × Value → H) :
    ReturnsInHanded {} Try.checked os 4 .any (Rows.ticksOnceSpec.pre6 enc Try.prog Try.f4 Rows.ticksOnceRow.domain false) (Rows.ticksOnceSpec.post enc Try.prog Try.f4 false true false false) := by
  refine returnsInHanded_of_change (C := Try.checked) own started (by kernel_rfl) Try.func4
    (ChangeSpec.witness6 (enc := enc) (C := Try.checked) false ⟨#[], #[.slice none 0 0], []⟩ 8 (by kernel_rfl) (by kernel_rfl) (by kernel_rfl) (by kernel_rfl)) ?_
  intro W base args ds gs before hval hW _ _
  exact contract H enc W base args ds gs before hval hW

theorem over : Rows.ticksOnceRow.holds Try.pinned (OpenSpec.ofChange Rows.ticksOnceSpec) :=
  OpenClaim.holds_of_wide 4 Try.f4 rfl rfl rfl rfl rfl rfl rfl ⟨rfl, rfl, rfl, rfl, rfl⟩ rfl rfl rfl rfl rfl (by kernel_rfl) Try.func4 (by kernel_rfl)
    (of_decide_eq_true (by kernel_rfl)) (by unfold Func.isWrapper; first | (rw [if_pos (by decide +kernel)]; kernel_rfl) | (rw [if_neg (by decide +kernel)]; exact ⟨rfl, rfl⟩))
    (fun os started H enc _ => lifted os started H enc)

/-- The statement. -/
theorem proved : Rows.TicksOnceSaid :=
  over

end Go.Proofs.Ytnojjfpccnmbeaa.ticksOnce
