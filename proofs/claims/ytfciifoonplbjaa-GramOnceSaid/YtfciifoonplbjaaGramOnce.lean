/-
  What is taken was sent, each number once, and never across a way that is cut (GramOnce).
-/
import Derived.Test.YtfciifoonplbjaaRows
import Derived.Laws.Cover1
import Derived.Test.YtfciifoonplbjaaPkM
import Derived.Test.YtfciifoonplbjaaL09A
import Derived.Deep.DeepCutAuto
import Derived.Deep.CutBlock
import Derived.Deep.RegionHeld3
import Derived.ProofKit
import Derived.OpenShut
import Derived.ShutString
namespace Go.Proofs.Ytfciifoonplbjaa.gramOnce
open Go.ChangeShapes Go.WideShapes Go.ChangeAt Go.RowKit
open Go.ChangeMaps (open_string shut_string)

set_option maxHeartbeats 16000000 in
set_option maxRecDepth 20000 in
theorem walk (w : World) (l : List StepG) (A : Option Addr) (c : Nat) (la : LiesG w w.heap.size A l) (nl : l.length ≤ maxLen) (ok : ∀ a ∈ l, a.Ok w) :
    Calls Try.prog 4 #[.slice A l.length c] w fun e w' => e = .returned (.bool true) ∧ Below w.heap.size w w' := by
  have LA := Lib.hid la
  have OK := Lib.hid ok
  have HHV := Lib.hid (heavyg l A c w la nl)
  have hmm := @run_makeMap Try.prog
  clear la ok
  go_enter Try.func4, Try.ntmps4
  go_wp2_with fail
  refine HHV.out.mono ?_
  rintro e w0 ⟨b, rfl, hsm, hb0⟩
  have HB0 := Lib.hid hb0
  clear hb0 HHV
  cases b with
  | true =>
    clear hsm
    go_wp2_with fail
    refine (alive9_any _).mono ?_
    rintro e w2 ⟨rfl, hb2⟩
    have HB2 := Lib.hid (HB0.out.trans (hb2.mono HB0.out.size))
    clear hb2
    go_wp2_with fail
    go_ret
    exact ⟨rfl, HB2.out⟩
  | false =>
    have HSM := Lib.hid (hsm rfl)
    clear hsm nl
    go_wp2_with fail
    refine (glw_new w0).mono ?_
    rintro e w1 ⟨R, B, C, rfl, h1⟩
    obtain ⟨W, hW⟩ : ∃ W, W = (w1.alloc (.map #[] 0)).alloc (.map #[] 0) := ⟨_, rfl⟩
    have HST : Hid (Gm.OnceG w0 R B C w1.heap.size (w1.heap.size + 1) 0 [] [] [] [] 0 W) := by
      have s1 : (w1.alloc (.map #[] 0)).heap.size = w1.heap.size + 1 := by simp
      have hbb : Below w1.heap.size w1 W := by rw [hW]; exact ((Below.refl _ _).alloc (Nat.le_refl _) _).alloc (by simp) _
      have hls := h1.bel.size
      refine ⟨h1.below hbb, ?_, ⟨fun _ => none, 0, Nat.le_refl _, fun a b => .inr ⟨.inl rfl, rfl⟩, ?_⟩, ⟨by omega, by omega⟩, ⟨h1.p.fresh (Nat.le_refl _), h1.p.fresh (Nat.le_succ _), by omega⟩⟩
      · refine ((Gm.MapF.made w1 28).of_block ?_).congr fun x _ => ?_
        · rw [hW, Below.heap_alloc _ _ _ (by rw [s1]; omega)]
        · unfold Gm.onF; split <;> rfl
      · have := Gm.MapF.made (w1.alloc (.map #[] 0)) 57
        rw [s1] at this
        exact this.of_block (by rw [hW])
    clear h1
    go_wp2_with fail
    rw [← hW]
    clear hW
    generalize w1.heap.size = M at HST ⊢
    generalize hK : M + 1 = K at HST ⊢
    clear hK hmm
    go_loopw [6, 7] (fun s6 s7 wr => ∃ (k : Nat) (la : Int) (l2 : List Gm.Msg) (cs : List Gm.Wy), k ≤ l.length ∧ s6 = .int .u64 la ∧ s7 = .int .i64 k ∧ Hid (0 ≤ la ∧ la ≤ 41 * k ∧ cs.length ≤ k) ∧ Hid (Gm.OnceG w0 R B C M K la l2 cs l2 cs k wr)) (fun _ s7 _ => l.length - (intOf s7).toNat)
    case atStart => exact ⟨0, 0, [], [], Nat.zero_le _, rfl, rfl, ⟨by omega, by omega, by simp⟩, HST.out⟩
    case round =>
      clear HST
      obtain ⟨k, la0, l2, cs, hk, rfl, rfl, HN, HO⟩ := hrel
      by_cases hlt : k < l.length
      · obtain ⟨ad, rfl, hadb, hc⟩ := (LA.out.below (HB0.out.trans (HO.out.net.bel.mono HB0.out.size))) (by omega)
        obtain ⟨q0, q1, q2, q3, q4, q5, q6⟩ := stg_at hlt (ad.add (k * 7)) (hc k hlt)
        have hok := OK.out l[k] (List.getElem_mem hlt)
        have h40 := (HSM.out.2 l[k] (List.getElem_mem hlt))
        have hk150 : k < 150 := by have := HSM.out.1; omega
        generalize l[k] = a at q0 q1 q2 q3 q4 q5 q6 hok h40
        obtain ⟨act, sa, sb, sn, sm, ss, tos, TA, tc⟩ := a
        simp only [] at q0 q1 q2 q3 q4 q5 q6 h40
        have HOK := Lib.hid (And.intro hok (And.intro h40 hk150))
        have k0 : (0 : Int) ≤ (k : Int) := by omega
        have k1 : (k : Int) < l.length := by omega
        have k9 : (k : Int) < 150 := by omega
        clear hc hok h40 hk150 hlt
        go_upto_region 13 with fail
        obtain ⟨W, hW⟩ : ∃ W, W = wr.alloc (.cells #[.int .i64 act, .int .i64 sa, .int .i64 sb, .int .u64 sn, .int .u64 sm, .string ss, .slice TA tos.length tc] 35) := ⟨_, rfl⟩
        have hbW : Below wr.heap.size wr W := by rw [hW]; exact (Below.refl _ _).alloc (Nat.le_refl _) _
        have hrow : W.heap[wr.heap.size]? = some (.cells #[.int .i64 act, .int .i64 sa, .int .i64 sb, .int .u64 sn, .int .u64 sm, .string ss, .slice TA tos.length tc] 35 (0, 0)) := by rw [hW]; exact heap_alloc_new wr _
        have hfr := HO.out.net.p.fresh (i := wr.heap.size) (Nat.le_refl _)
        have hM := HO.out.sent.lt
        have hKl : K < wr.heap.size := by obtain ⟨g, n, _, _, h3⟩ := HO.out.cuts; exact h3.lt
        have HO2 := Lib.hid (HO.out.below hbW)
        have HRO := Lib.hid (And.intro hrow (And.intro hfr (And.intro (show wr.heap.size ≠ M by omega) (show wr.heap.size ≠ K by omega))))
        have s0 : W.cell? ⟨wr.heap.size, 0, none⟩ = some (.int .i64 act) := cell_of_row _ _ 0 _ _ _ hrow
        rw [← hW]
        clear hW hbW hrow hfr HO q0 q1 q2 q3 q4 q5 q6 hadb hM hKl
        generalize wr.heap.size = S at *
        go_upto_block 2 with fail
        go_cut [6] (fun s6 wx => ∃ (la : Int) (l3 : List Gm.Msg) (cs3 : List Gm.Wy), s6 = .int .u64 la ∧ Hid (0 ≤ la ∧ la ≤ 41 * ((k + 1 : Nat) : Int) ∧ cs3.length ≤ k + 1) ∧ Hid (Gm.OnceG w0 R B C M K la l3 cs3 l3 cs3 (k + 1) wx))
        case first =>
          by_cases a0 : act = 0
          · subst a0
            have s1 : W.cell? ⟨S, 1, none⟩ = some (.int .i64 sa) := cell_of_row _ _ 1 _ _ _ HRO.out.1
            have s5 : W.cell? ⟨S, 5, none⟩ = some (.string ss) := cell_of_row _ _ 5 _ _ _ HRO.out.1
            have s6 : W.cell? ⟨S, 6, none⟩ = some (.slice TA tos.length tc) := cell_of_row _ _ 6 _ _ _ HRO.out.1
            have hbW := HO2.out.net.bel
            have HLT : Hid (Lies W W.heap.size TA (icells tos)) := (HOK.out.1.ltos.below (HB0.out.trans (hbW.mono HB0.out.size))).mono (Nat.le_trans HB0.out.size hbW.size)
            have h40 := HOK.out.2.1
            have HSEND : Hid (∀ V A' c', Lies V V.heap.size A' (icells tos) → (∀ p, A' = some p → W.heap.size ≤ p.block) → Below W.heap.size W V → Calls Try.prog 8 #[.pointer (some ⟨R, 0, none⟩), .int .i64 sa, .string ss, .slice A' tos.length c'] V fun e w' =>
                e = .returned (.tuple #[.int .i64 (Gm.sendN sa ss tos l2.length), .int .i64 (Gm.sendC sa ss tos l2.length)]) ∧ Gm.OnceG w0 R B C M K (Gm.sendM sa ss tos la0 l2) (Gm.sendL sa ss tos la0 l2) cs l2 cs k w' ∧ w'.heap[S]? = some (.cells #[.int .i64 0, .int .i64 sa, .int .i64 sb, .int .u64 sn, .int .u64 sm, .string ss, .slice TA tos.length tc] 35 (0, 0))) := fun V A' c' hl hf hb => by
              have hV := HO2.out.below hb
              refine (glw_send hV.net (by have := HN.out; have := HOK.out.2.2; omega) sa ss tos A' c' hl (fun p hp => HO2.out.net.p.fresh (hf p hp)) (by omega)).mono ?_
              rintro e w' ⟨rfl, hn, hm⟩
              refine ⟨rfl, hV.stepP hn hm, ?_⟩
              exact (hm.block S (Nat.lt_of_lt_of_le (Gm.ltHeap HRO.out.1) hb.size) HRO.out.2.1).trans ((hb.block S (Gm.ltHeap HRO.out.1)).trans HRO.out.1)
            have HROW : Hid (W.heap[S]? = some (.cells #[.int .i64 0, .int .i64 sa, .int .i64 sb, .int .u64 sn, .int .u64 sm, .string ss, .slice TA tos.length tc] 35 (0, 0))) := HRO.out.1
            go_upto_region 15 with fail
            go_cut [9, 10] (fun s9 s10 wx => s9 = .int .i64 (Gm.sendN sa ss tos l2.length) ∧ s10 = .int .i64 (Gm.sendC sa ss tos l2.length) ∧ Hid (Gm.OnceG w0 R B C M K (Gm.sendM sa ss tos la0 l2) (Gm.sendL sa ss tos la0 l2) cs l2 cs k wx ∧ wx.heap[S]? = some (.cells #[.int .i64 0, .int .i64 sa, .int .i64 sb, .int .u64 sn, .int .u64 sm, .string ss, .slice TA tos.length tc] 35 (0, 0))))
            case first =>
              clear s0
              go_region_held3 (fun w' : World => w'.cell? ⟨S, 1, none⟩ = some (.int .i64 sa) ∧ w'.cell? ⟨S, 5, none⟩ = some (.string ss) ∧ w'.cell? ⟨S, 6, none⟩ = some (.slice TA tos.length tc)) (first | assumption | exact Gm.cells3 HROW.out | exact Gm.cells3 (Gm.keepS (by assumption) (show W.drew.heap[S]? = _ from HROW.out)) | exact Gm.cells3 (by assumption))
                (first
                  | (refine Gm.step_copy (by rfl) _ _ (by rfl) (by rfl) tos TA tc (by rfl) HLT.out (by omega) ?_; intro A1 c1 V h1 h2 h3)
                  | (go_at_call 8; refine (HSEND.out _ _ _ (by assumption) (by assumption) (Below.trans (Below.refl _ _).drew (by assumption))).mono ?_; rintro e w2 ⟨rfl, ho, hr⟩))
              all_goals
                go_wp2_with fail
                go_meet
                case rel => exact ⟨rfl, rfl, by assumption, by assumption⟩
            case rest =>
              obtain ⟨rfl, rfl, HX⟩ := hcut
              have HO2L := Lib.hid HO2.out.net.g.2.1
              have HSM2 := Lib.hid HRO.out.2.2.1
              clear s1 s5 s6 HSEND HROW HRO HO2
              by_cases hc : Gm.sendC sa ss tos l2.length = 0
              · have e1 : Gm.sendN sa ss tos l2.length = tos.length := by unfold Gm.sendN; rw [if_pos hc]
                have e2 : Gm.sendM sa ss tos la0 l2 = la0 + tos.length := by unfold Gm.sendM; rw [if_pos hc]
                have e3 : Gm.sendL sa ss tos la0 l2 = l2 ++ Gm.sent la0 sa ss tos := by unfold Gm.sendL; rw [if_pos hc]
                rw [e2, e3] at HX
                have HOX := Lib.hid HX.out.1
                have HRX := Lib.hid HX.out.2
                obtain ⟨t1, t5, t6⟩ := Gm.cells3 HRX.out
                clear e2 e3 HX
                rw [hc, e1]
                clear hc e1
                have HLI := Lib.hid HOK.out.1.ltos
                have HBD : Hid (0 ≤ la0 ∧ la0 ≤ 41 * (k : Int) ∧ cs.length ≤ k ∧ k < 150) := ⟨HN.out.1, HN.out.2.1, HN.out.2.2, HOK.out.2.2⟩
                go_wp2_with fail
                go_loopw [6, 11] (fun s6 s11 wy => ∃ j : Nat, j ≤ tos.length ∧ s6 = .int .u64 (la0 + (j : Int)) ∧ s11 = .int .i64 j ∧ Hid (Gm.OnceG w0 R B C M K (la0 + tos.length) (l2 ++ Gm.sent la0 sa ss tos) cs (l2 ++ Gm.sent la0 sa ss (tos.take j)) cs k wy) ∧ Hid (wy.heap[S]? = some (.cells #[.int .i64 0, .int .i64 sa, .int .i64 sb, .int .u64 sn, .int .u64 sm, .string ss, .slice TA tos.length tc] 35 (0, 0)))) (fun _ s11 _ => tos.length - (intOf s11).toNat)
                case atStart => exact ⟨0, Nat.zero_le _, by simp, rfl, by have := HOX.out; rw [List.take_zero, show Gm.sent la0 sa ss [] = [] from rfl, List.append_nil]; exact this, HRX.out⟩
                case round =>
                  clear HOX HRX t1 t5 t6
                  rename World => wy
                  obtain ⟨j, hj, rfl, rfl, HOY, HRY⟩ := hrel
                  by_cases hlt : j < tos.length
                  · obtain ⟨q1, q5, q6⟩ := Gm.cells3 HRY.out
                    obtain ⟨ad2, rfl, hadb, hc⟩ := (HLI.out.below (HB0.out.trans (HOY.out.net.bel.mono HB0.out.size))).at_ (icells_at hlt)
                    have HTK : Hid (l2 ++ Gm.sent la0 sa ss (tos.take (j + 1)) = (l2 ++ Gm.sent la0 sa ss (tos.take j)) ++ [⟨la0 + (j : Int) + 1, sa, tos[j], ss⟩]) := by
                      show _ = _
                      rw [List.take_succ_eq_append_getElem hlt, Gm.sent_snoc, List.length_take, List.append_assoc, Nat.min_eq_left (by omega)]
                    generalize tos[j] = tj at hc HTK
                    have hwr : IntKind.u64.wrap (la0 + (j : Int) + 1) = la0 + (j : Int) + 1 := by have := HBD.out; rw [IntKind.wrap_u64]; omega
                    have hids : ∀ y ∈ l2 ++ Gm.sent la0 sa ss (tos.take j), y.id ≠ la0 + (j : Int) + 1 := fun y hy => by
                      rcases List.mem_append.1 hy with hy | hy
                      · have := (HO2L.out y hy).2
                        omega
                      · have := (Gm.sent_ids y hy).2
                        rw [List.length_take] at this
                        omega
                    have hlen : (l2 ++ Gm.sent la0 sa ss (tos.take j)).length ≤ 100000 := by
                      have := HOY.out.net.len
                      rw [List.length_append, Gm.sent_len] at this ⊢
                      rw [List.length_take]
                      omega
                    obtain ⟨w5, hr5, hO5, hg5⟩ := (HOY.out.below (Below.refl _ _).drew).putS hlen ⟨la0 + (j : Int) + 1, sa, tj, ss⟩ (by show 0 ≤ la0 + (j : Int) + 1; have := HBD.out; omega) (by show la0 + (j : Int) + 1 < _; have := HBD.out; omega) hids
                    rw [← HTK.out] at hO5
                    have hrow5 := (hg5.block S (Gm.ltHeap HRY.out) (fun e => HSM2.out (Option.some.inj e))).trans HRY.out
                    have HO5 := Lib.hid hO5
                    have HR5 : Hid ((Instr.mapUpdate 53 (.map (some M)) (.int .u64 (la0 + (j : Int) + 1)) (.agg #[.int .u64 (la0 + (j : Int) + 1), .int .i64 sa, .int .i64 tj, .string ss])).run Try.prog wy.drew = .ok () w5) := hr5
                    have HROW5 := Lib.hid hrow5
                    have k0 : (0 : Int) ≤ (j : Int) := by omega
                    have k1 : (j : Int) < tos.length := by omega
                    clear hr5 hO5 hg5 hrow5 hids hlen HTK hadb hlt
                    go_upto_region 25 with fail
                    refine wp_region_still_tail 13 (by kernel_rfl) (by kernel_rfl) ?_
                    simp only [List.take_succ_cons, List.take_zero, List.drop_succ_cons, List.drop_zero]
                    repeat still_step
                    refine wpStill_nil ?_
                    go_wp2_with (at_mapUpdate; refine Gm.gpl_upd _ rfl _ _ _ _ rfl _ _ _ rfl rfl rfl w5 HR5.out ?_)
                    go_roundw
                    case rel => exact ⟨j + 1, by omega, by go_num, by go_num, HO5.out, HROW5.out⟩
                    case measure => simp [intOf]; omega
                  · obtain rfl : j = tos.length := by omega
                    have k1 : ¬ ((tos.length : Int) < tos.length) := by omega
                    have hO4 := HOY.out
                    rw [List.take_of_length_le (Nat.le_refl _)] at hO4
                    have HO4 := Lib.hid (hO4.mono (Nat.le_succ k))
                    clear hO4 HOY HRY
                    go_wp2_with fail
                    go_meet
                    case rel =>
                      refine ⟨la0 + (tos.length : Int), l2 ++ Gm.sent la0 sa ss tos, cs, rfl, ?_, ?_⟩
                      · have := HBD.out
                        exact ⟨by omega, by omega, by omega⟩
                      · exact HO4.out
              · have e1 : Gm.sendN sa ss tos l2.length = 0 := by unfold Gm.sendN; rw [if_neg hc]
                have e2 : Gm.sendM sa ss tos la0 l2 = la0 := by unfold Gm.sendM; rw [if_neg hc]
                have e3 : Gm.sendL sa ss tos la0 l2 = l2 := by unfold Gm.sendL; rw [if_neg hc]
                rw [e2, e3] at HX
                have HO4 := Lib.hid (HX.out.1.mono (Nat.le_succ k))
                have hcc : ((Gm.sendC sa ss tos l2.length : Int) == 0) = false := by simpa using hc
                rw [e1]
                clear hc e1 e2 e3 HX
                generalize Gm.sendC sa ss tos l2.length = cc at hcc ⊢
                go_wp2_with fail
                go_meet
                case rel => exact ⟨la0, l2, cs, rfl, by have := HN.out; exact ⟨this.1, by omega, by omega⟩, HO4.out⟩
          by_cases a1 : act = 1
          · as_aux_lemma =>
            subst a1
            clear a0
            have s3 : W.cell? ⟨S, 3, none⟩ = some (.int .u64 sn) := cell_of_row _ _ 3 _ _ _ HRO.out.1
            have hcall := glw_take HO2.out.net sn HOK.out.1.n.1 HOK.out.1.n.2
            cases hf : Gm.findM sn l2 with
            | none =>
              have e1 : Gm.takeE sn cs l2 = .returned (.tuple #[.agg #[.int .u64 0, .int .i64 0, .int .i64 0, .string ⟨#[]⟩], .int .i64 5]) := by unfold Gm.takeE; rw [hf]; rfl
              have e2 : Gm.takeL sn cs l2 = l2 := by unfold Gm.takeL; rw [hf]
              rw [e1, e2] at hcall
              have HC := Lib.hid hcall
              clear hcall e1 e2
              go_wp2_with fail
              refine HC.out.mono ?_
              rintro e w2 ⟨rfl, h2, mv2⟩
              have hrow2 := (mv2.block S (Gm.ltHeap HRO.out.1) HRO.out.2.1).trans HRO.out.1
              have hO3 := HO2.out.stepP h2 mv2
              have hb2 : Below w2.heap.size w2 (w2.alloc (.cells #[.int .u64 0, .int .i64 0, .int .i64 0, .string ⟨#[]⟩] 41)) := (Below.refl _ _).alloc (Nat.le_refl _) _
              have hb3 : Below w2.heap.size w2 ((w2.alloc (.cells #[.int .u64 0, .int .i64 0, .int .i64 0, .string ⟨#[]⟩] 41)).alloc (.cells #[.int .u64 0, .int .i64 0, .int .i64 0, .string ⟨#[]⟩] 41)) := hb2.alloc hb2.size _
              have hz2 : (w2.alloc (.cells #[.int .u64 0, .int .i64 0, .int .i64 0, .string ⟨#[]⟩] 41)).heap.size = w2.heap.size + 1 := by simp
              have t3 : (w2.alloc (.cells #[.int .u64 0, .int .i64 0, .int .i64 0, .string ⟨#[]⟩] 41)).cell? ⟨S, 3, none⟩ = some (.int .u64 sn) := cell_of_row _ _ 3 _ _ _ ((hb2.block S (Gm.ltHeap hrow2)).trans hrow2)
              have u3 : ((w2.alloc (.cells #[.int .u64 0, .int .i64 0, .int .i64 0, .string ⟨#[]⟩] 41)).alloc (.cells #[.int .u64 0, .int .i64 0, .int .i64 0, .string ⟨#[]⟩] 41)).cell? ⟨S, 3, none⟩ = some (.int .u64 sn) := cell_of_row _ _ 3 _ _ _ ((hb3.block S (Gm.ltHeap hrow2)).trans hrow2)
              have rx2 : (w2.alloc (.cells #[.int .u64 0, .int .i64 0, .int .i64 0, .string ⟨#[]⟩] 41)).heap[w2.heap.size]? = some (.cells #[.int .u64 0, .int .i64 0, .int .i64 0, .string ⟨#[]⟩] 41 (0, 0)) := heap_alloc_new w2 _
              have rx : ((w2.alloc (.cells #[.int .u64 0, .int .i64 0, .int .i64 0, .string ⟨#[]⟩] 41)).alloc (.cells #[.int .u64 0, .int .i64 0, .int .i64 0, .string ⟨#[]⟩] 41)).heap[w2.heap.size]? = some (.cells #[.int .u64 0, .int .i64 0, .int .i64 0, .string ⟨#[]⟩] 41 (0, 0)) := by rw [Below.heap_alloc _ _ _ (by rw [hz2]; omega)]; exact rx2
              have ro : ((w2.alloc (.cells #[.int .u64 0, .int .i64 0, .int .i64 0, .string ⟨#[]⟩] 41)).alloc (.cells #[.int .u64 0, .int .i64 0, .int .i64 0, .string ⟨#[]⟩] 41)).heap[w2.heap.size + 1]? = some (.cells #[.int .u64 0, .int .i64 0, .int .i64 0, .string ⟨#[]⟩] 41 (0, 0)) := by rw [← hz2]; exact heap_alloc_new _ _
              have x0 : ((w2.alloc (.cells #[.int .u64 0, .int .i64 0, .int .i64 0, .string ⟨#[]⟩] 41)).alloc (.cells #[.int .u64 0, .int .i64 0, .int .i64 0, .string ⟨#[]⟩] 41)).cell? ⟨w2.heap.size, 0, none⟩ = some (.int .u64 0) := cell_of_row _ _ 0 _ _ _ rx
              have x1 : ((w2.alloc (.cells #[.int .u64 0, .int .i64 0, .int .i64 0, .string ⟨#[]⟩] 41)).alloc (.cells #[.int .u64 0, .int .i64 0, .int .i64 0, .string ⟨#[]⟩] 41)).cell? ⟨w2.heap.size, 1, none⟩ = some (.int .i64 0) := cell_of_row _ _ 1 _ _ _ rx
              have x2 : ((w2.alloc (.cells #[.int .u64 0, .int .i64 0, .int .i64 0, .string ⟨#[]⟩] 41)).alloc (.cells #[.int .u64 0, .int .i64 0, .int .i64 0, .string ⟨#[]⟩] 41)).cell? ⟨w2.heap.size, 2, none⟩ = some (.int .i64 0) := cell_of_row _ _ 2 _ _ _ rx
              have x3 : ((w2.alloc (.cells #[.int .u64 0, .int .i64 0, .int .i64 0, .string ⟨#[]⟩] 41)).alloc (.cells #[.int .u64 0, .int .i64 0, .int .i64 0, .string ⟨#[]⟩] 41)).cell? ⟨w2.heap.size, 3, none⟩ = some (.string ⟨#[]⟩) := cell_of_row _ _ 3 _ _ _ rx
              have o0 : ((w2.alloc (.cells #[.int .u64 0, .int .i64 0, .int .i64 0, .string ⟨#[]⟩] 41)).alloc (.cells #[.int .u64 0, .int .i64 0, .int .i64 0, .string ⟨#[]⟩] 41)).cell? ⟨w2.heap.size + 1, 0, none⟩ = some (.int .u64 0) := cell_of_row _ _ 0 _ _ _ ro
              have o1 : ((w2.alloc (.cells #[.int .u64 0, .int .i64 0, .int .i64 0, .string ⟨#[]⟩] 41)).alloc (.cells #[.int .u64 0, .int .i64 0, .int .i64 0, .string ⟨#[]⟩] 41)).cell? ⟨w2.heap.size + 1, 1, none⟩ = some (.int .i64 0) := cell_of_row _ _ 1 _ _ _ ro
              have o2 : ((w2.alloc (.cells #[.int .u64 0, .int .i64 0, .int .i64 0, .string ⟨#[]⟩] 41)).alloc (.cells #[.int .u64 0, .int .i64 0, .int .i64 0, .string ⟨#[]⟩] 41)).cell? ⟨w2.heap.size + 1, 2, none⟩ = some (.int .i64 0) := cell_of_row _ _ 2 _ _ _ ro
              have o3 : ((w2.alloc (.cells #[.int .u64 0, .int .i64 0, .int .i64 0, .string ⟨#[]⟩] 41)).alloc (.cells #[.int .u64 0, .int .i64 0, .int .i64 0, .string ⟨#[]⟩] 41)).cell? ⟨w2.heap.size + 1, 3, none⟩ = some (.string ⟨#[]⟩) := cell_of_row _ _ 3 _ _ _ ro
              have hlk := (hO3.below hb2).lookS sn HOK.out.1.n.1 HOK.out.1.n.2
              rw [hf] at hlk
              have HLK : Hid ((Instr.lookup 53 (.map (some M)) (.int .u64 sn) true).run Try.prog (w2.alloc (.cells #[.int .u64 0, .int .i64 0, .int .i64 0, .string ⟨#[]⟩] 41)) = .ok (.tuple #[.agg #[.int .u64 0, .int .i64 0, .int .i64 0, .string ⟨#[]⟩], .bool false]) (w2.alloc (.cells #[.int .u64 0, .int .i64 0, .int .i64 0, .string ⟨#[]⟩] 41))) := hlk
              have HO4 := Lib.hid (hO3.below hb3)
              clear hf hlk hO3 hb2 hb3 hz2 rx rx2 ro hrow2 h2 mv2 HC s3
              go_wp2_with (at_lookup; refine Gm.gpl_look _ rfl _ _ _ _ rfl _ _ _ rfl rfl HLK.out ?_)
              go_meet
              case rel => exact ⟨la0, l2, cs, rfl, by have := HN.out; exact ⟨this.1, by omega, by omega⟩, HO4.out.mono (Nat.le_succ k)⟩
            | some x =>
              obtain ⟨hx, hxi⟩ := (Gm.findM_iff HO2.out.net.g.1).1 hf
              have hgx := HO2.out.net.g.2.2 x hx
              obtain ⟨xi, xf, xt, xs⟩ := x
              have hwf := And.intro (Gm.plc_wf hgx.1) (Gm.plc_wf hgx.2.1)
              simp only at hwf
              cases hic : Gm.isCut xf xt cs with
              | true =>
                have e1 : Gm.takeE sn cs l2 = .returned (.tuple #[.agg #[.int .u64 0, .int .i64 0, .int .i64 0, .string ⟨#[]⟩], .int .i64 90]) := by unfold Gm.takeE; rw [hf]; simp only [hic]; rfl
                have e2 : Gm.takeL sn cs l2 = l2 := by unfold Gm.takeL; rw [hf]; simp only [hic]; rfl
                rw [e1, e2] at hcall
                have HC := Lib.hid hcall
                clear hcall e1 e2 hx hxi hgx hwf
                go_wp2_with fail
                refine HC.out.mono ?_
                rintro e w2 ⟨rfl, h2, mv2⟩
                have hrow2 := (mv2.block S (Gm.ltHeap HRO.out.1) HRO.out.2.1).trans HRO.out.1
                have hO3 := HO2.out.stepP h2 mv2
                have hb2 : Below w2.heap.size w2 (w2.alloc (.cells #[.int .u64 0, .int .i64 0, .int .i64 0, .string ⟨#[]⟩] 41)) := (Below.refl _ _).alloc (Nat.le_refl _) _
                have hb3 : Below w2.heap.size w2 ((w2.alloc (.cells #[.int .u64 0, .int .i64 0, .int .i64 0, .string ⟨#[]⟩] 41)).alloc (.cells #[.int .u64 xi, .int .i64 xf, .int .i64 xt, .string xs] 41)) := hb2.alloc hb2.size _
                have hz2 : (w2.alloc (.cells #[.int .u64 0, .int .i64 0, .int .i64 0, .string ⟨#[]⟩] 41)).heap.size = w2.heap.size + 1 := by simp
                have t3 : (w2.alloc (.cells #[.int .u64 0, .int .i64 0, .int .i64 0, .string ⟨#[]⟩] 41)).cell? ⟨S, 3, none⟩ = some (.int .u64 sn) := cell_of_row _ _ 3 _ _ _ ((hb2.block S (Gm.ltHeap hrow2)).trans hrow2)
                have u3 : ((w2.alloc (.cells #[.int .u64 0, .int .i64 0, .int .i64 0, .string ⟨#[]⟩] 41)).alloc (.cells #[.int .u64 xi, .int .i64 xf, .int .i64 xt, .string xs] 41)).cell? ⟨S, 3, none⟩ = some (.int .u64 sn) := cell_of_row _ _ 3 _ _ _ ((hb3.block S (Gm.ltHeap hrow2)).trans hrow2)
                have rx2 : (w2.alloc (.cells #[.int .u64 0, .int .i64 0, .int .i64 0, .string ⟨#[]⟩] 41)).heap[w2.heap.size]? = some (.cells #[.int .u64 0, .int .i64 0, .int .i64 0, .string ⟨#[]⟩] 41 (0, 0)) := heap_alloc_new w2 _
                have rx : ((w2.alloc (.cells #[.int .u64 0, .int .i64 0, .int .i64 0, .string ⟨#[]⟩] 41)).alloc (.cells #[.int .u64 xi, .int .i64 xf, .int .i64 xt, .string xs] 41)).heap[w2.heap.size]? = some (.cells #[.int .u64 0, .int .i64 0, .int .i64 0, .string ⟨#[]⟩] 41 (0, 0)) := by rw [Below.heap_alloc _ _ _ (by rw [hz2]; omega)]; exact rx2
                have ro : ((w2.alloc (.cells #[.int .u64 0, .int .i64 0, .int .i64 0, .string ⟨#[]⟩] 41)).alloc (.cells #[.int .u64 xi, .int .i64 xf, .int .i64 xt, .string xs] 41)).heap[w2.heap.size + 1]? = some (.cells #[.int .u64 xi, .int .i64 xf, .int .i64 xt, .string xs] 41 (0, 0)) := by rw [← hz2]; exact heap_alloc_new _ _
                have x0 : ((w2.alloc (.cells #[.int .u64 0, .int .i64 0, .int .i64 0, .string ⟨#[]⟩] 41)).alloc (.cells #[.int .u64 xi, .int .i64 xf, .int .i64 xt, .string xs] 41)).cell? ⟨w2.heap.size, 0, none⟩ = some (.int .u64 0) := cell_of_row _ _ 0 _ _ _ rx
                have x1 : ((w2.alloc (.cells #[.int .u64 0, .int .i64 0, .int .i64 0, .string ⟨#[]⟩] 41)).alloc (.cells #[.int .u64 xi, .int .i64 xf, .int .i64 xt, .string xs] 41)).cell? ⟨w2.heap.size, 1, none⟩ = some (.int .i64 0) := cell_of_row _ _ 1 _ _ _ rx
                have x2 : ((w2.alloc (.cells #[.int .u64 0, .int .i64 0, .int .i64 0, .string ⟨#[]⟩] 41)).alloc (.cells #[.int .u64 xi, .int .i64 xf, .int .i64 xt, .string xs] 41)).cell? ⟨w2.heap.size, 2, none⟩ = some (.int .i64 0) := cell_of_row _ _ 2 _ _ _ rx
                have x3 : ((w2.alloc (.cells #[.int .u64 0, .int .i64 0, .int .i64 0, .string ⟨#[]⟩] 41)).alloc (.cells #[.int .u64 xi, .int .i64 xf, .int .i64 xt, .string xs] 41)).cell? ⟨w2.heap.size, 3, none⟩ = some (.string ⟨#[]⟩) := cell_of_row _ _ 3 _ _ _ rx
                have o0 : ((w2.alloc (.cells #[.int .u64 0, .int .i64 0, .int .i64 0, .string ⟨#[]⟩] 41)).alloc (.cells #[.int .u64 xi, .int .i64 xf, .int .i64 xt, .string xs] 41)).cell? ⟨w2.heap.size + 1, 0, none⟩ = some (.int .u64 xi) := cell_of_row _ _ 0 _ _ _ ro
                have o1 : ((w2.alloc (.cells #[.int .u64 0, .int .i64 0, .int .i64 0, .string ⟨#[]⟩] 41)).alloc (.cells #[.int .u64 xi, .int .i64 xf, .int .i64 xt, .string xs] 41)).cell? ⟨w2.heap.size + 1, 1, none⟩ = some (.int .i64 xf) := cell_of_row _ _ 1 _ _ _ ro
                have o2 : ((w2.alloc (.cells #[.int .u64 0, .int .i64 0, .int .i64 0, .string ⟨#[]⟩] 41)).alloc (.cells #[.int .u64 xi, .int .i64 xf, .int .i64 xt, .string xs] 41)).cell? ⟨w2.heap.size + 1, 2, none⟩ = some (.int .i64 xt) := cell_of_row _ _ 2 _ _ _ ro
                have o3 : ((w2.alloc (.cells #[.int .u64 0, .int .i64 0, .int .i64 0, .string ⟨#[]⟩] 41)).alloc (.cells #[.int .u64 xi, .int .i64 xf, .int .i64 xt, .string xs] 41)).cell? ⟨w2.heap.size + 1, 3, none⟩ = some (.string xs) := cell_of_row _ _ 3 _ _ _ ro
                have hlk := (hO3.below hb2).lookS sn HOK.out.1.n.1 HOK.out.1.n.2
                rw [hf] at hlk
                have HLK : Hid ((Instr.lookup 53 (.map (some M)) (.int .u64 sn) true).run Try.prog (w2.alloc (.cells #[.int .u64 0, .int .i64 0, .int .i64 0, .string ⟨#[]⟩] 41)) = .ok (.tuple #[.agg #[.int .u64 xi, .int .i64 xf, .int .i64 xt, .string xs], .bool true]) (w2.alloc (.cells #[.int .u64 0, .int .i64 0, .int .i64 0, .string ⟨#[]⟩] 41))) := hlk
                have HO4 := Lib.hid (hO3.below hb3)
                clear hf hlk hO3 hb2 hb3 hz2 rx rx2 ro hrow2 h2 mv2 HC s3
                go_wp2_with (at_lookup; refine Gm.gpl_look _ rfl _ _ _ _ rfl _ _ _ rfl rfl HLK.out ?_)
                go_meet
                case rel => exact ⟨la0, l2, cs, rfl, by have := HN.out; exact ⟨this.1, by omega, by omega⟩, HO4.out.mono (Nat.le_succ k)⟩
              | false =>
                have e1 : Gm.takeE sn cs l2 = .returned (.tuple #[.agg #[.int .u64 xi, .int .i64 xf, .int .i64 xt, .string xs], .int .i64 0]) := by unfold Gm.takeE; rw [hf]; simp only [hic]; rfl
                have e2 : Gm.takeL sn cs l2 = Gm.dropM sn l2 := by unfold Gm.takeL; rw [hf]; simp only [hic]; rfl
                rw [e1, e2] at hcall
                have HC := Lib.hid hcall
                have HWF := Lib.hid hwf
                clear hcall e1 e2 hx hxi hgx hwf
                go_wp2_with fail
                refine HC.out.mono ?_
                rintro e w2 ⟨rfl, h2, mv2⟩
                have hrow2 := (mv2.block S (Gm.ltHeap HRO.out.1) HRO.out.2.1).trans HRO.out.1
                have hO3 := HO2.out.stepP h2 mv2
                have hb2 : Below w2.heap.size w2 (w2.alloc (.cells #[.int .u64 xi, .int .i64 xf, .int .i64 xt, .string xs] 41)) := (Below.refl _ _).alloc (Nat.le_refl _) _
                have hb3 : Below w2.heap.size w2 ((w2.alloc (.cells #[.int .u64 xi, .int .i64 xf, .int .i64 xt, .string xs] 41)).alloc (.cells #[.int .u64 xi, .int .i64 xf, .int .i64 xt, .string xs] 41)) := hb2.alloc hb2.size _
                have hz2 : (w2.alloc (.cells #[.int .u64 xi, .int .i64 xf, .int .i64 xt, .string xs] 41)).heap.size = w2.heap.size + 1 := by simp
                have t3 : (w2.alloc (.cells #[.int .u64 xi, .int .i64 xf, .int .i64 xt, .string xs] 41)).cell? ⟨S, 3, none⟩ = some (.int .u64 sn) := cell_of_row _ _ 3 _ _ _ ((hb2.block S (Gm.ltHeap hrow2)).trans hrow2)
                have u3 : ((w2.alloc (.cells #[.int .u64 xi, .int .i64 xf, .int .i64 xt, .string xs] 41)).alloc (.cells #[.int .u64 xi, .int .i64 xf, .int .i64 xt, .string xs] 41)).cell? ⟨S, 3, none⟩ = some (.int .u64 sn) := cell_of_row _ _ 3 _ _ _ ((hb3.block S (Gm.ltHeap hrow2)).trans hrow2)
                have rx2 : (w2.alloc (.cells #[.int .u64 xi, .int .i64 xf, .int .i64 xt, .string xs] 41)).heap[w2.heap.size]? = some (.cells #[.int .u64 xi, .int .i64 xf, .int .i64 xt, .string xs] 41 (0, 0)) := heap_alloc_new w2 _
                have rx : ((w2.alloc (.cells #[.int .u64 xi, .int .i64 xf, .int .i64 xt, .string xs] 41)).alloc (.cells #[.int .u64 xi, .int .i64 xf, .int .i64 xt, .string xs] 41)).heap[w2.heap.size]? = some (.cells #[.int .u64 xi, .int .i64 xf, .int .i64 xt, .string xs] 41 (0, 0)) := by rw [Below.heap_alloc _ _ _ (by rw [hz2]; omega)]; exact rx2
                have ro : ((w2.alloc (.cells #[.int .u64 xi, .int .i64 xf, .int .i64 xt, .string xs] 41)).alloc (.cells #[.int .u64 xi, .int .i64 xf, .int .i64 xt, .string xs] 41)).heap[w2.heap.size + 1]? = some (.cells #[.int .u64 xi, .int .i64 xf, .int .i64 xt, .string xs] 41 (0, 0)) := by rw [← hz2]; exact heap_alloc_new _ _
                have x0 : ((w2.alloc (.cells #[.int .u64 xi, .int .i64 xf, .int .i64 xt, .string xs] 41)).alloc (.cells #[.int .u64 xi, .int .i64 xf, .int .i64 xt, .string xs] 41)).cell? ⟨w2.heap.size, 0, none⟩ = some (.int .u64 xi) := cell_of_row _ _ 0 _ _ _ rx
                have x1 : ((w2.alloc (.cells #[.int .u64 xi, .int .i64 xf, .int .i64 xt, .string xs] 41)).alloc (.cells #[.int .u64 xi, .int .i64 xf, .int .i64 xt, .string xs] 41)).cell? ⟨w2.heap.size, 1, none⟩ = some (.int .i64 xf) := cell_of_row _ _ 1 _ _ _ rx
                have x2 : ((w2.alloc (.cells #[.int .u64 xi, .int .i64 xf, .int .i64 xt, .string xs] 41)).alloc (.cells #[.int .u64 xi, .int .i64 xf, .int .i64 xt, .string xs] 41)).cell? ⟨w2.heap.size, 2, none⟩ = some (.int .i64 xt) := cell_of_row _ _ 2 _ _ _ rx
                have x3 : ((w2.alloc (.cells #[.int .u64 xi, .int .i64 xf, .int .i64 xt, .string xs] 41)).alloc (.cells #[.int .u64 xi, .int .i64 xf, .int .i64 xt, .string xs] 41)).cell? ⟨w2.heap.size, 3, none⟩ = some (.string xs) := cell_of_row _ _ 3 _ _ _ rx
                have o0 : ((w2.alloc (.cells #[.int .u64 xi, .int .i64 xf, .int .i64 xt, .string xs] 41)).alloc (.cells #[.int .u64 xi, .int .i64 xf, .int .i64 xt, .string xs] 41)).cell? ⟨w2.heap.size + 1, 0, none⟩ = some (.int .u64 xi) := cell_of_row _ _ 0 _ _ _ ro
                have o1 : ((w2.alloc (.cells #[.int .u64 xi, .int .i64 xf, .int .i64 xt, .string xs] 41)).alloc (.cells #[.int .u64 xi, .int .i64 xf, .int .i64 xt, .string xs] 41)).cell? ⟨w2.heap.size + 1, 1, none⟩ = some (.int .i64 xf) := cell_of_row _ _ 1 _ _ _ ro
                have o2 : ((w2.alloc (.cells #[.int .u64 xi, .int .i64 xf, .int .i64 xt, .string xs] 41)).alloc (.cells #[.int .u64 xi, .int .i64 xf, .int .i64 xt, .string xs] 41)).cell? ⟨w2.heap.size + 1, 2, none⟩ = some (.int .i64 xt) := cell_of_row _ _ 2 _ _ _ ro
                have o3 : ((w2.alloc (.cells #[.int .u64 xi, .int .i64 xf, .int .i64 xt, .string xs] 41)).alloc (.cells #[.int .u64 xi, .int .i64 xf, .int .i64 xt, .string xs] 41)).cell? ⟨w2.heap.size + 1, 3, none⟩ = some (.string xs) := cell_of_row _ _ 3 _ _ _ ro
                have hlk := (hO3.below hb2).lookS sn HOK.out.1.n.1 HOK.out.1.n.2
                rw [hf] at hlk
                have HLK : Hid ((Instr.lookup 53 (.map (some M)) (.int .u64 sn) true).run Try.prog (w2.alloc (.cells #[.int .u64 xi, .int .i64 xf, .int .i64 xt, .string xs] 41)) = .ok (.tuple #[.agg #[.int .u64 xi, .int .i64 xf, .int .i64 xt, .string xs], .bool true]) (w2.alloc (.cells #[.int .u64 xi, .int .i64 xf, .int .i64 xt, .string xs] 41))) := hlk
                have HO4 := Lib.hid (hO3.below hb3)
                clear hf hlk hO3 hb2 hb3 hz2 rx rx2 ro hrow2 h2 mv2 HC s3
                have hlk2 := HO4.out.lookK xf xt HWF.out.1 HWF.out.2
                rw [hic] at hlk2
                have hk2 : (Instr.lookup 54 (.map (some K)) (.agg #[.int .i64 xf, .int .i64 xt]) false).run Try.prog ((w2.alloc (.cells #[.int .u64 xi, .int .i64 xf, .int .i64 xt, .string xs] 41)).alloc (.cells #[.int .u64 xi, .int .i64 xf, .int .i64 xt, .string xs] 41)) = .ok (.int .i64 0) ((w2.alloc (.cells #[.int .u64 xi, .int .i64 xf, .int .i64 xt, .string xs] 41)).alloc (.cells #[.int .u64 xi, .int .i64 xf, .int .i64 xt, .string xs] 41)) := hlk2
                obtain ⟨w3, hr3, hO5, _⟩ := HO4.out.delS HO2.out.net.g.1 sn HOK.out.1.n.1 HOK.out.1.n.2 0
                have HO5 := Lib.hid (hO5.mono (Nat.le_succ k))
                have HR3 := Lib.hid hr3
                clear hlk2 hr3 hO5 hic HWF
                go_wp2_with (first | (at_lookup; refine Gm.gpl_look _ rfl _ _ _ _ rfl _ _ _ rfl rfl HLK.out ?_) | (at_delete; refine Gm.gpl_del _ rfl _ _ _ _ rfl _ _ rfl rfl w3 HR3.out ?_))
                go_meet
                case rel => exact ⟨la0, Gm.dropM sn l2, cs, rfl, by have := HN.out; exact ⟨this.1, by omega, by omega⟩, HO5.out⟩
          by_cases a2 : act = 2
          · as_aux_lemma =>
            subst a2
            clear a0 a1
            have s3 : W.cell? ⟨S, 3, none⟩ = some (.int .u64 sn) := cell_of_row _ _ 3 _ _ _ HRO.out.1
            obtain ⟨V, hV⟩ : ∃ V, V = W.alloc (.cells #[.int .u64 sn] 28) := ⟨_, rfl⟩
            have hbV : Below W.heap.size W V := by rw [hV]; exact (Below.refl _ _).alloc (Nat.le_refl _) _
            have hrowV := (hbV.block S (Gm.ltHeap HRO.out.1)).trans HRO.out.1
            have hOV := HO2.out.below hbV
            have hcall := glw_drop hOV.net [sn] (some ⟨W.heap.size, 0, none⟩) 1 (by rw [hV]; exact Gm.lies_oneU W sn _) (fun p hp => by obtain rfl := Option.some.inj hp; exact HO2.out.net.p.fresh (Nat.le_refl _)) (by simp) (fun x hx => by rw [List.mem_singleton.1 hx]; exact HOK.out.1.n)
            have HC : Hid (Calls Try.prog 12 #[.pointer (some ⟨R, 0, none⟩), .slice (some ⟨W.heap.size, 0, none⟩) 1 1] V fun e w' => e = .returned (.int .i64 (if Gm.hasM sn l2 = true then 1 else 0)) ∧ Gm.NetLw w0 R B C la0 (Gm.dropM sn l2) cs w' ∧ Gm.Mvg (Gm.POff R B C) (Gm.POff R B C) V w') := by
              refine hcall.mono ?_
              rintro e w' ⟨he, hn, hm⟩
              refine ⟨?_, hn, hm⟩
              rw [he, show Gm.dropAll [sn] l2 = Gm.dropM sn l2 from rfl, Gm.dropM_count HO2.out.net.g.1]
              by_cases hh : Gm.hasM sn l2 = true
              · have : 0 < l2.length := by
                  obtain ⟨x, hx, _⟩ := Gm.hasM_iff.1 hh
                  exact List.length_pos_of_mem hx
                rw [if_pos hh, if_pos hh]
                congr 2
                omega
              · rw [if_neg hh, if_neg hh]
                congr 2
                omega
            have HOV := Lib.hid (And.intro hOV hrowV)
            clear hbV hrowV hOV hcall
            go_wp2_with fail
            rw [← hV]
            clear hV
            refine HC.out.mono ?_
            rintro e w2 ⟨rfl, h2, mv2⟩
            have hrow2 := (mv2.block S (Gm.ltHeap HOV.out.2) HRO.out.2.1).trans HOV.out.2
            have t3 : w2.cell? ⟨S, 3, none⟩ = some (.int .u64 sn) := cell_of_row _ _ 3 _ _ _ hrow2
            have hO3 := HOV.out.1.stepP h2 mv2
            have hlk := hO3.lookS sn HOK.out.1.n.1 HOK.out.1.n.2
            rw [Gm.findM_has] at hlk
            obtain ⟨x0, hx0⟩ : ∃ x, x = (Gm.findM sn l2).getD Gm.noMsg := ⟨_, rfl⟩
            rw [← hx0] at hlk
            obtain ⟨xi, xf, xt, xs⟩ := x0
            have hb3 : Below w2.heap.size w2 (w2.alloc (.cells #[.int .u64 xi, .int .i64 xf, .int .i64 xt, .string xs] 41)) := (Below.refl _ _).alloc (Nat.le_refl _) _
            have u3 : (w2.alloc (.cells #[.int .u64 xi, .int .i64 xf, .int .i64 xt, .string xs] 41)).cell? ⟨S, 3, none⟩ = some (.int .u64 sn) := cell_of_row _ _ 3 _ _ _ ((hb3.block S (Gm.ltHeap hrow2)).trans hrow2)
            obtain ⟨w3, hr3, hO4, _⟩ := (hO3.below hb3).delS HO2.out.net.g.1 sn HOK.out.1.n.1 HOK.out.1.n.2 0
            have HO4 := Lib.hid (hO4.mono (Nat.le_succ k))
            have HR3 := Lib.hid hr3
            have HLK : Hid ((Instr.lookup 53 (.map (some M)) (.int .u64 sn) true).run Try.prog w2 = .ok (.tuple #[.agg #[.int .u64 xi, .int .i64 xf, .int .i64 xt, .string xs], .bool (Gm.hasM sn l2)]) w2) := hlk
            clear hr3 hO4 hO3 h2 mv2 hrow2 HC s3 HO2 HRO HOV hlk hx0 hb3
            generalize Gm.hasM sn l2 = hb at HLK ⊢
            cases hb
            · go_wp2_with (first | (at_lookup; refine Gm.gpl_look _ rfl _ _ _ _ rfl _ _ _ rfl rfl HLK.out ?_) | (at_delete; refine Gm.gpl_del _ rfl _ _ _ _ rfl _ _ rfl rfl w3 HR3.out ?_))
              go_meet
              case rel => exact ⟨la0, Gm.dropM sn l2, cs, rfl, by have := HN.out; exact ⟨this.1, by omega, by omega⟩, HO4.out⟩
            · go_wp2_with (first | (at_lookup; refine Gm.gpl_look _ rfl _ _ _ _ rfl _ _ _ rfl rfl HLK.out ?_) | (at_delete; refine Gm.gpl_del _ rfl _ _ _ _ rfl _ _ rfl rfl w3 HR3.out ?_))
              go_meet
              case rel => exact ⟨la0, Gm.dropM sn l2, cs, rfl, by have := HN.out; exact ⟨this.1, by omega, by omega⟩, HO4.out⟩
          by_cases a3 : act = 3
          · as_aux_lemma =>
            subst a3
            clear a0 a1 a2
            have s3 : W.cell? ⟨S, 3, none⟩ = some (.int .u64 sn) := cell_of_row _ _ 3 _ _ _ HRO.out.1
            have la9 : la0 ≤ 100000 := by have := HN.out; have := HOK.out.2.2; omega
            have la8 : 0 ≤ la0 := HN.out.1
            have hcall := glw_double HO2.out.net (by omega) sn HOK.out.1.n.1 HOK.out.1.n.2
            by_cases hc : Gm.dblC sn l2 = 0
            · have hh : Gm.hasM sn l2 = true := by
                unfold Gm.dblC at hc
                split at hc
                · omega
                · rename_i h1
                  simpa using h1
              obtain ⟨x, hf⟩ : ∃ x, Gm.findM sn l2 = some x := Option.isSome_iff_exists.1 (by rw [Gm.findM_has]; exact hh)
              obtain ⟨xi, xf, xt, xs⟩ := x
              have e1 : Gm.dblM sn la0 l2 = la0 + 1 := by unfold Gm.dblM; rw [if_pos hc]
              have e2 : Gm.dblL sn la0 l2 = l2 ++ [⟨la0 + 1, xf, xt, xs⟩] := by unfold Gm.dblL; rw [if_pos hc, hf]; rfl
              have e3 : Gm.dblN sn la0 l2 = la0 + 1 := by unfold Gm.dblN; rw [if_pos hc]
              rw [e1, e2, e3, hc] at hcall
              have HC := Lib.hid hcall
              have hwr : IntKind.u64.wrap (la0 + 1) = la0 + 1 := by rw [IntKind.wrap_u64]; omega
              have hfr : ∀ y ∈ l2, y.id ≠ (⟨la0 + 1, xf, xt, xs⟩ : Gm.Msg).id := fun y hy => by have := (HO2.out.net.g.2.1 y hy).2; show y.id ≠ la0 + 1; omega
              clear hcall e1 e2 e3 hc hh
              go_wp2_with fail
              refine HC.out.mono ?_
              rintro e w2 ⟨rfl, h2, mv2⟩
              have hrow2 := (mv2.block S (Gm.ltHeap HRO.out.1) HRO.out.2.1).trans HRO.out.1
              have t3 : w2.cell? ⟨S, 3, none⟩ = some (.int .u64 sn) := cell_of_row _ _ 3 _ _ _ hrow2
              have hO3 := HO2.out.stepP h2 mv2
              have hlk := hO3.lookS sn HOK.out.1.n.1 HOK.out.1.n.2
              rw [hf] at hlk
              have HLK : Hid ((Instr.lookup 53 (.map (some M)) (.int .u64 sn) true).run Try.prog w2 = .ok (.tuple #[.agg #[.int .u64 xi, .int .i64 xf, .int .i64 xt, .string xs], .bool true]) w2) := hlk
              have hb4 : Below w2.heap.size w2 (w2.alloc (.cells #[.int .u64 (la0 + 1), .int .i64 xf, .int .i64 xt, .string xs] 41)) := (Below.refl _ _).alloc (Nat.le_refl _) _
              obtain ⟨w5, hr5, hO5, _⟩ := (hO3.below hb4).putS (by have := HO2.out.net.len; omega) ⟨la0 + 1, xf, xt, xs⟩ (by show 0 ≤ la0 + 1; omega) (by show la0 + 1 < _; omega) hfr
              have HO5 := Lib.hid (hO5.mono (Nat.le_succ k))
              have HR5 : Hid ((Instr.mapUpdate 53 (.map (some M)) (.int .u64 (la0 + 1)) (.agg #[.int .u64 (la0 + 1), .int .i64 xf, .int .i64 xt, .string xs])).run Try.prog (w2.alloc (.cells #[.int .u64 (la0 + 1), .int .i64 xf, .int .i64 xt, .string xs] 41)) = .ok () w5) := hr5
              clear hf hlk hO3 hb4 hrow2 h2 mv2 HC s3 hr5 hO5 hfr
              go_wp2_with (first | (at_lookup; refine Gm.gpl_look _ rfl _ _ _ _ rfl _ _ _ rfl rfl HLK.out ?_) | (at_mapUpdate; refine Gm.gpl_upd _ rfl _ _ _ _ rfl _ _ _ rfl rfl rfl w5 HR5.out ?_))
              go_meet
              case rel =>
                refine ⟨la0 + 1, _, cs, rfl, ?_, HO5.out⟩
                have := HN.out
                exact ⟨by omega, by omega, by omega⟩
            · have e1 : Gm.dblM sn la0 l2 = la0 := by unfold Gm.dblM; rw [if_neg hc]
              have e2 : Gm.dblL sn la0 l2 = l2 := by unfold Gm.dblL; rw [if_neg hc]
              rw [e1, e2] at hcall
              have HC := Lib.hid hcall
              have hcc : ((Gm.dblC sn l2 : Int) == 0) = false := by simpa using hc
              clear hcall e1 e2 hc
              generalize Gm.dblC sn l2 = cc at hcc HC
              generalize Gm.dblN sn la0 l2 = nn at HC
              go_wp2_with fail
              refine HC.out.mono ?_
              rintro e w2 ⟨rfl, h2, mv2⟩
              have HO4 := Lib.hid ((HO2.out.stepP h2 mv2).mono (Nat.le_succ k))
              clear HC h2 mv2 s3
              go_wp2_with fail
              go_meet
              case rel => exact ⟨la0, l2, cs, rfl, by have := HN.out; exact ⟨this.1, by omega, by omega⟩, HO4.out⟩
          by_cases a4 : act = 4
          · as_aux_lemma =>
            subst a4
            clear a0 a1 a2 a3
            have s1 : W.cell? ⟨S, 1, none⟩ = some (.int .i64 sa) := cell_of_row _ _ 1 _ _ _ HRO.out.1
            have s2 : W.cell? ⟨S, 2, none⟩ = some (.int .i64 sb) := cell_of_row _ _ 2 _ _ _ HRO.out.1
            have HC := Lib.hid (glw_cut HO2.out.net (by have := HN.out; have := HOK.out.2.2; omega) sa sb)
            go_wp2_with fail
            refine HC.out.mono ?_
            rintro e w2 ⟨rfl, h2, mv2⟩
            have hrow2 := (mv2.block S (Gm.ltHeap HRO.out.1) HRO.out.2.1).trans HRO.out.1
            have t1 : w2.cell? ⟨S, 1, none⟩ = some (.int .i64 sa) := cell_of_row _ _ 1 _ _ _ hrow2
            have t2 : w2.cell? ⟨S, 2, none⟩ = some (.int .i64 sb) := cell_of_row _ _ 2 _ _ _ hrow2
            have hO3 := HO2.out.stepP h2 mv2
            by_cases hc : Gm.cutC sa sb = 0
            · obtain ⟨w3, hr3, hO4, _⟩ := hO3.putK (by have := HOK.out.2.2; omega) sa sb (Gm.cutC_wf hc).1 (Gm.cutC_wf hc).2 1 (Gm.cutL sa sb cs) (.inl ⟨rfl, Gm.cut_self hc⟩) (fun c d hne => Gm.cut_other hne)
              have HO4 := Lib.hid hO4
              have HR3 := Lib.hid hr3
              have hcc : (Gm.cutC sa sb : Int) = 0 := hc
              clear hc hr3 hO4 hO3 h2 mv2 hrow2 HC s1 s2 HO2 HRO
              generalize Gm.cutC sa sb = cc at hcc ⊢
              subst hcc
              go_wp2_with (at_mapUpdate; refine Gm.gpl_upd _ rfl _ _ _ _ rfl _ _ _ rfl rfl rfl w3 HR3.out ?_)
              go_meet
              case rel => exact ⟨la0, l2, Gm.cutL sa sb cs, rfl, by have := HN.out; have := Gm.cut_lenG sa sb cs; exact ⟨HN.out.1, by omega, by omega⟩, HO4.out⟩
            · have hcc : ((Gm.cutC sa sb : Int) == 0) = false := by simpa using hc
              have HO4 : Hid (Gm.OnceG w0 R B C M K la0 l2 cs l2 cs (k + 1) w2) := by
                have := hO3.mono (Nat.le_succ k)
                rw [(Gm.cut_no hc).1] at this
                exact this
              clear hc hO3 h2 mv2 hrow2 HC s1 s2 t1 t2 HO2 HRO
              generalize Gm.cutC sa sb = cc at hcc ⊢
              go_wp2_with fail
              go_meet
              case rel => exact ⟨la0, l2, cs, rfl, by have := HN.out; exact ⟨this.1, by omega, by omega⟩, HO4.out⟩
          by_cases a5 : act = 5
          · as_aux_lemma =>
            subst a5
            clear a0 a1 a2 a3 a4
            have s1 : W.cell? ⟨S, 1, none⟩ = some (.int .i64 sa) := cell_of_row _ _ 1 _ _ _ HRO.out.1
            have s2 : W.cell? ⟨S, 2, none⟩ = some (.int .i64 sb) := cell_of_row _ _ 2 _ _ _ HRO.out.1
            have HC := Lib.hid (glw_heal HO2.out.net sa sb)
            go_wp2_with fail
            refine HC.out.mono ?_
            rintro e w2 ⟨rfl, h2, mv2⟩
            have hrow2 := (mv2.block S (Gm.ltHeap HRO.out.1) HRO.out.2.1).trans HRO.out.1
            have t1 : w2.cell? ⟨S, 1, none⟩ = some (.int .i64 sa) := cell_of_row _ _ 1 _ _ _ hrow2
            have t2 : w2.cell? ⟨S, 2, none⟩ = some (.int .i64 sb) := cell_of_row _ _ 2 _ _ _ hrow2
            have hO3 := HO2.out.stepP h2 mv2
            by_cases hc : Gm.cutC sa sb = 0
            · obtain ⟨w3, hr3, hO4, _⟩ := hO3.putK (by have := HOK.out.2.2; omega) sa sb (Gm.cutC_wf hc).1 (Gm.cutC_wf hc).2 0 (Gm.healL sa sb cs) (.inr ⟨rfl, Gm.heal_self hc⟩) (fun c d hne => Gm.heal_other hne)
              have HO4 := Lib.hid hO4
              have HR3 := Lib.hid hr3
              have hcc : (Gm.cutC sa sb : Int) = 0 := hc
              clear hc hr3 hO4 hO3 h2 mv2 hrow2 HC s1 s2 HO2 HRO
              generalize Gm.cutC sa sb = cc at hcc ⊢
              subst hcc
              go_wp2_with (at_mapUpdate; refine Gm.gpl_upd _ rfl _ _ _ _ rfl _ _ _ rfl rfl rfl w3 HR3.out ?_)
              go_meet
              case rel => exact ⟨la0, l2, Gm.healL sa sb cs, rfl, by have := HN.out; have := Gm.heal_lenG sa sb cs; exact ⟨HN.out.1, by omega, by omega⟩, HO4.out⟩
            · have hcc : ((Gm.cutC sa sb : Int) == 0) = false := by simpa using hc
              have HO4 : Hid (Gm.OnceG w0 R B C M K la0 l2 cs l2 cs (k + 1) w2) := by
                have := hO3.mono (Nat.le_succ k)
                rw [(Gm.cut_no hc).2] at this
                exact this
              clear hc hO3 h2 mv2 hrow2 HC s1 s2 t1 t2 HO2 HRO
              generalize Gm.cutC sa sb = cc at hcc ⊢
              go_wp2_with fail
              go_meet
              case rel => exact ⟨la0, l2, cs, rfl, by have := HN.out; exact ⟨this.1, by omega, by omega⟩, HO4.out⟩
          · have e0 : (act == 0) = false := by simpa using a0
            have e1 : (act == 1) = false := by simpa using a1
            have e2 : (act == 2) = false := by simpa using a2
            have e3 : (act == 3) = false := by simpa using a3
            have e4 : (act == 4) = false := by simpa using a4
            have e5 : (act == 5) = false := by simpa using a5
            clear a0 a1 a2 a3 a4 a5
            go_wp2_with fail
            go_meet
            case rel => exact ⟨la0, l2, cs, rfl, by have := HN.out; exact ⟨this.1, by omega, by omega⟩, HO2.out.mono (by omega)⟩
        case rest =>
          obtain ⟨la, l3, cs3, rfl, HN3, HO3⟩ := hcut
          have HL := Lib.hid (glw_list HO3.out.net (by have := HN3.out; have := HOK.out.2.2; omega))
          clear s0
          go_wp2_with fail
          refine HL.out.mono ?_
          rintro e w5 ⟨v, rfl, hrow, hb⟩
          obtain ⟨A5, c5, rfl⟩ := Gm.own_form hrow
          have HO5 := Lib.hid (HO3.out.below hb)
          have HLN : Hid (∀ ty, (Builtin.len_ #[53] ty #[.map (some M)]).run Try.prog w5 = .ok (.int .i64 l3.length) w5) := fun ty => HO5.out.lenS ty
          clear HL HO3 hrow hb
          go_wp2_with (at_len; refine Gm.gpl_len _ rfl _ _ rfl _ _ rfl (HLN.out _) ?_)
          go_roundw
          case rel => exact ⟨k + 1, la, l3, cs3, by omega, rfl, by go_num, HN3.out, HO5.out⟩
          case measure => simp [intOf]; omega
      · have k1 : ¬ ((k : Int) < l.length) := by omega
        have HB9 := Lib.hid (HB0.out.trans (HO.out.net.bel.mono HB0.out.size))
        clear HO HN
        go_wp2_with fail
        refine (alive9_any _).mono ?_
        rintro e w9 ⟨rfl, hb⟩
        have HB10 := Lib.hid (HB9.out.trans (hb.mono HB9.out.size))
        clear hb
        go_wp2_with fail
        go_ret
        exact ⟨rfl, HB10.out⟩

/-! ### From the walk to the statement -/
theorem own : ownKnob Try.prog.godebug = none := by kernel_rfl

set_option maxRecDepth 20000 in
theorem contract (H : Type) (enc : TypeId × Value → H) (W : World) (base : Nat) (args : Array Value) (ds gs : List (DataW H)) (before : List MemPlace)
    (hval : ∀ (j : Nat) t v, Try.f4.params[j]? = some t → args[j]? = some v → Value.okWide Try.prog W .any base t v)
    (hW : DataW.Whole enc Try.prog Try.f4.params.toList Rows.gramOnceSpec.vars false W args.toList ds gs before) :
    Calls Try.prog 4 args W fun e W' => ∃ v, e = .returned v ∧ Rows.gramOnceSpec.post enc Try.prog Try.f4 false true false false W args v W' := by
  have hW' := hW
  obtain ⟨p, q, hA0, hV, rfl, hfz, hnd⟩ := hW
  have hA : DataW.TrodAll enc Try.prog W 0 (fun _ => true) true Try.f4.params.toList args.toList ds p := hA0
  rw [Try.params4] at hA hval
  obtain ⟨v0, vs0, d0, ds0, p0, q0, hargs, rfl, rfl, h0, r0⟩ := trodAll_cons hA
  obtain ⟨rfl, rfl, rfl⟩ := trodAll_nil r0
  obtain rfl : args = #[v0] := by cases args; simp_all
  obtain ⟨rfl, rfl⟩ := trodVars_none hV
  have k0 := h0
  obtain ⟨fuel0, hf0⟩ := h0
  obtain ⟨xs0, A0, c0, hcs0, hn0, hl0, hb0⟩ := trod_stepsg hf0
  obtain rfl := slice_of Try.underlying22 (hval 0 22 v0 rfl rfl) hcs0
  clear hA0
  simp only [List.append_nil] at hW'
  refine (walk W xs0 A0 c0 hl0 hn0 hb0).mono fun e W' ⟨he, bel⟩ => ?_
  subst he
  exact ⟨_, rfl, _, _, _, [], _, [], hW', trodAll_mk1 (shut_bool Try.underlying4 _), (trodAll_cons_mk (Below.trod laidOut (by kernel_rfl) (of_decide_eq_true (by kernel_rfl)) k0 bel (fun x hx => DataW.trod_lt _ _ _ _ hf0 x hx)) trodAll_mk0), rfl, bel.frame _, fun h => by cases h⟩

set_option maxRecDepth 100000 in
theorem lifted (os : Os) (started : os.Started) (H : Type) (enc : TypeId × Value → H) :
    ReturnsInHanded {} Try.checked os 4 .any (Rows.gramOnceSpec.pre6 enc Try.prog Try.f4 Rows.gramOnceRow.domain false) (Rows.gramOnceSpec.post enc Try.prog Try.f4 false true false false) := by
  refine returnsInHanded_of_change (C := Try.checked) own started (by kernel_rfl) Try.func4
    (ChangeSpec.witness6 (enc := enc) (C := Try.checked) false ⟨#[], #[.slice none 0 0], []⟩ 8 (by kernel_rfl) (by kernel_rfl) (by kernel_rfl) (by kernel_rfl)) ?_
  intro W base args ds gs before hval hW _ _
  exact contract H enc W base args ds gs before hval hW

theorem over : Rows.gramOnceRow.holds Try.pinned (OpenSpec.ofChange Rows.gramOnceSpec) :=
  OpenClaim.holds_of_wide 4 Try.f4 rfl rfl rfl rfl rfl rfl rfl ⟨rfl, rfl, rfl, rfl, rfl⟩ rfl rfl rfl rfl rfl (by kernel_rfl) Try.func4 (by kernel_rfl)
    (of_decide_eq_true (by kernel_rfl)) (by unfold Func.isWrapper; first | (rw [if_pos (by decide +kernel)]; kernel_rfl) | (rw [if_neg (by decide +kernel)]; exact ⟨rfl, rfl⟩))
    (fun os started H enc _ => lifted os started H enc)

/-- The statement. -/
theorem proved : Rows.GramOnceSaid :=
  over

end Go.Proofs.Ytfciifoonplbjaa.gramOnce
