/-
  What each call answers, what is on its way, and what may be taken, behind any calls (GramPlays).
-/
import Derived.Test.YtfhengihdlojmaaRows
import Derived.Laws.Cover1
import Derived.Test.YtfhengihdlojmaaGmJ
import Derived.Test.YtfhengihdlojmaaL09A
import Derived.Deep.DeepCutAuto
import Derived.Deep.CutBlock
import Derived.Deep.RegionHeld3
import Derived.BigQuiet
import Derived.ProofKit
import Derived.OpenShut
import Derived.ShutString
namespace Go.Proofs.Ytfhengihdlojmaa.gramPlays
open Go.ChangeShapes Go.WideShapes Go.ChangeAt Go.RowKit
open Go.ChangeMaps (open_string shut_string)

set_option maxHeartbeats 16000000 in
set_option maxRecDepth 20000 in
theorem walk (w : World) (l : List StepG) (A : Option Addr) (c : Nat) (la : LiesG w w.heap.size A l) (nl : l.length ≤ maxLen) (ok : ∀ a ∈ l, a.Ok w) :
    Calls Try.prog 3 #[.slice A l.length c] w fun e w' => e = .returned (.bool true) ∧ Below w.heap.size w w' := by
  have LA := Lib.hid la
  have OK := Lib.hid ok
  have HHV := Lib.hid (heavyg l A c w la nl)
  clear la ok
  go_enter Try.func3, Try.ntmps3
  go_wp2_with fail
  refine HHV.out.mono ?_
  rintro e w0 ⟨b, rfl, hsm, hb0⟩
  have HB0 := Lib.hid hb0
  clear hb0 HHV
  cases b with
  | true =>
    clear hsm
    go_wp2_with fail
    refine (alive9_any _).mono ?_
    rintro e w2 ⟨rfl, hb2⟩
    have HB2 := Lib.hid (HB0.out.trans (hb2.mono HB0.out.size))
    clear hb2
    go_wp2_with fail
    go_ret
    exact ⟨rfl, HB2.out⟩
  | false =>
    have HSM := Lib.hid (hsm rfl)
    clear hsm nl
    go_wp2_with fail
    refine (glw_new w0).mono ?_
    rintro e w1 ⟨R, B, C, rfl, h1⟩
    obtain ⟨W, hW⟩ : ∃ W, W = w1.alloc (.cells #[.int .u64 0, .slice none 0 0, .slice none 0 0] 32) := ⟨_, rfl⟩
    have hbW : Below w1.heap.size w1 W := by rw [hW]; exact (Below.refl _ _).alloc (Nat.le_refl _) _
    have hrow : W.heap[w1.heap.size]? = some (.cells #[.int .u64 0, .slice none 0 0, .slice none 0 0] 32 (0, 0)) := by rw [hW]; exact heap_alloc_new w1 _
    have HST : Hid (Gm.PairG w0 R B C w1.heap.size 0 [] [] W) := by
      have lR := Gm.ltHeap h1.p.obj
      have lB := h1.p.on.lt
      obtain ⟨n, _, h3⟩ := h1.p.cut
      have lC := h3.lt
      have hs := h1.bel.size
      refine ⟨h1.below hbW, .slice none 0 0, .slice none 0 0, ⟨hrow, World.ownsRow_nil _ _ _ _, World.ownsRow_nil _ _ _ _, by simp [Value.ownBlock], by simp [Value.ownBlock], fun g hg => by simp [Value.ownBlock] at hg⟩, fun i hi => ⟨?_, by simp [Value.ownBlock], by simp [Value.ownBlock]⟩⟩
      omega
    clear h1 hbW hrow
    go_wp2_with fail
    rw [← hW]
    clear hW
    generalize w1.heap.size = D at HST ⊢
    go_loopg [5] l.length (fun g i wr => ∃ (k : Nat) (la : Int) (l2 : List Gm.Msg) (cs : List Gm.Wy), k ≤ l.length ∧ g = l.length - k ∧ i = .int .i64 k ∧ Hid (0 ≤ la ∧ la ≤ 41 * k ∧ cs.length ≤ k) ∧ Hid (Gm.PairG w0 R B C D la l2 cs wr))
    case atStart => exact ⟨0, 0, [], [], Nat.zero_le _, rfl, rfl, ⟨by omega, by omega, by simp⟩, HST.out⟩
    case round =>
      clear HST
      obtain ⟨k, la0, l2, cs, hk, rfl, rfl, HN, HO⟩ := hrel
      by_cases hlt : k < l.length
      · obtain ⟨ad, rfl, hadb, hc⟩ := (LA.out.below (HB0.out.trans (HO.out.net.bel.mono HB0.out.size))) (by omega)
        obtain ⟨q0, q1, q2, q3, q4, q5, q6⟩ := stg_at hlt (ad.add (k * 7)) (hc k hlt)
        have hok := OK.out l[k] (List.getElem_mem hlt)
        have h40 := (HSM.out.2 l[k] (List.getElem_mem hlt))
        have hk150 : k < 150 := by have := HSM.out.1; omega
        generalize l[k] = a at q0 q1 q2 q3 q4 q5 q6 hok h40
        obtain ⟨act, sa, sb, sn, sm, ss, tos, TA, tc⟩ := a
        simp only [] at q0 q1 q2 q3 q4 q5 q6 h40
        have HOK := Lib.hid (And.intro hok (And.intro h40 hk150))
        have HTA : Hid (Lies w0 w0.heap.size TA (icells tos)) := (hok.ltos.below HB0.out).mono HB0.out.size
        have k0 : (0 : Int) ≤ (k : Int) := by omega
        have k1 : (k : Int) < l.length := by omega
        have k9 : (k : Int) < 150 := by omega
        clear hc hok h40 hk150
        go_upto_region 12 with fail
        obtain ⟨W, hW⟩ : ∃ W, W = wr.alloc (.cells #[.int .i64 act, .int .i64 sa, .int .i64 sb, .int .u64 sn, .int .u64 sm, .string ss, .slice TA tos.length tc] 35) := ⟨_, rfl⟩
        have hbW : Below wr.heap.size wr W := by rw [hW]; exact (Below.refl _ _).alloc (Nat.le_refl _) _
        have hrow : W.heap[wr.heap.size]? = some (.cells #[.int .i64 act, .int .i64 sa, .int .i64 sb, .int .u64 sn, .int .u64 sm, .string ss, .slice TA tos.length tc] 35 (0, 0)) := by rw [hW]; exact heap_alloc_new wr _
        have HO2 := Lib.hid (HO.out.add hbW (Nat.le_refl _) hrow)
        have HBW := Lib.hid (HO2.out.net.bel)
        have s0 : W.cell? ⟨wr.heap.size, 0, none⟩ = some (.int .i64 act) := cell_of_row _ _ 0 _ _ _ hrow
        have HBN : Hid (0 ≤ la0 ∧ la0 ≤ 100000 ∧ cs.length ≤ 1000) := by have := HN.out; exact ⟨this.1, by omega, by omega⟩
        rw [← hW]
        clear hW hbW hrow HO q0 q1 q2 q3 q4 q5 q6 hadb
        generalize wr.heap.size = S at *
        go_upto_block 2 with fail
        go_cut [7] (fun s7 wx => s7 = .bool true ∧ ∃ (la : Int) (l3 : List Gm.Msg) (cs3 : List Gm.Wy), Hid (0 ≤ la ∧ la ≤ 41 * ((k + 1 : Nat) : Int) ∧ cs3.length ≤ k + 1) ∧ Hid (Gm.PairG w0 R B C D la l3 cs3 wx))
        case first =>
          by_cases a0 : act = 0
          · as_aux_lemma =>
            subst a0
            have s1 : W.cell? ⟨S, 1, none⟩ = some (.int .i64 sa) := cell_of_row _ _ 1 _ _ _ HO2.out.row
            have s5 : W.cell? ⟨S, 5, none⟩ = some (.string ss) := cell_of_row _ _ 5 _ _ _ HO2.out.row
            have s6 : W.cell? ⟨S, 6, none⟩ = some (.slice TA tos.length tc) := cell_of_row _ _ 6 _ _ _ HO2.out.row
            have HLT : Hid (Lies W W.heap.size TA (icells tos)) := Gm.lies_from HO2.out.net HTA.out
            have h40 := HOK.out.2.1
            have HSEND : Hid (∀ V A' c', Lies V V.heap.size A' (icells tos) → (∀ p, A' = some p → W.heap.size ≤ p.block) → Below W.heap.size W V → Calls Try.prog 7 #[.pointer (some ⟨R, 0, none⟩), .int .i64 sa, .string ss, .slice A' tos.length c'] V fun e w' =>
                e = .returned (.tuple #[.int .i64 (Gm.sendN sa ss tos l2.length), .int .i64 (Gm.sendC sa ss tos l2.length)]) ∧ Gm.TwoG w0 R B C D S (.cells #[.int .i64 0, .int .i64 sa, .int .i64 sb, .int .u64 sn, .int .u64 sm, .string ss, .slice TA tos.length tc] 35 (0, 0)) (Gm.sendM sa ss tos la0 l2) (Gm.sendL sa ss tos la0 l2) cs la0 l2 cs w' ∧ w'.heap[S]? = some (.cells #[.int .i64 0, .int .i64 sa, .int .i64 sb, .int .u64 sn, .int .u64 sm, .string ss, .slice TA tos.length tc] 35 (0, 0))) := fun V A' c' hl hf hb => by
              have hV := HO2.out.below hb
              refine (glw_send hV.net (by have := HBN.out; omega) sa ss tos A' c' hl (fun p hp => HO2.out.net.p.fresh (hf p hp)) (by omega)).mono ?_
              rintro e w' ⟨rfl, hn, hm⟩
              exact ⟨rfl, hV.stepP hn hm, (hV.stepP hn hm).row⟩
            have HROW : Hid (W.heap[S]? = some (.cells #[.int .i64 0, .int .i64 sa, .int .i64 sb, .int .u64 sn, .int .u64 sm, .string ss, .slice TA tos.length tc] 35 (0, 0))) := HO2.out.row
            go_upto_region 14 with fail
            go_cut [8, 9] (fun s8 s9 wx => s8 = .int .i64 (Gm.sendN sa ss tos l2.length) ∧ s9 = .int .i64 (Gm.sendC sa ss tos l2.length) ∧ Hid (Gm.TwoG w0 R B C D S (.cells #[.int .i64 0, .int .i64 sa, .int .i64 sb, .int .u64 sn, .int .u64 sm, .string ss, .slice TA tos.length tc] 35 (0, 0)) (Gm.sendM sa ss tos la0 l2) (Gm.sendL sa ss tos la0 l2) cs la0 l2 cs wx))
            case first =>
              clear s0
              go_region_held3 (fun w' : World => w'.cell? ⟨S, 1, none⟩ = some (.int .i64 sa) ∧ w'.cell? ⟨S, 5, none⟩ = some (.string ss) ∧ w'.cell? ⟨S, 6, none⟩ = some (.slice TA tos.length tc)) (first | assumption | exact Gm.cells3 HROW.out | exact Gm.cells3 (Gm.keepS (by assumption) (show W.drew.heap[S]? = _ from HROW.out)) | exact Gm.cells3 (by assumption))
                (first
                  | (refine Gm.step_copy (by rfl) _ _ (by rfl) (by rfl) tos TA tc (by rfl) HLT.out (by omega) ?_; intro A1 c1 V h1 h2 h3)
                  | (go_at_call 7; refine (HSEND.out _ _ _ (by assumption) (by assumption) (Below.trans (Below.refl _ _).drew (by assumption))).mono ?_; rintro e w2 ⟨rfl, ho, hr⟩))
              all_goals
                go_wp2_with fail
                go_meet
                case rel => exact ⟨rfl, rfl, by assumption⟩
            case rest =>
              obtain ⟨rfl, rfl, HX⟩ := hcut
              have hb := HBN.out
              have HSD := Lib.hid (two_sendD HX.out (by have := HO2.out.net.len; exact this) hb.1 (by omega) sa ss tos TA tc HTA.out (by omega))
              have HBM : Hid (0 ≤ Gm.sendM sa ss tos la0 l2 ∧ Gm.sendM sa ss tos la0 l2 ≤ 41 * ((k + 1 : Nat) : Int) ∧ cs.length ≤ k + 1) := by
                have := HN.out
                have h3 := Gm.sendM_le sa ss tos la0 l2
                exact ⟨by omega, by omega, by omega⟩
              obtain ⟨t1, t5, t6⟩ := Gm.cells3 HX.out.row
              clear s1 s5 s6 HSEND HROW HO2 HX hb
              generalize Gm.sendN sa ss tos l2.length = nn at HSD ⊢
              generalize Gm.sendC sa ss tos l2.length = cc at HSD ⊢
              go_wp2_with fail
              refine HSD.out.mono ?_
              rintro e w3 ⟨rfl, h3⟩
              have HP := Lib.hid h3.pair
              clear h3 HSD t1 t5 t6
              go_wp2_with fail
              go_meet
              exact ⟨by simp, _, _, _, HBM.out, HP.out⟩
          by_cases a1 : act = 1
          · as_aux_lemma =>
            subst a1
            clear a0
            have s3 : W.cell? ⟨S, 3, none⟩ = some (.int .u64 sn) := cell_of_row _ _ 3 _ _ _ HO2.out.row
            have hcall := glw_take HO2.out.net sn HOK.out.1.n.1 HOK.out.1.n.2
            obtain ⟨xi, xf, xt, xs, xc, hE⟩ := Gm.takeE_form sn cs l2
            rw [hE] at hcall
            have HE := Lib.hid hE
            have HC := Lib.hid hcall
            clear hcall hE
            go_wp2_with fail
            refine HC.out.mono ?_
            rintro e w2 ⟨rfl, h2, mv2⟩
            have hO3 := HO2.out.stepP h2 mv2
            obtain ⟨V, hV⟩ : ∃ V, V = w2.alloc (.cells #[.int .u64 xi, .int .i64 xf, .int .i64 xt, .string xs] 41) := ⟨_, rfl⟩
            have hbV : Below w2.heap.size w2 V := by rw [hV]; exact (Below.refl _ _).alloc (Nat.le_refl _) _
            have hrV : V.heap[w2.heap.size]? = some (.cells #[.int .u64 xi, .int .i64 xf, .int .i64 xt, .string xs] 41 (0, 0)) := by rw [hV]; exact heap_alloc_new w2 _
            have HTD := Lib.hid (two_takeD hO3 hbV hrV HO2.out.net.len (by have := HBN.out; omega) HO2.out.net.g.1 sn)
            rw [HE.out] at HTD
            have t3 : V.cell? ⟨S, 3, none⟩ = some (.int .u64 sn) := cell_of_row _ _ 3 _ _ _ (hO3.below hbV).row
            clear h2 mv2 hO3 hbV hrV HC s3 s0
            go_upto_region 19 with fail
            rw [← hV]
            clear hV
            go_wp2_with fail
            refine HTD.out.mono ?_
            rintro e w3 ⟨rfl, h3, hx3⟩
            have hlX := Gm.ltHeap hx3
            have HP := Lib.hid h3.pair
            obtain ⟨V3, hV3⟩ : ∃ V, V = w3.alloc (.cells #[.int .u64 xi, .int .i64 xf, .int .i64 xt, .string xs] 41) := ⟨_, rfl⟩
            have hbV3 : Below w3.heap.size w3 V3 := by rw [hV3]; exact (Below.refl _ _).alloc (Nat.le_refl _) _
            have hrV3 : V3.heap[w3.heap.size]? = some (.cells #[.int .u64 xi, .int .i64 xf, .int .i64 xt, .string xs] 41 (0, 0)) := by rw [hV3]; exact heap_alloc_new w3 _
            have hrX := (hbV3.block _ hlX).trans hx3
            have HP3 := Lib.hid (HP.out.below hbV3)
            have x0 := cell_of_row _ _ 0 _ _ _ hrX
            have x1 := cell_of_row _ _ 1 _ _ _ hrX
            have x2 := cell_of_row _ _ 2 _ _ _ hrX
            have x3 := cell_of_row _ _ 3 _ _ _ hrX
            have y0 := cell_of_row _ _ 0 _ _ _ hrV3
            have y1 := cell_of_row _ _ 1 _ _ _ hrV3
            have y2 := cell_of_row _ _ 2 _ _ _ hrV3
            have y3 := cell_of_row _ _ 3 _ _ _ hrV3
            clear h3 hx3 hlX HTD t3 HP hbV3 hrV3 hrX
            go_upto_region 20 with fail
            rw [← hV3]
            clear hV3
            go_wp2_with fail
            go_meet
            exact ⟨by simp, la0, _, cs, by have := HN.out; exact ⟨this.1, by omega, by omega⟩, HP3.out⟩
          by_cases a2 : act = 2
          · as_aux_lemma =>
            subst a2
            clear a0 a1
            have s3 : W.cell? ⟨S, 3, none⟩ = some (.int .u64 sn) := cell_of_row _ _ 3 _ _ _ HO2.out.row
            have s4 : W.cell? ⟨S, 4, none⟩ = some (.int .u64 sm) := cell_of_row _ _ 4 _ _ _ HO2.out.row
            obtain ⟨V, hV⟩ : ∃ V, V = W.alloc (.cells #[.int .u64 sn, .int .u64 sm] 28) := ⟨_, rfl⟩
            have hbV : Below W.heap.size W V := by rw [hV]; exact (Below.refl _ _).alloc (Nat.le_refl _) _
            have hOV := HO2.out.below hbV
            have hcall := glw_drop hOV.net [sn, sm] (some ⟨W.heap.size, 0, none⟩) 2 (by rw [hV]; exact Gm.lies_twoU W sn sm _) (fun p hp => by obtain rfl := Option.some.inj hp; exact HO2.out.net.p.fresh (Nat.le_refl _)) (by simp) (fun x hx => by
              simp only [List.mem_cons, List.not_mem_nil, or_false] at hx
              rcases hx with rfl | rfl
              · exact HOK.out.1.n
              · exact HOK.out.1.m)
            rw [Gm.drop_sum HO2.out.net.g.1, show Gm.dropAll [sn, sm] l2 = Gm.dropM sm (Gm.dropM sn l2) from rfl] at hcall
            have HC := Lib.hid hcall
            have HOV := Lib.hid hOV
            have HDD := Lib.hid (And.intro HO2.out.net.g.1 (And.intro HO2.out.net.len (Gm.dropM_len sn l2)))
            have r1 := Gm.dropN_range sn l2
            have r2 := Gm.dropN_range sm (Gm.dropM sn l2)
            obtain ⟨n1, hn1⟩ : ∃ n, Gm.dropN sn l2 = n := ⟨_, rfl⟩
            obtain ⟨n2, hn2⟩ : ∃ n, Gm.dropN sm (Gm.dropM sn l2) = n := ⟨_, rfl⟩
            rw [hn1] at r1 HC
            rw [hn2] at r2 HC
            have HN1 := Lib.hid hn1
            have HN2 := Lib.hid hn2
            clear hcall hOV hn1 hn2
            go_wp2_with fail
            rw [← hV]
            clear hV
            refine HC.out.mono ?_
            rintro e w2 ⟨rfl, h2, mv2⟩
            have hO3 := HOV.out.stepP h2 mv2
            have HD1 := Lib.hid (two_dropD hO3 HDD.out.2.1 HDD.out.1 sn)
            rw [HN1.out] at HD1
            have t3 : w2.cell? ⟨S, 3, none⟩ = some (.int .u64 sn) := cell_of_row _ _ 3 _ _ _ hO3.row
            clear h2 mv2 hO3 HC HOV s3 s4 s0
            go_wp2_with fail
            refine HD1.out.mono ?_
            rintro e w3 ⟨rfl, h3⟩
            have HD2 := Lib.hid (two_dropD h3 (Nat.le_trans HDD.out.2.2 HDD.out.2.1) HDD.out.1.drop sm)
            rw [HN2.out] at HD2
            have t4 : w3.cell? ⟨S, 4, none⟩ = some (.int .u64 sm) := cell_of_row _ _ 4 _ _ _ h3.row
            clear h3 HD1 t3
            go_wp2_with fail
            refine HD2.out.mono ?_
            rintro e w4 ⟨rfl, h4⟩
            have HP := Lib.hid h4.pair
            have hwr : IntKind.i64.wrap (n1 + n2) = n1 + n2 := by rw [IntKind.wrap_i64]; omega
            clear h4 HD2 t4
            go_wp2_with fail
            go_meet
            exact ⟨by simp, la0, _, cs, by have := HN.out; exact ⟨this.1, by omega, by omega⟩, HP.out⟩
          by_cases a3 : act = 3
          · as_aux_lemma =>
            subst a3
            clear a0 a1 a2
            have s3 : W.cell? ⟨S, 3, none⟩ = some (.int .u64 sn) := cell_of_row _ _ 3 _ _ _ HO2.out.row
            have HC := Lib.hid (glw_double HO2.out.net (by have := HBN.out; omega) sn HOK.out.1.n.1 HOK.out.1.n.2)
            have HBM : Hid (0 ≤ Gm.dblM sn la0 l2 ∧ Gm.dblM sn la0 l2 ≤ 41 * ((k + 1 : Nat) : Int) ∧ cs.length ≤ k + 1) := by
              have := HN.out
              have h3 := Gm.dblM_le sn la0 l2
              exact ⟨by omega, by omega, by omega⟩
            obtain ⟨nn, hnn⟩ : ∃ n, Gm.dblN sn la0 l2 = n := ⟨_, rfl⟩
            obtain ⟨cc, hcc⟩ : ∃ n, Gm.dblC sn l2 = n := ⟨_, rfl⟩
            rw [hnn, hcc] at HC
            have HNN := Lib.hid (And.intro hnn hcc)
            clear hnn hcc
            go_wp2_with fail
            refine HC.out.mono ?_
            rintro e w2 ⟨rfl, h2, mv2⟩
            have hO3 := HO2.out.stepP h2 mv2
            have HDB := Lib.hid (two_doubleD hO3 HO2.out.net.len HO2.out.net.g.1 HBN.out.1 (by have := HBN.out; omega) sn)
            rw [HNN.out.1, HNN.out.2] at HDB
            have t3 : w2.cell? ⟨S, 3, none⟩ = some (.int .u64 sn) := cell_of_row _ _ 3 _ _ _ hO3.row
            clear h2 mv2 hO3 HC s3 s0
            go_wp2_with fail
            refine HDB.out.mono ?_
            rintro e w3 ⟨rfl, h3⟩
            have HP := Lib.hid h3.pair
            clear h3 HDB t3
            go_wp2_with fail
            go_meet
            exact ⟨by simp, _, _, cs, HBM.out, HP.out⟩
          by_cases a4 : act = 4
          · as_aux_lemma =>
            subst a4
            clear a0 a1 a2 a3
            have hbd : Below W.heap.size W W.drew := (Below.refl _ _).drew
            have HC := Lib.hid (glw_cut (HO2.out.below hbd).net (by have := HBN.out; omega) sa sb)
            have HH : Hid (∀ w', Gm.NetLw w0 R B C la0 l2 (Gm.cutL sa sb cs) w' → Gm.Mvg (Gm.POff R B C) (Gm.POff R B C) W.drew w' → Gm.TwoG w0 R B C D S (.cells #[.int .i64 4, .int .i64 sa, .int .i64 sb, .int .u64 sn, .int .u64 sm, .string ss, .slice TA tos.length tc] 35 (0, 0)) la0 l2 (Gm.cutL sa sb cs) la0 l2 cs w') := fun w' hn hm => (HO2.out.below hbd).stepP hn hm
            have CC0 : Hid (W.cell? ⟨S, 1, none⟩ = some (.int .i64 sa) ∧ W.cell? ⟨S, 2, none⟩ = some (.int .i64 sb)) := Gm.cells12 HO2.out.row
            obtain ⟨s1, s2⟩ := CC0.out
            have HBM : Hid (0 ≤ la0 ∧ la0 ≤ 41 * ((k + 1 : Nat) : Int) ∧ (Gm.cutL sa sb cs).length ≤ k + 1) := by
              have := HN.out
              have h3 := Gm.cut_lenG sa sb cs
              exact ⟨by omega, by omega, by omega⟩
            have hcl9 : cs.length ≤ 100000 := by have := HBN.out; omega
            clear hbd
            go_upto_region 31 with fail
            go_region_held3 (fun wx => wx.cell? ⟨S, 1, none⟩ = some (.int .i64 sa) ∧ wx.cell? ⟨S, 2, none⟩ = some (.int .i64 sb)) (first | with_reducible assumption | with_reducible exact CC0.out | with_reducible exact CC2.out | with_reducible exact CC3.out | exact CC0.out)
              (first
              | (go_at_call 15; refine HC.out.mono ?_; rintro e w2 ⟨rfl, hn2, mv2⟩; have HT2 := Lib.hid (HH.out w2 hn2 mv2); have CC2 := Lib.hid (Gm.cells12 HT2.out.row))
              | (go_at_call 16; refine (two_cutD HT2.out hcl9 sa sb).mono ?_; rintro e w3 ⟨rfl, h3⟩; have HP3 := Lib.hid h3.pair; have CC3 := Lib.hid (Gm.cells12 h3.row)))
            all_goals
              go_wp2_with fail
              go_meet
              exact ⟨by simp, la0, _, _, HBM.out, HP3.out⟩
          by_cases a5 : act = 5
          · as_aux_lemma =>
            subst a5
            clear a0 a1 a2 a3 a4
            have hbd : Below W.heap.size W W.drew := (Below.refl _ _).drew
            have HC := Lib.hid (glw_heal (HO2.out.below hbd).net sa sb)
            have HH : Hid (∀ w', Gm.NetLw w0 R B C la0 l2 (Gm.healL sa sb cs) w' → Gm.Mvg (Gm.POff R B C) (Gm.POff R B C) W.drew w' → Gm.TwoG w0 R B C D S (.cells #[.int .i64 5, .int .i64 sa, .int .i64 sb, .int .u64 sn, .int .u64 sm, .string ss, .slice TA tos.length tc] 35 (0, 0)) la0 l2 (Gm.healL sa sb cs) la0 l2 cs w') := fun w' hn hm => (HO2.out.below hbd).stepP hn hm
            have CC0 : Hid (W.cell? ⟨S, 1, none⟩ = some (.int .i64 sa) ∧ W.cell? ⟨S, 2, none⟩ = some (.int .i64 sb)) := Gm.cells12 HO2.out.row
            obtain ⟨s1, s2⟩ := CC0.out
            have HBM : Hid (0 ≤ la0 ∧ la0 ≤ 41 * ((k + 1 : Nat) : Int) ∧ (Gm.healL sa sb cs).length ≤ k + 1) := by
              have := HN.out
              have h3 := Gm.heal_lenG sa sb cs
              exact ⟨by omega, by omega, by omega⟩
            have hcl9 : cs.length ≤ 100000 := by have := HBN.out; omega
            clear hbd
            go_upto_region 33 with fail
            go_region_held3 (fun wx => wx.cell? ⟨S, 1, none⟩ = some (.int .i64 sa) ∧ wx.cell? ⟨S, 2, none⟩ = some (.int .i64 sb)) (first | with_reducible assumption | with_reducible exact CC0.out | with_reducible exact CC2.out | with_reducible exact CC3.out | exact CC0.out)
              (first
              | (go_at_call 17; refine HC.out.mono ?_; rintro e w2 ⟨rfl, hn2, mv2⟩; have HT2 := Lib.hid (HH.out w2 hn2 mv2); have CC2 := Lib.hid (Gm.cells12 HT2.out.row))
              | (go_at_call 18; refine (two_healD HT2.out hcl9 sa sb).mono ?_; rintro e w3 ⟨rfl, h3⟩; have HP3 := Lib.hid h3.pair; have CC3 := Lib.hid (Gm.cells12 h3.row)))
            all_goals
              go_wp2_with fail
              go_meet
              exact ⟨by simp, la0, _, _, HBM.out, HP3.out⟩
          · have e0 : (act == 0) = false := by simpa using a0
            have e1 : (act == 1) = false := by simpa using a1
            have e2 : (act == 2) = false := by simpa using a2
            have e3 : (act == 3) = false := by simpa using a3
            have e4 : (act == 4) = false := by simpa using a4
            have e5 : (act == 5) = false := by simpa using a5
            have HP := Lib.hid HO2.out.pair
            clear a0 a1 a2 a3 a4 a5
            go_wp2_with fail
            go_meet
            exact ⟨rfl, la0, l2, cs, by have := HN.out; exact ⟨this.1, by omega, by omega⟩, HP.out⟩
        case rest =>
          rename World => wx
          obtain ⟨rfl, la, l3, cs3, HN3, HO3⟩ := hcut
          have hla : la ≤ 100000 := by have := HN3.out; omega
          have HRP := Lib.hid (two_readyP HO3.out (by omega))
          have hcl : cs3.length ≤ 100000 := by have := HN3.out; omega
          clear s0 HO2
          go_wp2_with fail
          refine HRP.out.mono ?_
          rintro e w2 ⟨A5, n5, rfl, li5, h5, -⟩
          have HRD := Lib.hid (two_readyD h5 hcl)
          have HL5 := Lib.hid li5
          clear HRP li5 h5 HO3
          go_wp2_with fail
          refine HRD.out.mono ?_
          rintro e w3 ⟨A6, n6, rfl, li6, h6, hb6⟩
          have HL56 : Hid (Lies w3 w3.heap.size A5 (Gm.ucells (Gm.rdy cs3 l3)) ∧ Lies w3 w3.heap.size A6 (Gm.ucells (Gm.rdy cs3 l3))) := ⟨(HL5.out.below hb6).mono hb6.size, li6⟩
          have hln : l3.length ≤ 4096 := h6.net.len
          have HNL : Hid ((Gm.rdy cs3 l3).length ≤ 4096) := Nat.le_trans (Gm.rdy_len cs3 l3) hln
          obtain ⟨v, vc, d, hz⟩ := h6.doc
          obtain ⟨A7, n7, rfl⟩ := Gm.own_form d.row
          have hbd : Below w3.heap.size w3 w3.drew := (Below.refl _ _).drew
          have c1 := d.c1
          have HLS := Lib.hid (two_list (h6.below hbd) (by omega) A7 n7 c1 A5 A6 _ (HL56.out.1.below hbd) (HL56.out.2.below hbd))
          have CC0 : Hid (w3.cell? ⟨D, 1, none⟩ = some (.slice A7 l3.length n7)) := c1
          clear HRD li6 h6 hb6 d hz hbd HL5 HL56
          generalize Gm.rdy cs3 l3 = N at HLS HNL ⊢
          go_upto_region 35 with fail
          go_cut [201] (fun s wx => s = .bool false ∧ Hid ((Lies wx wx.heap.size A5 (Gm.ucells N) ∧ Lies wx wx.heap.size A6 (Gm.ucells N)) ∧ Gm.PairG w0 R B C D la l3 cs3 wx))
          case first =>
            go_region_held3 (fun wx => wx.cell? ⟨D, 1, none⟩ = some (.slice A7 l3.length n7)) (first | with_reducible assumption | with_reducible exact CC0.out | with_reducible exact CC2.out | with_reducible exact CC3.out | exact CC0.out)
              (first
              | (go_at_call 22; refine HLS.out.mono ?_; rintro e w5 ⟨A8, n8, rfl, cc2, HS5⟩; have CC2 := Lib.hid cc2)
              | (go_at_call 21; refine HS5.out.mono ?_; rintro e w6 ⟨rfl, cc3, HF6⟩; have CC3 := Lib.hid cc3))
            all_goals
              go_wp2_with fail
              go_meet
              exact ⟨by simp, HF6.out⟩
          case rest =>
            rename World => wz
            obtain ⟨rfl, HF⟩ := hcut
            have HL9 := Lib.hid HF.out.1
            have HP9 := Lib.hid HF.out.2
            clear HF HLS CC0 c1
            go_wp2_with fail
            go_loopg [25] N.length (fun g s wy => ∃ j : Nat, j ≤ N.length ∧ g = N.length - j ∧ s = .int .i64 j ∧ ∃ q, wy = wz.drewN q)
            case atStart => exact ⟨0, Nat.zero_le _, rfl, rfl, 0, rfl⟩
            case round =>
              obtain ⟨j, hj, rfl, rfl, q, rfl⟩ := hrel
              have hnl := HNL.out
              by_cases hlj : j < N.length
              · obtain ⟨p5, rfl, -, g5⟩ := HL9.out.1.at_ (Gm.ucells_at hlj)
                obtain ⟨p6, rfl, -, g6⟩ := HL9.out.2.at_ (Gm.ucells_at hlj)
                have j0 : (0 : Int) ≤ (j : Int) := by omega
                have j1 : (j : Int) < (N.length : Int) := by omega
                generalize N[j] = x at g5 g6
                clear hlj
                go_wp2_with fail
                go_quiet (fail)
                go_wp2_with fail
                go_roundg (N.length - (j + 1))
                case measure => omega
                case rel => exact ⟨j + 1, by omega, rfl, by go_num, by first | exact ⟨_, rfl⟩ | (simp only [World.drewN_drewN]; exact ⟨_, rfl⟩)⟩
              · have j1 : ¬ (j : Int) < (N.length : Int) := by omega
                clear hlj
                go_wp2_with fail
                go_roundg (l.length - (k + 1))
                case measure => omega
                case rel => exact ⟨k + 1, la, l3, cs3, by omega, rfl, by go_num, HN3.out, HP9.out.below (Gm.belDN (Below.refl _ _) q)⟩
      · have k1 : ¬ ((k : Int) < l.length) := by omega
        have HB9 := Lib.hid (HB0.out.trans (HO.out.net.bel.mono HB0.out.size))
        clear HO HN
        go_wp2_with fail
        refine (alive9_any _).mono ?_
        rintro e w9 ⟨rfl, hb⟩
        have HB10 := Lib.hid (HB9.out.trans (hb.mono HB9.out.size))
        clear hb
        go_wp2_with fail
        go_ret
        exact ⟨rfl, HB10.out⟩

/-! ### From the walk to the statement -/
theorem own : ownKnob Try.prog.godebug = none := by kernel_rfl

set_option maxRecDepth 20000 in
theorem contract (H : Type) (enc : TypeId × Value → H) (W : World) (base : Nat) (args : Array Value) (ds gs : List (DataW H)) (before : List MemPlace)
    (hval : ∀ (j : Nat) t v, Try.f3.params[j]? = some t → args[j]? = some v → Value.okWide Try.prog W .any base t v)
    (hW : DataW.Whole enc Try.prog Try.f3.params.toList Rows.gramPlaysSpec.vars false W args.toList ds gs before) :
    Calls Try.prog 3 args W fun e W' => ∃ v, e = .returned v ∧ Rows.gramPlaysSpec.post enc Try.prog Try.f3 false true false false W args v W' := by
  have hW' := hW
  obtain ⟨p, q, hA0, hV, rfl, hfz, hnd⟩ := hW
  have hA : DataW.TrodAll enc Try.prog W 0 (fun _ => true) true Try.f3.params.toList args.toList ds p := hA0
  rw [Try.params3] at hA hval
  obtain ⟨v0, vs0, d0, ds0, p0, q0, hargs, rfl, rfl, h0, r0⟩ := trodAll_cons hA
  obtain ⟨rfl, rfl, rfl⟩ := trodAll_nil r0
  obtain rfl : args = #[v0] := by cases args; simp_all
  obtain ⟨rfl, rfl⟩ := trodVars_none hV
  have k0 := h0
  obtain ⟨fuel0, hf0⟩ := h0
  obtain ⟨xs0, A0, c0, hcs0, hn0, hl0, hb0⟩ := trod_stepsg hf0
  obtain rfl := slice_of Try.underlying22 (hval 0 22 v0 rfl rfl) hcs0
  clear hA0
  simp only [List.append_nil] at hW'
  refine (walk W xs0 A0 c0 hl0 hn0 hb0).mono fun e W' ⟨he, bel⟩ => ?_
  subst he
  exact ⟨_, rfl, _, _, _, [], _, [], hW', trodAll_mk1 (shut_bool Try.underlying4 _), (trodAll_cons_mk (Below.trod laidOut (by kernel_rfl) (of_decide_eq_true (by kernel_rfl)) k0 bel (fun x hx => DataW.trod_lt _ _ _ _ hf0 x hx)) trodAll_mk0), rfl, bel.frame _, fun h => by cases h⟩

set_option maxRecDepth 100000 in
theorem lifted (os : Os) (started : os.Started) (H : Type) (enc : TypeId × Value → H) :
    ReturnsInHanded {} Try.checked os 3 .any (Rows.gramPlaysSpec.pre6 enc Try.prog Try.f3 Rows.gramPlaysRow.domain false) (Rows.gramPlaysSpec.post enc Try.prog Try.f3 false true false false) := by
  refine returnsInHanded_of_change (C := Try.checked) own started (by kernel_rfl) Try.func3
    (ChangeSpec.witness6 (enc := enc) (C := Try.checked) false ⟨#[], #[.slice none 0 0], []⟩ 8 (by kernel_rfl) (by kernel_rfl) (by kernel_rfl) (by kernel_rfl)) ?_
  intro W base args ds gs before hval hW _ _
  exact contract H enc W base args ds gs before hval hW

theorem over : Rows.gramPlaysRow.holds Try.pinned (OpenSpec.ofChange Rows.gramPlaysSpec) :=
  OpenClaim.holds_of_wide 3 Try.f3 rfl rfl rfl rfl rfl rfl rfl ⟨rfl, rfl, rfl, rfl, rfl⟩ rfl rfl rfl rfl rfl (by kernel_rfl) Try.func3 (by kernel_rfl)
    (of_decide_eq_true (by kernel_rfl)) (by unfold Func.isWrapper; first | (rw [if_pos (by decide +kernel)]; kernel_rfl) | (rw [if_neg (by decide +kernel)]; exact ⟨rfl, rfl⟩))
    (fun os started H enc _ => lifted os started H enc)

/-- The statement. -/
theorem proved : Rows.GramPlaysSaid :=
  over

end Go.Proofs.Ytfhengihdlojmaa.gramPlays
