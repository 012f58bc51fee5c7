/-
  Law 15: what each call answers.
-/
import Derived.Test.YtepnofklmdofmaaRows
import Derived.Test.YtepnofklmdofmaaCeE
import Derived.Test.YtepnofklmdofmaaL15S
import Derived.Deep.DeepCutAuto
import Derived.Deep.CutBlock
import Derived.Deep.RegionHeld3
import Derived.ProofKit
import Derived.OpenShut
import Derived.ShutString
namespace Go.Proofs.Ytepnofklmdofmaa.cellPlays
open Go.ChangeShapes Go.WideShapes Go.ChangeAt Go.RowKit
open Go.ChangeMaps (open_string shut_string)

/-- Both, and a step's block. -/
structure PlayS (w0 : World) (B M R S : Nat) (o : Obj) (xs : List Int) (n : Nat) (ys : List Int) (m : Nat) (w : World) : Prop where
  bth : Ce.Bth (fun i => i < w0.heap.size ∨ i = S) B M R xs n ys m w
  bel : Below w0.heap.size w0 w
  st : w.heap[S]? = some o
structure Plays (w0 : World) (B M R : Nat) (xs : List Int) (n : Nat) (w : World) : Prop where
  bth : Ce.Bth (fun i => i < w0.heap.size) B M R xs n xs n w
  bel : Below w0.heap.size w0 w
section
variable {w0 w w' : World} {B M R S : Nat} {o : Obj} {xs ys xs' ys' : List Int} {n n' m m' : Nat}
theorem Plays.push (h : Plays w0 B M R xs n w) (o : Obj) : PlayS w0 B M R w.heap.size o xs n xs n (w.alloc o) := by
  have hb : Below w.heap.size w (w.alloc o) := (Below.refl _ _).alloc (Nat.le_refl _) _
  refine ⟨(h.bth.push hb).mono fun i hi => ?_, h.bel.trans (hb.mono h.bel.size), heap_alloc_new _ _⟩
  rcases hi with h1 | h1
  · exact .inl h1
  · exact .inr ⟨by omega, by rw [h1]; simp⟩
theorem PlayS.step (h : PlayS w0 B M R S o xs n ys m w) (hb : Ce.Bth (fun i => i < w0.heap.size ∨ i = S) B M R xs' n' ys' m' w') (hk : Ce.Kept (fun i => i < w0.heap.size ∨ i = S) w w') : PlayS w0 B M R S o xs' n' ys' m' w' :=
  ⟨hb, hk.below h.bel h.bel.size (fun _ hi => .inl hi), hk.row h.st (.inr rfl)⟩
theorem PlayS.below (h : PlayS w0 B M R S o xs n ys m w) (hb : Below w.heap.size w w') : PlayS w0 B M R S o xs n ys m w' :=
  h.step (h.bth.below hb) (Ce.Kept.of_below hb)
theorem PlayS.pop (h : PlayS w0 B M R S o xs n xs n w) : Plays w0 B M R xs n w := ⟨h.bth.mono fun _ hi => .inl hi, h.bel⟩
theorem Plays.below (h : Plays w0 B M R xs n w) (hb : Below w.heap.size w w') : Plays w0 B M R xs n w' := ⟨h.bth.below hb, h.bel.trans (hb.mono h.bel.size)⟩
end
theorem new_both {w0 w : World} {B M : Nat} (h : Ce.Pm (fun i => i < w0.heap.size) B M [] 0 w) (hb : Below w0.heap.size w0 w) : Plays w0 B M w.heap.size [] 0 (w.alloc (.cells #[.slice none 0 0, .int .i64 0] 30)) := by
  obtain ⟨v, h1, h2⟩ := h.ex
  have hb2 : Below w.heap.size w (w.alloc (.cells #[.slice none 0 0, .int .i64 0] 30)) := (Below.refl _ _).alloc (Nat.le_refl _) _
  refine ⟨⟨⟨v, .slice none 0 0, h1.below hb2, ⟨heap_alloc_new _ _, World.ownsRow_nil _ _ _ _, fun e => by cases e⟩, fun i hi => ⟨h2 i hi, ⟨fun e => by have := h.lt i hi; omega, fun e => by cases e⟩⟩, fun i => ?_⟩, fun i hi => Nat.lt_of_lt_of_le (h.lt i hi) hb2.size⟩, hb.trans (hb2.mono hb.size)⟩
  by_cases e : i = w.heap.size
  · exact .inl (h1.fresh (by omega))
  · exact .inr ⟨e, fun e => by cases e⟩
/-- append of a slice that came in. -/
theorem fresh_append (w : World) (A : Option Addr) (ys : List Int) (c : Nat) (hl : Lies w w.heap.size A (icells ys)) (hn : ys.length ≤ 16384) :
    ∃ A2 c2 w', (Builtin.append_ #[28, 28] 28 #[.slice none 0 0, .slice A ys.length c]).run Try.prog w = .ok (.slice A2 ys.length c2) w' ∧ Lies w' w'.heap.size A2 (icells ys) ∧ Below w.heap.size w w' := by
  obtain ⟨v', w', hr, hrow, hg, _⟩ := Ce.append_run w (.slice none 0 0) 0 [] (World.ownsRow_nil _ _ _ _) A ys c hl (by omega) 28
  rw [Nat.zero_add, List.nil_append] at hrow
  obtain ⟨A2, c2, rfl⟩ := Gm.own_form hrow
  refine ⟨A2, c2, w', hr, fun hp => ?_, (Below.refl _ _).grown hg (Nat.le_refl _) (fun k hk => by simp [Value.ownBlock] at hk)⟩
  rcases hrow.2 with ⟨e, h0⟩ | ⟨g, cap, cur, e1, hg, hh, _⟩
  · have := Ce.icells_len ys
    omega
  · obtain rfl : A2 = some ⟨g, 0, none⟩ := by injection e1
    exact ⟨⟨g, 0, none⟩, rfl, (hrow.lt g rfl).2, fun j u hu => hrow.cells (g := g) rfl j u hu⟩
/-- Both, with the steps of each; and a load of a cell that is there. -/
def Both3 (w0 : World) (B M R : Nat) (xs : List Int) (n m : Nat) (w : World) : Prop := Ce.Bth (fun i => i < w0.heap.size) B M R xs n xs m w ∧ Below w0.heap.size w0 w
theorem at_k3 {xs : List Int} {k : Nat} (h : k < xs.length) : Ce.ldV xs (k : Int) = xs[k] ∧ Ce.erC xs (k : Int) = 0 ∧ ∀ n, Ce.cnt xs (k : Int) n = n + 1 := by
  have h1 := Ce.has_nat h
  have h2 := Ce.getD_nat h
  unfold Ce.ldV Ce.erC Ce.cnt
  rw [h1, h2]
  exact ⟨rfl, rfl, fun _ => rfl⟩
set_option maxHeartbeats 4000000 in
set_option maxRecDepth 20000 in
theorem walk (w0 : World) (l : List StepC) (A : Option Addr) (c : Nat) (la : LiesC w0 w0.heap.size A l) (nl : l.length ≤ maxLen) (ok : ∀ a ∈ l, a.Ok w0) :
    Calls Try.prog 3 #[.slice A l.length c] w0 fun e w' => e = .returned (.bool true) ∧ Below w0.heap.size w0 w' := by
  have HV := Lib.hid (heavyc l A c w0 la nl)
  have LA := Lib.hid la
  have OK := Lib.hid ok
  clear la ok
  go_enter Try.func3, Try.ntmps3
  go_wp2_with fail
  refine HV.out.mono ?_
  rintro e w1 ⟨b, rfl, hb, hb1⟩
  have HB1 := Lib.hid hb1
  have HBF := Lib.hid hb
  clear HV hb hb1
  cases b with
  | true =>
    go_wp2_with fail
    refine (alive15_any _).mono ?_
    rintro e w2 ⟨rfl, hb2⟩
    have HB2 := Lib.hid (HB1.out.trans (hb2.mono HB1.out.size))
    clear hb2
    go_wp2_with fail
    go_ret
    exact ⟨rfl, HB2.out⟩
  | false =>
    have nl2 : l.length ≤ 300 := (HBF.out rfl).1
    have HLL := Lib.hid (HBF.out rfl).2
    clear HBF nl
    go_wp2_with fail
    refine (pm_new _).mono ?_
    rintro e w2 ⟨B, M, rfl, h2, hb2⟩
    have HB2 := Lib.hid (HB1.out.trans (hb2.mono HB1.out.size))
    have HP0 := Lib.hid (new_both (h2.mono fun i (hi : i < w0.heap.size) => Nat.lt_of_lt_of_le hi HB1.out.size) HB2.out)
    obtain ⟨R, hR⟩ : ∃ R, R = w2.heap.size := ⟨_, rfl⟩
    obtain ⟨V, hV⟩ : ∃ V, V = w2.alloc (.cells #[.slice none 0 0, .int .i64 0] 30) := ⟨_, rfl⟩
    rw [← hV, ← hR] at HP0
    clear h2 hb2
    go_wp2_with fail
    rw [← hV]
    try rw [← hR]
    clear hV hR
    go_loopg [5] l.length (fun g s5 wr => ∃ (k n : Nat) (xs : List Int), k ≤ l.length ∧ g = l.length - k ∧ n ≤ k ∧ s5 = .int .i64 k ∧ xs.length ≤ 65536 ∧ Hid (Plays w0 B M R xs n wr))
    case atStart => exact ⟨0, 0, [], Nat.zero_le _, rfl, Nat.le_refl _, rfl, Nat.zero_le _, HP0.out⟩
    case round =>
      rename World => wr
      obtain ⟨k, n, xs, hk, rfl, hn, rfl, hx, HO⟩ := hrel
      by_cases hlt : k < l.length
      · have k1 : (k : Int) < l.length := by omega
        have k0 : (0 : Int) ≤ (k : Int) := by omega
        obtain ⟨ad, rfl, hadb, hc⟩ := (LA.out.below HO.out.bel) (by omega)
        obtain ⟨q0, q1, q2, q3, q4⟩ := stc_at hlt (ad.add (k * 5)) (hc k hlt)
        have HSL : Hid (l[k].l.length ≤ 16384 ∧ Lies w0 w0.heap.size l[k].A (icells l[k].l)) := ⟨HLL.out _ (List.getElem_mem hlt), (OK.out _ (List.getElem_mem hlt)).ll⟩
        generalize l[k] = a at q0 q1 q2 q3 q4 HSL
        obtain ⟨act, sa, sv, so, sl, TA, tc⟩ := a
        simp only [] at q0 q1 q2 q3 q4 HSL
        obtain ⟨W, hW⟩ : ∃ W, W = wr.alloc (.cells #[.int .i64 act, .int .i64 sa, .int .i64 sv, .int .i64 so, .slice TA sl.length tc] 32) := ⟨_, rfl⟩
        obtain ⟨o, ho⟩ : ∃ o, o = Obj.cells #[.int .i64 act, .int .i64 sa, .int .i64 sv, .int .i64 so, .slice TA sl.length tc] 32 (0, 0) := ⟨_, rfl⟩
        have HS : Hid (PlayS w0 B M R wr.heap.size o xs n xs n W) := by show PlayS _ _ _ _ _ _ _ _ _ _ _; rw [hW, ho]; exact HO.out.push _
        obtain ⟨S, hS⟩ : ∃ S, S = wr.heap.size := ⟨_, rfl⟩
        rw [← hS] at HS
        have HSC : Hid (∀ U : World, U.heap[S]? = some o → U.cell? ⟨S, 0, none⟩ = some (.int .i64 act) ∧ U.cell? ⟨S, 1, none⟩ = some (.int .i64 sa) ∧ U.cell? ⟨S, 2, none⟩ = some (.int .i64 sv) ∧ U.cell? ⟨S, 3, none⟩ = some (.int .i64 so) ∧ U.cell? ⟨S, 4, none⟩ = some (.slice TA sl.length tc)) := fun U hU => by
          rw [ho] at hU
          exact ⟨cell_of_row _ _ 0 _ _ _ hU, cell_of_row _ _ 1 _ _ _ hU, cell_of_row _ _ 2 _ _ _ hU, cell_of_row _ _ 3 _ _ _ hU, cell_of_row _ _ 4 _ _ _ hU⟩
        obtain ⟨s0, s1, s2, s3, s4⟩ := HSC.out W HS.out.st
        have HN := Lib.hid hn
        have HX := Lib.hid hx
        clear hc hadb ho
        go_upto_block 2 with fail
        try rw [← hW]
        try rw [← hS]
        clear hW hS q0 q1 q2 q3 q4
        go_cut [7] (fun s7 wx => s7 = .bool true ∧ ∃ (n' : Nat) (xs' : List Int), n' ≤ k + 1 ∧ xs'.length ≤ 65536 ∧ Hid (Plays w0 B M R xs' n' wx))
        case first =>
          by_cases a0 : act = 0
          · as_aux_lemma =>
            subst a0
            obtain ⟨A2, c2, w5, hap, hl5, hb5⟩ := fresh_append W TA sl tc ((HSL.out.2.below HS.out.bel).mono HS.out.bel.size) HSL.out.1
            have HAP := Lib.hid hap
            have hs5 := HS.out.below hb5
            have HC := Lib.hid (two_moreP hs5.bth A2 sl c2 hl5 (by unfold maxLen; have := HSL.out.1; omega) HX.out)
            have HS5 := Lib.hid hs5
            clear hap hl5 hb5 hs5
            go_wp2_with (at_builtin; refine Lib.wpList_append_run _ rfl _ _ 28 28 rfl _ _ rfl rfl _ _ HAP.out ?_)
            refine HC.out.mono ?_
            rintro e w6 ⟨rfl, h6, k6⟩
            have hs6 := HS5.out.step h6 k6
            obtain ⟨-, -, -, -, t4⟩ := HSC.out w6 hs6.st
            have HC2 := Lib.hid (two_moreD hs6.bth TA sl tc ((HSL.out.2.below hs6.bel).mono hs6.bel.size) (by unfold maxLen; have := HSL.out.1; omega) HX.out)
            have HS6 := Lib.hid hs6
            have HML := Lib.hid (Ce.moX_len (ys := sl) HX.out)
            clear h6 k6 hs6 HC HAP s4
            generalize Ce.moA xs sl = ma at HC2 ⊢
            generalize Ce.moE xs sl = me at HC2 ⊢
            generalize Ce.moX xs sl = mx at HC2 HS6 HML ⊢
            go_wp2_with fail
            refine HC2.out.mono ?_
            rintro e w7 ⟨rfl, h7, k7⟩
            have HS7 := Lib.hid (HS6.out.step h7 k7).pop
            clear h7 k7 HC2 t4
            go_wp2_with fail
            go_meet
            exact ⟨by simp, n, _, by have := HN.out; omega, HML.out, HS7.out⟩
          by_cases a1 : act = 1
          · as_aux_lemma =>
            subst a1
            clear a0
            have HC := Lib.hid (two_loadP HS.out.bth (by have := HN.out; omega) sa)
            go_wp2_with fail
            refine HC.out.mono ?_
            rintro e w6 ⟨rfl, h6, k6⟩
            have hs6 := HS.out.step h6 k6
            obtain ⟨-, t1, -, -, -⟩ := HSC.out w6 hs6.st
            have HC2 := Lib.hid (two_loadD hs6.bth (by have := HN.out; omega) sa)
            have HS6 := Lib.hid hs6
            have HCN := Lib.hid (Ce.cnt_le xs sa n)
            clear h6 k6 hs6 HC s1
            generalize Ce.ldV xs sa = ma at HC2 ⊢
            generalize Ce.erC xs sa = me at HC2 ⊢
            generalize Ce.cnt xs sa n = mx at HC2 HS6 HCN ⊢
            go_wp2_with fail
            refine HC2.out.mono ?_
            rintro e w7 ⟨rfl, h7, k7⟩
            have HS7 := Lib.hid (HS6.out.step h7 k7).pop
            clear h7 k7 HC2 t1
            go_wp2_with fail
            go_meet
            exact ⟨by simp, _, xs, by have := HN.out; have := HCN.out; omega, HX.out, HS7.out⟩
          by_cases a2 : act = 2
          · as_aux_lemma =>
            subst a2
            clear a0 a1
            have hbd : Below W.heap.size W W.drew := (Below.refl _ _).drew
            have hsd := HS.out.below hbd
            have HC := Lib.hid (two_storeP hsd.bth (by have := HN.out; omega) sa sv)
            have HSD := Lib.hid hsd
            have CC0 : Hid (W.cell? ⟨S, 1, none⟩ = some (.int .i64 sa) ∧ W.cell? ⟨S, 2, none⟩ = some (.int .i64 sv)) := ⟨s1, s2⟩
            have HCN := Lib.hid (Ce.cnt_le xs sa n)
            have HLN : Hid ((Ce.stX xs sa sv).length ≤ 65536) := by show _ ≤ _; rw [Ce.stX_len]; exact HX.out
            have HNN : Hid (n ≤ 1000000) := by show _ ≤ _; have := HN.out; omega
            clear hbd hsd
            go_upto_region 22 with fail
            go_region_held3 (fun wx => wx.cell? ⟨S, 1, none⟩ = some (.int .i64 sa) ∧ wx.cell? ⟨S, 2, none⟩ = some (.int .i64 sv)) (first | with_reducible assumption | with_reducible exact CC0.out | with_reducible exact CC2.out | with_reducible exact CC3.out | exact CC0.out)
              (first
              | (go_at_call 13; refine HC.out.mono ?_; rintro e w2 ⟨rfl, hn2, mv2⟩; have HT2 := Lib.hid (HSD.out.step hn2 mv2); have CC2 : Hid (_ ∧ _) := ⟨(HSC.out w2 HT2.out.st).2.1, (HSC.out w2 HT2.out.st).2.2.1⟩)
              | (go_at_call 14; refine (two_storeD HT2.out.bth HNN.out sa sv).mono ?_; rintro e w3 ⟨rfl, h3, k3⟩; have hs3 := HT2.out.step h3 k3; have HP3 := Lib.hid hs3.pop; have CC3 : Hid (_ ∧ _) := ⟨(HSC.out w3 hs3.st).2.1, (HSC.out w3 hs3.st).2.2.1⟩))
            all_goals
              go_wp2_with fail
              go_meet
              exact ⟨by simp, _, _, by have := HN.out; have := HCN.out; omega, HLN.out, HP3.out⟩
          by_cases a3 : act = 3
          · as_aux_lemma =>
            subst a3
            clear a0 a1 a2
            have HC := Lib.hid (two_swapP HS.out.bth (by have := HN.out; omega) sa so sv)
            go_wp2_with fail
            refine HC.out.mono ?_
            rintro e w6 ⟨rfl, h6, k6⟩
            have hs6 := HS.out.step h6 k6
            obtain ⟨-, t1, t2, t3, -⟩ := HSC.out w6 hs6.st
            have HC2 := Lib.hid (two_swapD hs6.bth (by have := HN.out; omega) sa so sv)
            have HS6 := Lib.hid hs6
            have HCN := Lib.hid (Ce.cnt_le xs sa n)
            have HLN : Hid ((Ce.swX xs sa so sv).length ≤ 65536) := by show _ ≤ _; rw [Ce.swX_len]; exact HX.out
            clear h6 k6 hs6 HC s1 s2 s3
            generalize Ce.swB xs sa so = ma at HC2 ⊢
            generalize Ce.erC xs sa = me at HC2 ⊢
            generalize Ce.swX xs sa so sv = mz at HC2 HS6 HLN ⊢
            generalize Ce.cnt xs sa n = mx at HC2 HS6 HCN ⊢
            go_wp2_with fail
            refine HC2.out.mono ?_
            rintro e w7 ⟨rfl, h7, k7⟩
            have HS7 := Lib.hid (HS6.out.step h7 k7).pop
            clear h7 k7 HC2 t1 t2 t3
            go_wp2_with fail
            go_meet
            exact ⟨by simp, _, _, by have := HN.out; have := HCN.out; omega, HLN.out, HS7.out⟩
          · have e0 : (act == 0) = false := by simpa using a0
            have e1 : (act == 1) = false := by simpa using a1
            have e2 : (act == 2) = false := by simpa using a2
            have e3 : (act == 3) = false := by simpa using a3
            have HP := Lib.hid HS.out.pop
            clear a0 a1 a2 a3
            go_wp2_with fail
            go_meet
            exact ⟨rfl, n, xs, by have := HN.out; omega, HX.out, HP.out⟩
        case rest =>
          rename World => wx
          obtain ⟨rfl, n5, xs5, hn5, hx5, HP5⟩ := hcut
          have HN5 := Lib.hid hn5
          have HX5 := Lib.hid hx5
          clear s0 s1 s2 s3 s4 hn5 hx5
          obtain ⟨A5, c5, z0, z1, z2⟩ := HP5.out.bth.cells
          have hbd : Below wx.heap.size wx wx.drew := (Below.refl _ _).drew
          have HPD := Lib.hid (HP5.out.below hbd)
          have HC := Lib.hid (two_len HPD.out.bth)
          have CC0 : Hid (wx.cell? ⟨R, 0, none⟩ = some (.slice A5 xs5.length c5) ∧ wx.cell? ⟨R, 1, none⟩ = some (.int .i64 (n5 : Int))) := ⟨z0, z1⟩
          have HKC : Hid (∀ w1 w2 : World, Plays w0 B M R xs5 n5 w1 → Below w1.heap.size w1 w2 → w1.cell? ⟨R, 0, none⟩ = some (.slice A5 xs5.length c5) ∧ w1.cell? ⟨R, 1, none⟩ = some (.int .i64 (n5 : Int)) → w2.cell? ⟨R, 0, none⟩ = some (.slice A5 xs5.length c5) ∧ w2.cell? ⟨R, 1, none⟩ = some (.int .i64 (n5 : Int))) := fun w1 w2 _ hb ⟨h1, h2⟩ =>
            ⟨(hb.cell (World.block_lt_of_cell? w1 _ h1)).trans h1, (hb.cell (World.block_lt_of_cell? w1 _ h2)).trans h2⟩
          have CCD : Hid (wx.drew.cell? ⟨R, 0, none⟩ = some (.slice A5 xs5.length c5) ∧ wx.drew.cell? ⟨R, 1, none⟩ = some (.int .i64 (n5 : Int))) := HKC.out wx wx.drew HP5.out hbd CC0.out
          clear hbd z2
          go_upto_region 27 with fail
          go_region_held3 (fun wz => wz.cell? ⟨R, 0, none⟩ = some (.slice A5 xs5.length c5) ∧ wz.cell? ⟨R, 1, none⟩ = some (.int .i64 (n5 : Int))) (first | with_reducible assumption | with_reducible exact CC0.out | with_reducible exact CC2.out | with_reducible exact CC3.out | exact CC0.out)
            (first
            | (go_at_call 17; refine HC.out.mono ?_; rintro e w2 ⟨rfl, hb2⟩; have HT2 := Lib.hid (HPD.out.below hb2); have CC2 := Lib.hid (HKC.out _ w2 HPD.out hb2 CCD.out))
            | (go_at_call 18; refine (two_steps HT2.out.bth).mono ?_; rintro e w3 ⟨rfl, hb3⟩; have HP3 := Lib.hid (HT2.out.below hb3); have CC3 := Lib.hid (HKC.out _ w3 HT2.out hb3 CC2.out)))
          all_goals
            go_wp2_with fail
            go_roundg (l.length - (k + 1))
            case measure => omega
            case rel => exact ⟨k + 1, n5, xs5, by omega, rfl, HN5.out, by go_num, HX5.out, HP3.out⟩
      · have k1 : ¬ ((k : Int) < l.length) := by omega
        clear hlt
        have HE0 : Hid (Both3 w0 B M R xs n n wr) := ⟨HO.out.bth, HO.out.bel⟩
        have HN3 : Hid (n ≤ 1000) := by show _ ≤ _; omega
        clear HO
        go_wp2_with fail
        go_loopg [20] xs.length (fun g s wy => ∃ j : Nat, j ≤ xs.length ∧ j ≤ 1024 ∧ g = xs.length - j ∧ s = .int .i64 j ∧ Hid (Both3 w0 B M R xs (n + j) n wy))
        case atStart => exact ⟨0, Nat.zero_le _, Nat.zero_le _, rfl, rfl, HE0.out⟩
        case round =>
          rename World => wy
          obtain ⟨j, hj, hj2, rfl, rfl, HY⟩ := hrel
          obtain ⟨A5, c5, z0, -, z2⟩ := HY.out.1.cells
          by_cases hjl : j < xs.length
          · have j1 : (j : Int) < (xs.length : Int) := by omega
            by_cases hj3 : j < 1024
            · have j2 : (j : Int) < 1024 := by omega
              have hc := two_loadP HY.out.1 (by have := HN3.out; omega) (j : Int)
              rw [(at_k3 hjl).1, (at_k3 hjl).2.1, (at_k3 hjl).2.2] at hc
              have HC := Lib.hid hc
              have HJ := Lib.hid hjl
              have HX3 : Hid (∃ y, y = xs[j]) := ⟨_, rfl⟩
              clear hc z2
              go_wp2_with fail
              refine HC.out.mono ?_
              rintro e w5 ⟨rfl, h5, k5⟩
              obtain ⟨A6, c6, z3, -, z5⟩ := h5.cells
              obtain ⟨p6, rfl, -, g6⟩ := z5.at_ (icells_at HJ.out)
              have HY5 : Hid (Both3 w0 B M R xs (n + j + 1) n w5) := ⟨h5, k5.below HY.out.2 HY.out.2.size fun i hi => hi⟩
              have j0 : (0 : Int) ≤ (j : Int) := by omega
              clear h5 k5 z5 HC z0 HX3
              generalize xs[j] = y at g6 ⊢
              go_wp2_with fail
              go_roundg (xs.length - (j + 1))
              case measure => omega
              case rel => exact ⟨j + 1, by omega, by omega, rfl, by go_num, HY5.out⟩
            · have j2 : ¬ (j : Int) < 1024 := by omega
              clear z2 hj3
              go_wp2_with fail
              refine (alive15_any _).mono ?_
              rintro e w6 ⟨rfl, hb6⟩
              have HB6 := Lib.hid (HY.out.2.trans (hb6.mono HY.out.2.size))
              clear hb6
              go_wp2_with fail
              go_ret
              exact ⟨rfl, HB6.out⟩
          · have j1 : ¬ (j : Int) < (xs.length : Int) := by omega
            clear z2 hjl
            go_wp2_with fail
            refine (alive15_any _).mono ?_
            rintro e w6 ⟨rfl, hb6⟩
            have HB6 := Lib.hid (HY.out.2.trans (hb6.mono HY.out.2.size))
            clear hb6
            go_wp2_with fail
            go_ret
            exact ⟨rfl, HB6.out⟩

/-! ### From the walk to the statement -/
theorem own : ownKnob Try.prog.godebug = none := by kernel_rfl

set_option maxRecDepth 20000 in
theorem contract (H : Type) (enc : TypeId × Value → H) (W : World) (base : Nat) (args : Array Value) (ds gs : List (DataW H)) (before : List MemPlace)
    (hval : ∀ (j : Nat) t v, Try.f3.params[j]? = some t → args[j]? = some v → Value.okWide Try.prog W .any base t v)
    (hW : DataW.Whole enc Try.prog Try.f3.params.toList Rows.cellPlaysSpec.vars false W args.toList ds gs before) :
    Calls Try.prog 3 args W fun e W' => ∃ v, e = .returned v ∧ Rows.cellPlaysSpec.post enc Try.prog Try.f3 false true false false W args v W' := by
  have hW' := hW
  obtain ⟨p, q, hA0, hV, rfl, hfz, hnd⟩ := hW
  have hA : DataW.TrodAll enc Try.prog W 0 (fun _ => true) true Try.f3.params.toList args.toList ds p := hA0
  rw [Try.params3] at hA hval
  obtain ⟨v0, vs0, d0, ds0, p0, q0, hargs, rfl, rfl, h0, r0⟩ := trodAll_cons hA
  obtain ⟨rfl, rfl, rfl⟩ := trodAll_nil r0
  obtain rfl : args = #[v0] := by cases args; simp_all
  obtain ⟨rfl, rfl⟩ := trodVars_none hV
  have k0 := h0
  obtain ⟨fuel0, hf0⟩ := h0
  obtain ⟨xs0, A0, c0, hcs0, hn0, hl0, hb0⟩ := trod_stepsc hf0
  obtain rfl := slice_of Try.underlying22 (hval 0 22 v0 rfl rfl) hcs0
  clear hA0
  simp only [List.append_nil] at hW'
  refine (walk W xs0 A0 c0 hl0 hn0 hb0).mono fun e W' ⟨he, bel⟩ => ?_
  subst he
  exact ⟨_, rfl, _, _, _, [], _, [], hW', trodAll_mk1 (shut_bool Try.underlying4 _), (trodAll_cons_mk (Below.trod laidOut (by kernel_rfl) (of_decide_eq_true (by kernel_rfl)) k0 bel (fun x hx => DataW.trod_lt _ _ _ _ hf0 x hx)) trodAll_mk0), rfl, bel.frame _, fun h => by cases h⟩

set_option maxRecDepth 100000 in
theorem lifted (os : Os) (started : os.Started) (H : Type) (enc : TypeId × Value → H) :
    ReturnsInHanded {} Try.checked os 3 .any (Rows.cellPlaysSpec.pre6 enc Try.prog Try.f3 Rows.cellPlaysRow.domain false) (Rows.cellPlaysSpec.post enc Try.prog Try.f3 false true false false) := by
  refine returnsInHanded_of_change (C := Try.checked) own started (by kernel_rfl) Try.func3
    (ChangeSpec.witness6 (enc := enc) (C := Try.checked) false ⟨#[], #[.slice none 0 0], []⟩ 8 (by kernel_rfl) (by kernel_rfl) (by kernel_rfl) (by kernel_rfl)) ?_
  intro W base args ds gs before hval hW _ _
  exact contract H enc W base args ds gs before hval hW

theorem over : Rows.cellPlaysRow.holds Try.pinned (OpenSpec.ofChange Rows.cellPlaysSpec) :=
  OpenClaim.holds_of_wide 3 Try.f3 rfl rfl rfl rfl rfl rfl rfl ⟨rfl, rfl, rfl, rfl, rfl⟩ rfl rfl rfl rfl rfl (by kernel_rfl) Try.func3 (by kernel_rfl)
    (of_decide_eq_true (by kernel_rfl)) (by unfold Func.isWrapper; first | (rw [if_pos (by decide +kernel)]; kernel_rfl) | (rw [if_neg (by decide +kernel)]; exact ⟨rfl, rfl⟩))
    (fun os started H enc _ => lifted os started H enc)

/-- The statement. -/
theorem proved : Rows.CellPlaysSaid :=
  over

end Go.Proofs.Ytepnofklmdofmaa.cellPlays
