/-
  Going on by two stretches one behind the other tells what going on by their sum tells (TicksSplit).
-/
import Derived.Test.YtnojjfpccnmbeaaRows
import Derived.Test.YtnojjfpccnmbeaaTpU
import Derived.Deep.DeepCutAuto
import Derived.Deep.CutBlock
import Derived.Deep.RegionHeld3
import Derived.ProofKit
import Derived.OpenShut
import Derived.ShutString
namespace Go.Proofs.Ytnojjfpccnmbeaa.ticksSplit
open Go.ChangeShapes Go.WideShapes Go.ChangeAt Go.RowKit
open Go.ChangeMaps (open_string shut_string)

set_option maxHeartbeats 16000000 in
set_option maxRecDepth 20000 in
theorem walk (w : World) (l : List StepT) (A : Option Addr) (c : Nat) (la : LiesT w w.heap.size A l) (nl : l.length ≤ maxLen) (_ok : ∀ a ∈ l, a.Ok) (a : Int) (a0 : 0 ≤ a) (a1 : a ≤ 65535) (b : Int) (b0 : 0 ≤ b) (b1 : b ≤ 65535) :
    Calls Try.prog 5 #[.slice A l.length c, .int .u16 a, .int .u16 b] w fun e w' => e = .returned (.bool true) ∧ Below w.heap.size w w' := by
  have LA := Lib.hid la
  have HHV := Lib.hid (heavyt l A c w la nl)
  have HAB : Hid (0 ≤ a ∧ a ≤ 65535 ∧ 0 ≤ b ∧ b ≤ 65535) := ⟨a0, a1, b0, b1⟩
  clear la
  go_enter Try.func5, Try.ntmps5
  go_wp2_with fail
  refine HHV.out.mono ?_
  rintro e w0 ⟨bb, rfl, hsm, hb0⟩
  have HB0 := Lib.hid hb0
  clear hb0 HHV
  cases bb with
  | true =>
    clear hsm
    go_wp2_with fail
    refine (alive8_any _).mono ?_
    rintro e w2 ⟨rfl, hb2⟩
    have HB2 := Lib.hid (HB0.out.trans (hb2.mono HB0.out.size))
    clear hb2
    go_wp2_with fail
    go_ret
    exact ⟨rfl, HB2.out⟩
  | false =>
    have hl300 := hsm rfl
    clear hsm nl
    go_wp2_with fail
    refine (tknew w0).mono ?_
    rintro e w1 ⟨T, Q, B, rfl, h1, hb1, hT, hQ, hB⟩
    have H1 := Lib.hid (And.intro h1 (And.intro hb1 (And.intro hT (And.intro hQ hB))))
    clear h1 hb1 hT hQ hB
    go_wp2_with fail
    refine (tknew w1).mono ?_
    rintro e w2 ⟨T2, Q2, B2, rfl, h2, hb2, hT2, hQ2, hB2⟩
    have HST : Hid (Tk.St3 w T Q B T2 Q2 B2 w2) := by
      obtain ⟨h1, hb1, hT, hQ, hB⟩ := H1.out
      have hs := HB0.out.size
      have hs1 := hb1.size
      refine ⟨_, _, [], [], ⟨h1.below hb2, h2, fun i hi => ?_, fun i hi => ⟨⟨by omega, by omega, by omega, by simp [Value.ownBlock]⟩, ⟨by omega, by omega, by omega, by simp [Value.ownBlock]⟩⟩, (HB0.out.trans (hb1.mono hs)).trans (hb2.mono (by omega))⟩, List.Perm.refl _, by simp⟩
      have hf := fun g (hg : w1.heap.size ≤ g) => h1.fresh hg
      rcases hi with e | e | e | e
      · exact hf i (by omega)
      · exact hf i (by omega)
      · exact hf i (by omega)
      · simp [Value.ownBlock] at e
    clear h2 hb2 hT2 hQ2 hB2 H1
    go_wp2_with fail
    go_loopw [9] (fun i wr => ∃ k : Nat, k ≤ l.length ∧ i = .int .i64 k ∧ Hid (Tk.St3 w T Q B T2 Q2 B2 wr)) (fun i _ => l.length - (intOf i).toNat)
    case atStart => exact ⟨0, Nat.zero_le _, rfl, HST.out⟩
    case round =>
      clear HST
      obtain ⟨k, hk, rfl, HST⟩ := hrel
      by_cases hlt : k < l.length
      · obtain ⟨v, v2, m, m2, hD, hp, hl⟩ := HST.out
        obtain ⟨ad, rfl, hadb, hc⟩ := (LA.out.below hD.bel) (by omega)
        obtain ⟨q0, q1, q2, q3⟩ := stt_at hlt (ad.add (k * 4)) (hc k hlt)
        generalize l[k] = st at q0 q1 q2 q3
        obtain ⟨act, key, oth, t⟩ := st
        simp only [] at q0 q1 q2 q3
        have k0 : (0 : Int) ≤ (k : Int) := by omega
        have k1 : (k : Int) < l.length := by omega
        obtain ⟨W, hW⟩ : ∃ W, W = wr.alloc (.cells #[.int .i64 act, .string key, .string oth, .int .i64 t] 32) := ⟨_, rfl⟩
        have hbW : Below wr.heap.size wr W := by rw [hW]; exact (Below.refl _ _).alloc (Nat.le_refl _) _
        have hrow : W.heap[wr.heap.size]? = some (.cells #[.int .i64 act, .string key, .string oth, .int .i64 t] 32 (0, 0)) := by rw [hW]; exact heap_alloc_new wr _
        have hf1 := hD.p1.fresh (i := wr.heap.size) (Nat.le_refl _)
        have hf2 := hD.p2.fresh (i := wr.heap.size) (Nat.le_refl _)
        have HD := Lib.hid (hD.below hbW)
        have s0 : W.cell? ⟨wr.heap.size, 0, none⟩ = some (.int .i64 act) := cell_of_row _ _ 0 _ _ _ hrow
        have s1 : W.cell? ⟨wr.heap.size, 1, none⟩ = some (.string key) := cell_of_row _ _ 1 _ _ _ hrow
        have s3 : W.cell? ⟨wr.heap.size, 3, none⟩ = some (.int .i64 t) := cell_of_row _ _ 3 _ _ _ hrow
        have HPL := Lib.hid (And.intro hp hl)
        have HRO := Lib.hid (And.intro hrow (And.intro hf1 hf2))
        clear hc HST hbW hrow hf1 hf2 hD hp hl hadb
        by_cases ac : act = 0
        · subst ac
          have hbd : Below W.heap.size W W.drew := below_drewN (Below.refl _ _) 1
          have HS0 := Lib.hid (twin_set (HD.out.below hbd) HPL.out.1 HPL.out.2 key (nearT 0 t) ((hbd.block _ (Tk.ltHeap HRO.out.1)).trans HRO.out.1) HRO.out.2.1 HRO.out.2.2)
          clear hbd HRO
          go_upto_region 11 with fail
          rw [← hW]
          clear hW q0 q1 q2 q3
          generalize wr.heap.size = S at *
          have CC0 : Hid (W.cell? ⟨S, 1, none⟩ = some (.string key) ∧ W.cell? ⟨S, 3, none⟩ = some (.int .i64 t)) := ⟨s1, s3⟩
          go_wp2_with fail
          go_region_held3 (fun wx => wx.cell? ⟨S, 1, none⟩ = some (.string key) ∧ wx.cell? ⟨S, 3, none⟩ = some (.int .i64 t)) (first | with_reducible assumption | with_reducible exact CC0.out | with_reducible exact CC2.out | with_reducible exact CC3.out | exact CC0.out)
            (first
            | (go_at_call 12; refine (neart _ _ _).mono ?_; rintro e w' ⟨rfl, rfl⟩)
            | (go_at_call 11; refine HS2.out.mono ?_; rintro e wb ⟨rfl, r3, HST3⟩; have CC3 : Hid (wb.cell? ⟨S, 1, none⟩ = some (.string key) ∧ wb.cell? ⟨S, 3, none⟩ = some (.int .i64 t)) := ⟨cell_of_row _ _ 1 _ _ _ r3, cell_of_row _ _ 3 _ _ _ r3⟩)
            | (go_at_call 11; refine HS0.out.mono ?_; rintro e wa ⟨rfl, r2, HS2⟩; have CC2 : Hid (wa.cell? ⟨S, 1, none⟩ = some (.string key) ∧ wa.cell? ⟨S, 3, none⟩ = some (.int .i64 t)) := ⟨cell_of_row _ _ 1 _ _ _ r2, cell_of_row _ _ 3 _ _ _ r2⟩))
          all_goals
            simp only [Exit.then]
            go_at_K
            go_wp2_with fail
            go_roundw
            case rel => exact ⟨k + 1, by omega, by go_num, HST3.out⟩
            case measure => simp [intOf]; omega
        · have e0 : (act == 0) = false := by rw [beq_eq_false_iff_ne]; exact ac
          have HST4 : Hid (Tk.St3 w T Q B T2 Q2 B2 W) := ⟨_, _, _, _, HD.out, HPL.out⟩
          clear ac
          go_upto_region 11 with fail
          rw [← hW]
          clear hW q0 q1 q2 q3
          go_wp2_with fail
          go_roundw
          case rel => exact ⟨k + 1, by omega, by go_num, HST4.out⟩
          case measure => simp [intOf]; omega
      · have k1 : ¬ ((k : Int) < l.length) := by omega
        obtain ⟨v, v2, m, m2, hD, hp, hl⟩ := HST.out
        obtain ⟨ha0, ha1, hb0, hb1⟩ := HAB.out
        have z1 : Tk.tickC 0 (a + b) = 0 := by unfold Tk.tickC; rw [if_neg (by omega), if_neg (by omega)]
        have z2 : Tk.tickC 0 a = 0 := by unfold Tk.tickC; rw [if_neg (by omega), if_neg (by omega)]
        have HZ3 : Hid (Tk.tickC (0 + a) b = 0) := by show _ = _; unfold Tk.tickC; rw [if_neg (by omega), if_neg (by omega)]
        have HZ2 := Lib.hid z2
        have HT1 := Lib.hid (twin_tick1 hD (by rw [hp.length_eq]; omega) (by omega) (by omega) (a + b) z1)
        have HP := Lib.hid (And.intro hp hl)
        clear z1 z2 hD hp hl HST LA
        go_wp2_with fail
        refine HT1.out.mono ?_
        rintro e wa ⟨A1, n1, o1, r1, v1', rfl, hd1, hD1, mv1, lo1, la1, ln1⟩
        have HT2 := Lib.hid (twin_tick1 hD1.flip HP.out.2 (by omega) (by omega) a HZ2.out)
        have HD1 := Lib.hid hd1
        have HL1 := Lib.hid (And.intro lo1 (And.intro la1 ln1))
        clear hd1 hD1 mv1 lo1 la1 ln1 HT1
        go_wp2_with fail
        refine HT2.out.mono ?_
        rintro e wb ⟨A2, n2, o2, r2, v2', rfl, hd2, hD2, mv2, lo2, la2, ln2⟩
        have hr2 : r2.length ≤ 1024 := by
          have := hd2.perm.length_eq
          rw [List.length_append] at this
          have := HP.out.2
          omega
        have HT3 := Lib.hid (twin_tick1 hD2 hr2 (by omega) (by omega) b HZ3.out)
        have HD2 := Lib.hid hd2
        have HL1b := Lib.hid (Tk.lies_moved HL1.out.1 (fun _ ad had => (HL1.out.2.1 ad had).2.2) mv2)
        have HL2 := Lib.hid (And.intro lo2 (And.intro la2 ln2))
        clear hd2 hD2 mv2 lo2 la2 ln2 HT2 hr2
        go_wp2_with fail
        refine HT3.out.mono ?_
        rintro e wc ⟨A3, n3, o3, r3, v3', rfl, hd3, hD3, mv3, lo3, la3, ln3⟩
        have L1 := (Tk.lies_moved HL1b.out.1 HL1b.out.2 mv3).1
        have L2 := (Tk.lies_moved HL2.out.1 (fun _ ad had => (HL2.out.2.1 ad had).2.1) mv3).1
        have ecl : (0 : Int) + a + b = 0 + (a + b) := by omega
        have hdt := Tk.Due.trans HD2.out hd3 (by omega)
        rw [ecl] at hdt
        obtain ⟨eo, _⟩ := Tk.Due.one HP.out.1 HD1.out hdt
        rw [ecl] at hD3
        have hN1 : o1.length = o2.length + o3.length := by rw [eo, List.length_append]
        have ht : o1.take o2.length = o2 := by rw [eo, List.take_left]
        have hd : o1.drop o2.length = o3 := by rw [eo, List.drop_left]
        have ln1 := HL1.out.2.2
        have hmx : o1.length ≤ maxLen := by
          have := HD1.out.perm.length_eq
          rw [List.length_append] at this
          have := HP.out.2
          have := HP.out.1.length_eq
          unfold maxLen; omega
        have HSA1 : Hid (Calls Try.prog 18 #[.slice A1 o2.length n1, .slice A2 o2.length n2] wc fun e w' => e = .returned (.bool true) ∧ Below wc.heap.size wc w') := by
          have h := tsame (o1.take o2.length) o2 A1 A2 n1 n2 wc (Tk.lies_front L1 _) L2 (by rw [ht]; omega) (by omega)
          rw [ht, decide_eq_true rfl] at h
          exact h
        have HSA2 : Hid (∀ W, Below wc.heap.size wc W → Calls Try.prog 18 #[.slice (Tk.trest A1 n1 o2.length) (o1.length - o2.length) (n1 - o2.length), .slice A3 o3.length n3] W fun e w' => e = .returned (.bool true) ∧ Below W.heap.size W w') := fun W hb => by
          have h := tsame (o1.drop o2.length) o3 (Tk.trest A1 n1 o2.length) A3 (n1 - o2.length) n3 W (((Tk.lies_back L1 ln1).below hb).mono hb.size) ((lo3.below hb).mono hb.size) (by rw [hd]; omega) (by omega)
          rw [decide_eq_true hd, List.length_drop] at h
          exact h
        have HNX : Hid (∀ W, Below wc.heap.size wc W → Calls Try.prog 21 #[.pointer (some ⟨T, 0, none⟩)] W fun e w' => e = .returned (.int .i64 (0 + (a + b))) ∧ W = w') := fun W hb => tknow (hD3.p2.below hb)
        have HNY : Hid (∀ W, Below wc.heap.size wc W → Calls Try.prog 21 #[.pointer (some ⟨T2, 0, none⟩)] W fun e w' => e = .returned (.int .i64 (0 + (a + b))) ∧ W = w') := fun W hb => tknow (hD3.p1.below hb)
        have HBL : Hid (Below w.heap.size w wc) := hD3.bel
        have hs1 := fun w => Tk.tslice_front A1 o1.length n1 o2.length (by omega) w
        have hs2 := fun w => Tk.tslice_back A1 o1.length n1 o2.length (by omega) w
        obtain ⟨C, hC⟩ : ∃ C : Int, C = 0 + (a + b) := ⟨_, rfl⟩
        rw [← hC] at HNX HNY
        obtain ⟨N1, hN1'⟩ : ∃ N, N = o1.length := ⟨_, rfl⟩
        obtain ⟨N2, hN2'⟩ : ∃ N, N = o2.length := ⟨_, rfl⟩
        obtain ⟨N3, hN3'⟩ : ∃ N, N = o3.length := ⟨_, rfl⟩
        have hsum : (N2 : Int) + (N3 : Int) = (N1 : Int) := by omega
        have hN19 : (N1 : Int) ≤ 2000 := by
          have := HD1.out.perm.length_eq
          rw [List.length_append] at this
          have := HP.out.2
          have := HP.out.1.length_eq
          omega
        rw [← hN1', ← hN2'] at HSA2 hs2
        rw [← hN2'] at HSA1
        rw [← hN3'] at HSA2
        rw [← hN1', ← hN2'] at hs1
        rw [← hN1', ← hN2', ← hN3']
        clear hC hN1' hN2' hN3' hd3 hD3 mv3 lo3 la3 ln3 L1 L2 ecl hdt eo hN1 ht hd ln1 hmx HT3 HL1 HL1b HL2 HD1 HD2 HP HZ2 HZ3
        go_wp2_with fail
        refine HSA1.out.mono ?_
        rintro e wd ⟨rfl, hbd⟩
        have HBD := Lib.hid hbd
        clear hbd
        go_wp2_with fail
        refine (HSA2.out wd HBD.out).mono ?_
        rintro e we ⟨rfl, hbe⟩
        have HBE : Hid (Below wc.heap.size wc we) := HBD.out.trans (hbe.mono HBD.out.size)
        clear hbe
        go_wp2_with fail
        refine (HNX.out we HBE.out).mono ?_
        rintro e wf ⟨rfl, rfl⟩
        go_wp2_with fail
        refine (HNY.out we HBE.out).mono ?_
        rintro e wf ⟨rfl, rfl⟩
        go_wp2_with fail
        refine (alive8_any _).mono ?_
        rintro e wg ⟨rfl, hbg⟩
        have HBG : Hid (Below w.heap.size w wg) := by
          have h1 := HBL.out.trans (HBE.out.mono HBL.out.size)
          exact h1.trans (hbg.mono h1.size)
        clear hbg
        go_wp2_with fail
        go_ret
        exact ⟨rfl, HBG.out⟩

/-! ### From the walk to the statement -/
theorem own : ownKnob Try.prog.godebug = none := by kernel_rfl

set_option maxRecDepth 20000 in
theorem contract (H : Type) (enc : TypeId × Value → H) (W : World) (base : Nat) (args : Array Value) (ds gs : List (DataW H)) (before : List MemPlace)
    (hval : ∀ (j : Nat) t v, Try.f5.params[j]? = some t → args[j]? = some v → Value.okWide Try.prog W .any base t v)
    (hW : DataW.Whole enc Try.prog Try.f5.params.toList Rows.ticksSplitSpec.vars false W args.toList ds gs before) :
    Calls Try.prog 5 args W fun e W' => ∃ v, e = .returned v ∧ Rows.ticksSplitSpec.post enc Try.prog Try.f5 false true false false W args v W' := by
  have hW' := hW
  obtain ⟨p, q, hA0, hV, rfl, hfz, hnd⟩ := hW
  have hA : DataW.TrodAll enc Try.prog W 0 (fun _ => true) true Try.f5.params.toList args.toList ds p := hA0
  rw [Try.params5] at hA hval
  obtain ⟨v0, vs0, d0, ds0, p0, q0, hargs, rfl, rfl, h0, r0⟩ := trodAll_cons hA
  obtain ⟨v1, vs1, d1, ds1, p1, q1, rfl, rfl, rfl, h1, r1⟩ := trodAll_cons r0
  obtain ⟨v2, vs2, d2, ds2, p2, q2, rfl, rfl, rfl, h2, r2⟩ := trodAll_cons r1
  obtain ⟨rfl, rfl, rfl⟩ := trodAll_nil r2
  obtain rfl : args = #[v0, v1, v2] := by cases args; simp_all
  obtain ⟨rfl, rfl⟩ := trodVars_none hV
  have k0 := h0
  obtain ⟨fuel0, hf0⟩ := h0
  obtain ⟨xs0, A0, c0, hcs0, hn0, hl0, hb0⟩ := trod_stepst hf0
  obtain rfl := slice_of Try.underlying22 (hval 0 22 v0 rfl rfl) hcs0
  obtain ⟨a1, rfl, rfl, rfl, w1⟩ := open_int Try.underlying49 (hval 1 49 v1 rfl rfl) h1
  have b1 : 0 ≤ a1 ∧ a1 ≤ 65535 := by simpa [Lit.wf, IntKind.min, IntKind.max, IntKind.signed, IntKind.bits] using w1
  obtain ⟨a2, rfl, rfl, rfl, w2⟩ := open_int Try.underlying49 (hval 2 49 v2 rfl rfl) h2
  have b2 : 0 ≤ a2 ∧ a2 ≤ 65535 := by simpa [Lit.wf, IntKind.min, IntKind.max, IntKind.signed, IntKind.bits] using w2
  clear hA0
  simp only [List.append_nil] at hW'
  refine (walk W xs0 A0 c0 hl0 hn0 hb0 a1 b1.1 b1.2 a2 b2.1 b2.2).mono fun e W' ⟨he, bel⟩ => ?_
  subst he
  exact ⟨_, rfl, _, _, _, [], _, [], hW', trodAll_mk1 (shut_bool Try.underlying4 _), (trodAll_cons_mk (Below.trod laidOut (by kernel_rfl) (of_decide_eq_true (by kernel_rfl)) k0 bel (fun x hx => DataW.trod_lt _ _ _ _ hf0 x hx)) (trodAll_cons_mk (shut_int Try.underlying49 w1) (trodAll_cons_mk (shut_int Try.underlying49 w2) trodAll_mk0))), rfl, bel.frame _, fun h => by cases h⟩

set_option maxRecDepth 100000 in
theorem lifted (os : Os) (started : os.Started) (H : Type) (enc : TypeId × Value → H) :
    ReturnsInHanded {} Try.checked os 5 .any (Rows.ticksSplitSpec.pre6 enc Try.prog Try.f5 Rows.ticksSplitRow.domain false) (Rows.ticksSplitSpec.post enc Try.prog Try.f5 false true false false) := by
  refine returnsInHanded_of_change (C := Try.checked) own started (by kernel_rfl) Try.func5
    (ChangeSpec.witness6 (enc := enc) (C := Try.checked) false ⟨#[], #[.slice none 0 0, .int .u16 0, .int .u16 0], []⟩ 8 (by kernel_rfl) (by kernel_rfl) (by kernel_rfl) (by kernel_rfl)) ?_
  intro W base args ds gs before hval hW _ _
  exact contract H enc W base args ds gs before hval hW

theorem over : Rows.ticksSplitRow.holds Try.pinned (OpenSpec.ofChange Rows.ticksSplitSpec) :=
  OpenClaim.holds_of_wide 5 Try.f5 rfl rfl rfl rfl rfl rfl rfl ⟨rfl, rfl, rfl, rfl, rfl⟩ rfl rfl rfl rfl rfl (by kernel_rfl) Try.func5 (by kernel_rfl)
    (of_decide_eq_true (by kernel_rfl)) (by unfold Func.isWrapper; first | (rw [if_pos (by decide +kernel)]; kernel_rfl) | (rw [if_neg (by decide +kernel)]; exact ⟨rfl, rfl⟩))
    (fun os started H enc _ => lifted os started H enc)

/-- The statement. -/
theorem proved : Rows.TicksSplitSaid :=
  over

end Go.Proofs.Ytnojjfpccnmbeaa.ticksSplit
