/-
  What was written is read as itself; bytes that are read are written as themselves; with more behind they are none (CodeBack).
-/
import Derived.Test.YtndgafjnifkghaaRows
import Derived.Test.YtndgafjnifkghaaL10W
import Derived.Test.YtndgafjnifkghaaWireF
import Derived.ProofKit
import Derived.OpenShut
import Derived.ShutString
namespace Go.Proofs.Ytndgafjnifkghaa.codeBack
open Go.ChangeShapes Go.WideShapes Go.ChangeAt Go.RowKit
open Go.ChangeMaps (open_string shut_string)

theorem size0 (S Z : ByteArray) (hZ : Z = ⟨#[0]⟩) (h : S.size ≤ 16384) : (S ++ Z).size ≤ maxLen := by
  have e : Z.size = 1 := by rw [hZ]; rfl
  have : (S ++ Z).size = S.size + Z.size := ByteArray.size_append
  unfold maxLen
  omega

set_option maxHeartbeats 1000000 in
set_option maxRecDepth 20000 in
theorem walk (w : World) (l : List Cd.Fm) (A : Option Addr) (c : Nat) (pl : Cd.Prog w w.heap.size A l) (nl : l.length ≤ maxLen) (rl : ∀ m ∈ l, m.f.Rng) (s : ByteArray) (hs : s.size ≤ maxLen) :
    Calls Try.prog 7 #[.agg #[.slice A l.length c], .string s] w fun e w' => e = .returned (.bool true) ∧ Below w.heap.size w w' := by
  obtain ⟨W, hW⟩ : ∃ W, W = w.alloc (.cells #[.slice A l.length c] 24) := ⟨_, rfl⟩
  have hb : Below w.heap.size w W := by rw [hW]; exact Cd.fn1 _ _ _
  have hF : W.heap[w.heap.size]? = some (.cells #[.slice A l.length c] 24 (0, 0)) := by rw [hW]; exact heap_alloc_new w _
  have HH1 : Hid (Cd.HeldP W A l) := Cd.HeldP.later ⟨pl, nl, rl⟩ hb
  have HB := Lib.hid hb
  have HF := Lib.hid hF
  have c0 : W.cell? ⟨w.heap.size, 0, none⟩ = some (.slice A l.length c) := Cd.belCell (Below.refl _ _) hF
  have HSM := Lib.hid hs
  have hs63 : (s.size : Int) ≤ 9223372036854775807 := by unfold maxLen at hs; omega
  clear pl nl rl hb hF hs
  go_enter Try.func7, Try.ntmps7
  go_upto_region 1 with fail
  rw [← hW]
  clear hW
  go_wp2_with fail
  refine (heavy_at HH1.out c (Below.refl _ _)).mono ?_
  rintro e w1 ⟨b1, rfl, _, hb1⟩
  have H1 := Lib.hid hb1
  have a0 := Cd.belCell hb1 HF.out
  clear hb1 c0
  by_cases hbad : b1 = true ∨ 4096 < s.size
  · cases b1 with
    | true =>
      go_wp2_with fail
      refine (alive10_at H1.out).mono ?_
      rintro e w2 ⟨rfl, hb2⟩
      have H2 := Lib.hid hb2
      clear hb2
      go_wp2_with fail
      go_ret
      exact ⟨rfl, HB.out.trans (H2.out.mono HB.out.size)⟩
    | false =>
      have hq : 4096 < s.size := by simpa using hbad
      have hg : decide ((4096 : Int) < (s.size : Int)) = true := by simpa using (by omega : (4096 : Int) < (s.size : Int))
      have hg2 : decide (4096 < s.size) = true := by simpa using hq
      clear hbad hq
      go_wp2_with fail
      refine (alive10_at H1.out).mono ?_
      rintro e w2 ⟨rfl, hb2⟩
      have H2 := Lib.hid hb2
      clear hb2
      go_wp2_with fail
      go_ret
      exact ⟨rfl, HB.out.trans (H2.out.mono HB.out.size)⟩
  · obtain rfl : b1 = false := by cases b1 <;> simp_all
    have hq : ¬ 4096 < s.size := by simpa using hbad
    have hg : decide ((4096 : Int) < (s.size : Int)) = false := by simpa using (by omega : ¬ (4096 : Int) < (s.size : Int))
    have hg2 : decide (4096 < s.size) = false := by simpa using hq
    have HQ := Lib.hid hq
    clear hbad hq
    have HE1 : Hid (∀ {U : World}, Below W.heap.size W U → Calls Try.prog 11 #[.agg #[.slice A l.length c]] U fun e w' => e = .returned (.tuple #[.string ⟨(Cd.enc (Cd.fns l)).1.toArray⟩, .int .i64 (Cd.enc (Cd.fns l)).2]) ∧ Below W.heap.size W w') := fun hU => encode_at HH1.out c hU
    have HP : Hid ((Cd.enc (Cd.fns l)).2 = 0 → (Cd.dec ⟨(Cd.enc (Cd.fns l)).1.toArray⟩).2 = 0 ∧ (Cd.dec ⟨(Cd.enc (Cd.fns l)).1.toArray⟩).1 = Cd.fns l ∧ (⟨(Cd.enc (Cd.fns l)).1.toArray⟩ : ByteArray).size ≤ 16384 ∧
        ((⟨(Cd.enc (Cd.fns l)).1.toArray⟩ : ByteArray).size < 16384 → (Cd.dec ((⟨(Cd.enc (Cd.fns l)).1.toArray⟩ : ByteArray) ++ ⟨#[0]⟩)).2 = 8)) := fun h => by
      have hd := Cd.dec_enc (Cd.fns_rng HH1.out.r) h
      obtain ⟨_, h2, h3⟩ := Cd.enc_ok h
      refine ⟨by rw [hd], by rw [hd], ?_, fun h4 => ?_⟩
      · show (Cd.enc (Cd.fns l)).1.toArray.size ≤ 16384
        rw [h2]
        simpa using h3
      · have h5 : (Cd.enc (Cd.fns l)).1.length < 16384 := by
          have : (Cd.enc (Cd.fns l)).1.toArray.size < 16384 := h4
          simpa using this
        have := Cd.dec_more (Cd.fns_rng HH1.out.r) h h5
        have e : (⟨(Cd.enc (Cd.fns l)).1.toArray⟩ : ByteArray) ++ ⟨#[0]⟩ = ⟨((Cd.enc (Cd.fns l)).1 ++ [0]).toArray⟩ := mk_append _ [0]
        rw [e]
        exact this
    generalize (⟨(Cd.enc (Cd.fns l)).1.toArray⟩ : ByteArray) = S at HE1 HP
    generalize (Cd.enc (Cd.fns l)).2 = s1 at HE1 HP
    go_wp2_with fail
    refine (HE1.out H1.out).mono ?_
    rintro e w2 ⟨rfl, hb2⟩
    have H2 := Lib.hid hb2
    have a0 := Cd.belCell hb2 HF.out
    clear hb2 HE1
    go_upto_if 28 with fail
    go_cut [] (fun wx => Hid (Below W.heap.size W wx))
    case first =>
      by_cases h1 : s1 = 0
      · subst h1
        obtain ⟨k1, k2, k3, k4⟩ := HP.out rfl
        have HSZ := Lib.hid k3
        have hsz : (S.size : Int) ≤ 16384 := by omega
        have HK := Lib.hid k4
        have HC1 : Hid (∀ {U : World}, Below W.heap.size W U → Calls Try.prog 15 #[.string S] U fun e w' => ∃ (ms : List Cd.Fm) (A : Option Addr) (c : Nat), e = .returned (.tuple #[.agg #[.slice A ms.length c], .int .i64 0]) ∧ Hid (Cd.fns ms = Cd.fns l) ∧ Hid (Cd.HeldP w' A ms) ∧ Below W.heap.size W w') := fun {U} hU => by
          have := decode_at S (by unfold maxLen; omega) hU
          rw [k1, k2] at this
          exact this
        obtain ⟨Z, hZ⟩ : ∃ Z : ByteArray, Z = ⟨#[0]⟩ := ⟨_, rfl⟩
        rw [← hZ] at HK
        have HC2 : Hid (∀ {V U : World}, Below V.heap.size V U → Calls Try.prog 15 #[.string (S ++ Z)] U fun e w' => ∃ (ms : List Cd.Fm) (A : Option Addr) (c : Nat), e = .returned (.tuple #[.agg #[.slice A ms.length c], .int .i64 (Cd.dec (S ++ Z)).2]) ∧ Hid (Cd.fns ms = (Cd.dec (S ++ Z)).1) ∧ Hid (Cd.HeldP w' A ms) ∧ Below V.heap.size V w') := fun {V U} hU => decode_at (S ++ Z) (size0 S Z hZ HSZ.out) hU
        generalize (Cd.dec (S ++ Z)).2 = g at HC2 HK
        generalize (Cd.dec (S ++ Z)).1 = gp at HC2
        subst hZ
        clear k1 k2 k3 k4 HP
        go_wp2_with fail
        refine (HC1.out H2.out).mono ?_
        rintro e w3 ⟨ms, A1, c1, rfl, HM, HH3, hb3⟩
        obtain ⟨V3, hV3⟩ : ∃ V, V = w3.alloc (.cells #[.slice A1 ms.length c1] 24) := ⟨_, rfl⟩
        have hbV3 : Below w3.heap.size w3 V3 := by rw [hV3]; exact Cd.fn1 _ _ _
        have H3 := Lib.hid (hb3.trans (hbV3.mono hb3.size))
        have HF3 : Hid (V3.heap[w3.heap.size]? = some (.cells #[.slice A1 ms.length c1] 24 (0, 0))) := by show _ = _; rw [hV3]; exact heap_alloc_new w3 _
        have HH4 := Lib.hid (HH3.out.later hbV3)
        clear hb3 hbV3 HH3 a0
        go_wp2_with fail
        rw [← hV3]
        clear hV3
        generalize w3.heap.size = X at HF3 ⊢
        refine (HC2.out (Below.refl _ V3)).mono ?_
        rintro e w5 ⟨ms5, A5, c5, rfl, _, _, hb5⟩
        obtain ⟨V5, hV5⟩ : ∃ V, V = w5.alloc (.cells #[.slice A5 ms5.length c5] 24) := ⟨_, rfl⟩
        have hbV5 : Below w5.heap.size w5 V5 := by rw [hV5]; exact Cd.fn1 _ _ _
        have H35 := Lib.hid (hb5.trans (hbV5.mono hb5.size))
        have H5 := Lib.hid (H3.out.trans (H35.out.mono H3.out.size))
        have HSM2 : Hid (∀ {U : World}, Below V5.heap.size V5 U → Calls Try.prog 17 #[.agg #[.slice A l.length c], .agg #[.slice A1 ms.length c1]] U fun e w' => e = .returned (.bool true) ∧ Below V5.heap.size V5 w') := fun {U} hU => by
          have := rsame_at (HH1.out.later H5.out) (HH4.out.later H35.out) c c1 hU
          rw [HM.out, Cd.eqFs_refl] at this
          exact this
        have a0 := Cd.belCell H5.out HF.out
        have a1 := Cd.belCell H35.out HF3.out
        clear hb5 hbV5 H35 HH4 HC1 HC2
        go_upto_region 7 with fail
        rw [← hV5]
        clear hV5
        go_wp2_with fail
        refine (HSM2.out (Below.refl _ _)).mono ?_
        rintro e w6 ⟨rfl, hb6⟩
        have H6 := Lib.hid (H5.out.trans (hb6.mono H5.out.size))
        clear hb6 a0 a1 HSM2
        by_cases h8 : g = 8
        · subst h8
          go_wp2_with fail
          go_meet
          exact H6
        · have hlt : decide ((S.size : Int) < 16384) = false := by
            have := mt HK.out h8
            simpa using (by omega : ¬ (S.size : Int) < 16384)
          have hlt2 : decide (S.size < 16384) = false := by simpa using mt HK.out h8
          have hg8 : (g != 8) = true := by simpa using h8
          clear h8
          go_wp2_with fail
          go_meet
          exact H6
      · have h1b : (s1 == 0) = false := by simpa using h1
        clear h1 HP
        go_wp2_with fail
        go_meet
        exact H2
    case rest =>
      rename_i wc hcut
      clear HP H1 H2 a0
      have HC3 := Lib.hid (decode_at s HSM.out (Below.refl _ wc))
      have HPE : Hid ((Cd.dec s).2 = 0 → Cd.enc (Cd.dec s).1 = (s.data.toList, 0) ∧ Cd.pok (Cd.dec s).1 = true) := fun h => ⟨Cd.enc_dec h, (Cd.took_dec h).1⟩
      generalize (Cd.dec s).2 = g at HC3 HPE
      generalize (Cd.dec s).1 = gp at HC3 HPE
      go_wp2_with fail
      refine HC3.out.mono ?_
      rintro e w3 ⟨ms, A1, c1, rfl, HM, HH3, hb3⟩
      obtain ⟨V3, hV3⟩ : ∃ V, V = w3.alloc (.cells #[.slice A1 ms.length c1] 24) := ⟨_, rfl⟩
      have hbV3 : Below w3.heap.size w3 V3 := by rw [hV3]; exact Cd.fn1 _ _ _
      have H3 : Hid (Below W.heap.size W V3) := by
        have h1 := hb3.trans (hbV3.mono hb3.size)
        exact hcut.out.trans (h1.mono hcut.out.size)
      have HF3 : Hid (V3.heap[w3.heap.size]? = some (.cells #[.slice A1 ms.length c1] 24 (0, 0))) := by show _ = _; rw [hV3]; exact heap_alloc_new w3 _
      have HH4 := Lib.hid (HH3.out.later hbV3)
      clear hb3 hbV3 HH3 HC3
      go_upto_region 10 with fail
      rw [← hV3]
      clear hV3
      generalize w3.heap.size = X at HF3 ⊢
      by_cases h0 : g = 0
      · subst h0
        have HEN : Hid (∀ {U : World}, Below V3.heap.size V3 U → Calls Try.prog 11 #[.agg #[.slice A1 ms.length c1]] U fun e w' => e = .returned (.tuple #[.string s, .int .i64 0]) ∧ Below V3.heap.size V3 w') := fun {U} hU => by
          have := encode_at HH4.out c1 hU
          rw [HM.out, (HPE.out rfl).1] at this
          exact this
        have HMY : Hid (∀ {U : World}, Below V3.heap.size V3 U → Calls Try.prog 13 #[.agg #[.slice A1 ms.length c1]] U fun e w' => e = .returned (.bool true) ∧ Below V3.heap.size V3 w') := fun {U} hU => by
          have := may_at HH4.out c1 hU
          rw [HM.out, (HPE.out rfl).2] at this
          exact this
        have a0 := Cd.belCell (Below.refl _ _) HF3.out
        go_wp2_with fail
        refine (HEN.out (Below.refl _ _)).mono ?_
        rintro e w4 ⟨rfl, hb4⟩
        have H4 := Lib.hid hb4
        have a0 := Cd.belCell hb4 HF3.out
        clear hb4
        go_wp2_with fail
        refine (HMY.out H4.out).mono ?_
        rintro e w5 ⟨rfl, hb5⟩
        have H5 := Lib.hid (H3.out.trans (hb5.mono H3.out.size))
        clear hb5
        go_wp2_with fail
        refine (alive10_at H5.out).mono ?_
        rintro e w6 ⟨rfl, hb6⟩
        have H6 := Lib.hid (HB.out.trans (hb6.mono HB.out.size))
        clear hb6
        go_wp2_with fail
        go_ret
        exact ⟨rfl, H6.out⟩
      · have h0b : (g == 0) = false := by simpa using h0
        clear h0 HPE
        go_wp2_with fail
        refine (alive10_at H3.out).mono ?_
        rintro e w6 ⟨rfl, hb6⟩
        have H6 := Lib.hid (HB.out.trans (hb6.mono HB.out.size))
        clear hb6
        go_wp2_with fail
        go_ret
        exact ⟨rfl, H6.out⟩


/-! ### From the walk to the statement -/
theorem own : ownKnob Try.prog.godebug = none := by kernel_rfl

set_option maxRecDepth 20000 in
theorem contract (H : Type) (enc : TypeId × Value → H) (W : World) (base : Nat) (args : Array Value) (ds gs : List (DataW H)) (before : List MemPlace)
    (hval : ∀ (j : Nat) t v, Try.f7.params[j]? = some t → args[j]? = some v → Value.okWide Try.prog W .any base t v)
    (hW : DataW.Whole enc Try.prog Try.f7.params.toList Rows.codeBackSpec.vars false W args.toList ds gs before) :
    Calls Try.prog 7 args W fun e W' => ∃ v, e = .returned v ∧ Rows.codeBackSpec.post enc Try.prog Try.f7 false true false false W args v W' := by
  have hW' := hW
  obtain ⟨p, q, hA0, hV, rfl, hfz, hnd⟩ := hW
  have hA : DataW.TrodAll enc Try.prog W 0 (fun _ => true) true Try.f7.params.toList args.toList ds p := hA0
  rw [Try.params7] at hA hval
  obtain ⟨v0, vs0, d0, ds0, p0, q0, hargs, rfl, rfl, h0, r0⟩ := trodAll_cons hA
  obtain ⟨v1, vs1, d1, ds1, p1, q1, rfl, rfl, rfl, h1, r1⟩ := trodAll_cons r0
  obtain ⟨rfl, rfl, rfl⟩ := trodAll_nil r1
  obtain rfl : args = #[v0, v1] := by cases args; simp_all
  obtain ⟨rfl, rfl⟩ := trodVars_none hV
  have k0 := h0
  obtain ⟨fuel0, hf0⟩ := h0
  obtain ⟨xs0, A0, c0, hcs0, hn0, hl0, hb0⟩ := trod_prog10 hf0
  obtain rfl := prog_of10 (hval 0 24 v0 rfl rfl) hcs0
  obtain ⟨a1, rfl, rfl, rfl, w1⟩ := open_string Try.underlying9 (hval 1 9 v1 rfl rfl) h1
  clear hA0
  simp only [List.append_nil] at hW'
  refine (walk W xs0 A0 c0 hl0 hn0 hb0 a1 w1).mono fun e W' ⟨he, bel⟩ => ?_
  subst he
  exact ⟨_, rfl, _, _, _, [], _, [], hW', trodAll_mk1 (shut_bool Try.underlying4 _), (trodAll_cons_mk (Below.trod laidOut (by kernel_rfl) (of_decide_eq_true (by kernel_rfl)) k0 bel (fun x hx => DataW.trod_lt _ _ _ _ hf0 x hx)) (trodAll_cons_mk (shut_string Try.underlying9 w1) trodAll_mk0)), rfl, bel.frame _, fun h => by cases h⟩

set_option maxRecDepth 100000 in
theorem lifted (os : Os) (started : os.Started) (H : Type) (enc : TypeId × Value → H) :
    ReturnsInHanded {} Try.checked os 7 .any (Rows.codeBackSpec.pre6 enc Try.prog Try.f7 Rows.codeBackRow.domain false) (Rows.codeBackSpec.post enc Try.prog Try.f7 false true false false) := by
  refine returnsInHanded_of_change (C := Try.checked) own started (by kernel_rfl) Try.func7
    (ChangeSpec.witness6 (enc := enc) (C := Try.checked) false ⟨#[], #[.agg #[.slice none 0 0], .string ByteArray.empty], []⟩ 8 (by kernel_rfl) (by kernel_rfl) (by kernel_rfl) (by kernel_rfl)) ?_
  intro W base args ds gs before hval hW _ _
  exact contract H enc W base args ds gs before hval hW

theorem over : Rows.codeBackRow.holds Try.pinned (OpenSpec.ofChange Rows.codeBackSpec) :=
  OpenClaim.holds_of_wide 7 Try.f7 rfl rfl rfl rfl rfl rfl rfl ⟨rfl, rfl, rfl, rfl, rfl⟩ rfl rfl rfl rfl rfl (by kernel_rfl) Try.func7 (by kernel_rfl)
    (of_decide_eq_true (by kernel_rfl)) (by unfold Func.isWrapper; first | (rw [if_pos (by decide +kernel)]; kernel_rfl) | (rw [if_neg (by decide +kernel)]; exact ⟨rfl, rfl⟩))
    (fun os started H enc _ => lifted os started H enc)

/-- The statement. -/
theorem proved : Rows.CodeBackSaid :=
  over

end Go.Proofs.Ytndgafjnifkghaa.codeBack
