/-
  Programs which have their form and are not the same have bytes that are not (CodeApart).
-/
import Derived.Test.YtndgafjnifkghaaRows
import Derived.Test.YtndgafjnifkghaaL10W
import Derived.ProofKit
import Derived.OpenShut
import Derived.ShutString
namespace Go.Proofs.Ytndgafjnifkghaa.codeApart
open Go.ChangeShapes Go.WideShapes Go.ChangeAt Go.RowKit
open Go.ChangeMaps (open_string shut_string)

set_option maxHeartbeats 1500000 in
set_option maxRecDepth 20000 in
theorem walk (w : World) (l : List Cd.Fm) (A : Option Addr) (c : Nat) (pl : Cd.Prog w w.heap.size A l) (nl : l.length ≤ maxLen) (rl : ∀ m ∈ l, m.f.Rng) (r : List Cd.Fm) (A2 : Option Addr) (c2 : Nat) (pr : Cd.Prog w w.heap.size A2 r) (nr : r.length ≤ maxLen) (rr : ∀ m ∈ r, m.f.Rng) :
    Calls Try.prog 8 #[.agg #[.slice A l.length c], .agg #[.slice A2 r.length c2]] w fun e w' => e = .returned (.bool true) ∧ Below w.heap.size w w' := by
  obtain ⟨V, hV⟩ : ∃ V, V = w.alloc (.cells #[.slice A l.length c] 24) := ⟨_, rfl⟩
  have hVs : V.heap.size = w.heap.size + 1 := by rw [hV]; simp
  obtain ⟨W, hW⟩ : ∃ W, W = V.alloc (.cells #[.slice A2 r.length c2] 24) := ⟨_, rfl⟩
  have hb1 : Below w.heap.size w V := by rw [hV]; exact Cd.fn1 _ _ _
  have hb2 : Below V.heap.size V W := by rw [hW]; exact Cd.fn1 _ _ _
  have hb : Below w.heap.size w W := hb1.trans (hb2.mono hb1.size)
  have hF : W.heap[w.heap.size]? = some (.cells #[.slice A l.length c] 24 (0, 0)) := by
    rw [hb2.block _ (by rw [hVs]; omega), hV]
    exact heap_alloc_new w _
  have hG : W.heap[w.heap.size + 1]? = some (.cells #[.slice A2 r.length c2] 24 (0, 0)) := by
    rw [← hVs, hW]
    exact heap_alloc_new V _
  have HH1 : Hid (Cd.HeldP W A l) := Cd.HeldP.later ⟨pl, nl, rl⟩ hb
  have HH2 : Hid (Cd.HeldP W A2 r) := Cd.HeldP.later ⟨pr, nr, rr⟩ hb
  have HB := Lib.hid hb
  have HF := Lib.hid hF
  have HG := Lib.hid hG
  have c0 : W.cell? ⟨w.heap.size, 0, none⟩ = some (.slice A l.length c) := Cd.belCell (Below.refl _ _) hF
  have c1 : W.cell? ⟨w.heap.size + 1, 0, none⟩ = some (.slice A2 r.length c2) := Cd.belCell (Below.refl _ _) hG
  have HSA : Hid (∀ {U : World}, Below W.heap.size W U → Calls Try.prog 17 #[.agg #[.slice A l.length c], .agg #[.slice A2 r.length c2]] U fun e w' => e = .returned (.bool (Cd.eqFs (Cd.fns l) (Cd.fns r))) ∧ Below W.heap.size W w') := fun hU => rsame_at HH1.out HH2.out c c2 hU
  have HE1 : Hid (∀ {U : World}, Below W.heap.size W U → Calls Try.prog 11 #[.agg #[.slice A l.length c]] U fun e w' => e = .returned (.tuple #[.string ⟨(Cd.enc (Cd.fns l)).1.toArray⟩, .int .i64 (Cd.enc (Cd.fns l)).2]) ∧ Below W.heap.size W w') := fun hU => encode_at HH1.out c hU
  have HE2 : Hid (∀ {U : World}, Below W.heap.size W U → Calls Try.prog 11 #[.agg #[.slice A2 r.length c2]] U fun e w' => e = .returned (.tuple #[.string ⟨(Cd.enc (Cd.fns r)).1.toArray⟩, .int .i64 (Cd.enc (Cd.fns r)).2]) ∧ Below W.heap.size W w') := fun hU => encode_at HH2.out c2 hU
  have HEQ : Hid ((Cd.enc (Cd.fns l)).2 = 0 → (Cd.enc (Cd.fns r)).2 = 0 → (((⟨(Cd.enc (Cd.fns l)).1.toArray⟩ : ByteArray).toList == (⟨(Cd.enc (Cd.fns r)).1.toArray⟩ : ByteArray).toList) = Cd.eqFs (Cd.fns l) (Cd.fns r))) := fun h1 h2 => by
    obtain ⟨k1, e1, _⟩ := Cd.enc_ok h1
    obtain ⟨k2, e2, _⟩ := Cd.enc_ok h2
    rw [e1, e2, Lib.toList_data, Lib.toList_data, Bool.eq_iff_iff, beq_iff_eq, Cd.eqFs_iff]
    exact ⟨fun h => Cd.pbs_inj k1 k2 (Cd.fns_rng rl) (Cd.fns_rng rr) h, fun h => by rw [h]⟩
  generalize Cd.eqFs (Cd.fns l) (Cd.fns r) = q at HSA HEQ
  generalize (⟨(Cd.enc (Cd.fns l)).1.toArray⟩ : ByteArray) = S at HE1 HEQ
  generalize (⟨(Cd.enc (Cd.fns r)).1.toArray⟩ : ByteArray) = T at HE2 HEQ
  generalize (Cd.enc (Cd.fns l)).2 = s1 at HE1 HEQ
  generalize (Cd.enc (Cd.fns r)).2 = s2 at HE2 HEQ
  clear pl nl rl pr nr rr hVs hb1 hb2 hb hF hG
  go_enter Try.func8, Try.ntmps8
  go_upto_region 1 with fail
  rw [← hV, ← hW]
  clear hV hW
  clear V
  go_wp2_with fail
  refine (heavy_at HH1.out c (Below.refl _ _)).mono ?_
  rintro e w1 ⟨b1, rfl, _, hb1⟩
  have H1 := Lib.hid hb1
  have d1 := Cd.belCell hb1 HG.out
  have a0 := Cd.belCell hb1 HF.out
  clear hb1 c0 c1
  cases b1 with
  | true =>
    go_wp2_with fail
    refine (alive10_at H1.out).mono ?_
    rintro e w2 ⟨rfl, hb2⟩
    have H2 := Lib.hid hb2
    clear hb2
    go_wp2_with fail
    go_ret
    exact ⟨rfl, HB.out.trans (H2.out.mono HB.out.size)⟩
  | false =>
    go_wp2_with fail
    refine (heavy_at HH2.out c2 H1.out).mono ?_
    rintro e w2 ⟨b2, rfl, _, hb2⟩
    have H2 := Lib.hid hb2
    have a0 := Cd.belCell hb2 HF.out
    clear hb2 d1
    cases b2 with
    | true =>
      go_wp2_with fail
      refine (alive10_at H2.out).mono ?_
      rintro e w3 ⟨rfl, hb3⟩
      have H3 := Lib.hid hb3
      clear hb3
      go_wp2_with fail
      go_ret
      exact ⟨rfl, HB.out.trans (H3.out.mono HB.out.size)⟩
    | false =>
      go_wp2_with fail
      refine (HE1.out H2.out).mono ?_
      rintro e w3 ⟨rfl, hb3⟩
      have H3 := Lib.hid hb3
      have d1 := Cd.belCell hb3 HG.out
      clear hb3 a0
      go_wp2_with fail
      refine (HE2.out H3.out).mono ?_
      rintro e w4 ⟨rfl, hb4⟩
      have H4 := Lib.hid hb4
      have d0 := Cd.belCell hb4 HF.out
      have d1 := Cd.belCell hb4 HG.out
      clear hb4
      by_cases h1 : s1 = 0
      · subst h1
        by_cases h2 : s2 = 0
        · subst h2
          have hq := HEQ.out rfl rfl
          go_upto_region 7 with fail
          cases q with
          | true =>
            go_wp2_with (first
              | (refine (HSA.out H4.out).mono ?_
                 rintro e w5 ⟨rfl, hb5⟩
                 have H5 := Lib.hid hb5
                 clear hb5)
              | (refine (alive10_at H5.out).mono ?_
                 rintro e w6 ⟨rfl, hb6⟩
                 have H6 := Lib.hid hb6
                 clear hb6))
            go_ret
            exact ⟨rfl, HB.out.trans (H6.out.mono HB.out.size)⟩
          | false =>
            go_wp2_with (first
              | (refine (HSA.out H4.out).mono ?_
                 rintro e w5 ⟨rfl, hb5⟩
                 have H5 := Lib.hid hb5
                 clear hb5)
              | (refine (alive10_at H5.out).mono ?_
                 rintro e w6 ⟨rfl, hb6⟩
                 have H6 := Lib.hid hb6
                 clear hb6))
            go_ret
            exact ⟨rfl, HB.out.trans (H6.out.mono HB.out.size)⟩
        · have h2b : (s2 != 0) = true := by simpa using h2
          clear h2
          go_wp2_with fail
          refine (alive10_at H4.out).mono ?_
          rintro e w5 ⟨rfl, hb5⟩
          have H5 := Lib.hid hb5
          clear hb5
          go_wp2_with fail
          go_ret
          exact ⟨rfl, HB.out.trans (H5.out.mono HB.out.size)⟩
      · have h1b : (s1 != 0) = true := by simpa using h1
        clear h1
        go_wp2_with fail
        refine (alive10_at H4.out).mono ?_
        rintro e w5 ⟨rfl, hb5⟩
        have H5 := Lib.hid hb5
        clear hb5
        go_wp2_with fail
        go_ret
        exact ⟨rfl, HB.out.trans (H5.out.mono HB.out.size)⟩


/-! ### From the walk to the statement -/
theorem own : ownKnob Try.prog.godebug = none := by kernel_rfl

set_option maxRecDepth 20000 in
theorem contract (H : Type) (enc : TypeId × Value → H) (W : World) (base : Nat) (args : Array Value) (ds gs : List (DataW H)) (before : List MemPlace)
    (hval : ∀ (j : Nat) t v, Try.f8.params[j]? = some t → args[j]? = some v → Value.okWide Try.prog W .any base t v)
    (hW : DataW.Whole enc Try.prog Try.f8.params.toList Rows.codeApartSpec.vars false W args.toList ds gs before) :
    Calls Try.prog 8 args W fun e W' => ∃ v, e = .returned v ∧ Rows.codeApartSpec.post enc Try.prog Try.f8 false true false false W args v W' := by
  have hW' := hW
  obtain ⟨p, q, hA0, hV, rfl, hfz, hnd⟩ := hW
  have hA : DataW.TrodAll enc Try.prog W 0 (fun _ => true) true Try.f8.params.toList args.toList ds p := hA0
  rw [Try.params8] at hA hval
  obtain ⟨v0, vs0, d0, ds0, p0, q0, hargs, rfl, rfl, h0, r0⟩ := trodAll_cons hA
  obtain ⟨v1, vs1, d1, ds1, p1, q1, rfl, rfl, rfl, h1, r1⟩ := trodAll_cons r0
  obtain ⟨rfl, rfl, rfl⟩ := trodAll_nil r1
  obtain rfl : args = #[v0, v1] := by cases args; simp_all
  obtain ⟨rfl, rfl⟩ := trodVars_none hV
  have k0 := h0
  obtain ⟨fuel0, hf0⟩ := h0
  obtain ⟨xs0, A0, c0, hcs0, hn0, hl0, hb0⟩ := trod_prog10 hf0
  obtain rfl := prog_of10 (hval 0 24 v0 rfl rfl) hcs0
  have k1 := h1
  obtain ⟨fuel1, hf1⟩ := h1
  obtain ⟨xs1, A1, c1, hcs1, hn1, hl1, hb1⟩ := trod_prog10 hf1
  obtain rfl := prog_of10 (hval 1 24 v1 rfl rfl) hcs1
  clear hA0
  simp only [List.append_nil] at hW'
  refine (walk W xs0 A0 c0 hl0 hn0 hb0 xs1 A1 c1 hl1 hn1 hb1).mono fun e W' ⟨he, bel⟩ => ?_
  subst he
  exact ⟨_, rfl, _, _, _, [], _, [], hW', trodAll_mk1 (shut_bool Try.underlying4 _), (trodAll_cons_mk (Below.trod laidOut (by kernel_rfl) (of_decide_eq_true (by kernel_rfl)) k0 bel (fun x hx => DataW.trod_lt _ _ _ _ hf0 x hx)) (trodAll_cons_mk (Below.trod laidOut (by kernel_rfl) (of_decide_eq_true (by kernel_rfl)) k1 bel (fun x hx => DataW.trod_lt _ _ _ _ hf1 x hx)) trodAll_mk0)), rfl, bel.frame _, fun h => by cases h⟩

set_option maxRecDepth 100000 in
theorem lifted (os : Os) (started : os.Started) (H : Type) (enc : TypeId × Value → H) :
    ReturnsInHanded {} Try.checked os 8 .any (Rows.codeApartSpec.pre6 enc Try.prog Try.f8 Rows.codeApartRow.domain false) (Rows.codeApartSpec.post enc Try.prog Try.f8 false true false false) := by
  refine returnsInHanded_of_change (C := Try.checked) own started (by kernel_rfl) Try.func8
    (ChangeSpec.witness6 (enc := enc) (C := Try.checked) false ⟨#[], #[.agg #[.slice none 0 0], .agg #[.slice none 0 0]], []⟩ 8 (by kernel_rfl) (by kernel_rfl) (by kernel_rfl) (by kernel_rfl)) ?_
  intro W base args ds gs before hval hW _ _
  exact contract H enc W base args ds gs before hval hW

theorem over : Rows.codeApartRow.holds Try.pinned (OpenSpec.ofChange Rows.codeApartSpec) :=
  OpenClaim.holds_of_wide 8 Try.f8 rfl rfl rfl rfl rfl rfl rfl ⟨rfl, rfl, rfl, rfl, rfl⟩ rfl rfl rfl rfl rfl (by kernel_rfl) Try.func8 (by kernel_rfl)
    (of_decide_eq_true (by kernel_rfl)) (by unfold Func.isWrapper; first | (rw [if_pos (by decide +kernel)]; kernel_rfl) | (rw [if_neg (by decide +kernel)]; exact ⟨rfl, rfl⟩))
    (fun os started H enc _ => lifted os started H enc)

/-- The statement. -/
theorem proved : Rows.CodeApartSaid :=
  over

end Go.Proofs.Ytndgafjnifkghaa.codeApart
