/-
  Which program bytes are, or why they are none (CodeReads).
-/
import Derived.Test.YtndgafjnifkghaaRows
import Derived.Test.YtndgafjnifkghaaL10W
import Derived.Test.YtndgafjnifkghaaCrI
import Derived.ProofKit
import Derived.OpenShut
import Derived.ShutString
namespace Go.Proofs.Ytndgafjnifkghaa.codeReads
open Go.ChangeShapes Go.WideShapes Go.ChangeAt Go.RowKit
open Go.ChangeMaps (open_string shut_string)

theorem rdecode_at {V U : World} (s : ByteArray) (hs : s.size ≤ maxLen) (hU : Below V.heap.size V U) :
    Calls Try.prog 16 #[.string s] U fun e w' => ∃ (ms : List Cd.Fm) (A : Option Addr) (c : Nat), e = .returned (.tuple #[.agg #[.slice A ms.length c], .int .i64 (Cd.dec s).2]) ∧ Hid (Cd.fns ms = (Cd.dec s).1) ∧ Hid (Cd.HeldP w' A ms) ∧ Below V.heap.size V w' := by
  refine (rDecode10 s hs U).mono ?_
  rintro e w' ⟨ms, A, c, he, hm, hr, hb⟩
  have hrg : ∀ m ∈ ms, m.f.Rng := fun m hh => Cd.dec_rng s _ (by rw [← hm]; exact List.mem_map_of_mem hh)
  have hlen : ms.length ≤ maxLen := by rw [← Cd.fns_len ms, hm]; exact Cd.dec_short s
  exact ⟨ms, A, c, he, hm, ⟨hr.prog, hlen, hrg⟩, hU.trans (hb.mono hU.size)⟩

set_option maxHeartbeats 1000000 in
set_option maxRecDepth 20000 in
theorem walk (s : ByteArray) (hs : s.size ≤ maxLen) (w : World) :
    Calls Try.prog 4 #[.string s] w fun e w' => e = .returned (.bool true) ∧ Below w.heap.size w w' := by
  have hs63 : (s.size : Int) ≤ 9223372036854775807 := by unfold maxLen at hs; omega
  have HD1 := Lib.hid (decode_at s hs (Below.refl w.heap.size w))
  have HD2 : Hid (∀ U, Calls Try.prog 16 #[.string s] U fun e w' => ∃ (ms : List Cd.Fm) (A : Option Addr) (c : Nat), e = .returned (.tuple #[.agg #[.slice A ms.length c], .int .i64 (Cd.dec s).2]) ∧ Hid (Cd.fns ms = (Cd.dec s).1) ∧ Hid (Cd.HeldP w' A ms) ∧ Below U.heap.size U w') := fun U => rdecode_at s hs (Below.refl _ _)
  clear hs
  generalize (Cd.dec s).2 = g at HD1 HD2
  generalize (Cd.dec s).1 = gp at HD1 HD2
  by_cases hbig : 4096 < s.size
  · have hbi : (4096 : Int) < (s.size : Int) := by omega
    clear hbig
    go_enter Try.func4, Try.ntmps4
    go_wp2_with fail
    refine (alive10_at (Below.refl w.heap.size w)).mono ?_
    rintro e w2 ⟨rfl, hb2⟩
    have H2 := Lib.hid hb2
    clear hb2
    go_wp2_with fail
    go_ret
    exact ⟨rfl, H2.out⟩
  · have hbi : ¬ (4096 : Int) < (s.size : Int) := by omega
    clear hbig
    go_enter Try.func4, Try.ntmps4
    go_wp2_with fail
    refine HD1.out.mono ?_
    rintro e w3 ⟨ms, A1, c1, rfl, HM, HH3, hb3⟩
    obtain ⟨V3, hV3⟩ : ∃ V, V = w3.alloc (.cells #[.slice A1 ms.length c1] 24) := ⟨_, rfl⟩
    have hbV3 : Below w3.heap.size w3 V3 := by rw [hV3]; exact Cd.fn1 _ _ _
    have H3 : Hid (Below w.heap.size w V3) := hb3.trans (hbV3.mono hb3.size)
    have HF3 : Hid (V3.heap[w3.heap.size]? = some (.cells #[.slice A1 ms.length c1] 24 (0, 0))) := by show _ = _; rw [hV3]; exact heap_alloc_new w3 _
    have HH4 := Lib.hid (HH3.out.later hbV3)
    clear hb3 hbV3 HH3 HD1
    go_wp2_with fail
    rw [← hV3]
    clear hV3
    generalize w3.heap.size = X at HF3 ⊢
    refine (HD2.out V3).mono ?_
    rintro e w5 ⟨ms5, A5, c5, rfl, HM5, HH5, hb5⟩
    obtain ⟨V5, hV5⟩ : ∃ V, V = w5.alloc (.cells #[.slice A5 ms5.length c5] 24) := ⟨_, rfl⟩
    have hbV5 : Below w5.heap.size w5 V5 := by rw [hV5]; exact Cd.fn1 _ _ _
    have H35 : Hid (Below V3.heap.size V3 V5) := hb5.trans (hbV5.mono hb5.size)
    have HF5 : Hid (V5.heap[w5.heap.size]? = some (.cells #[.slice A5 ms5.length c5] 24 (0, 0))) := by show _ = _; rw [hV5]; exact heap_alloc_new w5 _
    have HSM : Hid (∀ {U : World}, Below V5.heap.size V5 U → Calls Try.prog 17 #[.agg #[.slice A1 ms.length c1], .agg #[.slice A5 ms5.length c5]] U fun e w' => e = .returned (.bool true) ∧ Below V5.heap.size V5 w') := fun {U} hU => by
      have := rsame_at (HH4.out.later H35.out) (HH5.out.later hbV5) c1 c5 hU
      rw [HM.out, HM5.out, Cd.eqFs_refl] at this
      exact this
    have H5 : Hid (Below w.heap.size w V5) := H3.out.trans (H35.out.mono H3.out.size)
    have a0 := Cd.belCell H35.out HF3.out
    have a1 := Cd.belCell (Below.refl V5.heap.size V5) HF5.out
    clear hb5 hbV5 HH4 HH5 HD2
    go_upto_region 5 with fail
    rw [← hV5]
    clear hV5
    have hgg : (g == g) = true := by simp
    go_wp2_with fail
    refine (HSM.out (Below.refl _ _)).mono ?_
    rintro e w6 ⟨rfl, hb6⟩
    have H6 := Lib.hid (H5.out.trans (hb6.mono H5.out.size))
    clear hb6 a0 a1
    go_wp2_with fail
    refine (alive10_at H6.out).mono ?_
    rintro e w7 ⟨rfl, hb7⟩
    have H7 := Lib.hid hb7
    clear hb7
    go_wp2_with fail
    go_ret
    exact ⟨rfl, H7.out⟩


/-! ### From the walk to the statement -/
theorem own : ownKnob Try.prog.godebug = none := by kernel_rfl

set_option maxRecDepth 20000 in
theorem contract (H : Type) (enc : TypeId × Value → H) (W : World) (base : Nat) (args : Array Value) (ds gs : List (DataW H)) (before : List MemPlace)
    (hval : ∀ (j : Nat) t v, Try.f4.params[j]? = some t → args[j]? = some v → Value.okWide Try.prog W .any base t v)
    (hW : DataW.Whole enc Try.prog Try.f4.params.toList Rows.codeReadsSpec.vars false W args.toList ds gs before) :
    Calls Try.prog 4 args W fun e W' => ∃ v, e = .returned v ∧ Rows.codeReadsSpec.post enc Try.prog Try.f4 false true false false W args v W' := by
  have hW' := hW
  obtain ⟨p, q, hA0, hV, rfl, hfz, hnd⟩ := hW
  have hA : DataW.TrodAll enc Try.prog W 0 (fun _ => true) true Try.f4.params.toList args.toList ds p := hA0
  rw [Try.params4] at hA hval
  obtain ⟨v0, vs0, d0, ds0, p0, q0, hargs, rfl, rfl, h0, r0⟩ := trodAll_cons hA
  obtain ⟨rfl, rfl, rfl⟩ := trodAll_nil r0
  obtain rfl : args = #[v0] := by cases args; simp_all
  obtain ⟨rfl, rfl⟩ := trodVars_none hV
  obtain ⟨a0, rfl, rfl, rfl, w0⟩ := open_string Try.underlying9 (hval 0 9 v0 rfl rfl) h0
  clear hA0
  simp only [List.append_nil] at hW'
  refine (walk a0 w0 W).mono fun e W' ⟨he, bel⟩ => ?_
  subst he
  exact ⟨_, rfl, _, _, _, [], _, [], hW', trodAll_mk1 (shut_bool Try.underlying4 _), (trodAll_cons_mk (shut_string Try.underlying9 w0) trodAll_mk0), rfl, bel.frame _, fun h => by cases h⟩

set_option maxRecDepth 100000 in
theorem lifted (os : Os) (started : os.Started) (H : Type) (enc : TypeId × Value → H) :
    ReturnsInHanded {} Try.checked os 4 .any (Rows.codeReadsSpec.pre6 enc Try.prog Try.f4 Rows.codeReadsRow.domain false) (Rows.codeReadsSpec.post enc Try.prog Try.f4 false true false false) := by
  refine returnsInHanded_of_change (C := Try.checked) own started (by kernel_rfl) Try.func4
    (ChangeSpec.witness6 (enc := enc) (C := Try.checked) false ⟨#[], #[.string ByteArray.empty], []⟩ 8 (by kernel_rfl) (by kernel_rfl) (by kernel_rfl) (by kernel_rfl)) ?_
  intro W base args ds gs before hval hW _ _
  exact contract H enc W base args ds gs before hval hW

theorem over : Rows.codeReadsRow.holds Try.pinned (OpenSpec.ofChange Rows.codeReadsSpec) :=
  OpenClaim.holds_of_wide 4 Try.f4 rfl rfl rfl rfl rfl rfl rfl ⟨rfl, rfl, rfl, rfl, rfl⟩ rfl rfl rfl rfl rfl (by kernel_rfl) Try.func4 (by kernel_rfl)
    (of_decide_eq_true (by kernel_rfl)) (by unfold Func.isWrapper; first | (rw [if_pos (by decide +kernel)]; kernel_rfl) | (rw [if_neg (by decide +kernel)]; exact ⟨rfl, rfl⟩))
    (fun os started H enc _ => lifted os started H enc)

/-- The statement. -/
theorem proved : Rows.CodeReadsSaid :=
  over

end Go.Proofs.Ytndgafjnifkghaa.codeReads
