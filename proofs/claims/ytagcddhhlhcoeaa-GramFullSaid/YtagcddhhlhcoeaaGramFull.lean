/-
  A net that is full (GramFull).
-/
import Derived.Test.YtagcddhhlhcoeaaRows
import Derived.Test.YtagcddhhlhcoeaaPkJ
import Derived.Test.YtagcddhhlhcoeaaL09A
import Derived.ProofKit
import Derived.OpenShut
import Derived.ShutString
namespace Go.Proofs.Ytagcddhhlhcoeaa.gramFull
open Go.ChangeShapes Go.WideShapes Go.ChangeAt Go.RowKit
open Go.ChangeMaps (open_string shut_string)

set_option maxHeartbeats 1000000 in
set_option maxRecDepth 20000 in
theorem walk (k : Int) (k0 : 0 ≤ k) (k1 : k ≤ 65535) (w : World) :
    Calls Try.prog 5 #[.int .u16 k] w fun e w' => e = .returned (.bool true) ∧ Below w.heap.size w w' := by
  have HNW := Lib.hid (glw_new w)
  obtain ⟨t, ht⟩ : ∃ t : Nat, (t : Int) = k % 60 := ⟨(k % 60).toNat, by omega⟩
  have t9 : t ≤ 59 := by omega
  have zt : k.tmod 60 = (t : Int) := by rw [Int.tmod_eq_emod_of_nonneg k0]; exact ht.symm
  have hmk := fun n (hn : n ≤ 10000) => run_make_row' (P := Try.prog) 33 3 (.int .i64 0) 8 Try.underlying33 Gm.int_info rfl .i64 .i64 n (by omega) (by omega)
  have hm64 : ∀ w : World, (Instr.makeSlice 33 (.int .i64 64) (.int .i64 64)).run Try.prog w = .ok (.slice (some ⟨w.heap.size, 0, none⟩) 64 64) (w.alloc (.cells (madeCells #[.int .i64 0] 64) 3)) := fun w => hmk 64 (by omega) w
  have HMK := Lib.hid hmk
  clear ht hmk
  go_enter Try.func5, Try.ntmps5
  go_wp2_with fail
  refine HNW.out.mono ?_
  rintro e w1 ⟨R, B, C, rfl, h1⟩
  have H1 : Hid (Gm.Fl w R B C 0 0 w1) := ⟨[], h1, rfl, fun k hk hk2 => by omega⟩
  obtain ⟨W1, hW1⟩ : ∃ W, W = w1.alloc (.cells (madeCells #[.int .i64 0] 64) 3) := ⟨_, rfl⟩
  have hbW : Below w1.heap.size w1 W1 := by rw [hW1]; exact (Below.refl _ _).alloc (Nat.le_refl _) _
  have HF1 : Hid (Gm.Fl w R B C 0 0 W1 ∧ Lies W1 W1.heap.size (some ⟨w1.heap.size, 0, none⟩) (icells (List.replicate 64 0)) ∧ Gm.POff R B C w1.heap.size) := ⟨H1.out.below hbW, by rw [hW1]; exact Gm.made_lies 64 w1, H1.out.fresh (Nat.le_refl _)⟩
  obtain ⟨X, hX⟩ : ∃ X, X = w1.heap.size := ⟨_, rfl⟩
  rw [← hX] at HF1
  have HX := Lib.hid hX
  clear h1 HNW hbW H1 hX
  go_wp2_with fail
  rw [← hW1, ← HX.out]
  clear hW1 HX hm64
  go_loopw [5] (fun vi wr => ∃ i : Nat, vi = .int .i64 (i : Int) ∧ i ≤ 64 ∧ Hid (Gm.Fl w R B C 0 (64 * i) wr ∧ Lies wr wr.heap.size (some ⟨X, 0, none⟩) (icells (List.replicate 64 0)) ∧ Gm.POff R B C X)) (fun vi _ => 64 - (intOf vi).toNat)
  case atStart => exact ⟨0, rfl, by omega, HF1.out⟩
  case round =>
    clear HF1
    obtain ⟨i, rfl, hi, HF⟩ := hrel
    by_cases hlt : i < 64
    · have k2 : (i : Int) < 64 := by omega
      have HC : Hid (Calls Try.prog 11 #[.pointer (some ⟨R, 0, none⟩), .int .i64 1, .string Gm.gX, .slice (some ⟨X, 0, none⟩) 64 64] wr fun e w' =>
          e = .returned (.tuple #[.int .i64 64, .int .i64 0]) ∧ Gm.Fl w R B C 0 (64 * i + 64) w' ∧ Gm.Mvg (Gm.POff R B C) (Gm.POff R B C) wr w') :=
        full_send HF.out.1 (by omega) Gm.gX (by decide) 64 (by omega) (some ⟨X, 0, none⟩) 64 HF.out.2.1 (fun p hp => by obtain rfl := Option.some.inj hp; exact HF.out.2.2)
      clear hlt
      go_wp2_with fail
      refine HC.out.mono ?_
      rintro e w2 ⟨rfl, h2, mv2⟩
      have HF2 : Hid (Gm.Fl w R B C 0 (64 * (i + 1)) w2 ∧ Lies w2 w2.heap.size (some ⟨X, 0, none⟩) (icells (List.replicate 64 0)) ∧ Gm.POff R B C X) :=
        ⟨by rw [show 64 * (i + 1) = 64 * i + 64 by omega]; exact h2, Gm.lies_mvg HF.out.2.1 (fun p hp => by obtain rfl := Option.some.inj hp; exact HF.out.2.2) mv2, HF.out.2.2⟩
      clear HF HC h2 mv2
      go_wp2_with fail
      go_roundw
      case rel => exact ⟨i + 1, by go_num, by omega, HF2.out⟩
      case measure => simp [intOf]; omega
    · have k2 : ¬ ((i : Int) < 64) := by omega
      obtain rfl : i = 64 := by omega
      have H4 : Hid (Gm.Fl w R B C 0 4096 wr) := HF.out.1
      obtain ⟨W2, hW2⟩ : ∃ W, W = wr.alloc (.cells #[.int .i64 0] 3) := ⟨_, rfl⟩
      have hb2 : Below wr.heap.size wr W2 := by rw [hW2]; exact (Below.refl _ _).alloc (Nat.le_refl _) _
      have HC : Hid (Calls Try.prog 11 #[.pointer (some ⟨R, 0, none⟩), .int .i64 1, .string Gm.gX, .slice (some ⟨wr.heap.size, 0, none⟩) 1 1] W2 fun e w' =>
          e = .returned (.tuple #[.int .i64 0, .int .i64 6]) ∧ Gm.Fl w R B C 0 4096 w') :=
        full_send_no (H4.out.below hb2) (by omega) Gm.gX (by decide) 1 (by omega) (by omega) (some ⟨wr.heap.size, 0, none⟩) 1 (by rw [hW2]; exact Gm.lies_one wr 0 _) (fun p hp => by obtain rfl := Option.some.inj hp; exact H4.out.fresh (Nat.le_refl _))
      clear HF k2 hi H4 hb2
      go_wp2_with fail
      rw [← hW2]
      clear hW2
      refine HC.out.mono ?_
      rintro e w3 ⟨rfl, h3⟩
      have HD : Hid (Calls Try.prog 17 #[.pointer (some ⟨R, 0, none⟩), .int .u64 1] w3 fun e w' => e = .returned (.tuple #[.int .u64 0, .int .i64 6]) ∧ Gm.Fl w R B C 0 4096 w') :=
        full_double_no h3 (by omega) (by omega) 1 (by omega) (by omega)
      clear HC h3
      go_wp2_with fail
      refine HD.out.mono ?_
      rintro e w4 ⟨rfl, h4⟩
      have H4 := Lib.hid h4
      clear HD h4
      go_wp2_with fail
      go_loopw [13] (fun vi wr => ∃ j : Nat, vi = .int .i64 ((j + 1 : Nat) : Int) ∧ j ≤ t ∧ Hid (Gm.Fl w R B C j 4096 wr)) (fun vi _ => t + 1 - (intOf vi).toNat)
      case atStart => exact ⟨0, rfl, by omega, H4.out⟩
      case round =>
        clear H4
        rename World => wz
        obtain ⟨j, rfl, hj, HF⟩ := hrel
        obtain ⟨q, hq⟩ : ∃ q, q = j + 1 := ⟨_, rfl⟩
        by_cases hlt : j < t
        · have HC := Lib.hid (full_take HF.out (by omega) (by omega))
          rw [← hq] at HC
          have HQ := Lib.hid hq
          rw [← hq]
          have kq : (q : Int) ≤ (t : Int) := by omega
          have hw : IntKind.u64.wrap (q : Int) = (q : Int) := by rw [IntKind.wrap_u64]; omega
          clear hlt HF hq
          go_wp2_with fail
          refine HC.out.mono ?_
          rintro e w5 ⟨⟨xa, xb, xc, xs, rfl⟩, h5⟩
          have H5 := Lib.hid h5
          clear HC h5
          go_wp2_with fail
          go_roundw
          case rel => exact ⟨q, by have := HQ.out; go_num, by have := HQ.out; omega, H5.out.below ((Below.refl _ _).alloc (Nat.le_refl _) _)⟩
          case measure => have := HQ.out; simp [intOf]; omega
        · obtain rfl : j = t := by omega
          have kq : ¬ ((q : Int) ≤ (j : Int)) := by omega
          have zq : (j : Int) + 1 = (q : Int) := by omega
          rw [← hq]
          have hmq := HMK.out q (by omega)
          have hmj := HMK.out j (by omega)
          obtain ⟨W6, hW6⟩ : ∃ W, W = wz.alloc (.cells (madeCells #[.int .i64 0] q) 3) := ⟨_, rfl⟩
          have hb6 : Below wz.heap.size wz W6 := by rw [hW6]; exact (Below.refl _ _).alloc (Nat.le_refl _) _
          have HC6 : Hid (Calls Try.prog 11 #[.pointer (some ⟨R, 0, none⟩), .int .i64 1, .string Gm.gY, .slice (some ⟨wz.heap.size, 0, none⟩) q q] W6 fun e w' =>
              e = .returned (.tuple #[.int .i64 0, .int .i64 6]) ∧ Gm.Fl w R B C j 4096 w') :=
            full_send_no (HF.out.below hb6) (by omega) Gm.gY (by decide) q (by omega) (by omega) (some ⟨wz.heap.size, 0, none⟩) q (by rw [hW6]; exact Gm.made_lies q wz) (fun p hp => by obtain rfl := Option.some.inj hp; exact HF.out.fresh (Nat.le_refl _))
          clear HF hb6 hq
          go_wp2_with fail
          rw [← hW6]
          clear hW6
          refine HC6.out.mono ?_
          rintro e w7 ⟨rfl, h7⟩
          obtain ⟨W8, hW8⟩ : ∃ W, W = w7.alloc (.cells (madeCells #[.int .i64 0] j) 3) := ⟨_, rfl⟩
          have hb8 : Below w7.heap.size w7 W8 := by rw [hW8]; exact (Below.refl _ _).alloc (Nat.le_refl _) _
          have HC8 : Hid (Calls Try.prog 11 #[.pointer (some ⟨R, 0, none⟩), .int .i64 1, .string Gm.gY, .slice (some ⟨w7.heap.size, 0, none⟩) j j] W8 fun e w' =>
              e = .returned (.tuple #[.int .i64 (j : Int), .int .i64 0]) ∧ Gm.Fl w R B C j (4096 + j) w' ∧ Gm.Mvg (Gm.POff R B C) (Gm.POff R B C) W8 w') :=
            full_send (h7.below hb8) (by omega) Gm.gY (by decide) j (by omega) (some ⟨w7.heap.size, 0, none⟩) j (by rw [hW8]; exact Gm.made_lies j w7) (fun p hp => by obtain rfl := Option.some.inj hp; exact h7.fresh (Nat.le_refl _))
          clear HC6 h7 hb8 hmq
          go_wp2_with fail
          rw [← hW8]
          clear hW8
          refine HC8.out.mono ?_
          rintro e w9 ⟨rfl, h9, _⟩
          have HL : Hid (Calls Try.prog 26 #[.pointer (some ⟨R, 0, none⟩)] w9 fun e w' => (∃ (A : Option Addr) (c : Nat), e = .returned (.slice A 4096 c)) ∧ Gm.Fl w R B C j (4096 + j) w') := by
            have := full_list h9 (by omega)
            rw [show 4096 + j - j = 4096 by omega] at this
            exact this
          clear HC8 h9 hmj HMK
          go_wp2_with fail
          refine HL.out.mono ?_
          rintro e w10 ⟨⟨A, c, rfl⟩, h10⟩
          have HB10 := Lib.hid h10.bel
          clear HL h10
          go_wp2_with fail
          refine (alive9_any _).mono ?_
          rintro e w11 ⟨rfl, hb⟩
          have HB11 := Lib.hid (HB10.out.trans (hb.mono HB10.out.size))
          clear hb
          go_wp2_with fail
          go_ret
          exact ⟨rfl, HB11.out⟩

/-! ### From the walk to the statement -/
theorem own : ownKnob Try.prog.godebug = none := by kernel_rfl

set_option maxRecDepth 20000 in
theorem contract (H : Type) (enc : TypeId × Value → H) (W : World) (base : Nat) (args : Array Value) (ds gs : List (DataW H)) (before : List MemPlace)
    (hval : ∀ (j : Nat) t v, Try.f5.params[j]? = some t → args[j]? = some v → Value.okWide Try.prog W .any base t v)
    (hW : DataW.Whole enc Try.prog Try.f5.params.toList Rows.gramFullSpec.vars false W args.toList ds gs before) :
    Calls Try.prog 5 args W fun e W' => ∃ v, e = .returned v ∧ Rows.gramFullSpec.post enc Try.prog Try.f5 false true false false W args v W' := by
  have hW' := hW
  obtain ⟨p, q, hA0, hV, rfl, hfz, hnd⟩ := hW
  have hA : DataW.TrodAll enc Try.prog W 0 (fun _ => true) true Try.f5.params.toList args.toList ds p := hA0
  rw [Try.params5] at hA hval
  obtain ⟨v0, vs0, d0, ds0, p0, q0, hargs, rfl, rfl, h0, r0⟩ := trodAll_cons hA
  obtain ⟨rfl, rfl, rfl⟩ := trodAll_nil r0
  obtain rfl : args = #[v0] := by cases args; simp_all
  obtain ⟨rfl, rfl⟩ := trodVars_none hV
  obtain ⟨a0, rfl, rfl, rfl, w0⟩ := open_int Try.underlying58 (hval 0 58 v0 rfl rfl) h0
  have b0 : 0 ≤ a0 ∧ a0 ≤ 65535 := by simpa [Lit.wf, IntKind.min, IntKind.max, IntKind.signed, IntKind.bits] using w0
  clear hA0
  simp only [List.append_nil] at hW'
  refine (walk a0 b0.1 b0.2 W).mono fun e W' ⟨he, bel⟩ => ?_
  subst he
  exact ⟨_, rfl, _, _, _, [], _, [], hW', trodAll_mk1 (shut_bool Try.underlying4 _), (trodAll_cons_mk (shut_int Try.underlying58 w0) trodAll_mk0), rfl, bel.frame _, fun h => by cases h⟩

set_option maxRecDepth 100000 in
theorem lifted (os : Os) (started : os.Started) (H : Type) (enc : TypeId × Value → H) :
    ReturnsInHanded {} Try.checked os 5 .any (Rows.gramFullSpec.pre6 enc Try.prog Try.f5 Rows.gramFullRow.domain false) (Rows.gramFullSpec.post enc Try.prog Try.f5 false true false false) := by
  refine returnsInHanded_of_change (C := Try.checked) own started (by kernel_rfl) Try.func5
    (ChangeSpec.witness6 (enc := enc) (C := Try.checked) false ⟨#[], #[.int .u16 0], []⟩ 8 (by kernel_rfl) (by kernel_rfl) (by kernel_rfl) (by kernel_rfl)) ?_
  intro W base args ds gs before hval hW _ _
  exact contract H enc W base args ds gs before hval hW

theorem over : Rows.gramFullRow.holds Try.pinned (OpenSpec.ofChange Rows.gramFullSpec) :=
  OpenClaim.holds_of_wide 5 Try.f5 rfl rfl rfl rfl rfl rfl rfl ⟨rfl, rfl, rfl, rfl, rfl⟩ rfl rfl rfl rfl rfl (by kernel_rfl) Try.func5 (by kernel_rfl)
    (of_decide_eq_true (by kernel_rfl)) (by unfold Func.isWrapper; first | (rw [if_pos (by decide +kernel)]; kernel_rfl) | (rw [if_neg (by decide +kernel)]; exact ⟨rfl, rfl⟩))
    (fun os started H enc _ => lifted os started H enc)

/-- The statement. -/
theorem proved : Rows.GramFullSaid :=
  over

end Go.Proofs.Ytagcddhhlhcoeaa.gramFull
