/-
  There are at most MaxTimers, one that is there may be set anew then, and there is room again once one went (TicksFull).
-/
import Derived.Test.YtnojjfpccnmbeaaRows
import Derived.Test.YtnojjfpccnmbeaaTpR
import Derived.ProofKit
import Derived.OpenShut
import Derived.ShutString
namespace Go.Proofs.Ytnojjfpccnmbeaa.ticksFull
open Go.ChangeShapes Go.WideShapes Go.ChangeAt Go.RowKit
open Go.ChangeMaps (open_string shut_string)

set_option maxHeartbeats 8000000 in
set_option maxRecDepth 20000 in
theorem walk (a : Int) (_ : 0 ≤ a) (_ : a ≤ 65535) (b : Int) (_ : 0 ≤ b) (_ : b ≤ 65535) (w : World) :
    Calls Try.prog 7 #[.int .u16 a, .int .u16 b] w fun e w' => e = .returned (.bool true) ∧ Below w.heap.size w w' := by
  have hcv := Tk.conv_key
  have HBB : Hid (0 ≤ b ∧ b ≤ 65535) := ⟨by omega, by omega⟩
  obtain ⟨k, hk⟩ : ∃ k : Nat, a % 1024 = (k : Int) := ⟨(a % 1024).toNat, by omega⟩
  have hk9 : k < 1024 := by omega
  go_enter Try.func7, Try.ntmps7
  go_wp2_with fail
  refine (tknew w).mono ?_
  rintro e w1 ⟨T, Q, B, rfl, h1, hb1, hT, hQ, hB⟩
  have H1 := Lib.hid h1
  have HB1 := Lib.hid hb1
  have HLOW := Lib.hid (And.intro hT (And.intro hQ hB))
  clear h1 hb1 hT hQ hB
  go_wp2_with fail
  go_loopw [6] (fun i wr => ∃ (j : Nat) (v : Value) (l : List Tk.Tm), i = .int .i64 j ∧ j ≤ 1024 ∧ Hid (Tk.PTm T Q B v 0 l wr) ∧ Hid (Tk.Mvt (Tk.POff T Q B (.slice none 0 0)) (Tk.POff T Q B v) w1 wr) ∧ Hid (l.Perm (Tk.Lf b j))) (fun i _ => 1024 - (intOf i).toNat)
  case atStart => exact ⟨0, _, [], rfl, by omega, H1.out, .refl _ _, List.Perm.refl _⟩
  case round =>
    obtain ⟨j, v, l, rfl, hj, HP, HM, HPE⟩ := hrel
    by_cases hlt : j < 1024
    · have k0 : (0 : Int) ≤ (j : Int) := by omega
      have k1 : (j : Int) < 1024 := by omega
      obtain ⟨hc, hnx⟩ := Tk.Lf_next HBB.out hlt HPE.out
      have hll : l.length ≤ 99990 := by rw [HPE.out.length_eq, Tk.Lf_len]; omega
      obtain ⟨W, hW⟩ : ∃ W, W = wr.alloc (.cells #[.int .u8 ((j : Int) / 256), .int .u8 ((j : Int) % 256)] 5) := ⟨_, rfl⟩
      have hbW : Below wr.heap.size wr W := by rw [hW]; exact (Below.refl _ _).alloc (Nat.le_refl _) _
      have HS := Lib.hid (tkset (HP.out.below hbW) hll (Tk.keyF j) (b + 1 + j))
      rw [hc] at HS
      have HMW : Hid (Tk.Mvt (Tk.POff T Q B (.slice none 0 0)) (Tk.POff T Q B v) w1 W) := HM.out.trans (.of_below hbW)
      have HNX := Lib.hid hnx
      clear hc hnx hll hbW hlt
      go_wp2_with fail
      rw [← hW]
      clear hW
      refine HS.out.mono ?_
      rintro e w2 ⟨rfl, H2⟩
      obtain ⟨v2, l2, h2, m2, p2⟩ := H2.out
      have HP2 := Lib.hid h2
      have HM2 : Hid (Tk.Mvt (Tk.POff T Q B (.slice none 0 0)) (Tk.POff T Q B v2) w1 w2) := HMW.out.trans m2
      have HPE2 := Lib.hid (HNX.out l2 p2)
      clear h2 m2 p2 H2
      go_wp2_with fail
      go_roundw
      case rel => exact ⟨j + 1, v2, l2, by go_num, by omega, HP2.out, HM2.out, HPE2.out⟩
      case measure => simp [intOf]; omega
    · have k1 : ¬ ((j : Int) < 1024) := by omega
      have hpe : l.Perm (Tk.Lf b 1024) := by
        have := HPE.out
        rwa [show j = 1024 by omega] at this
      have HF := Lib.hid (Tk.fulls HBB.out hk9 HP.out.dist hpe)
      have hll : l.length ≤ 99990 := by rw [hpe.length_eq, Tk.Lf_len]; omega
      obtain ⟨W, hW⟩ : ∃ W, W = wr.alloc (.cells #[.int .u8 ((k : Int) / 256), .int .u8 ((k : Int) % 256)] 5) := ⟨_, rfl⟩
      have hbW : Below wr.heap.size wr W := by rw [hW]; exact (Below.refl _ _).alloc (Nat.le_refl _) _
      have HS1 := Lib.hid (tkset (HP.out.below hbW) hll Tk.kNew 5)
      rw [HF.out.a1] at HS1
      have HMW : Hid (Tk.Mvt (Tk.POff T Q B (.slice none 0 0)) (Tk.POff T Q B v) w1 W) := HM.out.trans (.of_below hbW)
      have hLN : Tk.setL 0 l Tk.kNew 5 = l := by unfold Tk.setL; rw [HF.out.a1, if_neg (by omega)]
      rw [hLN] at HS1
      have HLL := Lib.hid hll
      have HKN : Hid (Tk.kNew = ⟨#[110, 101, 119]⟩) := rfl
      clear hll hbW hpe hLN
      go_wp2_with fail
      rw [← hW]
      clear hW
      refine HS1.out.mono ?_
      rintro e w2 ⟨rfl, H2⟩
      obtain ⟨v2, l2, h2, m2, p2⟩ := H2.out
      have HF2 : Hid (Tk.Fulls b k l2) := by
        have hpe : l.Perm (Tk.Lf b 1024) := by
          have := HPE.out
          rwa [show j = 1024 by omega] at this
        exact Tk.fulls HBB.out hk9 h2.dist (p2.trans hpe)
      have HS2 := Lib.hid (tkset h2 (by rw [p2.length_eq]; exact HLL.out) (Tk.keyF k) 1)
      rw [HF2.out.b1] at HS2
      have HM2 : Hid (Tk.Mvt (Tk.POff T Q B (.slice none 0 0)) (Tk.POff T Q B v2) w1 w2) := HMW.out.trans m2
      clear h2 m2 p2 H2
      go_wp2_with fail
      refine HS2.out.mono ?_
      rintro e w3 ⟨rfl, H3⟩
      obtain ⟨v3, l3, h3, m3, p3⟩ := H3.out
      have HP3 := Lib.hid h3
      have HPE3 := Lib.hid p3
      have HM3 : Hid (Tk.Mvt (Tk.POff T Q B (.slice none 0 0)) (Tk.POff T Q B v3) w1 w3) := HM2.out.trans m3
      have HNX := Lib.hid (tknext h3)
      clear h3 m3 p3 H3
      go_wp2_with fail
      refine HNX.out.mono ?_
      rintro e w4 ⟨⟨o, rfl, ho⟩, hb4⟩
      have HB4 := Lib.hid hb4
      obtain ⟨x, rfl, hfx⟩ : ∃ x, o = some x ∧ Tk.First l3 x := by
        cases o with
        | none => exact absurd (show l3 = [] from ho) (HF2.out.some_ l3 HPE3.out).1
        | some x => exact ⟨x, rfl, ho⟩
      have HFX := Lib.hid (HF2.out.next l3 x HPE3.out hfx)
      obtain ⟨x1, x2⟩ := x
      simp only [] at HFX
      obtain ⟨hx2, hx1⟩ := HFX.out
      subst hx2
      have hx1d : (x1.toList == (Tk.keyF k).toList) = true ∨ ((x1.toList == (Tk.keyF k).toList) = false ∧ (b == 0) = true) := by
        rcases Classical.em (x1 = Tk.keyF k) with e | e
        · left; rw [e]; simp
        · right
          refine ⟨?_, ?_⟩
          · rw [beq_eq_false_iff_ne]
            intro h
            rw [Lib.toList_data, Lib.toList_data] at h
            exact e (Tk.bytes_ext h)
          · rcases hx1 with h | h
            · exact absurd h e
            · simpa using h
      unfold Tk.nval
      simp only []
      clear ho hb4 hfx hx1 HFX
      obtain ⟨W5, hW5⟩ : ∃ W5, W5 = (w4.alloc (.cells #[.string x1, .int .i64 1] 42)).alloc (.cells #[.string (Tk.keyF k)] 9) := ⟨_, rfl⟩
      have hb5 : Below w3.heap.size w3 W5 := by rw [hW5]; exact (HB4.out.alloc HB4.out.size _).alloc (Nat.le_trans HB4.out.size (by simp)) _
      have r5 : W5.heap[w4.heap.size]? = some (.cells #[.string x1, .int .i64 1] 42 (0, 0)) := by rw [hW5]; exact heap_alloc2_old w4 _ _
      have s5 : W5.heap[w4.heap.size + 1]? = some (.cells #[.string (Tk.keyF k)] 9 (0, 0)) := by rw [hW5]; exact heap_alloc2_new w4 _ _
      have HL5 : Hid (Lies W5 W5.heap.size (some ⟨w4.heap.size + 1, 0, none⟩) ([Tk.keyF k].map Value.string)) := fun _ => ⟨_, rfl, Tk.ltHeap s5, fun j u hu => by
        rw [Tk.add0]
        exact (cell_of_row _ _ _ _ _ _ s5).trans (by simpa using hu)⟩
      have HF5 : Hid (∀ g, w3.heap.size ≤ g → Tk.POff T Q B v3 g) := fun g hg => HP3.out.fresh hg
      have hst := HF2.out.stop l3 HP3.out.dist HPE3.out
      have HST := Lib.hid (tkstop (HP3.out.below hb5) (by rw [(HF2.out.some_ l3 HPE3.out).2]; omega) [Tk.keyF k] (some ⟨w4.heap.size + 1, 0, none⟩) 1 HL5.out (fun ad had => by
        obtain rfl := Option.some.inj had
        exact HF5.out _ (by have := HB4.out.size; simp only; omega)) (fun y hy => by
          rw [List.mem_singleton.1 hy, Tk.keyF_size]; unfold maxLen; omega) (by simp))
      rw [hst] at HST
      have HR5 := Lib.hid r5
      have HM5 : Hid (Tk.Mvt (Tk.POff T Q B (.slice none 0 0)) (Tk.POff T Q B v3) w1 W5) := HM3.out.trans (.of_below hb5)
      have HS5 := Lib.hid (And.intro hb5.size (Tk.ltHeap r5))
      clear hb5 r5 s5 hst
      go_wp2_with fail
      rw [← hW5]
      clear hW5
      refine HST.out.mono ?_
      rintro e w6 ⟨rfl, H6⟩
      obtain ⟨v6, l6, h6, m6, p6⟩ := H6.out
      obtain ⟨hd1, hd2, hd3⟩ := HF2.out.d1 l3 l6 HPE3.out p6
      have HS6 := Lib.hid (tkset h6 (by omega) Tk.kNew 2)
      rw [hd1] at HS6
      have HM6 : Hid (Tk.Mvt (Tk.POff T Q B v3) (Tk.POff T Q B v6) W5 w6) := m6
      have HD3 := Lib.hid hd3
      clear h6 m6 p6 H6 hd1 hd2 hd3
      go_wp2_with fail
      refine HS6.out.mono ?_
      rintro e w7 ⟨rfl, H7⟩
      obtain ⟨v7, l7, h7, m7, p7⟩ := H7.out
      have hl7 := HD3.out l7 p7
      have HALL := Lib.hid (tkall h7 (by omega))
      have HM7 : Hid (Tk.Mvt (Tk.POff T Q B v3) (Tk.POff T Q B v7) W5 w7) := HM6.out.trans m7
      have g7 : w7.heap[w4.heap.size]? = some (.cells #[.string x1, .int .i64 1] 42 (0, 0)) := (HM7.out.block _ HS5.out.2 (HF5.out _ HB4.out.size)).trans HR5.out
      have g0 : w7.cell? ⟨w4.heap.size, 0, none⟩ = some (.string x1) := cell_of_row _ _ 0 _ _ _ g7
      have g1 : w7.cell? ⟨w4.heap.size, 1, none⟩ = some (.int .i64 1) := cell_of_row _ _ 1 _ _ _ g7
      have HBE : Hid (Below w.heap.size w w7) := Tk.bel HB1.out HLOW.out.1 HLOW.out.2.1 HLOW.out.2.2 (HM5.out.trans HM7.out)
      have HL7 := Lib.hid hl7
      clear h7 m7 p7 H7 g7 hl7
      rcases hx1d with hxd | ⟨hxd, hbd⟩
      all_goals
        go_wp2_with fail
        refine HALL.out.mono ?_
        rintro e w8 ⟨A8, n8, out8, rfl, q8, _, _, hb8⟩
        have hlen : ((out8.length : Int) == 1024) = true := by rw [q8.length_eq, HL7.out]; rfl
        have HB8 : Hid (Below w.heap.size w w8) := HBE.out.trans (hb8.mono HBE.out.size)
        clear q8 hb8
        go_wp2_with fail
        refine (alive8_any _).mono ?_
        rintro e w9 ⟨rfl, hb9⟩
        have HB9 := Lib.hid (HB8.out.trans (hb9.mono HB8.out.size))
        clear hb9
        go_wp2_with fail
        go_ret
        exact ⟨rfl, HB9.out⟩

/-! ### From the walk to the statement -/
theorem own : ownKnob Try.prog.godebug = none := by kernel_rfl

set_option maxRecDepth 20000 in
theorem contract (H : Type) (enc : TypeId × Value → H) (W : World) (base : Nat) (args : Array Value) (ds gs : List (DataW H)) (before : List MemPlace)
    (hval : ∀ (j : Nat) t v, Try.f7.params[j]? = some t → args[j]? = some v → Value.okWide Try.prog W .any base t v)
    (hW : DataW.Whole enc Try.prog Try.f7.params.toList Rows.ticksFullSpec.vars false W args.toList ds gs before) :
    Calls Try.prog 7 args W fun e W' => ∃ v, e = .returned v ∧ Rows.ticksFullSpec.post enc Try.prog Try.f7 false true false false W args v W' := by
  have hW' := hW
  obtain ⟨p, q, hA0, hV, rfl, hfz, hnd⟩ := hW
  have hA : DataW.TrodAll enc Try.prog W 0 (fun _ => true) true Try.f7.params.toList args.toList ds p := hA0
  rw [Try.params7] at hA hval
  obtain ⟨v0, vs0, d0, ds0, p0, q0, hargs, rfl, rfl, h0, r0⟩ := trodAll_cons hA
  obtain ⟨v1, vs1, d1, ds1, p1, q1, rfl, rfl, rfl, h1, r1⟩ := trodAll_cons r0
  obtain ⟨rfl, rfl, rfl⟩ := trodAll_nil r1
  obtain rfl : args = #[v0, v1] := by cases args; simp_all
  obtain ⟨rfl, rfl⟩ := trodVars_none hV
  obtain ⟨a0, rfl, rfl, rfl, w0⟩ := open_int Try.underlying49 (hval 0 49 v0 rfl rfl) h0
  have b0 : 0 ≤ a0 ∧ a0 ≤ 65535 := by simpa [Lit.wf, IntKind.min, IntKind.max, IntKind.signed, IntKind.bits] using w0
  obtain ⟨a1, rfl, rfl, rfl, w1⟩ := open_int Try.underlying49 (hval 1 49 v1 rfl rfl) h1
  have b1 : 0 ≤ a1 ∧ a1 ≤ 65535 := by simpa [Lit.wf, IntKind.min, IntKind.max, IntKind.signed, IntKind.bits] using w1
  clear hA0
  simp only [List.append_nil] at hW'
  refine (walk a0 b0.1 b0.2 a1 b1.1 b1.2 W).mono fun e W' ⟨he, bel⟩ => ?_
  subst he
  exact ⟨_, rfl, _, _, _, [], _, [], hW', trodAll_mk1 (shut_bool Try.underlying4 _), (trodAll_cons_mk (shut_int Try.underlying49 w0) (trodAll_cons_mk (shut_int Try.underlying49 w1) trodAll_mk0)), rfl, bel.frame _, fun h => by cases h⟩

set_option maxRecDepth 100000 in
theorem lifted (os : Os) (started : os.Started) (H : Type) (enc : TypeId × Value → H) :
    ReturnsInHanded {} Try.checked os 7 .any (Rows.ticksFullSpec.pre6 enc Try.prog Try.f7 Rows.ticksFullRow.domain false) (Rows.ticksFullSpec.post enc Try.prog Try.f7 false true false false) := by
  refine returnsInHanded_of_change (C := Try.checked) own started (by kernel_rfl) Try.func7
    (ChangeSpec.witness6 (enc := enc) (C := Try.checked) false ⟨#[], #[.int .u16 0, .int .u16 0], []⟩ 8 (by kernel_rfl) (by kernel_rfl) (by kernel_rfl) (by kernel_rfl)) ?_
  intro W base args ds gs before hval hW _ _
  exact contract H enc W base args ds gs before hval hW

theorem over : Rows.ticksFullRow.holds Try.pinned (OpenSpec.ofChange Rows.ticksFullSpec) :=
  OpenClaim.holds_of_wide 7 Try.f7 rfl rfl rfl rfl rfl rfl rfl ⟨rfl, rfl, rfl, rfl, rfl⟩ rfl rfl rfl rfl rfl (by kernel_rfl) Try.func7 (by kernel_rfl)
    (of_decide_eq_true (by kernel_rfl)) (by unfold Func.isWrapper; first | (rw [if_pos (by decide +kernel)]; kernel_rfl) | (rw [if_neg (by decide +kernel)]; exact ⟨rfl, rfl⟩))
    (fun os started H enc _ => lifted os started H enc)

/-- The statement. -/
theorem proved : Rows.TicksFullSaid :=
  over

end Go.Proofs.Ytnojjfpccnmbeaa.ticksFull
