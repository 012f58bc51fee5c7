/-
  branch.Sort sorts any texts as the document says, and lets the list alone (P12.3).
-/
import Derived.Test.YtkhpbjjmekmaeaaRows
import Derived.Test.YtkhpbjjmekmaeaaL12A
import Derived.ProofKit
import Derived.OpenShut
import Derived.ShutString
namespace Go.Proofs.Ytkhpbjjmekmaeaa.branchSorts
open Go.ChangeShapes Go.WideShapes Go.ChangeAt Go.RowKit
open Go.ChangeMaps (open_string shut_string)

set_option maxHeartbeats 800000 in
set_option maxRecDepth 20000 in
theorem walk (w : World) (l : List ByteArray) (A : Option Addr) (c : Nat) (la : Lies w w.heap.size A (tcells l)) (nl : l.length ≤ maxLen) (_bl : ∀ x ∈ l, x.size ≤ maxLen) :
    Calls Try.prog 4 #[.slice A l.length c] w fun e w' => e = .returned (.bool true) ∧ Below w.heap.size w w' := by
  have LA := Lib.hid la
  clear la
  unfold maxLen at nl
  by_cases h1 : 60 < l.length
  · have e1 : (60 : Int) < (l.length : Int) := by omega
    clear h1
    go_enter Try.func4, Try.ntmps4
    go_wp2_with fail
    refine (alive12_any _).mono ?_
    rintro e w1 ⟨rfl, b1⟩
    have B1 := Lib.hid b1
    clear b1
    go_wp2_with fail
    go_ret
    exact ⟨rfl, B1.out⟩
  · have e1 : ¬ (60 : Int) < (l.length : Int) := by omega
    go_enter Try.func4, Try.ntmps4
    go_wp2_with fail
    go_loopw [3] (fun s wr => ∃ k : Nat, k ≤ l.length ∧ s = .int .i64 k ∧ Hid (∀ x ∈ l.take k, x.size ≤ 256) ∧ w = wr) (fun s _ => l.length - (intOf s).toNat)
    case atStart => exact ⟨0, Nat.zero_le _, rfl, fun x hx => by simp at hx, rfl⟩
    case round =>
      obtain ⟨k, hk, rfl, HS, rfl⟩ := hrel
      by_cases hlt : k < l.length
      · have k0 : (0 : Int) ≤ (k : Int) := by omega
        have k1 : (k : Int) < (l.length : Int) := by omega
        obtain ⟨ad, rfl, -, hc⟩ := LA.out.at_ (tcells_at hlt)
        have HT := Lib.hid (List.take_succ_eq_append_getElem hlt)
        by_cases h2 : 256 < (l[k]).size
        · have e2 : (256 : Int) < ((l[k]).size : Int) := by omega
          generalize l[k] = x at hc e2
          clear h1 h2 HT hlt HS
          go_wp2_with fail
          refine (alive12_any _).mono ?_
          rintro e w1 ⟨rfl, b1⟩
          have B1 := Lib.hid b1
          clear b1
          go_wp2_with fail
          go_ret
          exact ⟨rfl, B1.out⟩
        · have e2 : ¬ (256 : Int) < ((l[k]).size : Int) := by omega
          have HN : Hid (∀ x ∈ l.take (k + 1), x.size ≤ 256) := fun x hx => by
            rw [HT.out, List.mem_append, List.mem_singleton] at hx
            rcases hx with hx | rfl
            · exact HS.out x hx
            · omega
          generalize l[k] = x at hc e2
          clear h1 h2 HT hlt HS
          go_wp2_with fail
          go_roundw
          case rel => exact ⟨k + 1, by omega, by go_num, HN.out, trivial⟩
          case measure => simp [intOf]; omega
      · have k1 : ¬ (k : Int) < (l.length : Int) := by omega
        have HS2 : Hid (∀ x ∈ l, x.size ≤ 1000000) := fun x hx => Nat.le_trans (HS.out x (by rw [List.take_of_length_le (by omega)]; exact hx)) (by decide)
        obtain ⟨g, cap, W, hrun, hT, hg, hb⟩ := Br.copied w A c l LA.out (by omega) 32
        have HT := Lib.hid hT
        have HB := Lib.hid hb
        have HSO := Lib.hid (bSort l A c W ((LA.out.below hb).mono hb.size) (by omega) HS2.out)
        have HR := Lib.hid hrun
        have HL100 : Hid (l.length ≤ 1000) := by show _ ≤ _; omega
        clear HS hT hb hrun hg h1 hlt
        go_upto_region 8 with fail
        go_wp2_with (at_builtin; refine Lib.wpList_append_run _ rfl (.tmp 25) (.tmp 26) 32 32 rfl _ _ rfl rfl _ _ HR.out ?_)
        refine HSO.out.mono ?_
        rintro e w2 ⟨out, B, c2, ho1, ho2, ho3, rfl, ho4, -, hb2⟩
        have HT2 := Lib.hid (HT.out.keep (hb2.block _ HT.out.1))
        have HB2 : Hid (Below w.heap.size w w2) := HB.out.trans (hb2.mono HB.out.size)
        have HO := Lib.hid (And.intro ho1 (And.intro ho2 (And.intro ho3 ho4)))
        have HS3 := Lib.hid (rSort12 l (some ⟨g, 0, none⟩) cap w2 HT2.out.lies HL100.out HS2.out)
        clear ho1 ho2 ho3 ho4 hb2 HT HB HR HSO
        go_wp2_with fail
        refine HS3.out.mono ?_
        rintro e w3 ⟨out2, B2, c3, hp1, hp2, hp3, rfl, hp4, -, hb3⟩
        have hoo : out2 = out := Br.up_eq (hp2.trans HO.out.2.1.symm) hp3 HO.out.2.2.1
        subst hoo
        have HT3 : Hid (out2.length = l.length ∧ Br.Txts B2 out2 w3 ∧ Br.Txts B out2 w3 ∧ Br.Txts g l w3 ∧ Below w.heap.size w w3) := ⟨hp1, hp4, HO.out.2.2.2.keep (hb3.block _ HO.out.2.2.2.1), HT2.out.keep (hb3.block _ HT2.out.1), HB2.out.trans (hb3.mono HB2.out.size)⟩
        clear hp1 hp2 hp3 hp4 hb3 HO HT2 HB2 HS3
        go_wp2_with fail
        go_loopw [7] (fun s wr => ∃ k : Nat, k ≤ l.length ∧ s = .int .i64 k ∧ ∃ q, wr = w3.drewN q) (fun s _ => l.length - (intOf s).toNat)
        case atStart => exact ⟨0, Nat.zero_le _, rfl, 0, rfl⟩
        case round =>
          obtain ⟨k, hk, rfl, q, rfl⟩ := hrel
          by_cases hlt : k < l.length
          · have k0 : (0 : Int) ≤ (k : Int) := by omega
            have k1 : (k : Int) < (l.length : Int) := by omega
            have hko : k < out2.length := by rw [HT3.out.1]; exact hlt
            obtain ⟨ad, rfl, -, c1⟩ := (LA.out.below HT3.out.2.2.2.2).at_ (tcells_at hlt)
            obtain ⟨c2, -⟩ := HT3.out.2.1.2 k hko
            obtain ⟨c3, -⟩ := HT3.out.2.2.1.2 k hko
            obtain ⟨c4, -⟩ := HT3.out.2.2.2.1.2 k hlt
            generalize l[k] = x at c1 c4
            generalize out2[k] = y at c2 c3
            clear hlt hko
            go_wp2_with fail
            go_quiet (fail)
            go_wp2_with fail
            go_roundw
            case rel => exact ⟨k + 1, by omega, by go_num, _, rfl⟩
            case measure => simp [intOf]; omega
          · have k1 : ¬ (k : Int) < (l.length : Int) := by omega
            go_wp2_with fail
            refine (alive12_any _).mono ?_
            rintro e w4 ⟨rfl, b4⟩
            have B0 : Below w.heap.size w (w3.drewN q) := below_drewN HT3.out.2.2.2.2 q
            have B4 := Lib.hid (B0.trans (b4.mono B0.size))
            clear b4
            go_wp2_with fail
            go_ret
            exact ⟨rfl, B4.out⟩

/-! ### From the walk to the statement -/
theorem own : ownKnob Try.prog.godebug = none := by kernel_rfl

set_option maxRecDepth 20000 in
theorem contract (H : Type) (enc : TypeId × Value → H) (W : World) (base : Nat) (args : Array Value) (ds gs : List (DataW H)) (before : List MemPlace)
    (hval : ∀ (j : Nat) t v, Try.f4.params[j]? = some t → args[j]? = some v → Value.okWide Try.prog W .any base t v)
    (hW : DataW.Whole enc Try.prog Try.f4.params.toList Rows.branchSortsSpec.vars false W args.toList ds gs before) :
    Calls Try.prog 4 args W fun e W' => ∃ v, e = .returned v ∧ Rows.branchSortsSpec.post enc Try.prog Try.f4 false true false false W args v W' := by
  have hW' := hW
  obtain ⟨p, q, hA0, hV, rfl, hfz, hnd⟩ := hW
  have hA : DataW.TrodAll enc Try.prog W 0 (fun _ => true) true Try.f4.params.toList args.toList ds p := hA0
  rw [Try.params4] at hA hval
  obtain ⟨v0, vs0, d0, ds0, p0, q0, hargs, rfl, rfl, h0, r0⟩ := trodAll_cons hA
  obtain ⟨rfl, rfl, rfl⟩ := trodAll_nil r0
  obtain rfl : args = #[v0] := by cases args; simp_all
  obtain ⟨rfl, rfl⟩ := trodVars_none hV
  have k0 := h0
  obtain ⟨fuel0, hf0⟩ := h0
  obtain ⟨xs0, A0, c0, hcs0, hn0, hl0, hb0⟩ := trod_strs Try.underlying32 Try.underlying9 (by kernel_rfl) hf0
  obtain rfl := slice_of Try.underlying32 (hval 0 32 v0 rfl rfl) hcs0
  clear hA0
  simp only [List.append_nil] at hW'
  refine (walk W xs0 A0 c0 hl0 hn0 hb0).mono fun e W' ⟨he, bel⟩ => ?_
  subst he
  exact ⟨_, rfl, _, _, _, [], _, [], hW', trodAll_mk1 (shut_bool Try.underlying4 _), (trodAll_cons_mk (Below.trod laidOut (by kernel_rfl) (of_decide_eq_true (by kernel_rfl)) k0 bel (fun x hx => DataW.trod_lt _ _ _ _ hf0 x hx)) trodAll_mk0), rfl, bel.frame _, fun h => by cases h⟩

set_option maxRecDepth 100000 in
theorem lifted (os : Os) (started : os.Started) (H : Type) (enc : TypeId × Value → H) :
    ReturnsInHanded {} Try.checked os 4 .any (Rows.branchSortsSpec.pre6 enc Try.prog Try.f4 Rows.branchSortsRow.domain false) (Rows.branchSortsSpec.post enc Try.prog Try.f4 false true false false) := by
  refine returnsInHanded_of_change (C := Try.checked) own started (by kernel_rfl) Try.func4
    (ChangeSpec.witness6 (enc := enc) (C := Try.checked) false ⟨#[], #[.slice none 0 0], []⟩ 8 (by kernel_rfl) (by kernel_rfl) (by kernel_rfl) (by kernel_rfl)) ?_
  intro W base args ds gs before hval hW _ _
  exact contract H enc W base args ds gs before hval hW

theorem over : Rows.branchSortsRow.holds Try.pinned (OpenSpec.ofChange Rows.branchSortsSpec) :=
  OpenClaim.holds_of_wide 4 Try.f4 rfl rfl rfl rfl rfl rfl rfl ⟨rfl, rfl, rfl, rfl, rfl⟩ rfl rfl rfl rfl rfl (by kernel_rfl) Try.func4 (by kernel_rfl)
    (of_decide_eq_true (by kernel_rfl)) (by unfold Func.isWrapper; first | (rw [if_pos (by decide +kernel)]; kernel_rfl) | (rw [if_neg (by decide +kernel)]; exact ⟨rfl, rfl⟩))
    (fun os started H enc _ => lifted os started H enc)

/-- The statement. -/
theorem proved : Rows.BranchSortsSaid :=
  over

end Go.Proofs.Ytkhpbjjmekmaeaa.branchSorts
