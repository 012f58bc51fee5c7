/-
  What is proved: for every string and every uint16 the law SumCuts of layer 2 returns true and changes nothing: a text's sum is Join of those of its parts, and On of the first one's, wherever it is cut. No condition.
-/
import Derived.Test.YtnpblfcmlcoenaaRows
import Derived.Test.YtnpblfcmlcoenaaSumB
import Derived.BigQuiet
import Derived.Deep.RegionWith
import Derived.Deep.DrawnRows
import Derived.Deep.RegionHeld3
import Derived.WalkSmall
import Derived.ProofKit
import Derived.OpenShut
import Derived.ShutString
namespace Go.Proofs.Ytnpblfcmlcoenaa.sumCuts
open Go.ChangeShapes Go.WideShapes Go.ChangeAt Go.RowKit
open Go.ChangeMaps (open_string shut_string)

theorem parts (s : ByteArray) (k : Nat) : s.data.toList = (s.extract 0 k).data.toList ++ (s.extract k s.size).data.toList := by
  rw [Lib.extract_data, Lib.extract_data, Nat.sub_zero, List.drop_zero, List.take_of_length_le (l := List.drop k _) (by simp), List.take_append_drop]

theorem keep {B : Nat} {a b c : World} (h : Below B a b) (k : Below b.heap.size b c) (hB : B ≤ a.heap.size) : Below B a c :=
  h.trans (k.mono (by have := h.size; omega))

theorem ext_size (s : ByteArray) (i j : Nat) (h : s.size ≤ maxLen) : (s.extract i j).size ≤ maxLen := by
  rw [ByteArray.size_extract]
  omega

theorem cut_join (s : ByteArray) (k : Nat) :
    Crc.on 0 s.data.toList = Crc.join (Crc.on 0 (s.extract 0 k).data.toList) (Crc.on 0 (s.extract k s.size).data.toList) (s.size - k) := by
  have h := Crc.of_join (s.extract 0 k).data.toList (s.extract k s.size).data.toList
  rw [← parts s k] at h
  have e : (s.extract k s.size).data.toList.length = s.size - k := by
    rw [Lib.extract_data]; simp
  rw [e] at h
  exact h
theorem cut_on (s : ByteArray) (k : Nat) : Crc.on 0 s.data.toList = Crc.on (Crc.on 0 (s.extract 0 k).data.toList) (s.extract k s.size).data.toList := by
  rw [← Crc.on_append, ← parts s k]

set_option maxRecDepth 20000 in
set_option maxHeartbeats 4000000 in
theorem walk (s : ByteArray) (hs : s.size ≤ maxLen) (x : Int) (x0 : 0 ≤ x) (x1 : x ≤ 65535) (w : World) :
    Calls Try.prog 6 #[.string s, .int .u16 x] w fun e w' => e = .returned (.bool true) ∧ Below w.heap.size w w' := by
  have hm : (s.size : Int) ≤ 9223372036854775807 := by unfold maxLen at hs; omega
  by_cases hbig : (s.size : Int) > 4096
  · go_enter Try.func6, Try.ntmps6
    go_wp2_with fail
    refine (alive_any _).mono ?_
    rintro e w1 ⟨rfl, hb1⟩
    go_wp2_with fail
    go_ret
    exact ⟨rfl, hb1⟩
  · obtain ⟨k, hk, hkn⟩ : ∃ k : Nat, x % ((s.size : Int) + 1) = (k : Int) ∧ k ≤ s.size :=
      ⟨(x % ((s.size : Int) + 1)).toNat, by have := Int.emod_nonneg x (b := (s.size : Int) + 1) (by omega); omega, by have := Int.emod_lt_of_pos x (b := (s.size : Int) + 1) (by omega); omega⟩
    have hwr : IntKind.i64.wrap ((s.size : Int) - (k : Int)) = ((s.size - k : Nat) : Int) := by rw [IntWalk.i64_in _ (by omega)]; omega
    have hn : s.size - k < 9223372036854775808 := by omega
    have e1 := ext_size s 0 k hs
    have e2 := ext_size s k s.size hs
    have hl1 := Crc.on_lt (List.take k s.data.toList) (a := 0) (by omega)
    have hl2 := Crc.on_lt (List.take (s.size - k) (List.drop k s.data.toList)) (a := 0) (by omega)
    have x1 : (s.extract 0 k).data.toList = List.take k s.data.toList := by rw [Lib.extract_data]; simp
    have x2 : (s.extract k s.size).data.toList = List.take (s.size - k) (List.drop k s.data.toList) := by rw [Lib.extract_data]
    have t1 : (((Crc.on 0 s.data.toList : Nat) : Int) == ((Crc.join (Crc.on 0 (List.take k s.data.toList)) (Crc.on 0 (List.take (s.size - k) (List.drop k s.data.toList))) (s.size - k) : Nat) : Int)) = true := by rw [← x1, ← x2, ← cut_join s k]; simp
    have t2 : (((Crc.on 0 s.data.toList : Nat) : Int) == ((Crc.on (Crc.on 0 (List.take k s.data.toList)) (List.take (s.size - k) (List.drop k s.data.toList)) : Nat) : Int)) = true := by rw [← x1, ← x2, ← cut_on s k]; simp
    clear x1 x2
    go_enter Try.func6, Try.ntmps6
    go_wp2_with fail
    refine (of_any _ _ e1).mono ?_
    rintro e w1 ⟨rfl, hb1⟩
    go_wp2_with fail
    go_region_held3 (fun w' => Below w.heap.size w w') (first | assumption | exact hb1.drew | exact keep (by assumption) hb (Nat.le_refl _)) (first
      | (go_at_call 9; refine (of_any _ _ (by assumption)).mono ?_; rintro e wa ⟨rfl, hb⟩)
      | (go_at_call 15; refine (join_any _ _ _ _ hl1 hl2 hn).mono ?_; rintro e w' ⟨rfl, rfl⟩)
      | (go_at_call 10; refine (on_any _ _ _ hl1 e2).mono ?_; rintro e wc ⟨rfl, hb⟩)
      | (go_at_call 7; refine (alive_any _).mono ?_; rintro e wd ⟨rfl, hb⟩))
    go_wp2_with fail
    go_ret
    exact ⟨rfl, by assumption⟩


/-! ### From the walk to the statement -/
theorem own : ownKnob Try.prog.godebug = none := by kernel_rfl

theorem contract (H : Type) (enc : TypeId × Value → H) (W : World) (base : Nat) (args : Array Value) (ds gs : List (DataW H)) (before : List MemPlace)
    (hval : ∀ (j : Nat) t v, Try.f6.params[j]? = some t → args[j]? = some v → Value.okWide Try.prog W .any base t v)
    (hW : DataW.Whole enc Try.prog Try.f6.params.toList Rows.sumCutsSpec.vars false W args.toList ds gs before) :
    Calls Try.prog 6 args W fun e W' => ∃ v, e = .returned v ∧ Rows.sumCutsSpec.post enc Try.prog Try.f6 false true false false W args v W' := by
  have hW' := hW
  obtain ⟨p, q, hA0, hV, rfl, hfz, hnd⟩ := hW
  have hA : DataW.TrodAll enc Try.prog W 0 (fun _ => true) true Try.f6.params.toList args.toList ds p := hA0
  rw [Try.params6] at hA hval
  obtain ⟨v0, vs0, d0, ds0, p0, q0, hargs, rfl, rfl, h0, r0⟩ := trodAll_cons hA
  obtain ⟨v1, vs1, d1, ds1, p1, q1, rfl, rfl, rfl, h1, r1⟩ := trodAll_cons r0
  obtain ⟨rfl, rfl, rfl⟩ := trodAll_nil r1
  obtain rfl : args = #[v0, v1] := by cases args; simp_all
  obtain ⟨rfl, rfl⟩ := trodVars_none hV
  obtain ⟨a0, rfl, rfl, rfl, w0⟩ := open_string Try.underlying9 (hval 0 9 v0 rfl rfl) h0
  obtain ⟨a1, rfl, rfl, rfl, w1⟩ := open_int Try.underlying32 (hval 1 32 v1 rfl rfl) h1
  have b1 : 0 ≤ a1 ∧ a1 ≤ 65535 := by simpa [Lit.wf, IntKind.min, IntKind.max, IntKind.signed, IntKind.bits] using w1
  clear hA0
  simp only [List.append_nil] at hW'
  refine (walk a0 w0 a1 b1.1 b1.2 W).mono fun e W' ⟨he, bel⟩ => ?_
  subst he
  exact ⟨_, rfl, _, _, _, [], _, [], hW', trodAll_mk1 (shut_bool Try.underlying4 _), (trodAll_cons_mk (shut_string Try.underlying9 w0) (trodAll_cons_mk (shut_int Try.underlying32 w1) trodAll_mk0)), rfl, bel.frame _, fun h => by cases h⟩

set_option maxRecDepth 100000 in
theorem lifted (os : Os) (started : os.Started) (H : Type) (enc : TypeId × Value → H) :
    ReturnsInHanded {} Try.checked os 6 .any (Rows.sumCutsSpec.pre6 enc Try.prog Try.f6 Rows.sumCutsRow.domain false) (Rows.sumCutsSpec.post enc Try.prog Try.f6 false true false false) := by
  refine returnsInHanded_of_change (C := Try.checked) own started (by kernel_rfl) Try.func6
    (ChangeSpec.witness6 (enc := enc) (C := Try.checked) false ⟨#[], #[.string ByteArray.empty, .int .u16 0], []⟩ 8 (by kernel_rfl) (by kernel_rfl) (by kernel_rfl) (by kernel_rfl)) ?_
  intro W base args ds gs before hval hW _ _
  exact contract H enc W base args ds gs before hval hW

theorem over : Rows.sumCutsRow.holds Try.pinned (OpenSpec.ofChange Rows.sumCutsSpec) :=
  OpenClaim.holds_of_wide 6 Try.f6 rfl rfl rfl rfl rfl rfl rfl ⟨rfl, rfl, rfl, rfl, rfl⟩ rfl rfl rfl rfl rfl (by kernel_rfl) Try.func6 (by kernel_rfl)
    (of_decide_eq_true (by kernel_rfl)) (by unfold Func.isWrapper; first | (rw [if_pos (by decide +kernel)]; kernel_rfl) | (rw [if_neg (by decide +kernel)]; exact ⟨rfl, rfl⟩))
    (fun os started H enc _ => lifted os started H enc)

/-- The statement. -/
theorem proved : Rows.SumCutsSaid :=
  over

end Go.Proofs.Ytnpblfcmlcoenaa.sumCuts
