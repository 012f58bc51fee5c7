/-
  What is proved: for every uint64 x, int64 y and string s the law NumBack of layer 1 returns true and changes nothing: what was written is read as itself, whatever stands behind; what is cut off is short; bytes that are read are the number's own. No condition.
-/
import Derived.Test.YtjnnopbgbigahaaRows
import Derived.Test.YtjnnopbgbigahaaL01A
import Derived.BigQuiet
import Derived.Deep.RegionWith
import Derived.Deep.DrawnRows
import Derived.Deep.RegionHeld3
import Derived.WalkSmall
import Derived.ProofKit
import Derived.OpenShut
import Derived.ShutString
namespace Go.Proofs.Ytjnnopbgbigahaa.numBack
open Go.ChangeShapes Go.WideShapes Go.ChangeAt Go.RowKit
open Go.ChangeMaps (open_string shut_string)

attribute [local go_sem ↓] Go.wp_at_zero Go.wp_at_succ

theorem rd_cat (n : Nat) (h : n < 18446744073709551616) (s : ByteArray) : Num.rd ((⟨(Lib.uvarint n).toArray⟩ : ByteArray) ++ s).data.toList = (n, (Lib.uvarint n).length, 0) := by
  have e : ((⟨(Lib.uvarint n).toArray⟩ : ByteArray) ++ s).data.toList = Lib.uvarint n ++ s.data.toList := by simp
  rw [e]
  exact Num.rd_uv n h _

theorem size_cat (l : List UInt8) (s : ByteArray) : ((⟨l.toArray⟩ : ByteArray) ++ s).size = l.length + s.size := by
  rw [ByteArray.size_append]
  rfl

theorem rd_ext (n : Nat) (h : n < 18446744073709551616) (k : Nat) (hk : k < (Lib.uvarint n).length) : Num.rd ((⟨(Lib.uvarint n).toArray⟩ : ByteArray).extract 0 k).data.toList = (0, 0, 10) := by
  have e : ((⟨(Lib.uvarint n).toArray⟩ : ByteArray).extract 0 k).data.toList = (Lib.uvarint n).take k := by rw [Lib.extract_data]; simp
  rw [e]
  exact Num.rd_cut n h k hk

theorem size_ext (l : List UInt8) (k : Nat) (h : k ≤ 10) : ((⟨l.toArray⟩ : ByteArray).extract 0 k).size ≤ maxLen := by
  rw [ByteArray.size_extract]
  unfold maxLen
  omega

set_option maxRecDepth 20000 in
set_option maxHeartbeats 4000000 in
theorem walk (x : Int) (x0 : 0 ≤ x) (x1 : x ≤ 18446744073709551615) (y : Int) (y0 : -9223372036854775808 ≤ y) (y1 : y ≤ 9223372036854775807) (s : ByteArray) (hs : s.size ≤ maxLen) (w : World) :
    Calls Try.prog 5 #[.int .u64 x, .int .i64 y, .string s] w fun e w' => e = .returned (.bool true) ∧ Below w.heap.size w w' := by
  have hm : (s.size : Int) ≤ 9223372036854775807 := by unfold maxLen at hs; omega
  by_cases hbig : (s.size : Int) > 4096
  · go_enter Try.func5, Try.ntmps5
    go_wp2_with fail
    refine (alive_any _).mono ?_
    rintro e w1 ⟨rfl, hb1⟩
    go_wp2_with fail
    go_ret
    exact ⟨rfl, hb1⟩
  · obtain ⟨n, rfl⟩ := Int.eq_ofNat_of_zero_le x0
    have hl1 := Lib.uvarint_length64 (x := n) (by omega)
    have hz := Lib.zigzag_lt y0 y1
    have hl2 := Lib.uvarint_length64 hz
    have HC1 := Lib.hid (rd_cat n (by omega) s)
    have HC2 := Lib.hid (rd_cat (Lib.zigzag y) hz s)
    have HS1 := Lib.hid (size_cat (Lib.uvarint n) s)
    have HS2 := Lib.hid (size_cat (Lib.uvarint (Lib.zigzag y)) s)
    go_enter Try.func5, Try.ntmps5
    go_wp2_with fail
    refine (uint_any n _ x0 x1).mono ?_
    rintro e w1 ⟨rfl, hb1⟩
    rw [Int.toNat_natCast]
    go_wp2_with fail
    refine (read_any _ _ (by rw [HS1.out]; unfold maxLen; omega)).mono ?_
    rintro e w' ⟨rfl, rfl⟩
    rw [HC1.out]
    go_wp2_with fail
    refine (int_any y _ y0 y1).mono ?_
    rintro e w2 ⟨rfl, hb2⟩
    go_wp2_with fail
    refine (readint_any _ _ (by rw [HS2.out]; unfold maxLen; omega)).mono ?_
    rintro e w' ⟨rfl, rfl⟩
    rw [HC2.out]
    simp only [Num.zag_zig]
    go_wp2_with fail
    refine (int_any y _ y0 y1).mono ?_
    rintro e w3 ⟨rfl, hb3⟩
    go_wp2_with fail
    refine (zig_any y _ y0 y1).mono ?_
    rintro e w' ⟨rfl, rfl⟩
    go_wp2_with fail
    refine (zag_any _ _ (by omega) (by omega)).mono ?_
    rintro e w' ⟨rfl, rfl⟩
    simp only [Int.toNat_natCast, Num.zag_zig]
    go_wp2_with fail
    have hzl := Num.zag_range n (by omega)
    refine (zag_any (n : Int) _ x0 x1).mono ?_
    rintro e w' ⟨rfl, rfl⟩
    rw [Int.toNat_natCast]
    go_wp2_with fail
    refine (zig_any _ _ hzl.1 hzl.2).mono ?_
    rintro e w' ⟨rfl, rfl⟩
    rw [Num.zig_zag]
    go_wp2_with fail
    clear hzl
    go_loop [14] (fun i => ∃ k : Nat, k ≤ (Lib.uvarint n).length ∧ i = .int .i64 k) (fun i => (Lib.uvarint n).length - (intOf i).toNat)
    case atStart => exact ⟨0, Nat.zero_le _, rfl⟩
    case round =>
      obtain ⟨k, hk, rfl⟩ := hrel
      by_cases hlt : k < (Lib.uvarint n).length
      · have HX := Lib.hid (rd_ext n (by omega) k hlt)
        go_wp2_with fail
        refine (read_any _ _ (size_ext _ _ (by omega))).mono ?_
        rintro e w' ⟨rfl, rfl⟩
        rw [HX.out]
        go_wp2_with fail
        exact ⟨⟨k + 1, by omega, by go_num⟩, by simp [intOf]; omega⟩
      · have hbd := Num.rd_bound s.data.toList
        have huv := Num.uv_rd (l := s.data.toList)
        generalize hR : Num.rd s.data.toList = R at hbd huv
        obtain ⟨v, q, g⟩ := R
        simp only [] at hbd huv
        obtain ⟨hq1, _, hv, _, _⟩ := hbd
        have hv1 : (v : Int) ≤ 18446744073709551615 := by omega
        have hv0 : (0 : Int) ≤ v := by omega
        have hqs : (q : Int) ≤ s.size := by simp at hq1; omega
        have HR := Lib.hid hR
        clear hR hv hq1
        by_cases hg : g = 0
        · have hcmp : (Lib.uvarint v == (s.extract 0 q).toList) = true := by
            rw [Lib.toList_data, Lib.extract_data, huv hg]
            simp
          have d1 : decide ((q : Int) < 0) = false := by simp
          have d2 : decide (s.size < q) = false := by simp; omega
          have d3 : (0 : Int) ≤ q := by omega
          subst hg
          clear huv hl1 hl2 hz
          go_wp2_with fail
          refine (read_any s _ hs).mono ?_
          rintro e w' ⟨rfl, rfl⟩
          rw [HR.out]
          go_wp2_with fail
          go_region_held3 (fun w' => w'.tape = w'.tape) (rfl) (first | (go_at_call 7; refine (uint_any _ _ hv0 hv1).mono ?_; rintro e w4 ⟨rfl, hb4⟩))
          go_wp2_with fail
          refine (alive_any _).mono ?_
          rintro e w5 ⟨rfl, hb5⟩
          go_wp2_with fail
          go_ret
          have s1 := hb1.size
          have s2 := hb2.size
          have s3 := hb3.size
          have s4 := hb4.size
          have s4' : w3.drew.heap.size = w3.heap.size := rfl
          exact ⟨rfl, ((((hb1.trans (hb2.mono (by omega))).trans (hb3.mono (by omega))).drew).trans (hb4.mono (by omega))).trans (hb5.mono (by omega))⟩
        · have hgb : ((g : Int) == 0) = false := by simp; omega
          clear huv
          go_wp2_with fail
          refine (read_any s _ hs).mono ?_
          rintro e w' ⟨rfl, rfl⟩
          rw [HR.out]
          go_wp2_with fail
          go_quiet (fail)
          go_wp2_with fail
          refine (alive_any _).mono ?_
          rintro e w5 ⟨rfl, hb5⟩
          go_wp2_with fail
          go_ret
          have s1 := hb1.size
          have s2 := hb2.size
          have s3 := hb3.size
          exact ⟨rfl, (below_drewN ((hb1.trans (hb2.mono (by omega))).trans (hb3.mono (by omega))) _).trans (hb5.mono (by show _ ≤ w3.heap.size; omega))⟩

/-! ### From the walk to the statement -/
theorem own : ownKnob Try.prog.godebug = none := by kernel_rfl

theorem contract (H : Type) (enc : TypeId × Value → H) (W : World) (base : Nat) (args : Array Value) (ds gs : List (DataW H)) (before : List MemPlace)
    (hval : ∀ (j : Nat) t v, Try.f5.params[j]? = some t → args[j]? = some v → Value.okWide Try.prog W .any base t v)
    (hW : DataW.Whole enc Try.prog Try.f5.params.toList Rows.numBackSpec.vars false W args.toList ds gs before) :
    Calls Try.prog 5 args W fun e W' => ∃ v, e = .returned v ∧ Rows.numBackSpec.post enc Try.prog Try.f5 false true false false W args v W' := by
  have hW' := hW
  obtain ⟨p, q, hA0, hV, rfl, hfz, hnd⟩ := hW
  have hA : DataW.TrodAll enc Try.prog W 0 (fun _ => true) true Try.f5.params.toList args.toList ds p := hA0
  rw [Try.params5] at hA hval
  obtain ⟨v0, vs0, d0, ds0, p0, q0, hargs, rfl, rfl, h0, r0⟩ := trodAll_cons hA
  obtain ⟨v1, vs1, d1, ds1, p1, q1, rfl, rfl, rfl, h1, r1⟩ := trodAll_cons r0
  obtain ⟨v2, vs2, d2, ds2, p2, q2, rfl, rfl, rfl, h2, r2⟩ := trodAll_cons r1
  obtain ⟨rfl, rfl, rfl⟩ := trodAll_nil r2
  obtain rfl : args = #[v0, v1, v2] := by cases args; simp_all
  obtain ⟨rfl, rfl⟩ := trodVars_none hV
  obtain ⟨a0, rfl, rfl, rfl, w0⟩ := open_int Try.underlying22 (hval 0 22 v0 rfl rfl) h0
  have b0 : 0 ≤ a0 ∧ a0 ≤ 18446744073709551615 := by simpa [Lit.wf, IntKind.min, IntKind.max, IntKind.signed, IntKind.bits] using w0
  obtain ⟨a1, rfl, rfl, rfl, w1⟩ := open_int Try.underlying2 (hval 1 2 v1 rfl rfl) h1
  have b1 : -9223372036854775808 ≤ a1 ∧ a1 ≤ 9223372036854775807 := by simpa [Lit.wf, IntKind.min, IntKind.max, IntKind.signed, IntKind.bits] using w1
  obtain ⟨a2, rfl, rfl, rfl, w2⟩ := open_string Try.underlying9 (hval 2 9 v2 rfl rfl) h2
  clear hA0
  simp only [List.append_nil] at hW'
  refine (walk a0 b0.1 b0.2 a1 b1.1 b1.2 a2 w2 W).mono fun e W' ⟨he, bel⟩ => ?_
  subst he
  exact ⟨_, rfl, _, _, _, [], _, [], hW', trodAll_mk1 (shut_bool Try.underlying4 _), (trodAll_cons_mk (shut_int Try.underlying22 w0) (trodAll_cons_mk (shut_int Try.underlying2 w1) (trodAll_cons_mk (shut_string Try.underlying9 w2) trodAll_mk0))), rfl, bel.frame _, fun h => by cases h⟩

set_option maxRecDepth 100000 in
theorem lifted (os : Os) (started : os.Started) (H : Type) (enc : TypeId × Value → H) :
    ReturnsInHanded {} Try.checked os 5 .any (Rows.numBackSpec.pre6 enc Try.prog Try.f5 Rows.numBackRow.domain false) (Rows.numBackSpec.post enc Try.prog Try.f5 false true false false) := by
  refine returnsInHanded_of_change (C := Try.checked) own started (by kernel_rfl) Try.func5
    (ChangeSpec.witness6 (enc := enc) (C := Try.checked) false ⟨#[], #[.int .u64 0, .int .i64 0, .string ByteArray.empty], []⟩ 8 (by kernel_rfl) (by kernel_rfl) (by kernel_rfl) (by kernel_rfl)) ?_
  intro W base args ds gs before hval hW _ _
  exact contract H enc W base args ds gs before hval hW

theorem over : Rows.numBackRow.holds Try.pinned (OpenSpec.ofChange Rows.numBackSpec) :=
  OpenClaim.holds_of_wide 5 Try.f5 rfl rfl rfl rfl rfl rfl rfl ⟨rfl, rfl, rfl, rfl, rfl⟩ rfl rfl rfl rfl rfl (by kernel_rfl) Try.func5 (by kernel_rfl)
    (of_decide_eq_true (by kernel_rfl)) (by unfold Func.isWrapper; first | (rw [if_pos (by decide +kernel)]; kernel_rfl) | (rw [if_neg (by decide +kernel)]; exact ⟨rfl, rfl⟩))
    (fun os started H enc _ => lifted os started H enc)

/-- The statement. -/
theorem proved : Rows.NumBackSaid :=
  over

end Go.Proofs.Ytjnnopbgbigahaa.numBack
