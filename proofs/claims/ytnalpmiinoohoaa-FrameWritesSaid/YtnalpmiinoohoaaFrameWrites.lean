/-
  What is proved: for every uint8, every slice of strings and every int the law FrameWrites of layer 4 returns true and changes nothing: what frames are, of as many texts as are handed in, and how many bytes they have. No condition.
-/
import Derived.Test.YtnalpmiinoohoaaRows
import Derived.Test.YtnalpmiinoohoaaL04A
import Derived.Test.YtnalpmiinoohoaaFrameO
import Derived.Deep.DeepCutAuto
import Derived.BigQuiet
import Derived.ProofKit
import Derived.OpenShut
import Derived.ShutString
namespace Go.Proofs.Ytnalpmiinoohoaa.frameWrites
open Go.ChangeShapes Go.WideShapes Go.ChangeAt Go.RowKit
open Go.ChangeMaps (open_string shut_string)

theorem uv_len (n : Nat) (h : n ≤ 131072) : (Lib.uvarint n).length = if n < 128 then 1 else if n < 16384 then 2 else 3 := by
  by_cases h1 : n < 128
  · rw [if_pos h1, Lib.uvarint_small h1]; rfl
  · rw [if_neg h1, Lib.uvarint_big (by omega), List.length_cons]
    by_cases h2 : n < 16384
    · rw [if_pos h2, Lib.uvarint_small (by omega)]; rfl
    · rw [if_neg h2, Lib.uvarint_big (by omega), List.length_cons, Lib.uvarint_small (by omega)]; rfl
theorem fsz_low (n : Int) (h : n < 0) : Frame.fsz n = 0 := by unfold Frame.fsz; rw [if_pos (.inl h)]
theorem fsz_high (n : Int) (h : 131072 < n) : Frame.fsz n = 0 := by unfold Frame.fsz; rw [if_pos (.inr h)]
theorem fsz_in (n : Int) (h0 : 0 ≤ n) (h1 : n ≤ 131072) : Frame.fsz n = if n < 128 then 7 + n else if n < 16384 then 7 + n + 1 else 7 + n + 1 + 1 := by
  unfold Frame.fsz
  rw [if_neg (by omega), uv_len n.toNat (by omega)]
  split <;> split <;> (try split) <;> omega
theorem fsz_len (tag : UInt8) (t : List UInt8) (h : t.length ≤ 131072) : Frame.fsz (t.length : Int) = ((Frame.raw tag t).length : Nat) := by
  unfold Frame.fsz
  rw [if_neg (by omega), Int.toNat_natCast, Frame.raw_length]
  omega

set_option maxRecDepth 100000 in
set_option maxHeartbeats 4000000 in
theorem walk (w : World) (a : Int) (a0 : 0 ≤ a) (a1 : a ≤ 255) (xs : List ByteArray) (A : Option Addr) (c : Nat) (hl : Lies w w.heap.size A (tcells xs)) (hn : xs.length ≤ maxLen) (hb : (∀ x ∈ xs, x.size ≤ maxLen) ∧ xs.length ≤ c)
    (n : Int) (n0 : -9223372036854775808 ≤ n) (n1 : n ≤ 9223372036854775807) :
    Calls Try.prog 3 #[.int .u8 a, .slice A xs.length c, .int .i64 n] w fun e w' => e = .returned (.bool true) ∧ Below w.heap.size w w' := by
  obtain ⟨tag, rfl⟩ : ∃ tag : UInt8, a = (tag.toNat : Int) := ⟨UInt8.ofNat a.toNat, by rw [UInt8.toNat_ofNat_of_lt' (by show a.toNat < 256; omega)]; omega⟩
  have hm := hn
  unfold maxLen at hm
  have HL := Lib.hid hl
  have HN := Lib.hid hn
  have HX := Lib.hid hb.1
  have hcap := hb.2
  clear hl hn hb
  go_enter Try.func3, Try.ntmps3
  go_wp2_with fail
  go_loop [7, 8] (fun T i => ∃ k : Nat, k ≤ xs.length ∧ i = .int .i64 k ∧ T = .string ⟨(catL (xs.take k)).toArray⟩ ∧ Hid ((catL (xs.take k)).length ≤ 1024 * k) ∧ Hid (k = 0 ∨ xs.length ≤ 100)) (fun _ i => xs.length - (intOf i).toNat)
  case atStart => exact ⟨0, Nat.zero_le _, rfl, rfl, by show _ ≤ _; simp [catL], .inl rfl⟩
  case round =>
    obtain ⟨k, hk, rfl, rfl, HC, HK⟩ := hrel
    by_cases hkn : k < xs.length
    · obtain ⟨ad, rfl, _, hck⟩ := HL.out.at_ (tcells_at hkn)
      by_cases hbig : 100 < xs.length
      · have hd : decide ((100 : Int) < (xs.length : Int)) = true := by simp; omega
        clear hbig
        go_wp2_with fail
        refine (alive4_any _).mono ?_
        rintro e w1 ⟨rfl, hb1⟩
        go_wp2_with fail
        go_ret
        exact ⟨rfl, hb1⟩
      · have hd : decide ((100 : Int) < (xs.length : Int)) = false := by simp; omega
        have hle : xs.length ≤ 100 := by omega
        have hx := HX.out xs[k] (List.getElem_mem hkn)
        unfold maxLen at hx
        by_cases hs : 1024 < (xs[k]).size
        · have hd2 : decide ((1024 : Int) < ((xs[k]).size : Int)) = true := by simp; omega
          clear hs hbig
          go_wp2_with fail
          refine (alive4_any _).mono ?_
          rintro e w1 ⟨rfl, hb1⟩
          go_wp2_with fail
          go_ret
          exact ⟨rfl, hb1⟩
        · have hd2 : decide ((1024 : Int) < ((xs[k]).size : Int)) = false := by simp; omega
          have hs2 : (xs[k]).size ≤ 1024 := by omega
          have hl1 : (⟨(catL (xs.take k)).toArray⟩ : ByteArray).size ≤ 102400 := by rw [mk_size]; have := HC.out; omega
          have HS := Lib.hid (catL_snoc xs k hkn)
          have HLEN := Lib.hid (catL_len xs k hkn)
          clear hs hbig
          go_wp2_with fail
          go_round
          case rel => exact ⟨k + 1, by omega, by go_num, by rw [HS.out, cat_mk], by show _ ≤ _; rw [HLEN.out]; have := HC.out; omega, .inr hle⟩
          case measure => simp [intOf]; omega
    · have hke : k = xs.length := by omega
      subst hke
      rw [List.take_of_length_le (Nat.le_refl _)] at HC ⊢
      have hle : (catL xs).length ≤ 102400 := by have := HC.out; have := HK.out; omega
      by_cases hbig : 4096 < (catL xs).length
      · have hd : decide ((4096 : Int) < ((catL xs).length : Int)) = true := by simp; omega
        go_wp2_with fail
        refine (alive4_any _).mono ?_
        rintro e w1 ⟨rfl, hb1⟩
        go_wp2_with fail
        go_ret
        exact ⟨rfl, hb1⟩
      · have hd : decide ((4096 : Int) < ((catL xs).length : Int)) = false := by simp; omega
        obtain ⟨F, hF⟩ : ∃ F : ByteArray, F = ⟨(Frame.raw tag (catL xs)).toArray⟩ := ⟨_, rfl⟩
        have HW := Lib.hid (hF ▸ fwrite_tail tag xs A c w HL.out HN.out hcap (by omega))
        have HR := Lib.hid (fun w => hF ▸ fraw_any tag ⟨(catL xs).toArray⟩ w (by rw [mk_size]; omega))
        have HSZ : Hid (Frame.fsz ((catL xs).length : Int) = (F.size : Int)) := by
          show _ = _
          rw [fsz_len tag _ (by omega), hF, mk_size]
        clear hF
        have hcases : (n < 0 ∧ Frame.fsz n = 0) ∨ (131072 < n ∧ Frame.fsz n = 0) ∨ ((0 ≤ n ∧ n < 128) ∧ Frame.fsz n = 7 + n) ∨ ((128 ≤ n ∧ n < 16384) ∧ Frame.fsz n = 7 + n + 1) ∨ ((16384 ≤ n ∧ n ≤ 131072) ∧ Frame.fsz n = 7 + n + 1 + 1) := by
          rcases Int.lt_or_le n 0 with h | h
          · exact .inl ⟨h, fsz_low n h⟩
          · rcases Int.lt_or_le 131072 n with h2 | h2
            · exact .inr (.inl ⟨h2, fsz_high n h2⟩)
            · have h3 := fsz_in n h h2
              by_cases h4 : n < 128
              · rw [if_pos h4] at h3; exact .inr (.inr (.inl ⟨⟨h, h4⟩, h3⟩))
              · rw [if_neg h4] at h3
                by_cases h5 : n < 16384
                · rw [if_pos h5] at h3; exact .inr (.inr (.inr (.inl ⟨⟨by omega, h5⟩, h3⟩)))
                · rw [if_neg h5] at h3; exact .inr (.inr (.inr (.inr ⟨⟨by omega, h2⟩, h3⟩)))
        clear hbig
        rcases hcases with ⟨h1, hz⟩ | ⟨h1, hz⟩ | ⟨⟨h1, h2⟩, hz⟩ | ⟨⟨h1, h2⟩, hz⟩ | ⟨⟨h1, h2⟩, hz⟩
        all_goals
          have HZ := Lib.hid hz
          clear hz
          go_wp2_with fail
          refine HW.out.mono ?_
          rintro e w1 ⟨rfl, hb1⟩
          have z1 := hb1.size
          have HB1 := Lib.hid hb1
          clear hb1
          go_wp2_with fail
          refine (HR.out _).mono ?_
          rintro e w2 ⟨rfl, hb2⟩
          have z2 := hb2.size
          have HB2 := Lib.hid (HB1.out.trans (hb2.mono z1))
          clear hb2
          go_wp2_with fail
          refine (fsize_any _ _ (by omega) (by omega)).mono ?_
          rw [HSZ.out]
          rintro e w' ⟨rfl, rfl⟩
          go_wp2_with fail
          refine (fsize_any n _ n0 n1).mono ?_
          rw [HZ.out]
          rintro e w' ⟨rfl, rfl⟩
          go_wp2_with fail
          refine (alive4_any _).mono ?_
          rintro e w3 ⟨rfl, hb3⟩
          have HB3 := Lib.hid (HB2.out.trans (hb3.mono (by omega)))
          clear hb3
          go_wp2_with fail
          go_ret
          exact ⟨rfl, HB3.out⟩

/-! ### From the walk to the statement -/
theorem own : ownKnob Try.prog.godebug = none := by kernel_rfl

set_option maxRecDepth 20000 in
theorem contract (H : Type) (enc : TypeId × Value → H) (W : World) (base : Nat) (args : Array Value) (ds gs : List (DataW H)) (before : List MemPlace)
    (hval : ∀ (j : Nat) t v, Try.f3.params[j]? = some t → args[j]? = some v → Value.okWide Try.prog W .any base t v)
    (hW : DataW.Whole enc Try.prog Try.f3.params.toList Rows.frameWritesSpec.vars false W args.toList ds gs before) :
    Calls Try.prog 3 args W fun e W' => ∃ v, e = .returned v ∧ Rows.frameWritesSpec.post enc Try.prog Try.f3 false true false false W args v W' := by
  have hW' := hW
  obtain ⟨p, q, hA0, hV, rfl, hfz, hnd⟩ := hW
  have hA : DataW.TrodAll enc Try.prog W 0 (fun _ => true) true Try.f3.params.toList args.toList ds p := hA0
  rw [Try.params3] at hA hval
  obtain ⟨v0, vs0, d0, ds0, p0, q0, hargs, rfl, rfl, h0, r0⟩ := trodAll_cons hA
  obtain ⟨v1, vs1, d1, ds1, p1, q1, rfl, rfl, rfl, h1, r1⟩ := trodAll_cons r0
  obtain ⟨v2, vs2, d2, ds2, p2, q2, rfl, rfl, rfl, h2, r2⟩ := trodAll_cons r1
  obtain ⟨rfl, rfl, rfl⟩ := trodAll_nil r2
  obtain rfl : args = #[v0, v1, v2] := by cases args; simp_all
  obtain ⟨rfl, rfl⟩ := trodVars_none hV
  obtain ⟨a0, rfl, rfl, rfl, w0⟩ := open_int Try.underlying5 (hval 0 5 v0 rfl rfl) h0
  have b0 : 0 ≤ a0 ∧ a0 ≤ 255 := by simpa [Lit.wf, IntKind.min, IntKind.max, IntKind.signed, IntKind.bits] using w0
  have k1 := h1
  obtain ⟨fuel1, hf1⟩ := h1
  obtain ⟨xs1, A1, c1, hcs1, hn1, hl1, hb1⟩ := trod_strsc Try.underlying22 Try.underlying9 (by kernel_rfl) hf1
  obtain rfl := slice_of Try.underlying22 (hval 1 22 v1 rfl rfl) hcs1
  obtain ⟨a2, rfl, rfl, rfl, w2⟩ := open_int Try.underlying3 (hval 2 3 v2 rfl rfl) h2
  have b2 : -9223372036854775808 ≤ a2 ∧ a2 ≤ 9223372036854775807 := by simpa [Lit.wf, IntKind.min, IntKind.max, IntKind.signed, IntKind.bits] using w2
  clear hA0
  simp only [List.append_nil] at hW'
  refine (walk W a0 b0.1 b0.2 xs1 A1 c1 hl1 hn1 hb1 a2 b2.1 b2.2).mono fun e W' ⟨he, bel⟩ => ?_
  subst he
  exact ⟨_, rfl, _, _, _, [], _, [], hW', trodAll_mk1 (shut_bool Try.underlying4 _), (trodAll_cons_mk (shut_int Try.underlying5 w0) (trodAll_cons_mk (Below.trod laidOut (by kernel_rfl) (of_decide_eq_true (by kernel_rfl)) k1 bel (fun x hx => DataW.trod_lt _ _ _ _ hf1 x hx)) (trodAll_cons_mk (shut_int Try.underlying3 w2) trodAll_mk0))), rfl, bel.frame _, fun h => by cases h⟩

set_option maxRecDepth 100000 in
theorem lifted (os : Os) (started : os.Started) (H : Type) (enc : TypeId × Value → H) :
    ReturnsInHanded {} Try.checked os 3 .any (Rows.frameWritesSpec.pre6 enc Try.prog Try.f3 Rows.frameWritesRow.domain false) (Rows.frameWritesSpec.post enc Try.prog Try.f3 false true false false) := by
  refine returnsInHanded_of_change (C := Try.checked) own started (by kernel_rfl) Try.func3
    (ChangeSpec.witness6 (enc := enc) (C := Try.checked) false ⟨#[], #[.int .u8 0, .slice none 0 0, .int .i64 0], []⟩ 8 (by kernel_rfl) (by kernel_rfl) (by kernel_rfl) (by kernel_rfl)) ?_
  intro W base args ds gs before hval hW _ _
  exact contract H enc W base args ds gs before hval hW

theorem over : Rows.frameWritesRow.holds Try.pinned (OpenSpec.ofChange Rows.frameWritesSpec) :=
  OpenClaim.holds_of_wide 3 Try.f3 rfl rfl rfl rfl rfl rfl rfl ⟨rfl, rfl, rfl, rfl, rfl⟩ rfl rfl rfl rfl rfl (by kernel_rfl) Try.func3 (by kernel_rfl)
    (of_decide_eq_true (by kernel_rfl)) (by unfold Func.isWrapper; first | (rw [if_pos (by decide +kernel)]; kernel_rfl) | (rw [if_neg (by decide +kernel)]; exact ⟨rfl, rfl⟩))
    (fun os started H enc _ => lifted os started H enc)

/-- The statement. -/
theorem proved : Rows.FrameWritesSaid :=
  over

end Go.Proofs.Ytnalpmiinoohoaa.frameWrites
