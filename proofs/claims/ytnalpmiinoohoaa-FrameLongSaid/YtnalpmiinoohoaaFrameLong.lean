/-
  What is proved: for every int8 and every uint8 the law FrameLong of layer 4 returns true and changes nothing: how long a frame's text may be, handed in as one or as two, and told as such. No condition.
-/
import Derived.Test.YtnalpmiinoohoaaRows
import Derived.Test.YtnalpmiinoohoaaL04A
import Derived.Test.YtnalpmiinoohoaaFrameO
import Derived.Deep.DeepCutAuto
import Derived.BigQuiet
import Derived.Deep.RegionWith
import Derived.Deep.DrawnRows
import Derived.Deep.RegionHeld3
import Derived.ProofKit
import Derived.OpenShut
import Derived.ShutString
namespace Go.Proofs.Ytnalpmiinoohoaa.frameLong
open Go.ChangeShapes Go.WideShapes Go.ChangeAt Go.RowKit
open Go.ChangeMaps (open_string shut_string)

theorem rd_over (tag : UInt8) (n : Nat) (b : List UInt8) (most : Int) (hn : n < 18446744073709551616) (h : most < (n : Int) ∨ 131072 < n) : Frame.rd (1 :: tag :: (Lib.uvarint n ++ b)) most = Frame.bad 4 := by
  rw [Frame.rd_two, Num.rd_uv n (by omega) b]
  simp only []
  rw [if_neg (by decide), if_neg (by decide), if_pos (by omega)]
theorem raw_front (tag : UInt8) (t : List UInt8) : Frame.raw tag t = 1 :: tag :: (Lib.uvarint t.length ++ (t ++ Crc.fourL (Crc.on 0 (Frame.hd tag t)))) := by
  unfold Frame.raw Frame.hd
  simp
theorem cat_cut2 (s : ByteArray) (k : Nat) : catL [s.extract 0 k, s.extract k s.size] = s.data.toList := by
  unfold catL
  rw [List.flatMap_cons, List.flatMap_cons, List.flatMap_nil, Lib.extract_data, Lib.extract_data]
  have : (s.data.toList.drop k).take (s.size - k) = s.data.toList.drop k := List.take_of_length_le (by simp)
  rw [this]
  simp

theorem conv_three (W : World) (b : Nat) (x y z : Int) (h : W.cell? ⟨b, 0, none⟩ = some (.int .u8 x)) (h' : W.cell? ⟨b, 1, none⟩ = some (.int .u8 y)) (h'' : W.cell? ⟨b, 2, none⟩ = some (.int .u8 z)) :
    (convert 44 9 (.slice (some ⟨b, 0, none⟩) 3 3)).run Try.prog W = .ok (.string ⟨#[UInt8.ofNat x.toNat, UInt8.ofNat y.toNat, UInt8.ofNat z.toNat]⟩) W := by
  have := run_convert_bytes_arg (P := Try.prog) W 44 5 Try.underlying44 Try.underlying5 b 0 3 3 [x, y, z] rfl
    (fun i hi => by
      have : i = 0 ∨ i = 1 ∨ i = 2 := by omega
      rcases this with rfl | rfl | rfl
      · exact h
      · exact h'
      · exact h'') 9 Try.underlying9
  simpa [strOfNums] using this

theorem mask7 (x : Int) (h0 : 0 ≤ x) (h1 : x < 256) : bits BinOp.or IntKind.u8 (bits BinOp.and IntKind.u8 x 127) 128 = x % 128 + 128 := by
  have h := bits_mask .u8 8 (by decide) wraps_u8 7 (by omega) x h0 (by simpa using h1)
  have e : bits BinOp.and IntKind.u8 x 127 = x % 128 := by simpa using h
  rw [e, Lib.u8_or128_any _ (by omega) (by omega)]
  omega

/-- A number's three bytes. -/
theorem three (n : Int) (N : Nat) (hN : n = (N : Int)) (h0 : 131072 ≤ N) (h1 : N ≤ 131199) :
    (⟨#[UInt8.ofNat (bits BinOp.or IntKind.u8 (bits BinOp.and IntKind.u8 (n % 256) 127) 128).toNat, UInt8.ofNat (bits BinOp.or IntKind.u8 (bits BinOp.and IntKind.u8 (n / 128 % 256) 127) 128).toNat, UInt8.ofNat (n / 16384).toNat]⟩ : ByteArray) = ⟨(Lib.uvarint N).toArray⟩ := by
  subst hN
  rw [mask7 _ (by omega) (by omega), mask7 _ (by omega) (by omega), Lib.uvarint_big (by omega), Lib.uvarint_big (by omega), Lib.uvarint_small (by omega)]
  have e1 : ((N : Int) % 256 % 128 + 128).toNat = N % 128 + 128 := by omega
  have e2 : ((N : Int) / 128 % 256 % 128 + 128).toNat = N / 128 % 128 + 128 := by omega
  have e3 : ((N : Int) / 16384).toNat = N / 128 / 128 := by omega
  rw [e1, e2, e3]

set_option maxRecDepth 100000 in
set_option maxHeartbeats 8000000 in
theorem walk (v : Int) (v0 : -128 ≤ v) (v1 : v ≤ 127) (u : Int) (u0 : 0 ≤ u) (u1 : u ≤ 255) (w : World) :
    Calls Try.prog 5 #[.int .i8 v, .int .u8 u] w fun e w' => e = .returned (.bool true) ∧ Below w.heap.size w w' := by
  obtain ⟨c, rfl⟩ := Int.eq_ofNat_of_zero_le u0
  obtain ⟨i0, hi, hz0, hz1, hz2⟩ := info_parts Crc.infoByte
  obtain ⟨N, hN⟩ : ∃ N : Nat, 131072 + v = (N : Int) := ⟨(131072 + v).toNat, by omega⟩
  have hN1 : N ≤ 131199 := by omega
  have hN0 : 130944 ≤ N := by omega
  obtain ⟨Z, hZ⟩ : ∃ Z : ByteArray, Z = Crc.zeroText N := ⟨_, rfl⟩
  have hZs : Z.size = N := by rw [hZ, Crc.zeroText_size]
  have HZ := Lib.hid hZ
  have HZS := Lib.hid hZs
  have HN := Lib.hid hN
  clear hZ hZs hN
  by_cases hpos : 0 < v
  · have hWr : ∀ (W : World) (B : Nat), W.cell? ⟨B, 0, none⟩ = some (.string (Z.extract 0 c)) → W.cell? ⟨B, 1, none⟩ = some (.string (Z.extract c Z.size)) → B < W.heap.size →
        Calls Try.prog 9 #[.int .u8 1, .slice (some ⟨B, 0, none⟩) 2 2] W fun e w' => e = .returned (.tuple #[.string ⟨#[]⟩, .int .i64 4]) ∧ W = w' := fun W B h h' hB => by
      refine fwrite_long 1 [Z.extract 0 c, Z.extract c Z.size] (some ⟨B, 0, none⟩) 2 W (lies_two W B _ _ h h' hB) (by simp [maxLen]) ?_ ?_
      · rw [cat_cut2]
        have := HZS.out
        have := HN.out
        simp
        omega
      · intro x hx
        have := HZS.out
        have hz : Z.size ≤ maxLen := by unfold maxLen; omega
        simp at hx
        rcases hx with rfl | rfl <;> (rw [ByteArray.size_extract]; omega)
    have HWR := Lib.hid hWr
    clear hWr
    go_enter Try.func5, Try.ntmps5
    go_wp2_with (at_make; refine wpList_make_full _ rfl _ _ 44 rfl w.heap.size 5 i0 (.int .u8 0) 1 Try.underlying44 hi hz0 hz1 _ _ _ _ N rfl rfl HN.out HN.out ?b2 ?b3 (Nat.le_refl _) ?_)
    case b2 => rw [hz2]; omega
    case b3 => unfold maxLen; omega
    intro w0 hown0 hgrow0
    have hb0 : Below w.heap.size w w0 := (Below.refl _ _).grown hgrow0 (Nat.le_refl _) (fun k h => by cases h)
    have hcv := Crc.zero_conv hown0
    rw [← HZ.out] at hcv
    clear hown0 hgrow0
    go_wp2_with fail
    have hcz : (c : Int) ≤ (Z.size : Int) := by have := HZS.out; omega
    have hczn : c ≤ Z.size := by omega
    have hwc : IntKind.i64.wrap (c : Int) = (c : Int) := IntWalk.i64_in _ (by omega)
    have z0 := hb0.size
    have HB0 := Lib.hid hb0
    clear hb0 hcv
    go_cut [7, 8] (fun s g wx => s = .string ⟨#[]⟩ ∧ g = .int .i64 4 ∧ Below w0.heap.size w0 wx)
    case first =>
      go_region_with (go_at_call 9; refine (HWR.out _ _ (by simp [go_sem]) (by simp [go_sem]) (by simp)).mono ?_; rintro e w' ⟨rfl, rfl⟩)
      all_goals
        go_wp2
        go_meet
        refine ⟨rfl, rfl, ?_⟩
        repeat (first | with_reducible exact Below.refl _ _ | with_reducible refine Below.drew ?_ | with_reducible refine Below.alloc ?_ ?_ _)
        all_goals (first | exact Nat.le_refl _ | (simp; done) | (simp; omega))
    case rest =>
      obtain ⟨rfl, rfl, hbel⟩ := hcut
      have HB1 := Lib.hid (HB0.out.trans (hbel.mono z0))
      have z1 := HB1.out.size
      clear hbel
      clear hwc
      have hcv3 := fun (b : Nat) (W : World) => three (131072 + v) N HN.out (by have := HN.out; omega) hN1 ▸ conv_three W b (bits BinOp.or IntKind.u8 (bits BinOp.and IntKind.u8 ((131072 + v) % 256) 127) 128) (bits BinOp.or IntKind.u8 (bits BinOp.and IntKind.u8 ((131072 + v) / 128 % 256) 127) 128) ((131072 + v) / 16384)
      have hul := Lib.uvarint_length64 (x := N) (by omega)
      have huz : (⟨(Lib.uvarint N).toArray⟩ : ByteArray).size ≤ 10 := hul
      have hzz : Z.size ≤ 131199 := by have := HZS.out; omega
      obtain ⟨H, hH⟩ : ∃ H : ByteArray, H = (⟨#[1, 1]⟩ : ByteArray) ++ ⟨(Lib.uvarint N).toArray⟩ ++ Z ++ ⟨#[0, 0, 0, 0]⟩ := ⟨_, rfl⟩
      have hHd : H.data.toList = 1 :: 1 :: (Lib.uvarint N ++ (Z.data.toList ++ [0, 0, 0, 0])) := by rw [hH]; simp
      have hHs : H.size ≤ 1000000 := by
        have e : H.size = H.data.toList.length := by simp
        rw [e, hHd]
        simp
        omega
      have hRd : ∀ w, Calls Try.prog 12 #[.string H, .int .i64 1048576] w fun e w' => e = .returned (Frame.val (Frame.bad 4)) ∧ Below w.heap.size w w' := fun w => by
        have := fread_any H 1048576 w hHs (by omega)
        rw [hHd, rd_over 1 N _ 1048576 (by omega) (.inr (by have := HN.out; omega))] at this
        exact this
      have HRD := Lib.hid hRd
      have HH := Lib.hid hH.symm
      have HSZ : Hid (Frame.fsz (131072 + v) = 0) := by
        show _ = _
        unfold Frame.fsz
        rw [if_pos (by omega)]
      clear hH hHd hRd
      go_upto_region 6 with fail
      rw [HH.out]
      clear hcv3 huz hul
      go_wp2_with fail
      refine (HRD.out _).mono ?_
      rw [Frame.val_bad]
      rintro e w2 ⟨rfl, hb2⟩
      have z2 := hb2.size
      simp at z2
      have HB2 := Lib.hid ((HB1.out.alloc z1 _).trans (hb2.mono (by simp <;> omega)))
      clear hb2
      go_wp2_with fail
      refine (fsize_any _ _ (by omega) (by omega)).mono ?_
      rw [HSZ.out]
      rintro e w' ⟨rfl, rfl⟩
      go_wp2_with fail
      refine (alive4_any _).mono ?_
      rintro e w3 ⟨rfl, hb3⟩
      go_wp2_with fail
      go_ret
      exact ⟨rfl, (HB2.out.alloc (by omega) _).trans (hb3.mono (by simp <;> omega))⟩
  · obtain ⟨F, hF⟩ : ∃ F : ByteArray, F = ⟨(Frame.raw 1 Z.data.toList).toArray⟩ := ⟨_, rfl⟩
    have hNle : N ≤ 131072 := by have := HN.out; omega
    have hzl : Z.data.toList.length = N := by have := HZS.out; simpa using this
    have hul := Lib.uvarint_length64 (x := N) (by omega)
    have hFd : F.data.toList = Frame.raw 1 Z.data.toList := by rw [hF]
    have hFs : F.size = (Frame.raw 1 Z.data.toList).length := by rw [hF, mk_size]
    have hFb : F.size ≤ 1000000 := by
      rw [hFs, Frame.raw_length, hzl]
      omega
    have hWr : ∀ (W : World) (B : Nat), W.cell? ⟨B, 0, none⟩ = some (.string (Z.extract 0 c)) → W.cell? ⟨B, 1, none⟩ = some (.string (Z.extract c Z.size)) → B < W.heap.size →
        Calls Try.prog 9 #[.int .u8 1, .slice (some ⟨B, 0, none⟩) 2 2] W fun e w' => e = .returned (.tuple #[.string F, .int .i64 0]) ∧ Below W.heap.size W w' := fun W B h h' hB => by
      have := fwrite_tail 1 [Z.extract 0 c, Z.extract c Z.size] (some ⟨B, 0, none⟩) 2 W (lies_two W B _ _ h h' hB) (by simp [maxLen]) (by simp) (by rw [cat_cut2, hzl]; exact hNle)
      rw [cat_cut2, ← hF] at this
      exact this
    have hZ2 : (⟨Z.data.toList.toArray⟩ : ByteArray) = Z := by simp
    have hR1 : ∀ w, Calls Try.prog 12 #[.string F, .int .i64 (131072 + v)] w fun e w' => e = .returned (.tuple #[.agg #[.int .u8 1, .string Z], .int .i64 (F.size : Int), .int .i64 0]) ∧ Below w.heap.size w w' := fun w => by
      have h1 := fread_any F (131072 + v) w hFb (by omega)
      have h2 := Frame.rd_raw 1 Z.data.toList [] (131072 + v) (by omega) (by have := HN.out; omega)
      rw [List.append_nil, ← hFd] at h2
      rw [h2] at h1
      unfold Frame.val at h1
      simp only [] at h1
      rw [hZ2] at h1
      have e : F.data.toList.length = F.size := by simp
      rw [e] at h1
      exact h1
    have hR2 : ∀ w, Calls Try.prog 12 #[.string F, .int .i64 (131072 + v - 1)] w fun e w' => e = .returned (Frame.val (Frame.bad 4)) ∧ Below w.heap.size w w' := fun w => by
      have h1 := fread_any F (131072 + v - 1) w hFb (by omega)
      rw [hFd, raw_front, hzl, rd_over 1 N _ _ (by omega) (.inl (by have := HN.out; omega))] at h1
      exact h1
    have HWR := Lib.hid hWr
    have HR1 := Lib.hid hR1
    have HR2 := Lib.hid hR2
    clear hWr hR1 hR2 hF hFd hFs hzl hul hZ2
    have hle : ¬ 0 < v := hpos
    go_enter Try.func5, Try.ntmps5
    go_wp2_with (at_make; refine wpList_make_full _ rfl _ _ 44 rfl w.heap.size 5 i0 (.int .u8 0) 1 Try.underlying44 hi hz0 hz1 _ _ _ _ N rfl rfl HN.out HN.out ?b4 ?b5 (Nat.le_refl _) ?_)
    case b4 => first | (rw [hz2]; omega) | omega
    case b5 => unfold maxLen; omega
    intro w0 hown0 hgrow0
    have hb0 : Below w.heap.size w w0 := (Below.refl _ _).grown hgrow0 (Nat.le_refl _) (fun k h => by cases h)
    have hcv := Crc.zero_conv hown0
    rw [← HZ.out] at hcv
    clear hown0 hgrow0
    go_wp2_with fail
    have hcz : (c : Int) ≤ (Z.size : Int) := by have := HZS.out; omega
    have hczn : c ≤ Z.size := by omega
    have hwc : IntKind.i64.wrap (c : Int) = (c : Int) := IntWalk.i64_in _ (by omega)
    have z0 := hb0.size
    have HB0 := Lib.hid hb0
    clear hb0 hcv
    go_cut [7, 8] (fun s g wx => s = .string F ∧ g = .int .i64 0 ∧ Below w0.heap.size w0 wx)
    case first =>
      go_region_with (go_at_call 9; refine (HWR.out _ _ (by simp [go_sem]) (by simp [go_sem]) (by simp)).mono ?_; rintro e w3 ⟨rfl, hb3⟩)
      all_goals
        go_wp2
        go_meet
        refine ⟨rfl, rfl, ?_⟩
        have hU : Below w0.heap.size w0 w3 := by
          refine Below.trans ?_ (hb3.mono ?_)
          · repeat (first | with_reducible exact Below.refl _ _ | with_reducible refine Below.drew ?_ | with_reducible refine Below.alloc ?_ ?_ _)
            all_goals (first | exact Nat.le_refl _ | (simp; done) | (simp; omega))
          · first | exact Nat.le_refl _ | (simp; done) | (simp; omega)
        have hs1 := hU.size
        repeat (first | with_reducible exact hU | with_reducible refine Below.drew ?_ | with_reducible refine Below.alloc ?_ ?_ _)
        all_goals (first | exact hs1 | (simp; done) | (simp; omega))
    case rest =>
      obtain ⟨rfl, rfl, hbel⟩ := hcut
      have HB1 := Lib.hid (HB0.out.trans (hbel.mono z0))
      have z1 := HB1.out.size
      clear hbel hwc
      go_wp2_with fail
      refine (HR1.out _).mono ?_
      rintro e w2 ⟨rfl, hb2⟩
      have z2 := hb2.size
      have HB2 := Lib.hid (HB1.out.trans (hb2.mono z1))
      clear hb2
      go_wp2_with fail
      refine (HR2.out _).mono ?_
      rw [Frame.val_bad]
      rintro e w3 ⟨rfl, hb3⟩
      have c30 : w3.cell? ⟨w2.heap.size, 0, none⟩ = some (.int .u8 1) := ((kept_cells hb3).1 _ _ (by simp)).trans (by simp [go_sem])
      have c31 : w3.cell? ⟨w2.heap.size, 1, none⟩ = some (.string Z) := ((kept_cells hb3).1 _ _ (by simp)).trans (by simp [go_sem])
      have z3 := hb3.size
      simp at z3
      have hlt3 : w2.heap.size < w3.heap.size := by omega
      have HB3 := Lib.hid ((HB2.out.alloc (by omega) _).trans (hb3.mono (by simp <;> omega)))
      clear hb3
      go_wp2_with fail
      refine (alive4_any _).mono ?_
      rintro e w4 ⟨rfl, hb4⟩
      go_wp2_with fail
      go_ret
      exact ⟨rfl, (HB3.out.alloc (by omega) _).trans (hb4.mono (by simp <;> omega))⟩

/-! ### From the walk to the statement -/
theorem own : ownKnob Try.prog.godebug = none := by kernel_rfl

set_option maxRecDepth 20000 in
theorem contract (H : Type) (enc : TypeId × Value → H) (W : World) (base : Nat) (args : Array Value) (ds gs : List (DataW H)) (before : List MemPlace)
    (hval : ∀ (j : Nat) t v, Try.f5.params[j]? = some t → args[j]? = some v → Value.okWide Try.prog W .any base t v)
    (hW : DataW.Whole enc Try.prog Try.f5.params.toList Rows.frameLongSpec.vars false W args.toList ds gs before) :
    Calls Try.prog 5 args W fun e W' => ∃ v, e = .returned v ∧ Rows.frameLongSpec.post enc Try.prog Try.f5 false true false false W args v W' := by
  have hW' := hW
  obtain ⟨p, q, hA0, hV, rfl, hfz, hnd⟩ := hW
  have hA : DataW.TrodAll enc Try.prog W 0 (fun _ => true) true Try.f5.params.toList args.toList ds p := hA0
  rw [Try.params5] at hA hval
  obtain ⟨v0, vs0, d0, ds0, p0, q0, hargs, rfl, rfl, h0, r0⟩ := trodAll_cons hA
  obtain ⟨v1, vs1, d1, ds1, p1, q1, rfl, rfl, rfl, h1, r1⟩ := trodAll_cons r0
  obtain ⟨rfl, rfl, rfl⟩ := trodAll_nil r1
  obtain rfl : args = #[v0, v1] := by cases args; simp_all
  obtain ⟨rfl, rfl⟩ := trodVars_none hV
  obtain ⟨a0, rfl, rfl, rfl, w0⟩ := open_int Try.underlying43 (hval 0 43 v0 rfl rfl) h0
  have b0 : -128 ≤ a0 ∧ a0 ≤ 127 := by simpa [Lit.wf, IntKind.min, IntKind.max, IntKind.signed, IntKind.bits] using w0
  obtain ⟨a1, rfl, rfl, rfl, w1⟩ := open_int Try.underlying5 (hval 1 5 v1 rfl rfl) h1
  have b1 : 0 ≤ a1 ∧ a1 ≤ 255 := by simpa [Lit.wf, IntKind.min, IntKind.max, IntKind.signed, IntKind.bits] using w1
  clear hA0
  simp only [List.append_nil] at hW'
  refine (walk a0 b0.1 b0.2 a1 b1.1 b1.2 W).mono fun e W' ⟨he, bel⟩ => ?_
  subst he
  exact ⟨_, rfl, _, _, _, [], _, [], hW', trodAll_mk1 (shut_bool Try.underlying4 _), (trodAll_cons_mk (shut_int Try.underlying43 w0) (trodAll_cons_mk (shut_int Try.underlying5 w1) trodAll_mk0)), rfl, bel.frame _, fun h => by cases h⟩

set_option maxRecDepth 100000 in
theorem lifted (os : Os) (started : os.Started) (H : Type) (enc : TypeId × Value → H) :
    ReturnsInHanded {} Try.checked os 5 .any (Rows.frameLongSpec.pre6 enc Try.prog Try.f5 Rows.frameLongRow.domain false) (Rows.frameLongSpec.post enc Try.prog Try.f5 false true false false) := by
  refine returnsInHanded_of_change (C := Try.checked) own started (by kernel_rfl) Try.func5
    (ChangeSpec.witness6 (enc := enc) (C := Try.checked) false ⟨#[], #[.int .i8 0, .int .u8 0], []⟩ 8 (by kernel_rfl) (by kernel_rfl) (by kernel_rfl) (by kernel_rfl)) ?_
  intro W base args ds gs before hval hW _ _
  exact contract H enc W base args ds gs before hval hW

theorem over : Rows.frameLongRow.holds Try.pinned (OpenSpec.ofChange Rows.frameLongSpec) :=
  OpenClaim.holds_of_wide 5 Try.f5 rfl rfl rfl rfl rfl rfl rfl ⟨rfl, rfl, rfl, rfl, rfl⟩ rfl rfl rfl rfl rfl (by kernel_rfl) Try.func5 (by kernel_rfl)
    (of_decide_eq_true (by kernel_rfl)) (by unfold Func.isWrapper; first | (rw [if_pos (by decide +kernel)]; kernel_rfl) | (rw [if_neg (by decide +kernel)]; exact ⟨rfl, rfl⟩))
    (fun os started H enc _ => lifted os started H enc)

/-- The statement. -/
theorem proved : Rows.FrameLongSaid :=
  over

end Go.Proofs.Ytnalpmiinoohoaa.frameLong
