/-
  The contract of layer 4's turned: a frame in which bits are turned behind its length.
-/
import Derived.Test.YtnalpmiinoohoaaFrameSa
import Derived.Test.YtnalpmiinoohoaaFrameR
namespace Go.Proofs.Ytnalpmiinoohoaa
open Go.RowKit

theorem Frame.rd_flip (tag : UInt8) (T l : List UInt8) (m j : Nat) (hT : T.length ≤ 131072) (hl : l.length = (Frame.raw tag T).length) (ht : l.take (2 + (Lib.uvarint T.length).length) = (Frame.raw tag T).take (2 + (Lib.uvarint T.length).length))
    (hrun : Crc.run Crc.M l = Crc.run Crc.M (Frame.raw tag T) ^^^ Crc.Rn j m) (hm : m < 4294967296) (hm0 : m ≠ 0) : Frame.rd l 131072 = Frame.bad 41 := by
  have e : Frame.raw tag T = (1 :: tag :: Lib.uvarint T.length) ++ (T ++ Crc.fourL (Crc.on 0 (Frame.hd tag T))) := by
    unfold Frame.raw Frame.hd
    simp
  have e1 : (Frame.raw tag T).take (2 + (Lib.uvarint T.length).length) = 1 :: tag :: Lib.uvarint T.length := by
    rw [e, show 2 + (Lib.uvarint T.length).length = (1 :: tag :: Lib.uvarint T.length).length from by simp; omega, List.take_left]
  have e2 : l = 1 :: tag :: (Lib.uvarint T.length ++ l.drop (2 + (Lib.uvarint T.length).length)) := by
    conv => lhs; rw [← List.take_append_drop (2 + (Lib.uvarint T.length).length) l, ht, e1]
    rfl
  rw [e2]
  rw [Frame.raw_length] at hl
  refine Frame.rd_turned tag T.length _ 131072 hT (by omega) (by rw [List.length_drop]; omega) ?_
  rw [← e2, hrun, Frame.raw_run]
  intro h
  have h2 : Crc.Rn j m = 0 := by
    have := congrArg (Crc.Rn 32 Crc.M ^^^ ·) h
    simpa [← Nat.xor_assoc] using this
  exact hm0 (Crc.Rn_inj j hm h2)

set_option maxRecDepth 20000 in
set_option maxHeartbeats 4000000 in
theorem turned_any (tag wt : UInt8) (t : ByteArray) (x : Int) (x0 : 0 ≤ x) (x1 : x ≤ 65535) (y : Int) (y0 : 0 ≤ y) (y1 : y ≤ 4294967295) (w : World) (ht : t.size ≤ 512) :
    Calls Try.prog 17 #[.string ⟨(Frame.raw tag t.data.toList).toArray⟩, .agg #[.int .u8 (wt.toNat : Int), .string t], .int .u16 x, .int .u32 y] w fun e w' => e = .returned (.bool true) ∧ Below w.heap.size w w' := by
  obtain ⟨b, rfl⟩ := Int.eq_ofNat_of_zero_le y0
  have htl : t.data.toList.length = t.size := by simp
  obtain ⟨S, hS⟩ : ∃ S : ByteArray, S = ⟨(Frame.raw tag t.data.toList).toArray⟩ := ⟨_, rfl⟩
  have hSd : S.data.toList = Frame.raw tag t.data.toList := by rw [hS]
  have hul := Lib.uvarint_length64 (x := t.size) (by omega)
  have hup := Lib.uvarint_pos t.size
  obtain ⟨hd, hhd⟩ : ∃ hd : Nat, hd = 2 + (Lib.uvarint t.size).length := ⟨_, rfl⟩
  have hSs : S.size = hd + t.size + 4 := by
    have h1 : S.data.toList.length = S.size := by simp
    rw [← h1, hSd, Frame.raw_length, htl, hhd]
  rw [← hS]
  have hrun : ∀ (l : List UInt8) (m j : Nat), l.length = S.size → l.take hd = S.data.toList.take hd → Crc.run Crc.M l = Crc.run Crc.M S.data.toList ^^^ Crc.Rn j m → m < 4294967296 → m ≠ 0 → Frame.rd l 131072 = Frame.bad 41 := by
    intro l m j h1 h2 h3 h4 h5
    refine Frame.rd_flip tag t.data.toList l m j (by omega) (by rw [h1, ← hSd]; simp) ?_ (by rw [h3, hSd]) h4 h5
    rw [htl, ← hhd, h2, hSd]
  have HRUN := Lib.hid hrun
  have hsz : (S.size : Int) ≤ 528 := by omega
  have hh3 : 3 ≤ hd := by omega
  have hh12 : hd ≤ 12 := by omega
  have hti : (t.size : Int) ≤ 512 := by omega
  obtain ⟨k, hk, hkn⟩ : ∃ k : Nat, 8 * (hd : Int) + x % (8 * ((S.size : Int) - hd)) = (k : Int) ∧ 8 * hd ≤ k ∧ k < 8 * S.size :=
    ⟨(8 * (hd : Int) + x % (8 * ((S.size : Int) - hd))).toNat, by have := Int.emod_nonneg x (b := 8 * ((S.size : Int) - hd)) (by omega); omega,
      by have := Int.emod_nonneg x (b := 8 * ((S.size : Int) - hd)) (by omega); have := Int.emod_lt_of_pos x (b := 8 * ((S.size : Int) - hd)) (by omega); omega⟩
  obtain ⟨hk8, hkn⟩ := hkn
  have HSS := Lib.hid hSs
  have HK := Lib.hid hk
  have kc := fun W : World => Lib.run_convert_string_bytes (P := Try.prog) W 9 44 5 S Try.underlying9 Try.underlying44 Try.underlying5
  clear hS hSd hhd hul hup hrun htl hk
  have hSs1 : (S.size : Int) - 4 - t.size = hd := by omega
  have HS1 := Lib.hid hSs1
  have hgt3 : ¬ (hd : Int) < 3 := by omega
  have hdS : (hd : Int) + t.size + 4 = S.size := by omega
  have HDS := Lib.hid hdS
  clear hSs1 hSs hdS
  go_enter Try.func17, Try.ntmps17
  go_upto_region 1 with fail
  go_cut [9] (fun v wx => v = .int .i64 (hd : Int) ∧ wx = w.alloc (.cells #[.int .u8 (wt.toNat : Int), .string t] 31))
  case first =>
    go_wp2
    go_meet
    exact ⟨by rw [HS1.out], rfl⟩
  case rest =>
    obtain ⟨rfl, rfl⟩ := hcut
    go_upto_region 5 with fail
    clear kc
    have h0 := Turn.Held.start (w.alloc (.cells #[.int .u8 (wt.toNat : Int), .string t] 31)) 5 S
    have hb0 := ((Below.refl w.heap.size w).alloc (Nat.le_refl _) (.cells #[.int .u8 (wt.toNat : Int), .string t] 31)).trans ((Turn.below_bytes (w.alloc (.cells #[.int .u8 (wt.toNat : Int), .string t] 31)) 5 S).mono (by simp))
    rw [World.size_alloc] at h0
    revert h0 hb0
    generalize Lib.bytesWorld (w.alloc (.cells #[.int .u8 (wt.toNat : Int), .string t] 31)) 5 S = w0
    generalize grownCap (w.alloc (.cells #[.int .u8 (wt.toNat : Int), .string t] 31)) S.size 0 5 = cap
    intro h0 hb0
    have hp4 : (hd : Int) + 4 ≤ S.size := by have := HDS.out; omega
    have hH0 := Lib.hid h0
    clear h0
    go_cut [11] (fun v wx => v = .int .i64 (k : Int) ∧ wx = w0)
    case first =>
      go_wp2
      go_meet
      exact ⟨by rw [HK.out, IntWalk.wrap64_in _ ⟨by omega, by omega⟩], rfl⟩
    case rest =>
      obtain ⟨rfl, rfl⟩ := hcut
      go_wp2_with fail
      go_loopg [12, 13] 33 (fun g t a wr => ∃ (i : Nat) (l : List UInt8), g = 33 - i ∧ i ≤ 32 ∧ k + i ≤ 8 * S.size ∧ a = .int .i64 i ∧ (∃ T : Bool, t = .bool T ∧ T = decide (b % 2 ^ i ≠ 0)) ∧ l.length = S.size ∧
        Crc.run Crc.M l = Crc.run Crc.M S.data.toList ^^^ Crc.Rn (8 * S.size - k) (b % 2 ^ i) ∧ l.take hd = S.data.toList.take hd ∧ Turn.Held (w.heap.size + 1) l wr ∧ Below w.heap.size w wr)
      case atStart => exact ⟨0, S.data.toList, rfl, by omega, by omega, rfl, ⟨false, rfl, by simp [Nat.mod_one]⟩, by simp, by simp [Nat.mod_one, Crc.Rn_zero], rfl, hH0.out, hb0⟩
      case round =>
        clear hH0 hb0
        obtain ⟨i, l, rfl, hi, hki, rfl, ⟨T, rfl, hT⟩, hl, hrun, htk, hh, hbel⟩ := hrel
        have HT := Lib.hid hT
        clear hT
        have HL := Lib.hid hl
        have HR := Lib.hid hrun
        have HH := Lib.hid hh
        have HTK := Lib.hid htk
        clear hl hrun hh htk
        by_cases hlt : i < 32 ∧ k + i < 8 * S.size
        · obtain ⟨hlt1, hlt2⟩ := hlt
          have hki' : (k : Int) + (i : Int) < 8 * (S.size : Int) := by omega
          have hn := HL.out
          have hq : (k + i) / 8 < l.length := by omega
          by_cases hb : b / 2 ^ i % 2 = 1
          · have hbit : (bits BinOp.and IntKind.u32 ((b : Int) / 2 ^ i) 1 == 1) = true := by rw [Turn.bit_and b i (by omega), hb]; rfl
            obtain ⟨hc, hf⟩ := HH.out _ hq
            clear hn
            go_wp2_with fail
            go_roundg (33 - (i + 1))
            case measure => omega
            case rel =>
              refine ⟨i + 1, _, rfl, by omega, by omega, by go_num, ⟨true, rfl, ?_⟩, ?_, Crc.turn_step Crc.M (8 * S.size) k i b l S.data.toList (by rw [HL.out]) hlt2 hb HR.out (UInt8.ofNat (2 ^ ((k + i) % 8))) (Turn.bit_val _ (by omega)) hq,
                ?_, HH.out.set _ hq _ _ (Turn.bit_xor _ _ (by omega)), hbel.setCell (by simp) _⟩
              · symm; rw [decide_eq_true_iff]; exact Turn.mod_hit b i hb
              · rw [List.length_set]; exact HL.out
              · rw [List.take_set_of_le (by omega)]; exact HTK.out
          · have hbit : (bits BinOp.and IntKind.u32 ((b : Int) / 2 ^ i) 1 == 1) = false := by rw [Turn.bit_and b i (by omega), show b / 2 ^ i % 2 = 0 by omega]; rfl
            clear hn
            go_wp2_with fail
            go_roundg (33 - (i + 1))
            case measure => omega
            case rel => exact ⟨i + 1, l, rfl, by omega, by omega, by go_num, ⟨T, rfl, by rw [Crc.mod_succ_none b i (by omega)]; exact HT.out⟩, HL.out, by rw [Crc.mod_succ_none b i (by omega)]; exact HR.out, HTK.out, HH.out, hbel⟩
        · have hlen : (⟨l.toArray⟩ : ByteArray).size ≤ 1000000 := by
            show l.toArray.size ≤ 1000000
            rw [List.size_toArray, HL.out]; omega
          have hconv := HH.out.conv S.size cap HL.out
          by_cases hi32 : i < 32
          · have hki' : ¬ (k : Int) + (i : Int) < 8 * (S.size : Int) := by omega
            clear hlt
            by_cases hb0 : b % 2 ^ i = 0
            · have hTf : T = false := by rw [HT.out, hb0]; rfl
              subst hTf
              generalize hR : Frame.rd l 131072 = R
              have hRd : ∀ w, Calls Try.prog 12 #[.string ⟨l.toArray⟩, .int .i64 131072] w fun e w' => e = .returned (Frame.val R) ∧ Below w.heap.size w w' := fun w => by
                rw [← hR]
                exact fread_any _ 131072 w hlen (by omega)
              have HRd := Lib.hid hRd
              obtain ⟨tg, tx, rk, er⟩ := R
              clear HT HR HL HH HTK hR hRd hb0
              go_wp2_with fail
              refine (HRd.out _).mono ?_
              unfold Frame.val
              rintro e w1 ⟨rfl, hb1⟩
              go_wp2_with fail
              go_ret
              have s0 := hbel.size
              exact ⟨rfl, (hbel.trans (hb1.mono s0)).alloc (by have := hb1.size; omega) _⟩
            · have hTt : T = true := by rw [HT.out]; simpa using hb0
              subst hTt
              have hR := HRUN.out l _ _ HL.out HTK.out HR.out (Nat.lt_of_le_of_lt (Nat.mod_le _ _) (by omega)) hb0
              have hRd : ∀ w, Calls Try.prog 12 #[.string ⟨l.toArray⟩, .int .i64 131072] w fun e w' => e = .returned (Frame.val (Frame.bad 41)) ∧ Below w.heap.size w w' := fun w => by
                rw [← hR]
                exact fread_any _ 131072 w hlen (by omega)
              have HRd := Lib.hid hRd
              clear HT HR HL HH HTK hR hRd hb0
              go_wp2_with fail
              refine (HRd.out _).mono ?_
              rw [Frame.val_bad]
              rintro e w1 ⟨rfl, hb1⟩
              go_wp2_with fail
              go_ret
              have s0 := hbel.size
              exact ⟨rfl, (hbel.trans (hb1.mono s0)).alloc (by have := hb1.size; omega) _⟩
          · clear hlt
            by_cases hb0 : b % 2 ^ i = 0
            · have hTf : T = false := by rw [HT.out, hb0]; rfl
              subst hTf
              generalize hR : Frame.rd l 131072 = R
              have hRd : ∀ w, Calls Try.prog 12 #[.string ⟨l.toArray⟩, .int .i64 131072] w fun e w' => e = .returned (Frame.val R) ∧ Below w.heap.size w w' := fun w => by
                rw [← hR]
                exact fread_any _ 131072 w hlen (by omega)
              have HRd := Lib.hid hRd
              obtain ⟨tg, tx, rk, er⟩ := R
              clear HT HR HL HH HTK hR hRd hb0
              go_wp2_with fail
              refine (HRd.out _).mono ?_
              unfold Frame.val
              rintro e w1 ⟨rfl, hb1⟩
              go_wp2_with fail
              go_ret
              have s0 := hbel.size
              exact ⟨rfl, (hbel.trans (hb1.mono s0)).alloc (by have := hb1.size; omega) _⟩
            · have hTt : T = true := by rw [HT.out]; simpa using hb0
              subst hTt
              have hR := HRUN.out l _ _ HL.out HTK.out HR.out (Nat.lt_of_le_of_lt (Nat.mod_le _ _) (by omega)) hb0
              have hRd : ∀ w, Calls Try.prog 12 #[.string ⟨l.toArray⟩, .int .i64 131072] w fun e w' => e = .returned (Frame.val (Frame.bad 41)) ∧ Below w.heap.size w w' := fun w => by
                rw [← hR]
                exact fread_any _ 131072 w hlen (by omega)
              have HRd := Lib.hid hRd
              clear HT HR HL HH HTK hR hRd hb0
              go_wp2_with fail
              refine (HRd.out _).mono ?_
              rw [Frame.val_bad]
              rintro e w1 ⟨rfl, hb1⟩
              go_wp2_with fail
              go_ret
              have s0 := hbel.size
              exact ⟨rfl, (hbel.trans (hb1.mono s0)).alloc (by have := hb1.size; omega) _⟩
end Go.Proofs.Ytnalpmiinoohoaa
