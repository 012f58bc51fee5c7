/-
  What is proved: for every slice of frames, every uint16 and every uint32 the law FrameCut of layer 4 returns true and changes nothing: of what is cut off anywhere just the whole frames are told; a frame in which bits are turned is not told as it was. No condition.
-/
import Derived.Test.YtnalpmiinoohoaaRows
import Derived.Test.YtnalpmiinoohoaaL04A
import Derived.Test.YtnalpmiinoohoaaFrameO
import Derived.Test.YtnalpmiinoohoaaFrameU
import Derived.Test.YtnalpmiinoohoaaFrameC
import Derived.Deep.DeepCutAuto
import Derived.Deep.CutBlock
import Derived.BigQuiet
import Derived.Deep.RegionWith
import Derived.Deep.DrawnRows
import Derived.Deep.RegionHeld3
import Derived.Maps.AppendAt
import Derived.ProofKit
import Derived.OpenShut
import Derived.ShutString
namespace Go.Proofs.Ytnalpmiinoohoaa.frameCut
open Go.ChangeShapes Go.WideShapes Go.ChangeAt Go.RowKit
open Go.ChangeMaps (open_string shut_string)

/-- Where the frames end, as cells. -/
def endsL (l : List (UInt8 × List UInt8)) (k : Nat) : List Value := (List.range k).map fun j => Value.int .i64 (Frame.fl l (j + 1) : Int)
theorem endsL_succ (l : List (UInt8 × List UInt8)) (k : Nat) : endsL l (k + 1) = endsL l k ++ [Value.int .i64 (Frame.fl l (k + 1) : Int)] := by
  unfold endsL
  rw [List.range_succ, List.map_append]
  rfl
theorem endsL_at (l : List (UInt8 × List UInt8)) (n k : Nat) (h : k < n) : (endsL l n)[k]? = some (.int .i64 (Frame.fl l (k + 1) : Int)) := by
  unfold endsL
  rw [List.getElem?_map, List.getElem?_range h]
  rfl
theorem int_info : (Try.prog.info? 3).map (fun i => (i.zero, i.size, i.bytes)) = some (some (.int .i64 0), 1, 8) := by kernel_rfl
theorem owns_lies1 {W : World} {n₀ n : Nat} {T : TypeId} {v : Value} {xs : List Value} (h : W.ownsRow n₀ T 1 v n xs) : ∃ (A : Option Addr) (c : Nat), v = .slice A n c ∧ n ≤ c ∧ Lies W W.heap.size A xs := by
  have hlen := h.1
  rcases h.2 with ⟨rfl, h0⟩ | ⟨g, cap, cur, rfl, hb, hk, hc, _⟩
  · subst h0
    have : xs = [] := List.eq_nil_of_length_eq_zero (by simpa using hlen)
    subst this
    exact ⟨none, 0, rfl, Nat.le_refl _, Lies.nil⟩
  · refine ⟨_, cap, rfl, hc, fun _ => ⟨_, rfl, (Array.getElem?_eq_some_iff.1 hk).1, fun j u hu => ?_⟩⟩
    exact h.cells rfl j u hu
theorem lies_front {W : World} {B : Nat} {A : Option Addr} {xs ys : List Value} (h : Lies W B A xs) (hp : ys <+: xs) : Lies W B A ys := fun hn => by
  obtain ⟨zs, rfl⟩ := hp
  obtain ⟨ad, e, hb, hc⟩ := h (by rw [List.length_append]; omega)
  exact ⟨ad, e, hb, fun j u hu => hc j u (by rw [List.getElem?_append_left (List.getElem?_eq_some_iff.1 hu).1]; exact hu)⟩
theorem fcells_front (l : List (UInt8 × List UInt8)) (m : Nat) : Frame.fcells (l.take m) <+: Frame.fcells l := by
  refine ⟨Frame.fcells (l.drop m), ?_⟩
  conv => rhs; rw [← List.take_append_drop m l]
  unfold Frame.fcells
  rw [List.flatMap_append]
/-- What the second Scan tells. -/
def Part (l : List (UInt8 × List UInt8)) (m er : Nat) (w : World) (e : Ending) (w' : World) : Prop :=
  ∃ (A : Option Addr) (c : Nat), e = .returned (.tuple #[.slice A m c, .int .i64 (Frame.fl l m : Int), .int .i64 (er : Int)]) ∧ Lies w' w'.heap.size A (Frame.fcells (l.take m)) ∧ Below w.heap.size w w'
theorem cat_one (s : ByteArray) : catL [s] = s.data.toList := by unfold catL; simp

set_option maxRecDepth 100000 in
set_option maxHeartbeats 8000000 in
theorem walk (w : World) (l : List (UInt8 × List UInt8)) (A : Option Addr) (c : Nat) (hl : Lies w w.heap.size A (Frame.fcells l)) (hn : l.length ≤ maxLen) (hb : (∀ f ∈ l, f.2.length ≤ maxLen) ∧ l.length ≤ c)
    (x : Int) (x0 : 0 ≤ x) (x1 : x ≤ 65535) (y : Int) (y0 : 0 ≤ y) (y1 : y ≤ 4294967295) :
    Calls Try.prog 6 #[.slice A l.length c, .int .u16 x, .int .u32 y] w fun e w' => e = .returned (.bool true) ∧ Below w.heap.size w w' := by
  unfold maxLen at hn
  have HL := Lib.hid hl
  have HX := Lib.hid hb.1
  have hcap := hb.2
  clear hl hb
  by_cases hbig : 20 < l.length
  · have hbi : (20 : Int) < (l.length : Int) := by omega
    have hd : decide ((20 : Int) < (l.length : Int)) = true := by simp; omega
    clear hbig
    go_enter Try.func6, Try.ntmps6
    go_wp2_with fail
    refine (alive4_any _).mono ?_
    rintro e w1 ⟨rfl, hb1⟩
    go_wp2_with fail
    go_ret
    exact ⟨rfl, hb1⟩
  have hle : l.length ≤ 20 := by omega
  obtain ⟨i0, hi, hz0, hz1, hz2⟩ := info_parts int_info
  clear hbig
  go_enter Try.func6, Try.ntmps6
  go_wp2_with fail
  go_loopw [7, 8, 9] (fun S E i wr => ∃ (k : Nat) (Ae : Option Addr) (ce : Nat), k ≤ l.length ∧ i = .int .i64 k ∧ S = .string ⟨(Frame.flat (l.take k)).toArray⟩ ∧ E = .slice Ae k ce ∧ Hid (wr.ownsRow w.heap.size 3 1 (.slice Ae k ce) k (endsL l k)) ∧ Hid (∀ f ∈ l.take k, f.2.length ≤ 512) ∧ Hid (Below w.heap.size w wr))
    (fun _ _ i _ => l.length - (intOf i).toNat)
  case atStart => exact ⟨0, none, 0, Nat.zero_le _, rfl, rfl, rfl, World.ownsRow_nil _ _ _ _, by show ∀ f ∈ _, _; simp, Below.refl _ _⟩
  case round =>
    obtain ⟨k, Ae, ce, hk, rfl, rfl, rfl, HROW, HT, HW⟩ := hrel
    have hws := HW.out.size
    by_cases hkn : k < l.length
    · obtain ⟨a0, a1⟩ := Frame.fcells_at l k hkn
      obtain ⟨p, rfl, hpb, hp0⟩ := (HL.out.below HW.out).at_ a0
      obtain ⟨p', hp', _, hp1⟩ := (HL.out.below HW.out).at_ a1
      cases hp'
      have hq0 : wr.cell? (p.add (k * 2)) = some (.int .u8 (l[k].1.toNat : Int)) := by rw [Nat.mul_comm]; exact hp0
      have hq1 : wr.cell? ⟨(p.add (k * 2)).block, (p.add (k * 2)).off + 1, none⟩ = some (.string ⟨l[k].2.toArray⟩) := by rw [Frame.pair1]; exact hp1
      have hx := HX.out l[k] (List.getElem_mem hkn)
      unfold maxLen at hx
      have HFL := Lib.hid (Frame.flat_snoc l k hkn)
      have HTK := Lib.hid (List.take_succ_eq_append_getElem hkn)
      clear hp0 hp1 a0 a1
      generalize l[k] = f at hq0 hq1 hx HFL HTK
      obtain ⟨tg, tt⟩ := f
      by_cases hbg : 512 < tt.length
      · have hbi : (512 : Int) < (tt.length : Int) := by omega
        have hd : decide ((512 : Int) < (tt.length : Int)) = true := by simp; omega
        clear hbg
        go_wp2_with fail
        refine (alive4_any _).mono ?_
        rintro e w1 ⟨rfl, hb1⟩
        go_wp2_with fail
        go_ret
        exact ⟨rfl, HW.out.trans (hb1.mono hws)⟩
      · have hbi : ¬ (512 : Int) < (tt.length : Int) := by omega
        have hd : decide ((512 : Int) < (tt.length : Int)) = false := by simp; omega
        have ht5 : tt.length ≤ 512 := by omega
        obtain ⟨F, hF⟩ : ∃ F : ByteArray, F = ⟨(Frame.raw tg tt).toArray⟩ := ⟨_, rfl⟩
        obtain ⟨T, hT⟩ : ∃ T : ByteArray, T = ⟨(Frame.flat (l.take (k + 1))).toArray⟩ := ⟨_, rfl⟩
        have hFs : F.size ≤ 528 := by rw [hF, mk_size]; exact Frame.raw_le tg tt ht5
        have hfb := Frame.fl_bound l k hk HT.out
        have hSs : (⟨(Frame.flat (l.take k)).toArray⟩ : ByteArray).size ≤ 10560 := by rw [mk_size]; unfold Frame.fl at hfb; omega
        have hST : (⟨(Frame.flat (l.take k)).toArray⟩ : ByteArray) ++ F = T := by rw [hT, HFL.out, cat_mk, hF]
        have hTs : T.size = Frame.fl l (k + 1) := by rw [hT, mk_size]; rfl
        have hWr : ∀ (W : World) (B : Nat), W.cell? ⟨B, 0, none⟩ = some (.string ⟨tt.toArray⟩) → B < W.heap.size → Calls Try.prog 9 #[.int .u8 (tg.toNat : Int), .slice (some ⟨B, 0, none⟩) 1 1] W fun e w' => e = .returned (.tuple #[.string F, .int .i64 0]) ∧ Below W.heap.size W w' := fun W B h hB => by
          have := fwrite_tail tg [⟨tt.toArray⟩] (some ⟨B, 0, none⟩) 1 W (lies_one W B _ h hB) (by simp [maxLen]) (by simp) (by rw [cat_one]; simp; omega)
          rw [cat_one] at this
          rw [hF]
          exact this
        have HWR := Lib.hid hWr
        have HST := Lib.hid hST
        have HTS := Lib.hid hTs
        have HTT := Lib.hid hT
        have hpw : p.block < wr.heap.size := by omega
        have hpw2 : (p.add (k * 2)).block < wr.heap.size := by rw [Lies.add_block]; exact hpw
        clear hF hT hST hTs hWr hbg hfb hpb
        go_upto_region 10 with fail
        go_cut [10, 11] (fun t g wx => t = .string F ∧ g = .int .i64 0 ∧ Below wr.heap.size wr wx)
        case first =>
          have hL2 : ∀ a : Nat, a < a + 1 + 1 := fun a => by omega
          go_region_with (go_at_call 9; refine (HWR.out _ _ (by simp [go_sem]) (by simp)).mono ?_; rintro e w3 ⟨rfl, hb3⟩)
          all_goals
            go_wp2
            go_meet
            refine ⟨rfl, rfl, ?_⟩
            have hU : Below wr.heap.size wr w3 := by
              refine Below.trans ?_ (hb3.mono ?_)
              · repeat (first | with_reducible exact Below.refl _ _ | with_reducible refine Below.drew ?_ | with_reducible refine Below.alloc ?_ ?_ _)
                all_goals (first | exact Nat.le_refl _ | (simp; done) | (simp; omega))
              · first | exact Nat.le_refl _ | (simp; done) | (simp; omega)
            have hs1 := hU.size
            repeat (first | with_reducible exact hU | with_reducible refine Below.drew ?_ | with_reducible refine Below.alloc ?_ ?_ _)
            all_goals (first | exact hs1 | (simp; done) | (simp; omega))
        case rest =>
          obtain ⟨rfl, rfl, hbel⟩ := hcut
          have hz := hbel.size
          have hrow1 : wc.ownsRow w.heap.size 3 1 (.slice Ae k ce) k (endsL l k) := HROW.out.kept (grown_of hbel none) (by cases Ae <;> simp [Value.ownBlock])
          have HROW1 := Lib.hid hrow1
          have HW1 := Lib.hid (HW.out.trans (hbel.mono hws))
          clear hrow1 hbel hq0 hq1
          go_upto_region 14 with fail
          rw [HST.out]
          go_wp2_with (at_builtin; refine wpList_append_own _ rfl _ _ 49 rfl w.heap.size 3 i0 (.int .i64 0) 1 8 Try.underlying49 hi hz0 hz1 hz2 rfl (by decide) _ _ _ rfl (HROW1.out.alloc _) ⟨wc.heap.size, 0, none⟩ 1 1 [.int .i64 (T.size : Int)] rfl rfl (cell_one_new _ _ _) (by simp [Value.oneCell']) (by unfold maxLen; omega) (by omega) (by simp; omega) ?_)
          intro v' w2 hown' hgrow _
          obtain ⟨g', cap', rfl⟩ := ownsRow_succ hown'
          have hlt2 := fun k => (HROW1.out.lt k)
          have hb2 : Below w.heap.size w w2 := ((HW1.out.alloc (by omega) _)).grown hgrow (by simp; omega) (fun k hk => (hlt2 k hk).1)
          have HB2 := Lib.hid hb2
          rw [HTS.out, ← endsL_succ] at hown'
          have HR2 := Lib.hid hown'
          have HT2 : Hid (∀ f ∈ l.take (k + 1), f.2.length ≤ 512) := by
            show ∀ f ∈ _, _
            rw [HTK.out]
            intro f hf
            rcases List.mem_append.1 hf with h | h
            · exact HT.out f h
            · rw [List.mem_singleton.1 h]; exact ht5
          clear hown' hgrow hlt2 hb2
          go_wp2_with fail
          go_roundw
          case rel => exact ⟨k + 1, some ⟨g', 0, none⟩, cap', by omega, by go_num, by rw [HTT.out], by simp, HR2, HT2, HB2⟩
          case measure => simp [intOf]; omega
    · have hke : k = l.length := by omega
      subst hke
      rw [List.take_of_length_le (Nat.le_refl _)] at HT ⊢
      obtain ⟨Ae', ce', hv, hce, hle'⟩ := owns_lies1 HROW.out
      cases hv
      have HLE := Lib.hid hle'
      obtain ⟨S, hS⟩ : ∃ S : ByteArray, S = ⟨(Frame.flat l).toArray⟩ := ⟨_, rfl⟩
      have hSd : S.data.toList = Frame.flat l := by rw [hS]
      have hSs : S.size = Frame.fl l l.length := by rw [hS, mk_size, Frame.fl_all]
      have hfb := Frame.fl_bound l l.length (Nat.le_refl _) (by rw [List.take_of_length_le (Nat.le_refl _)]; exact HT.out)
      have hSb : S.size ≤ 10560 := by omega
      have hsc : ∀ w, Calls Try.prog 14 #[.string S, .int .i64 131072] w (Frame.ScanOut w (l, S.size, 0)) := fun w => by
        have := fscan_any S 131072 w (by omega) (by omega)
        rw [hSd, Frame.sc_all l HT.out, ← Frame.fl_all, ← hSs] at this
        exact this
      have HSC := Lib.hid hsc
      rw [← hS]
      by_cases hl0 : l.length = 0
      · have hS0 : S = ⟨#[]⟩ := by
          apply ByteArray.ext
          exact Array.eq_empty_of_size_eq_zero (by rw [show S.data.size = S.size from rfl, hSs, hl0]; rfl)
        have HL0 := Lib.hid hl0
        clear hl0 hS hSd hSs hle' hsc
        subst hS0
        go_wp2_with fail
        refine (HSC.out _).mono ?_
        rintro e w1 ⟨A1, c1, rfl, _, hl1, hb1⟩
        have z1 := hb1.size
        have HL1 := Lib.hid ((HL.out.below (HW.out.trans (hb1.mono hws))).mono (show w.heap.size ≤ w1.heap.size by omega))
        have HK1 := Lib.hid hl1
        have HW1 := Lib.hid (HW.out.trans (hb1.mono hws))
        clear hl1 hb1
        go_wp2_with fail
        refine (same_yes l A1 A c1 c _ HK1.out HL1.out (by unfold maxLen; omega)).mono ?_
        rintro e w2 ⟨rfl, hb2⟩
        have z2 := hb2.size
        have HW2 := Lib.hid (HW1.out.trans (hb2.mono (by omega)))
        clear hb2
        go_wp2_with fail
        refine (alive4_any _).mono ?_
        rintro e w3 ⟨rfl, hb3⟩
        go_wp2_with fail
        go_ret
        exact ⟨rfl, HW2.out.trans (hb3.mono (by omega))⟩
      · have hpos : 0 < l.length := by omega
        have hSp : 0 < S.size := by
          rw [hSs, Frame.fl_all]
          rcases Nat.eq_zero_or_pos (Frame.flat l).length with h | h
          · rw [Frame.flat_empty l h] at hpos; simp at hpos
          · exact h
        have hne : ¬ S.toList = [] := by
          intro h
          rw [Lib.toList_data] at h
          have l1 : S.data.toList.length = S.size := by simp
          rw [h] at l1
          simp at l1
          omega
        have hne2 : S.toList.isEmpty = false := by simpa using hne
        obtain ⟨p, rfl, hpb, _⟩ := HL.out.at_ (Frame.fcells_at l 0 hpos).1
        obtain ⟨K, hK, hKS⟩ : ∃ K : Nat, x % (S.size : Int) = (K : Int) ∧ K < S.size :=
          ⟨(x % (S.size : Int)).toNat, by have := Int.emod_nonneg x (b := (S.size : Int)) (by omega); omega, by have := Int.emod_nonneg x (b := (S.size : Int)) (by omega); have := Int.emod_lt_of_pos x (b := (S.size : Int)) (by omega); omega⟩
        have HKK := Lib.hid hK
        have HSD := Lib.hid hSd
        have HSS := Lib.hid hSs
        clear hl0 hS hSd hSs hle' hsc hK
        go_wp2_with fail
        refine (HSC.out _).mono ?_
        rintro e w1 ⟨A1, c1, rfl, _, hl1, hb1⟩
        have z1 := hb1.size
        have HL1 := Lib.hid ((HL.out.below (HW.out.trans (hb1.mono hws))).mono (show w.heap.size ≤ w1.heap.size by omega))
        have HK1 := Lib.hid hl1
        have HW1 := Lib.hid (HW.out.trans (hb1.mono hws))
        have HLE1 := Lib.hid ((HLE.out.below hb1).mono z1)
        clear hl1 hb1
        go_wp2_with fail
        refine (same_yes l A1 (some p) c1 c _ HK1.out HL1.out (by unfold maxLen; omega)).mono ?_
        rintro e w2 ⟨rfl, hb2⟩
        have z2 := hb2.size
        have HW2 := Lib.hid (HW1.out.trans (hb2.mono (by omega)))
        have HLE2 := Lib.hid ((HLE1.out.below hb2).mono z2)
        clear hb2
        go_upto_region 20 with fail
        go_cut [15] (fun v wx => v = .int .i64 (K : Int) ∧ wx = w2)
        case first =>
          go_wp2
          go_meet
          exact ⟨by rw [HKK.out], rfl⟩
        case rest =>
          obtain ⟨rfl, hw⟩ := hcut
          have hw' := hw.symm
          subst hw'
          go_wp2_with fail
          go_loop [16] (fun i => ∃ m : Nat, m ≤ l.length ∧ i = .int .i64 m ∧ Hid (Frame.fl l m ≤ K)) (fun i => l.length - (intOf i).toNat)
          case atStart => exact ⟨0, Nat.zero_le _, rfl, by show _ ≤ _; rw [Frame.fl_zero]; exact Nat.zero_le _⟩
          case round =>
            obtain ⟨m, hm, rfl, HF0⟩ := hrel
            have hmn : m < l.length := by
              rcases Nat.lt_or_ge m l.length with h | h
              · exact h
              · have e : m = l.length := by omega
                have h1 := HF0.out
                rw [e, ← HSS.out] at h1
                omega
            obtain ⟨pe, rfl, hpe, hce0⟩ := HLE2.out.at_ (endsL_at l l.length m hmn)
            by_cases hgo : Frame.fl l (m + 1) ≤ K
            · have hgd : decide (Frame.fl l (m + 1) ≤ K) = true := by simpa using hgo
              have HGO := Lib.hid hgo
              clear hgo
              go_wp2_with fail
              go_round
              case rel => exact ⟨m + 1, by omega, by go_num, HGO.out⟩
              case measure => simp [intOf]; omega
            · have hgd : decide (Frame.fl l (m + 1) ≤ K) = false := by simpa using hgo
              have HGO := Lib.hid hgo
              clear hgo
              go_upto_if 104 with fail
              go_cut [17] (fun v wx => v = .int .i64 (Frame.fl l m : Int) ∧ wx = w2)
              case first =>
                by_cases hm0 : m = 0
                · subst hm0
                  go_wp2
                  go_meet
                  exact ⟨by rw [Frame.fl_zero]; rfl, rfl⟩
                · obtain ⟨q, rfl⟩ : ∃ q, m = q + 1 := ⟨m - 1, by omega⟩
                  obtain ⟨pe', hpe', _, hce1⟩ := HLE2.out.at_ (endsL_at l l.length q (by omega))
                  cases hpe'
                  have hgp : (0 : Int) < ((q : Int) + 1) := by omega
                  have hgq : (q : Int) < (l.length : Int) := by omega
                  clear hm0
                  go_wp2
                  go_meet
                  exact ⟨rfl, rfl⟩
              case rest =>
                obtain ⟨rfl, hw⟩ := hcut
                have hw' := hw.symm
                subst hw'
                obtain ⟨er, her⟩ : ∃ er : Nat, er = if Frame.fl l m = K then 0 else 40 := ⟨_, rfl⟩
                have hKb : (K : Int) ≤ S.size := by omega
                have hK0 : (0 : Int) ≤ (K : Int) := by omega
                have hex : (S.extract 0 K).data.toList = (Frame.flat l).take K := by
                  rw [Lib.extract_data, HSD.out, List.drop_zero, Nat.sub_zero]
                have hsc2 : ∀ w, Calls Try.prog 14 #[.string (S.extract 0 K), .int .i64 131072] w (Part l m er w) := fun w => by
                  have h1 := fscan_any (S.extract 0 K) 131072 w (by omega) (by rw [ByteArray.size_extract]; omega)
                  rw [hex, Frame.sc_part l m K hmn HF0.out (by have := HGO.out; omega) HT.out, ← her] at h1
                  refine h1.mono ?_
                  rintro e w' ⟨A', c', he, _, hl', hb'⟩
                  simp only [] at he hl'
                  rw [List.length_take_of_le (by omega)] at he
                  exact ⟨A', c', he, hl', hb'⟩
                have HSC2 := Lib.hid hsc2
                have hsame : ∀ (A B : Option Addr) (ca cb : Nat) (w : World), Lies w w.heap.size A (Frame.fcells (l.take m)) → Lies w w.heap.size B (Frame.fcells (l.take m)) → Calls Try.prog 16 #[.slice A m ca, .slice B m cb] w fun e w' => e = .returned (.bool true) ∧ Below w.heap.size w w' := fun A B ca cb w h1 h2 => by
                  have := same_yes (l.take m) A B ca cb w h1 h2 (by rw [List.length_take_of_le (by omega)]; unfold maxLen; omega)
                  rw [List.length_take_of_le (by omega)] at this
                  exact this
                have HSAME := Lib.hid hsame
                have hmc : (m : Int) ≤ (c : Int) := by omega
                have hmcn : m ≤ c := by omega
                clear hex hsc2 hsame
                have hcase : (((Frame.fl l m : Int) == (K : Int)) = true ∧ er = 0) ∨ (((Frame.fl l m : Int) == (K : Int)) = false ∧ er = 40) := by
                  by_cases h : Frame.fl l m = K
                  · exact .inl ⟨by rw [h]; simp, by rw [her, if_pos h]⟩
                  · exact .inr ⟨by rw [beq_eq_false_iff_ne]; omega, by rw [her, if_neg h]⟩
                clear her
                go_wp2_with fail
                refine (HSC2.out _).mono ?_
                rintro e w3 ⟨A3, c3, rfl, hl3, hb3⟩
                have z3 := hb3.size
                have HW3 := Lib.hid (HW2.out.trans (hb3.mono (by omega)))
                have HL3 := Lib.hid (lies_front ((HL.out.below HW3.out).mono (show w.heap.size ≤ w3.heap.size by omega)) (fcells_front l m))
                have HK3 := Lib.hid hl3
                have HLE3 := Lib.hid ((HLE2.out.below hb3).mono z3)
                clear hl3 hb3
                go_wp2_with fail
                refine (HSAME.out A3 (some p) c3 c _ HK3.out HL3.out).mono ?_
                rintro e w4 ⟨rfl, hb4⟩
                have z4 := hb4.size
                have HW4 := Lib.hid (HW3.out.trans (hb4.mono (by omega)))
                have HLE4 := Lib.hid ((HLE3.out.below hb4).mono z4)
                clear hb4
                have hpiece := Frame.flat_piece l m hmn
                have hfs := Frame.fl_succ l m hmn
                have hfle := Frame.fl_le l (m + 1)
                rw [← Frame.fl_all, ← HSS.out] at hfle
                have htt := HT.out l[m] (List.getElem_mem hmn)
                have hR : S.extract (Frame.fl l m) (Frame.fl l (m + 1)) = ⟨(Frame.raw l[m].1 l[m].2).toArray⟩ := by
                  apply ByteArray.ext
                  apply Array.ext'
                  rw [Lib.extract_data, HSD.out, hpiece]
                have htu : ∀ w, Calls Try.prog 17 #[.string (S.extract (Frame.fl l m) (Frame.fl l (m + 1))), .agg #[.int .u8 (l[m].1.toNat : Int), .string ⟨l[m].2.toArray⟩], .int .u16 x, .int .u32 y] w fun e w' => e = .returned (.bool true) ∧ Below w.heap.size w w' := fun w => by
                  rw [hR]
                  exact turned_any l[m].1 l[m].1 ⟨l[m].2.toArray⟩ x x0 x1 y y0 y1 w (by rw [mk_size]; exact htt)
                have HTU := Lib.hid htu
                have s0 : (0 : Int) ≤ (Frame.fl l m : Int) := by omega
                have s1 : (Frame.fl l m : Int) ≤ (Frame.fl l (m + 1) : Int) := by omega
                have s2 : (Frame.fl l (m + 1) : Int) ≤ S.size := by omega
                have s1n : Frame.fl l m ≤ Frame.fl l (m + 1) := by omega
                have s2n : Frame.fl l (m + 1) ≤ S.size := hfle
                have m0 : (0 : Int) ≤ (m : Int) := by omega
                have m1 : (m : Int) < (l.length : Int) := by omega
                clear hpiece hfs hfle htt hR htu
                obtain ⟨pe4, hpe4, _, hce4⟩ := HLE4.out.at_ (endsL_at l l.length m hmn)
                cases hpe4
                obtain ⟨a0, a1⟩ := Frame.fcells_at l m hmn
                obtain ⟨p4, hp4, _, hp0⟩ := (HL.out.below HW4.out).at_ a0
                cases hp4
                obtain ⟨p4', hp4', _, hp1⟩ := (HL.out.below HW4.out).at_ a1
                cases hp4'
                have hq0 : w4.cell? (p.add (m * 2)) = some (.int .u8 (l[m].1.toNat : Int)) := by rw [Nat.mul_comm]; exact hp0
                have hq1 : w4.cell? ⟨(p.add (m * 2)).block, (p.add (m * 2)).off + 1, none⟩ = some (.string ⟨l[m].2.toArray⟩) := by rw [Frame.pair1]; exact hp1
                clear hp0 hp1 a0 a1 hce0
                rcases hcase with ⟨hq, rfl⟩ | ⟨hq, rfl⟩
                all_goals
                  go_wp2_with fail
                  go_region_with (first
                    | (go_at_call 17; refine (HTU.out _).mono ?_; rintro e w5 ⟨rfl, hb5⟩)
                    | (go_at_call 8; refine (alive4_any _).mono ?_; rintro e w6 ⟨rfl, hb6⟩))
                  all_goals
                    go_wp2
                    go_ret
                    refine ⟨rfl, HW4.out.trans (Below.mono ?_ (show w.heap.size ≤ w4.heap.size by omega))⟩
                    have hU : Below w4.heap.size w4 w5 := by
                      refine Below.trans ?_ (hb5.mono ?_)
                      · repeat (first | with_reducible exact Below.refl _ _ | with_reducible refine Below.drew ?_ | with_reducible refine Below.alloc ?_ ?_ _)
                      · first | exact Nat.le_refl _ | (simp; done) | (simp; omega)
                    have hs1 := hU.size
                    have hV : Below w4.heap.size w4 w6 := by
                      refine Below.trans ?_ (hb6.mono ?_)
                      · repeat (first | with_reducible exact hU | with_reducible refine Below.drew ?_ | with_reducible refine Below.alloc ?_ ?_ _)
                      · first | exact hs1 | (simp; done) | (simp; omega)
                    repeat (first | with_reducible exact hV | with_reducible refine Below.drew ?_)

/-! ### From the walk to the statement -/
theorem own : ownKnob Try.prog.godebug = none := by kernel_rfl

set_option maxRecDepth 20000 in
theorem contract (H : Type) (enc : TypeId × Value → H) (W : World) (base : Nat) (args : Array Value) (ds gs : List (DataW H)) (before : List MemPlace)
    (hval : ∀ (j : Nat) t v, Try.f6.params[j]? = some t → args[j]? = some v → Value.okWide Try.prog W .any base t v)
    (hW : DataW.Whole enc Try.prog Try.f6.params.toList Rows.frameCutSpec.vars false W args.toList ds gs before) :
    Calls Try.prog 6 args W fun e W' => ∃ v, e = .returned v ∧ Rows.frameCutSpec.post enc Try.prog Try.f6 false true false false W args v W' := by
  have hW' := hW
  obtain ⟨p, q, hA0, hV, rfl, hfz, hnd⟩ := hW
  have hA : DataW.TrodAll enc Try.prog W 0 (fun _ => true) true Try.f6.params.toList args.toList ds p := hA0
  rw [Try.params6] at hA hval
  obtain ⟨v0, vs0, d0, ds0, p0, q0, hargs, rfl, rfl, h0, r0⟩ := trodAll_cons hA
  obtain ⟨v1, vs1, d1, ds1, p1, q1, rfl, rfl, rfl, h1, r1⟩ := trodAll_cons r0
  obtain ⟨v2, vs2, d2, ds2, p2, q2, rfl, rfl, rfl, h2, r2⟩ := trodAll_cons r1
  obtain ⟨rfl, rfl, rfl⟩ := trodAll_nil r2
  obtain rfl : args = #[v0, v1, v2] := by cases args; simp_all
  obtain ⟨rfl, rfl⟩ := trodVars_none hV
  have k0 := h0
  obtain ⟨fuel0, hf0⟩ := h0
  obtain ⟨xs0, A0, c0, hcs0, hn0, hl0, hb0⟩ := trod_frames hf0
  obtain rfl := slice_of Try.underlying36 (hval 0 36 v0 rfl rfl) hcs0
  obtain ⟨a1, rfl, rfl, rfl, w1⟩ := open_int Try.underlying47 (hval 1 47 v1 rfl rfl) h1
  have b1 : 0 ≤ a1 ∧ a1 ≤ 65535 := by simpa [Lit.wf, IntKind.min, IntKind.max, IntKind.signed, IntKind.bits] using w1
  obtain ⟨a2, rfl, rfl, rfl, w2⟩ := open_int Try.underlying48 (hval 2 48 v2 rfl rfl) h2
  have b2 : 0 ≤ a2 ∧ a2 ≤ 4294967295 := by simpa [Lit.wf, IntKind.min, IntKind.max, IntKind.signed, IntKind.bits] using w2
  clear hA0
  simp only [List.append_nil] at hW'
  refine (walk W xs0 A0 c0 hl0 hn0 hb0 a1 b1.1 b1.2 a2 b2.1 b2.2).mono fun e W' ⟨he, bel⟩ => ?_
  subst he
  exact ⟨_, rfl, _, _, _, [], _, [], hW', trodAll_mk1 (shut_bool Try.underlying4 _), (trodAll_cons_mk (Below.trod laidOut (by kernel_rfl) (of_decide_eq_true (by kernel_rfl)) k0 bel (fun x hx => DataW.trod_lt _ _ _ _ hf0 x hx)) (trodAll_cons_mk (shut_int Try.underlying47 w1) (trodAll_cons_mk (shut_int Try.underlying48 w2) trodAll_mk0))), rfl, bel.frame _, fun h => by cases h⟩

set_option maxRecDepth 100000 in
theorem lifted (os : Os) (started : os.Started) (H : Type) (enc : TypeId × Value → H) :
    ReturnsInHanded {} Try.checked os 6 .any (Rows.frameCutSpec.pre6 enc Try.prog Try.f6 Rows.frameCutRow.domain false) (Rows.frameCutSpec.post enc Try.prog Try.f6 false true false false) := by
  refine returnsInHanded_of_change (C := Try.checked) own started (by kernel_rfl) Try.func6
    (ChangeSpec.witness6 (enc := enc) (C := Try.checked) false ⟨#[], #[.slice none 0 0, .int .u16 0, .int .u32 0], []⟩ 8 (by kernel_rfl) (by kernel_rfl) (by kernel_rfl) (by kernel_rfl)) ?_
  intro W base args ds gs before hval hW _ _
  exact contract H enc W base args ds gs before hval hW

theorem over : Rows.frameCutRow.holds Try.pinned (OpenSpec.ofChange Rows.frameCutSpec) :=
  OpenClaim.holds_of_wide 6 Try.f6 rfl rfl rfl rfl rfl rfl rfl ⟨rfl, rfl, rfl, rfl, rfl⟩ rfl rfl rfl rfl rfl (by kernel_rfl) Try.func6 (by kernel_rfl)
    (of_decide_eq_true (by kernel_rfl)) (by unfold Func.isWrapper; first | (rw [if_pos (by decide +kernel)]; kernel_rfl) | (rw [if_neg (by decide +kernel)]; exact ⟨rfl, rfl⟩))
    (fun os started H enc _ => lifted os started H enc)

/-- The statement. -/
theorem proved : Rows.FrameCutSaid :=
  over

end Go.Proofs.Ytnalpmiinoohoaa.frameCut
