/-
  Law 16: what nothing answers, and a deque which can't grow stays as it is.
-/
import Derived.Test.YtlgelhkpdldgdaaRows
import Derived.Test.YtlgelhkpdldgdaaDqN
import Derived.Deep.RegionHeld3
import Derived.BigQuiet
import Derived.ProofKit
import Derived.OpenShut
import Derived.ShutString
namespace Go.Proofs.Ytlgelhkpdldgdaa.dequeNone
open Go.ChangeShapes Go.WideShapes Go.ChangeAt Go.RowKit
open Go.ChangeMaps (open_string shut_string)

set_option linter.unusedVariables false
set_option linter.unusedSimpArgs false
theorem made64 (n : Nat) (w : World) : Lies (w.alloc (.cells (madeCells #[.int .i64 0] n) 2)) (w.alloc (.cells (madeCells #[.int .i64 0] n) 2)).heap.size (some ⟨w.heap.size, 0, none⟩) (icells (List.replicate n 0)) := Dq.made0 _ n w
/-- The memory is filled up. -/
theorem more_mm {w0 w w' : World} {B M R D : Nat} {hs : List (Nat × Nat)} {xs xs' : List Int} {n : Nat} {la : List Dq.A} {oi : Option Nat} (h : Dq.Mm w0 B M R D hs ⟨xs, n, la, oi⟩ w) (h2 : Ce.Pm (fun i => Dq.KS w0 D hs i ∨ i = R) B M xs' n w') (k2 : Ce.Kept (fun i => Dq.KS w0 D hs i ∨ i = R) w w') (h0 : Dq.ld xs' 0 = Dq.ld xs 0) (h1 : Dq.ld xs' (0 + 1) = Dq.ld xs (0 + 1)) : Dq.Mm w0 B M R D hs ⟨xs', n, la, oi⟩ w' := by
  have hd := h.dv.next h2 k2 (by rw [h0, h1]; exact k2.row h.dv.row (.inr rfl)) (Ce.Kept.refl _ _)
  exact ⟨hd.1, hd.2.row h.d (.inr (.inl rfl)), h.len, fun j a e ha he => ⟨Dq.Atc.re (h.ac j a e ha he).1 hd.1 (hd.2.block _ (Gm.ltHeap (h.ac j a e ha he).1.act) (Dq.KS.mem he).2) (Dq.KS.mem he).2, hd.2.row (h.ac j a e ha he).2 (Dq.KS.mem he).1⟩, h.ne, h.nd, h.lo, h.kept.trans (hd.2.mono fun i _ hi => .inl hi), h.oi⟩
/-- Ahead of push k. -/
def At0 (w0 : World) (B M R D : Nat) (zs : List Int) (v : Int) (k : Nat) (w : World) : Prop := ∃ hs la n oi, n ≤ 100 * k ∧ Dq.Mm w0 B M R D hs ⟨Dq.Z v k ++ zs, n, la, oi⟩ w ∧ (k < 3 → Dq.Sq.idle ⟨Dq.Z v k ++ zs, n, la, oi⟩)
def At1 (w0 : World) (B M R D : Nat) (zs : List Int) (v : Int) (k : Nat) (H : Nat) (j : Nat) (w : World) : Prop := ∃ hs la n jx P, n ≤ 100 * k + j ∧ Dq.Mm w0 B M R D hs ⟨(Dq.XN zs v k j).1, n, la, some jx⟩ w ∧ la[jx]? = some (Dq.XN zs v k j).2 ∧ hs[jx]? = some (H, P)
theorem last_at {α : Type} (l : List α) (x : α) : (l ++ [x])[l.length]? = some x := by
  rw [List.getElem?_append_right (Nat.le_refl _), Nat.sub_self]
  rfl
theorem step_full {w0 w : World} {B M R D : Nat} {hs : List (Nat × Nat)} {s : Dq.Sq} {j : Nat} {a : Dq.A} {e : Nat × Nat} (h : Dq.Mm w0 B M R D hs s w) (ha : s.la[j]? = some a) (he : hs[j]? = some e) (h0 : a.told = 0) (ok : Dq.Ok 0 s.xs a) (hn : s.n ≤ 999999999999) (hz : Dq.acts 0 s.xs a = (a, s.xs, 0, 6)) : Calls Try.prog 15 #[.pointer (some ⟨e.1, 0, none⟩)] w fun e' w' =>
    e' = .returned (.tuple #[.int .u8 0, .int .i64 0, .int .i64 6]) ∧ Hid (Dq.Mm w0 B M R D hs s w') := by
  have h3 := h.ac j a e ha he
  have h4 := h.ne j j e e he he
  refine (q_step_full h3.1 h3.2 ⟨(Dq.KS.mem he).1, h4.1⟩ h0 ok hn hz).mono ?_
  rintro e' w' ⟨rfl, hh⟩
  refine ⟨rfl, ?_⟩
  have h5 := h.next ha he (by rw [hz]; exact hh.out.1) hh.out.2
  have e1 : s.act j a = s := by
    obtain ⟨xs, n, la, oi⟩ := s
    unfold Dq.Sq.act
    rw [hz]
    show (⟨xs, n + 0, la.set j a, oi⟩ : Dq.Sq) = _
    rw [Dq.set_same ha]
    rfl
  rw [e1] at h5
  exact h5
set_option maxHeartbeats 4000000 in
set_option maxRecDepth 200000 in
theorem walk (log : Int) (_ : -9223372036854775808 ≤ log) (_ : log ≤ 9223372036854775807) (v : Int) (_ : -9223372036854775808 ≤ v) (_ : v ≤ 9223372036854775807) (n : Int) (hn0 : 0 ≤ n) (hn1 : n ≤ 255) (w : World) :
    Calls Try.prog 6 #[.int .i64 log, .int .i64 v, .int .u8 n] w fun e w' => e = .returned (.bool true) ∧ Below w.heap.size w w' := by
  obtain ⟨q, hq, hq3⟩ : ∃ q : Nat, n.tmod 4 = (q : Int) ∧ q ≤ 3 := ⟨(n.tmod 4).toNat, by rw [Int.tmod_eq_emod_of_nonneg hn0]; omega, by rw [Int.tmod_eq_emod_of_nonneg hn0]; omega⟩
  obtain ⟨z, hz⟩ : ∃ z : Nat, z = 65530 - q := ⟨_, rfl⟩
  have hw1 : IntKind.u8.wrap (q : Int) = (q : Int) := by rw [IntKind.wrap_u8]; omega
  have hw2 : IntKind.i64.wrap (q : Int) = (q : Int) := by rw [IntKind.wrap_i64]; omega
  have hw3 : IntKind.i64.wrap (65530 - (q : Int)) = (z : Int) := by rw [IntKind.wrap_i64]; omega
  have hmk : ∀ W : World, (Instr.makeSlice 27 (.int .i64 (z : Int)) (.int .i64 (z : Int))).run Try.prog W = .ok (.slice (some ⟨W.heap.size, 0, none⟩) z z) (W.alloc (.cells (madeCells #[.int .i64 0] z) 2)) := fun W => by
    obtain ⟨i, hi, hz⟩ := Option.map_eq_some_iff.1 Ce.i64Info
    simp only [Prod.mk.injEq] at hz
    obtain ⟨z1, z2, z3⟩ := hz
    have := run_makeSlice (P := Try.prog) W 27 2 i _ Try.underlying27 hi z1 .i64 .i64 (z : Int) (z : Int) (by omega) (Int.le_refl _) (by rw [z2]; omega) (by rw [z3]; omega) (by omega)
    rw [this, z2]
    simp [Value.cells]
  have HQ : Hid (q ≤ 3 ∧ z = 65530 - q) := ⟨hq3, hz⟩
  clear hq3 hz hn0 hn1
  go_enter Try.func6, Try.ntmps6
  go_wp2_with fail
  refine (n_new _ _).mono ?_
  rintro e w' ⟨rfl, rfl⟩
  go_wp2_with fail
  refine (n_push _ _).mono ?_
  rintro e w' ⟨rfl, rfl⟩
  go_wp2_with fail
  refine (n_pop _).mono ?_
  rintro e w' ⟨rfl, rfl⟩
  go_wp2_with fail
  refine (n_steal _).mono ?_
  rintro e w' ⟨rfl, rfl⟩
  go_wp2_with fail
  refine (n_step _).mono ?_
  rintro e w' ⟨rfl, rfl⟩
  go_wp2_with fail
  refine (n_told _).mono ?_
  rintro e w' ⟨rfl, rfl⟩
  go_wp2_with fail
  refine (n_size _).mono ?_
  rintro e w' ⟨rfl, rfl⟩
  have HN := Lib.hid (pm_new w)
  go_wp2_with fail
  refine HN.out.mono ?_
  rintro e w1 ⟨B, M, rfl, h1, hb1⟩
  have HC := Lib.hid (mm_make h1 hb1 1 (by decide) 2 (by decide))
  clear h1 hb1 HN
  go_wp2_with fail
  refine HC.out.mono ?_
  rintro e w2 ⟨D, R, rfl, h2⟩
  have h2 : Dq.Mm w B M R D [] ⟨[0, 0, 3, 2, 0, 0], 0, [], none⟩ w2 := h2
  have HL := Lib.hid (pm_len h2.dv.pm)
  have H2 := Lib.hid h2
  clear h2 HC
  go_wp2_with fail
  refine HL.out.mono ?_
  rintro e w3 ⟨rfl, hb3⟩
  have h3 := H2.out.below hb3
  have HL2 := Lib.hid (pm_len h3.dv.pm)
  have H3 := Lib.hid h3
  clear hb3 h3 HL H2
  go_wp2_with fail
  refine HL2.out.mono ?_
  rintro e w4 ⟨rfl, hb4⟩
  obtain ⟨W5, hW5⟩ : ∃ W5, W5 = w4.alloc (.cells (madeCells #[.int .i64 0] z) 2) := ⟨_, rfl⟩
  have b5 : Below w4.heap.size w4 W5 := by rw [hW5]; exact (Below.refl _ _).alloc (Nat.le_refl _) _
  have h5 := (H3.out.below hb4).below b5
  have l5 : Lies W5 W5.heap.size (some ⟨w4.heap.size, 0, none⟩) (icells (List.replicate z 0)) := by rw [hW5]; exact made64 z w4
  have hzl : (List.replicate z (0 : Int)).length = z := List.length_replicate
  have HMO := pm_more h5.dv.pm (some ⟨w4.heap.size, 0, none⟩) (List.replicate z 0) z l5 (by rw [hzl]; unfold maxLen; have := HQ.out; omega) (by show 6 ≤ 65536; decide)
  have hmr : Ce.moR [0, 0, 3, 2, 0, 0] (List.replicate z 0) = true := decide_eq_true (by rw [hzl]; have := HQ.out; show z + 6 ≤ 65536; omega)
  have e1 : Ce.moA [0, 0, 3, 2, 0, 0] (List.replicate z 0) = 6 := by unfold Ce.moA; rw [hmr]; rfl
  have e2 : Ce.moE [0, 0, 3, 2, 0, 0] (List.replicate z 0) = 0 := by unfold Ce.moE; rw [hmr]; rfl
  have e3 : Ce.moX [0, 0, 3, 2, 0, 0] (List.replicate z 0) = [0, 0, 3, 2, 0, 0] ++ List.replicate z 0 := by unfold Ce.moX; rw [hmr]; rfl
  rw [hzl] at HMO
  rw [show (⟨[0, 0, 3, 2, 0, 0], 0, [], none⟩ : Dq.Sq).xs = [0, 0, 3, 2, 0, 0] from rfl, e1, e2, e3] at HMO
  have HM := Lib.hid HMO
  have H5 := Lib.hid h5
  obtain ⟨zs, hzs⟩ : ∃ zs : List Int, zs = List.replicate z 0 := ⟨_, rfl⟩
  have HZ : Hid (zs.length = 65530 - q) := by show _ = _; rw [hzs, hzl]; exact HQ.out.2
  rw [← hzs] at HM
  clear hb4 h5 b5 l5 HMO hmr e1 e2 e3 HL2 H3 hzl hzs
  go_wp2_with fail
  rw [← hW5]
  clear hW5 hmk hw1 hw2 hw3 hq
  refine HM.out.mono ?_
  rintro e w6 ⟨rfl, h6, k6⟩
  have H6 : Hid (At0 w B M R D zs v 0 w6) := ⟨[], [], 0, none, Nat.le_refl _, more_mm H5.out h6 k6 rfl rfl, fun _ => .inl rfl⟩
  clear h6 k6 HM H5
  go_wp2_with fail
  go_loopw [24] (fun s24 wr => ∃ k : Nat, s24 = .int .i64 (k : Int) ∧ k ≤ 3 ∧ Hid (At0 w B M R D zs v k wr)) (fun s24 _ => 3 - (intOf s24).toNat)
  case atStart => exact ⟨0, rfl, by omega, H6.out⟩
  case round =>
    obtain ⟨k, rfl, hk, HX⟩ := hrel
    by_cases hlt : k < 3
    · obtain ⟨hs, la, n', oi, hn', hm, hi⟩ := HX.out
      have HC7 := Lib.hid (mm_push hm (hi hlt) v)
      have k1 : (k : Int) < 3 := by omega
      have hw : IntKind.i64.wrap ((k : Int) + 1) = (k : Int) + 1 := by rw [IntKind.wrap_i64]; omega
      have HLN : Hid (hs.length = la.length ∧ n' ≤ 100 * k) := ⟨hm.len, hn'⟩
      have HK : Hid (k < 3) := hlt
      clear hm hi hn' HX H6
      go_wp2_with fail
      refine HC7.out.mono ?_
      rintro e w7 ⟨H, P, rfl, h7⟩
      have H7 : Hid (At1 w B M R D zs v k H 0 w7) := by
        refine ⟨hs ++ [(H, P)], la ++ [.new 0 v], n', la.length, P, HLN.out.2, ?_, ?_, ?_⟩
        · have hx : (Dq.XN zs v k 0).1 = Dq.Z v k ++ zs := by
            have : k = 0 ∨ k = 1 ∨ k = 2 := by have := HK.out; omega
            rcases this with rfl | rfl | rfl <;> rfl
          rw [hx]
          exact h7
        · have hx : (Dq.XN zs v k 0).2 = .new 0 v := by
            have : k = 0 ∨ k = 1 ∨ k = 2 := by have := HK.out; omega
            rcases this with rfl | rfl | rfl <;> rfl
          rw [hx]
          exact last_at la _
        · rw [← HLN.out.1]
          exact last_at hs _
      clear h7 HC7
      go_wp2_with fail
      go_loopw [27] (fun s27 wx => ∃ j : Nat, s27 = .int .i64 (j : Int) ∧ j ≤ 6 ∧ Hid (At1 w B M R D zs v k H j wx)) (fun s27 _ => 6 - (intOf s27).toNat)
      case atStart => exact ⟨0, rfl, by omega, H7.out⟩
      case round =>
        rename World => wx
        obtain ⟨j, rfl, hj, HY⟩ := hrel
        by_cases hjl : j < 6
        · have hst := Dq.none_step zs q HQ.out.1 HZ.out v k j HK.out hjl
          obtain ⟨hs8, la8, n8, jx, P8, hn8, hm8, ha8, he8⟩ := HY.out
          have j1 : (j : Int) < 6 := by omega
          have hwj : IntKind.i64.wrap ((j : Int) + 1) = (j : Int) + 1 := by rw [IntKind.wrap_i64]; omega
          have HJ : Hid (j < 6) := hjl
          by_cases hc : k < 2 ∨ j < 4
          · have h9 := hst.2.2.1 hc
            have HSS := mm_step hm8 ha8 he8 hst.1 hst.2.1 (by have := HK.out; show n8 ≤ _; omega) h9.1
            have HN8 : Hid (∀ w9, Dq.Mm w B M R D hs8 (Dq.Sq.act ⟨(Dq.XN zs v k j).1, n8, la8, some jx⟩ jx (Dq.XN zs v k j).2) w9 → At1 w B M R D zs v k H (j + 1) w9) := fun w9 h => by
              have hjx : jx < la8.length := (List.getElem?_eq_some_iff.1 ha8).1
              have h10 := h9.2.1
              refine ⟨hs8, la8.set jx (Dq.acts 0 (Dq.XN zs v k j).1 (Dq.XN zs v k j).2).1, n8 + (Dq.acts 0 (Dq.XN zs v k j).1 (Dq.XN zs v k j).2).2.2.1, jx, P8, by omega, ?_, ?_, he8⟩
              · rw [h9.2.2]
                exact h
              · rw [h9.2.2, List.getElem?_set, if_pos rfl, if_pos hjx]
                rfl
            have HS := Lib.hid HSS
            obtain ⟨tv, htv⟩ : ∃ tv, tv = (Dq.acts 0 (Dq.XN zs v k j).1 (Dq.XN zs v k j).2).1.told := ⟨_, rfl⟩
            obtain ⟨gv, hgv⟩ : ∃ gv, gv = (Dq.acts 0 (Dq.XN zs v k j).1 (Dq.XN zs v k j).2).1.got := ⟨_, rfl⟩
            have HCC : Hid (k < 2 ∨ j < 4) := hc
            clear HSS hst h9 hm8 ha8 he8 hn8 HY H7
            simp only [] at HS
            rw [← htv, ← hgv] at HS
            clear htv hgv
            have hb : (((k : Int) == 2) = false ∧ (k : Int) < 2) ∨ (((k : Int) == 2) = true ∧ decide ((4 : Int) ≤ (j : Int)) = false ∧ (j : Int) < 4) := by
              by_cases h2 : k = 2
              · exact .inr ⟨by simp [h2], decide_eq_false (by omega), by omega⟩
              · have := HK.out
                exact .inl ⟨by simp; omega, by omega⟩
            rcases hb with ⟨hb, hb2⟩ | ⟨hb, hb4, hb5⟩
            · go_wp2_with fail
              refine HS.out.mono ?_
              rintro e w9 ⟨rfl, h9⟩
              have H9 := Lib.hid (HN8.out _ h9.out)
              clear h9 HS
              go_wp2_with fail
              all_goals
                go_roundw
                case rel => exact ⟨j + 1, by go_num, by have := HJ.out; omega, H9.out⟩
                case measure => simp [intOf]; omega
            · go_wp2_with fail
              refine HS.out.mono ?_
              rintro e w9 ⟨rfl, h9⟩
              have H9 := Lib.hid (HN8.out _ h9.out)
              clear h9 HS
              go_wp2_with fail
              all_goals
                go_roundw
                case rel => exact ⟨j + 1, by go_num, by have := HJ.out; omega, H9.out⟩
                case measure => simp [intOf]; omega
          · have hk2 : k = 2 := by have := HK.out; omega
            have hj4 : 4 ≤ j := by omega
            have h9 := hst.2.2.2 ⟨by omega, hj4⟩
            have HS := Lib.hid (step_full hm8 ha8 he8 hst.1 hst.2.1 (by have := HK.out; show n8 ≤ _; omega) h9.1)
            have HN8 : Hid (∀ w9, Dq.Mm w B M R D hs8 ⟨(Dq.XN zs v k j).1, n8, la8, some jx⟩ w9 → At1 w B M R D zs v k H (j + 1) w9) := fun w9 h => ⟨hs8, la8, n8, jx, P8, by omega, by rw [h9.2]; exact h, by rw [h9.2]; exact ha8, he8⟩
            have hb4 : (4 : Int) ≤ (j : Int) := by omega
            have hb5 : decide ((j : Int) < 4) = false := decide_eq_false (by omega)
            have hb : ((k : Int) == 2) = true := by simp [hk2]
            have hb6 : decide ((k : Int) < 2) = false := decide_eq_false (by omega)
            clear hst h9 hm8 ha8 he8 hn8 HY H7 hc hj4 hk2
            go_wp2_with fail
            refine HS.out.mono ?_
            rintro e w9 ⟨rfl, h9⟩
            have H9 := Lib.hid (HN8.out _ h9.out)
            clear h9 HS
            go_wp2_with fail
            go_roundw
            case rel => exact ⟨j + 1, by go_num, by have := HJ.out; omega, H9.out⟩
            case measure => simp [intOf]; omega
        · have hj6 : j = 6 := by omega
          subst hj6
          have H9 : Hid (At0 w B M R D zs v (k + 1) wx) := by
            obtain ⟨hs8, la8, n8, jx, P8, hn8, hm8, ha8, he8⟩ := HY.out
            have he := Dq.none_end zs v
            have hk3 := HK.out
            have hxs : (Dq.XN zs v k 6).1 = Dq.Z v (k + 1) ++ zs ∧ (k < 2 → (Dq.XN zs v k 6).2.told = 1) := by
              have : k = 0 ∨ k = 1 ∨ k = 2 := by omega
              rcases this with rfl | rfl | rfl
              · exact ⟨he.1.1, fun _ => he.1.2⟩
              · exact ⟨he.2.1.1, fun _ => he.2.1.2⟩
              · exact ⟨he.2.2, fun h => by omega⟩
            rw [hxs.1] at hm8
            exact ⟨hs8, la8, n8, some jx, by omega, hm8, fun h => .inr ⟨jx, _, rfl, ha8, by rw [hxs.2 (by omega)]; decide⟩⟩
          clear HY H7
          go_wp2_with fail
          go_roundw
          case rel => exact ⟨k + 1, by go_num, by have := HK.out; omega, H9.out⟩
          case measure => simp [intOf]; omega
    · have hk3 : k = 3 := by omega
      subst hk3
      obtain ⟨hs, la, n', oi, hn', hm, _⟩ := HX.out
      have HS0 := q_size hm.dv hm.d (by show Dq.Sm 2; unfold Dq.Sm; omega) (by show Dq.Sm 0; unfold Dq.Sm; omega)
      have HS : Hid (Calls Try.prog 20 #[.pointer (some ⟨D, 0, none⟩)] wr fun e w' => e = .returned (.int .i64 2) ∧ Below wr.heap.size wr w') := HS0
      have HBW := Lib.hid hm.bel
      clear hm HS0 HX H6 hn'
      go_wp2_with fail
      refine HS.out.mono ?_
      rintro e w9 ⟨rfl, hb9⟩
      have HB9 := Lib.hid (HBW.out.trans (hb9.mono HBW.out.size))
      clear hb9
      go_wp2_with fail
      refine (alive16_any _).mono ?_
      rintro e w10 ⟨rfl, hb10⟩
      have HB10 := Lib.hid (HB9.out.trans (hb10.mono HB9.out.size))
      clear hb10
      go_wp2_with fail
      go_ret
      exact ⟨rfl, HB10.out⟩

/-! ### From the walk to the statement -/
theorem own : ownKnob Try.prog.godebug = none := by kernel_rfl

set_option maxRecDepth 20000 in
theorem contract (H : Type) (enc : TypeId × Value → H) (W : World) (base : Nat) (args : Array Value) (ds gs : List (DataW H)) (before : List MemPlace)
    (hval : ∀ (j : Nat) t v, Try.f6.params[j]? = some t → args[j]? = some v → Value.okWide Try.prog W .any base t v)
    (hW : DataW.Whole enc Try.prog Try.f6.params.toList Rows.dequeNoneSpec.vars false W args.toList ds gs before) :
    Calls Try.prog 6 args W fun e W' => ∃ v, e = .returned v ∧ Rows.dequeNoneSpec.post enc Try.prog Try.f6 false true false false W args v W' := by
  have hW' := hW
  obtain ⟨p, q, hA0, hV, rfl, hfz, hnd⟩ := hW
  have hA : DataW.TrodAll enc Try.prog W 0 (fun _ => true) true Try.f6.params.toList args.toList ds p := hA0
  rw [Try.params6] at hA hval
  obtain ⟨v0, vs0, d0, ds0, p0, q0, hargs, rfl, rfl, h0, r0⟩ := trodAll_cons hA
  obtain ⟨v1, vs1, d1, ds1, p1, q1, rfl, rfl, rfl, h1, r1⟩ := trodAll_cons r0
  obtain ⟨v2, vs2, d2, ds2, p2, q2, rfl, rfl, rfl, h2, r2⟩ := trodAll_cons r1
  obtain ⟨rfl, rfl, rfl⟩ := trodAll_nil r2
  obtain rfl : args = #[v0, v1, v2] := by cases args; simp_all
  obtain ⟨rfl, rfl⟩ := trodVars_none hV
  obtain ⟨a0, rfl, rfl, rfl, w0⟩ := open_int Try.underlying3 (hval 0 3 v0 rfl rfl) h0
  have b0 : -9223372036854775808 ≤ a0 ∧ a0 ≤ 9223372036854775807 := by simpa [Lit.wf, IntKind.min, IntKind.max, IntKind.signed, IntKind.bits] using w0
  obtain ⟨a1, rfl, rfl, rfl, w1⟩ := open_int Try.underlying2 (hval 1 2 v1 rfl rfl) h1
  have b1 : -9223372036854775808 ≤ a1 ∧ a1 ≤ 9223372036854775807 := by simpa [Lit.wf, IntKind.min, IntKind.max, IntKind.signed, IntKind.bits] using w1
  obtain ⟨a2, rfl, rfl, rfl, w2⟩ := open_int Try.underlying5 (hval 2 5 v2 rfl rfl) h2
  have b2 : 0 ≤ a2 ∧ a2 ≤ 255 := by simpa [Lit.wf, IntKind.min, IntKind.max, IntKind.signed, IntKind.bits] using w2
  clear hA0
  simp only [List.append_nil] at hW'
  refine (walk a0 b0.1 b0.2 a1 b1.1 b1.2 a2 b2.1 b2.2 W).mono fun e W' ⟨he, bel⟩ => ?_
  subst he
  exact ⟨_, rfl, _, _, _, [], _, [], hW', trodAll_mk1 (shut_bool Try.underlying4 _), (trodAll_cons_mk (shut_int Try.underlying3 w0) (trodAll_cons_mk (shut_int Try.underlying2 w1) (trodAll_cons_mk (shut_int Try.underlying5 w2) trodAll_mk0))), rfl, bel.frame _, fun h => by cases h⟩

set_option maxRecDepth 100000 in
theorem lifted (os : Os) (started : os.Started) (H : Type) (enc : TypeId × Value → H) :
    ReturnsInHanded {} Try.checked os 6 .any (Rows.dequeNoneSpec.pre6 enc Try.prog Try.f6 Rows.dequeNoneRow.domain false) (Rows.dequeNoneSpec.post enc Try.prog Try.f6 false true false false) := by
  refine returnsInHanded_of_change (C := Try.checked) own started (by kernel_rfl) Try.func6
    (ChangeSpec.witness6 (enc := enc) (C := Try.checked) false ⟨#[], #[.int .i64 0, .int .i64 0, .int .u8 0], []⟩ 8 (by kernel_rfl) (by kernel_rfl) (by kernel_rfl) (by kernel_rfl)) ?_
  intro W base args ds gs before hval hW _ _
  exact contract H enc W base args ds gs before hval hW

theorem over : Rows.dequeNoneRow.holds Try.pinned (OpenSpec.ofChange Rows.dequeNoneSpec) :=
  OpenClaim.holds_of_wide 6 Try.f6 rfl rfl rfl rfl rfl rfl rfl ⟨rfl, rfl, rfl, rfl, rfl⟩ rfl rfl rfl rfl rfl (by kernel_rfl) Try.func6 (by kernel_rfl)
    (of_decide_eq_true (by kernel_rfl)) (by unfold Func.isWrapper; first | (rw [if_pos (by decide +kernel)]; kernel_rfl) | (rw [if_neg (by decide +kernel)]; exact ⟨rfl, rfl⟩))
    (fun os started H enc _ => lifted os started H enc)

/-- The statement. -/
theorem proved : Rows.DequeNoneSaid :=
  over

end Go.Proofs.Ytlgelhkpdldgdaa.dequeNone
