/-
  Layer 13: EvalParts' walk.
-/
import Derived.Test.YtnlhacgihmelhaaDoorLowEvV
import Derived.Laws.Concat
namespace Go.Proofs.YtnlhacgihmelhaaDoor
open Go.RowKit

set_option maxHeartbeats 4000000 in
set_option maxRecDepth 20000 in
theorem parts13 (l : List Cd.Fm) (hR : ∀ m ∈ l, m.f.Rng) (hn : l.length ≤ maxLen) (A : Option Addr) (c : Nat) (w : World) (hP : Cd.Prog w w.heap.size A l) (hL : Ck.Laid w) (A2 : Option Addr) (xs : List Int) (c2 : Nat) (hl : Lies w w.heap.size A2 (icells xs)) (fuel at_ : Int) (f0 : -9223372036854775808 ≤ fuel) (a0 : 0 ≤ at_) (a1 : at_ ≤ 65535) :
    Calls Tryd.prog 3 #[.agg #[.slice A l.length c], .slice A2 xs.length c2, .int .i64 fuel, .int .u16 at_] w fun e w' => e = .returned (.bool true) ∧ Below w.heap.size w w' := by
  obtain ⟨W, hW⟩ : ∃ W, W = w.alloc (.cells #[.slice A l.length c] 24) := ⟨_, rfl⟩
  have hb : Below w.heap.size w W := by rw [hW]; exact Cd.fn1 _ _ _
  have hX : Cd.PBlk W w.heap.size (.slice A l.length c) := by show W.heap[_]? = _; rw [hW]; exact heap_alloc_new w _
  have hPW := (hP.below hb).mono hb.size
  have HPW := Lib.hid hPW
  have HLW := Lib.hid (hL.later hb)
  have HLI := Lib.hid ((hl.below hb).mono hb.size)
  have HR := Lib.hid hR
  have HN := Lib.hid hn
  have HX := Lib.hid hX
  have HB := Lib.hid hb
  have HHV := Lib.hid (heavy13 l hR hn A c W hPW A2 xs.length c2 fuel)
  have HAL : Hid (∀ U, Below W.heap.size W U → Calls Tryd.prog 5 #[] U fun e w' => e = .returned (.bool true) ∧ Below w.heap.size w w') := fun U hU => by
    refine (alive13 U (HLW.out.later hU)).mono ?_
    rintro e w' ⟨he, hb'⟩
    exact ⟨he, HB.out.trans ((hU.trans (hb'.mono hU.size)).mono HB.out.size)⟩
  have x0 := hX.c0
  have F0 := Lib.hid f0
  have A0 := Lib.hid (And.intro a0 a1)
  clear hb hPW hL hl hR hn hX hP f0 a0 a1
  go_enter Tryd.func3, Tryd.ntmps3
  go_upto_region 1 with fail
  rw [← hW]
  clear hW
  obtain ⟨X, hXe⟩ : ∃ X, X = w.heap.size := ⟨_, rfl⟩
  rw [← hXe] at HX x0 ⊢
  clear hXe
  go_wp2_with fail
  refine HHV.out.mono ?_
  rintro e w2 ⟨b, rfl, hhv, hb2⟩
  have HB2 := Lib.hid hb2
  have x02 := (hb2.cell (p := ⟨X, 0, none⟩) HX.out.lt).trans x0
  clear hb2 x0
  cases b with
  | true =>
    go_wp2_with fail
    refine (HAL.out _ HB2.out).mono ?_
    rintro e w3 ⟨rfl, hb3⟩
    go_wp2_with fail
    go_ret
    exact ⟨rfl, hb3⟩
  | false =>
    obtain ⟨hx100, hf3⟩ := hhv rfl
    by_cases h16 : 16 ≤ l.length
    · have h16i : (16 : Int) ≤ (l.length : Int) := by omega
      clear h16
      go_wp2_with fail
      refine (HAL.out _ HB2.out).mono ?_
      rintro e w3 ⟨rfl, hb3⟩
      go_wp2_with fail
      go_ret
      exact ⟨rfl, hb3⟩
    · have h16i : ¬ (16 : Int) ≤ (l.length : Int) := by omega
      have hwr : IntKind.i64.wrap (fuel + 1) = fuel + 1 := by rw [IntKind.wrap_i64]; have := F0.out; omega
      have HT := Lib.hid (eTree A c l w2 HR.out HN.out ((HPW.out.below HB2.out).mono HB2.out.size) (HLW.out.later HB2.out) A2 xs c2 ((HLI.out.below HB2.out).mono HB2.out.size) (by omega) fuel (fuel + 1))
      have H16 := Lib.hid h16
      have HX1 := Lib.hid hx100
      have HF3 := Lib.hid hf3
      clear h16 hx100 hf3 hhv
      go_wp2_with fail
      refine HT.out.mono ?_
      rintro e w3 ⟨hb3, ht⟩
      rw [Ev.tree_eq] at ht
      have HB3 : Hid (Below W.heap.size W w3) := HB2.out.trans (hb3.mono HB2.out.size)
      have x03 := (hb3.cell (p := ⟨X, 0, none⟩) (Nat.lt_of_lt_of_le HX.out.lt HB2.out.size)).trans x02
      have HE := Lib.hid (eEval A c l w3 HR.out HN.out ((HPW.out.below HB3.out).mono HB3.out.size) (HLW.out.later HB3.out) A2 xs c2 ((HLI.out.below HB3.out).mono HB3.out.size) (by have := HX1.out; omega) fuel)
      have HRL := Lib.hid (Ev.rootE_le (Cd.fns l) xs.length fuel)
      clear hb3 HT hwr x02
      rcases ht with ⟨hr, rfl⟩ | ⟨-, hr, A3, c3, ms, rfl, hms, hd⟩
      · go_wp2_with fail
        refine HE.out.mono ?_
        rintro e w4 ⟨rfl, hb4⟩
        have HB4 : Hid (Below W.heap.size W w4) := HB3.out.trans (hb4.mono HB3.out.size)
        generalize Ev.rootE (Cd.fns l) xs.length fuel = r at hr HRL ⊢
        have hr1 : ((r == 0) = false) := by simpa using hr
        have hr2 : (r != 134) = true := by have := HRL.out.2; rw [bne_iff_ne]; omega
        clear hb4 HE x03
        go_wp2_with fail
        refine (HAL.out _ (HB4.out.alloc HB4.out.size _)).mono ?_
        rintro e w5 ⟨rfl, hb5⟩
        go_wp2_with fail
        go_ret
        exact ⟨rfl, hb5⟩
      · obtain ⟨hc, hxs, hfu0, hfu1⟩ := Ev.rootE_zero hr
        have HC := Lib.hid hc
        have HTK := Lib.hid (Ev.root_ok hr)
        have HRT := Lib.hid hr
        go_wp2_with fail
        refine HE.out.mono ?_
        rintro e w4 ⟨rfl, hb4⟩
        rw [hr]
        have hev : Ev.evR (Cd.fns l) xs fuel = (Ev.doT (Cd.fns l) (Ev.root xs fuel)).1 := by unfold Ev.evR; rw [if_pos hr]
        rw [hev]
        have HB4 : Hid (Below W.heap.size W w4) := HB3.out.trans (hb4.mono HB3.out.size)
        have HD4 := Lib.hid (hd.below hb4)
        have x04 := (hb4.cell (p := ⟨X, 0, none⟩) (Nat.lt_of_lt_of_le HX.out.lt HB3.out.size)).trans x03
        obtain ⟨cs, hform, -⟩ := Ev.doT_form (Cd.fns l) (Ev.root xs fuel)
        obtain ⟨T0, hT0⟩ : ∃ T0, T0 = Ev.root xs fuel := ⟨_, rfl⟩
        rw [← hT0] at hms hform HTK ⊢
        obtain ⟨D, hD⟩ : ∃ D, D = (Ev.doT (Cd.fns l) T0).2 := ⟨_, rfl⟩
        rw [← hD] at hms hform
        have HDD := Lib.hid hD
        have HMS := Lib.hid hms
        have hDl := congrArg List.length hms
        rw [List.length_map] at hDl
        have hpos : 0 < ms.length := by rw [hDl, hform]; exact Nat.succ_pos _
        have hm0 : ms[0].d.r = (Ev.doT (Cd.fns l) T0).1 := by
          have h1 : (ms.map Ev.Dm.d)[0]? = D[0]? := by rw [hms]
          rw [List.getElem?_map, List.getElem?_eq_getElem hpos, hform] at h1
          have h2 := Option.some.inj h1
          rw [h2]
        have hlen : ms.length ≤ 3001 := by
          have h1 := Ev.doT_len (Cd.fns l) T0
          rw [← hD, ← hDl, hT0] at h1
          have h2 := HF3.out
          have h3 : (Ev.root xs fuel).fuel = fuel.toNat := rfl
          omega
        have HLE := Lib.hid hlen
        have HDL := Lib.hid hDl
        rw [← hm0]
        clear hlen hDl hms hform hm0 hD hT0 hev hb4 hd HE hr hxs hfu0 hfu1 x03 hc
        obtain ⟨W5, hW5⟩ : ∃ W5, W5 = w4.alloc (.cells #[.int .i64 ms[0].d.r.val, .int .i64 ms[0].d.r.err] 34) := ⟨_, rfl⟩
        have hb5 : Below w4.heap.size w4 W5 := by rw [hW5]; exact Cd.fn1 _ _ _
        have HQ : Hid (W5.heap[w4.heap.size]? = some (.cells #[.int .i64 ms[0].d.r.val, .int .i64 ms[0].d.r.err] 34 (0, 0))) := by show _ = _; rw [hW5]; exact heap_alloc_new w4 _
        have HD5 := Lib.hid (HD4.out.below hb5)
        have HB5 : Hid (Below W.heap.size W W5) := HB4.out.trans (hb5.mono HB4.out.size)
        have x05 := (hb5.cell (p := ⟨X, 0, none⟩) (Nat.lt_of_lt_of_le HX.out.lt HB4.out.size)).trans x04
        have q0 : W5.cell? ⟨w4.heap.size, 0, none⟩ = some (.int .i64 ms[0].d.r.val) := cell_of_row _ _ 0 _ _ _ HQ.out
        have q1 : W5.cell? ⟨w4.heap.size, 1, none⟩ = some (.int .i64 ms[0].d.r.err) := cell_of_row _ _ 1 _ _ _ HQ.out
        obtain ⟨ad, rfl, hadb, d0, dx⟩ := Ev.d_at HD5.out.li hpos
        have d4 := dx 4 _ (by decide) rfl
        have d5 := dx 5 _ (by decide) rfl
        have hz0 : ad.add (0 * 7) = ad := by unfold Addr.add; cases ad; simp
        rw [hz0] at d4 d5
        replace d5 : W5.cell? ⟨ad.block, ad.off + 4 + 1, none⟩ = some (.int .i64 ms[0].d.r.err) := d5
        have hl0 : ((ms.length : Int) == 0) = false := by rw [beq_eq_false_iff_ne]; omega
        have hlp : (0 : Int) < (ms.length : Int) := by omega
        clear dx d0 hb5 x04
        go_upto_region 7 with fail
        rw [← hW5]
        clear hW5
        have S7 : W5.cell? ⟨ad.block, ad.off + 4, none⟩ = some (.int .i64 ms[0].d.r.val) ∧ W5.cell? ⟨ad.block, ad.off + 4 + 1, none⟩ = some (.int .i64 ms[0].d.r.err) ∧ W5.cell? ⟨w4.heap.size, 0, none⟩ = some (.int .i64 ms[0].d.r.val) ∧ W5.cell? ⟨w4.heap.size, 1, none⟩ = some (.int .i64 ms[0].d.r.err) := ⟨d4, d5, q0, q1⟩
        clear d4 d5 q0 q1
        go_region_held3 (fun w' => w'.cell? ⟨ad.block, ad.off + 4, none⟩ = some (.int .i64 ms[0].d.r.val) ∧ w'.cell? ⟨ad.block, ad.off + 4 + 1, none⟩ = some (.int .i64 ms[0].d.r.err) ∧ w'.cell? ⟨w4.heap.size, 0, none⟩ = some (.int .i64 ms[0].d.r.val) ∧ w'.cell? ⟨w4.heap.size, 1, none⟩ = some (.int .i64 ms[0].d.r.err)) (exact S7) (fail)
        have HB6 : Hid (Below W.heap.size W W5.drew ∧ Below W5.heap.size W5 W5.drew) := ⟨HB5.out.drew, (Below.refl _ _).drew⟩
        have HD6 : Hid (Ev.DRow W5.drew (some ad) ms) := HD5.out.below (Below.refl _ _).drew
        have hx6 : W5.drew.cell? ⟨X, 0, none⟩ = some (.slice A l.length c) := x05
        clear S7 x05
        generalize W5.drew = w6 at HB6 HD6 hx6 ⊢
        have hRS := Ev.rising (Cd.fns l) (T0.fuel + 1) T0 (Nat.lt_succ_self _)
        rw [← HDD.out, ← HMS.out] at hRS
        have HRS : Hid (∀ i j (_ : i < j) (h : j < ms.length), Br.cmpR ms[i].d.t.path ms[j].d.t.path = -1) := fun i j hij h => by
          have h1 := List.pairwise_iff_getElem.1 hRS i j (by rw [List.length_map]; omega) (by rw [List.length_map]; exact h) hij
          rw [List.getElem_map, List.getElem_map] at h1
          obtain ⟨c1, -, c3⟩ := Br.cmp_bytes ms[i].d.t.path.data.toList ms[j].d.t.path.data.toList
          have h2 := c1.2 h1
          show Lib.compareBytes _ _ = -1
          omega
        clear hRS
        go_wp2_with fail
        go_loopw [13, 14] (fun s13 s14 wr => ∃ (dp i : Nat), i ≤ ms.length ∧ s13 = .int .i64 dp ∧ s14 = .int .i64 i ∧ Hid ((∀ j (hj : j < ms.length), j < i → ms[j].d.t.path.size ≤ dp) ∧ Below w6.heap.size w6 wr)) (fun _ s14 _ => ms.length - (intOf s14).toNat)
        case atStart => exact ⟨0, 0, Nat.zero_le _, rfl, rfl, fun _ _ h => by omega, Below.refl _ _⟩
        case round =>
          obtain ⟨dp, i, hi, rfl, rfl, HK⟩ := hrel
          by_cases hlt : i < ms.length
          · have i0 : (0 : Int) ≤ (i : Int) := by omega
            have i1 : (i : Int) < (ms.length : Int) := by omega
            obtain ⟨ad', hE', hadl, d0, dx⟩ := Ev.d_at (HD6.out.below HK.out.2).li hlt
            cases hE'
            clear dx
            go_upto_region 14 with fail
            obtain ⟨q, hq⟩ : ∃ q : Nat, q = max dp ms[i].d.t.path.size := ⟨_, rfl⟩
            have hmx : max (dp : Int) (ms[i].d.t.path.size : Int) = (q : Int) := by omega
            rw [hmx]
            have HQ2 : Hid (∀ j (hj : j < ms.length), j < i + 1 → ms[j].d.t.path.size ≤ q) := fun j hj hji => by
              by_cases hji2 : j = i
              · subst hji2
                omega
              · have := HK.out.1 j hj (by omega)
                omega
            clear hmx hq
            by_cases hz : 0 < i
            · obtain ⟨k, hk⟩ : ∃ k, i = k + 1 := ⟨i - 1, by omega⟩
              have hci : k < ms.length := by omega
              obtain ⟨ad', hE', -, p0, px⟩ := Ev.d_at (HD6.out.below HK.out.2).li hci
              cases hE'
              clear px
              have HCM := Lib.hid (bCompare ms[k].d.t.path ms[i].d.t.path)
              rw [HRS.out k i (by omega) hlt] at HCM
              have hw1 : IntKind.i64.wrap ((i : Int) - 1) = (k : Int) := by rw [IntKind.wrap_i64]; have := HLE.out; omega
              have hwi : IntKind.i64.wrap ((i : Int) + 1) = (i : Int) + 1 := by rw [IntKind.wrap_i64]; have := HLE.out; omega
              have j0 : (0 : Int) ≤ (k : Int) := by omega
              have j1 : (k : Int) < (ms.length : Int) := by omega
              have j2 : (0 : Int) < (i : Int) := by omega
              have S14 : wr.cell? (ad.add (k * 7)) = some (.string ms[k].d.t.path) ∧ wr.cell? (ad.add (i * 7)) = some (.string ms[i].d.t.path) := ⟨p0, d0⟩
              have HI := Lib.hid hi
              clear p0 d0 hk hi
              go_region_held3 (fun w' => w'.cell? (ad.add (k * 7)) = some (.string ms[k].d.t.path) ∧ w'.cell? (ad.add (i * 7)) = some (.string ms[i].d.t.path)) (exact S14)
                (first
                  | (with_reducible refine (HCM.out _).mono ?_
                     rintro e w3 ⟨rfl, rfl⟩))
              all_goals
                go_wp2_with fail
                have hle : ms.length ≤ 3001 := HLE.out
                go_roundw
                case rel => exact ⟨q, i + 1, by omega, rfl, by go_num, HQ2.out, HK.out.2.drew⟩
                case measure => simp [intOf]; omega
            · have j2 : ¬ (0 : Int) < (i : Int) := by omega
              have j3 : ¬ 0 < i := hz
              have hz0 : i = 0 := by omega
              clear d0 hz
              go_quiet (fail)
              all_goals
                go_wp2_with fail
                have hle : ms.length ≤ 3001 := HLE.out
                go_roundw
                case rel => exact ⟨q, i + 1, by omega, rfl, by go_num, HQ2.out, below_drewN HK.out.2 _⟩
                case measure => simp [intOf]; omega
          · obtain rfl : i = ms.length := by omega
            have i1 : ¬ (ms.length : Int) < (ms.length : Int) := by omega
            clear hlt hi
            have HB7 : Hid (Below W.heap.size W wr ∧ Below w6.heap.size w6 wr) := ⟨HB6.out.1.trans (HK.out.2.mono HB6.out.1.size), HK.out.2⟩
            have HD7 : Hid (Ev.DRow wr (some ad) ms) := HD6.out.below HK.out.2
            have x07 := (HK.out.2.cell (p := ⟨X, 0, none⟩) (Nat.lt_of_lt_of_le HX.out.lt HB6.out.1.size)).trans hx6
            have HDP : Hid (∀ j (hj : j < ms.length), ms[j].d.t.path.size ≤ dp) := fun j hj => HK.out.1 j hj hj
            clear HK
            obtain ⟨k, hk⟩ : ∃ k : Nat, k = at_.toNat % ms.length := ⟨_, rfl⟩
            have hkl : k < ms.length := by rw [hk]; exact Nat.mod_lt _ hpos
            have hkm : at_.tmod (ms.length : Int) = (k : Int) := by
              have := A0.out.1
              rw [Int.tmod_eq_emod_of_nonneg this, hk, Int.natCast_emod, Int.toNat_of_nonneg this]
            have hwa : IntKind.i64.wrap at_ = at_ := by have := A0.out; rw [IntKind.wrap_i64]; omega
            have hwb : wrap64 at_ = at_ := by have := A0.out; unfold wrap64; omega
            have hm0 : ¬ (ms.length : Int) = 0 := by omega
            have k0 : (0 : Int) ≤ (k : Int) := by omega
            have k1 : (k : Int) < (ms.length : Int) := by omega
            obtain ⟨ad', hE', -, t0, tx⟩ := Ev.d_at HD7.out.li hkl
            cases hE'
            have t1 := tx 1 _ (by decide) rfl
            have t2 := tx 2 _ (by decide) rfl
            have t3 := tx 3 _ (by decide) rfl
            clear tx hk
            obtain ⟨m, hm⟩ : ∃ m, m = ms[k] := ⟨_, rfl⟩
            rw [← hm] at t0 t1 t2 t3
            have hmD : m.d ∈ (Ev.doT (Cd.fns l) T0).2 := by rw [← HDD.out, ← HMS.out, hm]; exact List.mem_map.2 ⟨_, List.getElem_mem hkl, rfl⟩
            have HTM : Hid (Ev.TOk (Cd.fns l) m.d.t) := Ev.doT_tok (Ev.good_of HC.out) HTK.out m.d hmD
            obtain ⟨nf, hnf, hnl⟩ := HTM.out.fn
            rw [Cd.fns_len] at hnl
            rw [hnf] at t1
            obtain ⟨W8, hW8⟩ : ∃ W8, W8 = wr.alloc (.cells #[.string m.d.t.path, .int .i64 (nf : Int), .slice m.A m.d.t.args.length m.c, .int .i64 (m.d.t.fuel : Int)] 38) := ⟨_, rfl⟩
            have hb8 : Below wr.heap.size wr W8 := by rw [hW8]; exact Cd.fn1 _ _ _
            have HT8 : Hid (W8.heap[wr.heap.size]? = some (.cells #[.string m.d.t.path, .int .i64 (nf : Int), .slice m.A m.d.t.args.length m.c, .int .i64 (m.d.t.fuel : Int)] 38 (0, 0))) := by show _ = _; rw [hW8]; exact heap_alloc_new wr _
            have HD8 : Hid (Ev.DRow W8 (some ad) ms) := HD7.out.below hb8
            have HB8 : Hid (Below W.heap.size W W8) := HB7.out.1.trans (hb8.mono HB7.out.1.size)
            have x08 := (hb8.cell (p := ⟨X, 0, none⟩) (Nat.lt_of_lt_of_le HX.out.lt HB7.out.1.size)).trans x07
            have HKD := Lib.hid hkm
            have HMM := Lib.hid hm
            have HNF := Lib.hid hnf
            have T8 := Lib.hid (Cd.ltH HT8.out)
            clear hb8 hmD hnf hm x07
            go_upto_region 18 with fail
            rw [← hW8]
            clear hW8 t0 t1 t2 t3 hkm hwa hwb
            obtain ⟨TB, hTB⟩ : ∃ TB, TB = wr.heap.size := ⟨_, rfl⟩
            rw [← hTB] at HT8 T8 ⊢
            clear hTB
            have b0 : W8.cell? ⟨TB, 0, none⟩ = some (.string m.d.t.path) := cell_of_row _ _ 0 _ _ _ HT8.out
            have b1 : W8.cell? ⟨TB, 1, none⟩ = some (.int .i64 (nf : Int)) := cell_of_row _ _ 1 _ _ _ HT8.out
            have b2 : W8.cell? ⟨TB, 2, none⟩ = some (.slice m.A m.d.t.args.length m.c) := cell_of_row _ _ 2 _ _ _ HT8.out
            have b3 : W8.cell? ⟨TB, 3, none⟩ = some (.int .i64 (m.d.t.fuel : Int)) := cell_of_row _ _ 3 _ _ _ HT8.out
            have nf0 : ¬ (nf : Int) < 0 := by omega
            have nf1 : ¬ (l.length : Int) ≤ (nf : Int) := by omega
            by_cases hd12 : 12 ≤ dp
            · have hdi : (12 : Int) ≤ (dp : Int) := by omega
              clear hd12
              go_wp2_with fail
              refine (HAL.out _ HB8.out).mono ?_
              rintro e w9 ⟨rfl, hb9⟩
              go_wp2_with fail
              go_ret
              exact ⟨rfl, hb9⟩
            · have hdi : ¬ (12 : Int) ≤ (dp : Int) := by omega
              have hkD : k < (Ev.doT (Cd.fns l) T0).2.length := by rw [← HDD.out, ← HDL.out]; exact hkl
              have hkd : (Ev.doT (Cd.fns l) T0).2[k] = m.d := by
                have h1 : (ms.map Ev.Dm.d)[k]? = (Ev.doT (Cd.fns l) T0).2[k]? := by rw [HMS.out, HDD.out]
                rw [List.getElem?_map, List.getElem?_eq_getElem hkl, List.getElem?_eq_getElem hkD] at h1
                rw [HMM.out]
                exact (Option.some.inj h1).symm
              have HPP := Ev.part_of HC.out HTK.out hkD (fun d hd => by
                rw [← HDD.out, ← HMS.out] at hd
                obtain ⟨x, hx, rfl⟩ := List.mem_map.1 hd
                obtain ⟨j, hj, rfl⟩ := List.mem_iff_getElem.1 hx
                have := HDP.out j hj
                omega)
              rw [hkd, HNF.out, Int.toNat_natCast, ← HDD.out] at HPP
              obtain ⟨E, hE⟩ : ∃ E, E = (Ev.doT (Ev.begun (Cd.fns l) nf) (Ev.root m.d.t.args m.d.t.fuel)).2 := ⟨_, rfl⟩
              rw [← hE] at HPP
              have HP := Lib.hid HPP
              have HEE := Lib.hid hE
              have HGO := Ev.good_of HC.out
              have hlf : (Cd.fns l).length < 16 := by rw [Cd.fns_len]; omega
              have HBG : Hid (∀ U, Below W8.heap.size W8 U → Calls Tryd.prog 9 #[.agg #[.slice A l.length c], .int .i64 (nf : Int)] U fun e w' => ∃ (ms2 : List Cd.Fm) (A' : Option Addr) (c' : Nat), e = .returned (.agg #[.slice A' ms2.length c']) ∧ Hid (Cd.fns ms2 = Ev.begun (Cd.fns l) nf ∧ Cd.Prog w' w'.heap.size A' ms2) ∧ Below W8.heap.size W8 w') := fun U hU => by
                have hlU := HB8.out.trans (hU.mono HB8.out.size)
                refine (begun13 l (fun x hx => ?_) (by omega) (fun x hx o ho h12 => ?_) A c U ((HPW.out.below hlU).mono hlU.size) nf hnl).mono ?_
                · have := HGO x.f (List.mem_map.2 ⟨x, hx, rfl⟩)
                  exact ⟨this.pos, this.len⟩
                · have := Ck.chk_fork HC.out x.f (List.mem_map.2 ⟨x, hx, rfl⟩) o ho h12
                  omega
                · rintro e w' ⟨ms2, A', c', h1, h2, h3, h4⟩
                  exact ⟨ms2, A', c', h1, ⟨h2, h3⟩, hU.trans (h4.mono hU.size)⟩
              have HTR : Hid (∀ U9 U (ms2 : List Cd.Fm) (A' : Option Addr) (c' : Nat), Hid (Cd.fns ms2 = Ev.begun (Cd.fns l) nf ∧ Cd.Prog U9 U9.heap.size A' ms2) → Below W8.heap.size W8 U9 → Below U9.heap.size U9 U → Calls Tryd.prog 6 #[.agg #[.slice A' ms2.length c'], .slice m.A m.d.t.args.length m.c, .int .i64 (m.d.t.fuel : Int), .int .i64 ((m.d.t.fuel : Int) + 1)] U fun e w' =>
                  ∃ (A4 : Option Addr) (c4 : Nat) (ms4 : List Ev.Dm), e = .returned (.tuple #[.slice A4 ms4.length c4, .int .i64 0]) ∧ Hid (ms4.map Ev.Dm.d = E ∧ Ev.DRow w' A4 ms4) ∧ Below W8.heap.size W8 w') := fun U9 U ms2 A' c' h2 hU9 hUU => by
                have hU := hU9.trans (hUU.mono hU9.size)
                have hlU := HB8.out.trans (hU.mono HB8.out.size)
                have hl2 : ms2.length = l.length + 1 := by rw [← Cd.fns_len, h2.out.1, Ev.begun_len, Cd.fns_len]
                have hr0 : Ev.rootE (Cd.fns ms2) m.d.t.args.length (m.d.t.fuel : Int) = 0 := by
                  have := Ev.begun_root HC.out hlf HTM.out
                  rw [HNF.out, Int.toNat_natCast] at this
                  rw [h2.out.1]
                  exact this
                have hrg := Ev.begun_rng (p := Cd.fns l) (fun f hf => by obtain ⟨x, hx, rfl⟩ := List.mem_map.1 hf; exact HR.out x hx) HC.out hlf (fn := nf) (by rw [Cd.fns_len]; exact hnl)
                have ha16 : m.d.t.args.length ≤ 100000 := by
                  obtain ⟨y, e1, h1⟩ := (HGO _ HTM.out.mem).args
                  obtain ⟨z, e2, h3⟩ := (HGO _ HTM.out.mem).regs
                  have := HTM.out.args
                  omega
                refine (eTree A' c' ms2 U (fun x hx => hrg _ (by rw [← h2.out.1]; exact List.mem_map.2 ⟨x, hx, rfl⟩)) (by rw [hl2]; unfold maxLen; omega) ((h2.out.2.below hUU).mono hUU.size) (HLW.out.later hlU) m.A m.d.t.args m.c (((HD8.out.args m (by rw [HMM.out]; exact List.getElem_mem hkl)).below hU).mono hU.size) ha16 (m.d.t.fuel : Int) ((m.d.t.fuel : Int) + 1)).mono ?_
                rintro e w' ⟨hb, ht⟩
                rw [Ev.tree_eq, hr0] at ht
                rcases ht with ⟨h, _⟩ | ⟨_, _, A4, c4, ms4, h4, h5, h6⟩
                · exact absurd rfl h
                · refine ⟨A4, c4, ms4, h4, ⟨?_, h6⟩, hU.trans (hb.mono hU.size)⟩
                  rw [h5, h2.out.1, HEE.out]
              have hfw : IntKind.i64.wrap ((m.d.t.fuel : Int) + 1) = (m.d.t.fuel : Int) + 1 := by rw [IntKind.wrap_i64]; have := HTM.out.fuel; omega
              have S20 : W8.cell? ⟨X, 0, none⟩ = some (.slice A l.length c) ∧ W8.cell? ⟨TB, 1, none⟩ = some (.int .i64 (nf : Int)) ∧ W8.cell? ⟨TB, 2, none⟩ = some (.slice m.A m.d.t.args.length m.c) ∧ W8.cell? ⟨TB, 3, none⟩ = some (.int .i64 (m.d.t.fuel : Int)) := ⟨x08, b1, b2, b3⟩
              have HX8 : Hid (X < W8.heap.size) := Nat.lt_of_lt_of_le HX.out.lt HB8.out.size
              clear HPP hE hkD hkd hd12 HGO hlf
              go_upto_region 20 with fail
              clear x08 b1 b2 b3
              go_region_held3 (fun w' => w'.cell? ⟨X, 0, none⟩ = some (.slice A l.length c) ∧ w'.cell? ⟨TB, 1, none⟩ = some (.int .i64 (nf : Int)) ∧ w'.cell? ⟨TB, 2, none⟩ = some (.slice m.A m.d.t.args.length m.c) ∧ w'.cell? ⟨TB, 3, none⟩ = some (.int .i64 (m.d.t.fuel : Int)))
                (first
                  | exact S20
                  | exact ⟨Ev.cell_below hb10 S20.1, Ev.cell_below hb10 S20.2.1, Ev.cell_below hb10 S20.2.2.1, Ev.cell_below hb10 S20.2.2.2⟩
                  | exact ⟨Ev.cell_below hb9 S20.1, Ev.cell_below hb9 S20.2.1, Ev.cell_below hb9 S20.2.2.1, Ev.cell_below hb9 S20.2.2.2⟩)
                (first
                  | (with_reducible refine (HBG.out _ (by first | exact Below.refl _ _ | exact (Below.refl _ _).drew)).mono ?_
                     rintro e w9 ⟨ms2, A', c', rfl, h2, hb9⟩)
                  | (with_reducible refine (HTR.out w9 _ ms2 A' c' h2 hb9 (by first | exact Below.refl _ _ | exact (Below.refl _ _).drew)).mono ?_
                     rintro e w10 ⟨A4, c4, ms4, rfl, h4, hb10⟩))
              have HB10 : Hid (Below W.heap.size W w10) := HB8.out.trans (hb10.mono HB8.out.size)
              have HD10 : Hid (Ev.DRow w10 (some ad) ms) := HD8.out.below hb10
              have HT10 : Hid (w10.heap[TB]? = some (.cells #[.string m.d.t.path, .int .i64 (nf : Int), .slice m.A m.d.t.args.length m.c, .int .i64 (m.d.t.fuel : Int)] 38 (0, 0))) := (hb10.block TB T8.out).trans HT8.out
              have hE4 : ms4.length = E.length := by rw [← h4.out.1, List.length_map]
              have hp4 : 0 < ms4.length := by rw [hE4]; exact HP.out.pos
              have hle4 : k + ms4.length ≤ ms.length := by rw [hE4, HDL.out]; exact HP.out.le
              have HH4 := Lib.hid h4
              obtain ⟨ad4, rfl, -⟩ := Ev.d_at HH4.out.out.2.li hp4
              have hm4 : ((ms4.length : Int) == 0) = false := by rw [beq_eq_false_iff_ne]; omega
              have hkw : IntKind.i64.wrap ((k : Int) + (ms4.length : Int)) = (k : Int) + (ms4.length : Int) := by rw [IntKind.wrap_i64]; have := HLE.out; omega
              have h21 : ¬ (ms.length : Int) < (k : Int) + (ms4.length : Int) := by omega
              have T10 := Lib.hid (Cd.ltH HT10.out)
              have HP4 := Lib.hid hp4
              have HL4 := Lib.hid hle4
              have HE4 := Lib.hid hE4
              have HDI : Hid (dp < 12) := by show _ < _; omega
              clear hb9 hb10 h2 h4 S20 hE4 hle4 hfw hdi
              go_wp2_with fail
              go_loopw [19] (fun s19 wz => ∃ i : Nat, i ≤ ms4.length ∧ s19 = .int .i64 i ∧ Hid (Below w10.heap.size w10 wz)) (fun s19 _ => ms4.length - (intOf s19).toNat)
              case atStart => exact ⟨0, Nat.zero_le _, rfl, Below.refl _ _⟩
              case round =>
                rename World => wz
                obtain ⟨i, hi, rfl, HK⟩ := hrel
                by_cases hlt : i < ms4.length
                · have i0 : (0 : Int) ≤ (i : Int) := by omega
                  have i1 : (i : Int) < (ms4.length : Int) := by omega
                  obtain ⟨q, hq⟩ : ∃ q : Nat, q = k + i := ⟨_, rfl⟩
                  have hql : q < ms.length := by have := HL4.out; omega
                  have q0 : (0 : Int) ≤ (q : Int) := by omega
                  have q1 : (q : Int) < (ms.length : Int) := by omega
                  have hqw : IntKind.i64.wrap ((k : Int) + (i : Int)) = (q : Int) := by rw [IntKind.wrap_i64]; have := HLE.out; omega
                  obtain ⟨ad', hE', -, y0, yx⟩ := Ev.d_at (HD10.out.below HK.out).li hql
                  cases hE'
                  have y1 := yx 1 _ (by decide) rfl
                  have y2 := yx 2 _ (by decide) rfl
                  have y3 := yx 3 _ (by decide) rfl
                  have y4 := yx 4 _ (by decide) rfl
                  have y5 := yx 5 _ (by decide) rfl
                  have y6 := yx 6 _ (by decide) rfl
                  have HQI := Lib.hid hq
                  have HLT := Lib.hid hlt
                  obtain ⟨y, hy⟩ : ∃ y, y = ms[q] := ⟨_, rfl⟩
                  rw [← hy] at y0 y1 y2 y3 y4 y5 y6
                  have HY := Lib.hid hy
                  obtain ⟨z, hz⟩ : ∃ z, z = ms4[i] := ⟨_, rfl⟩
                  have hqD : q < D.length := by rw [← HDL.out]; exact hql
                  have hiE : i < E.length := by rw [← HE4.out]; exact hlt
                  have hPA : ∀ (j : Nat) (hj : j < D.length), j = k + i → D[j].t.path = m.d.t.path ++ E[i].t.path ∧ E[i].r = D[j].r ∧ E[i].kids = D[j].kids ∧ E[i].t.fuel = D[j].t.fuel := fun j hj e => by
                    subst e
                    exact HP.out.at_ i hiE hj
                  have hPB := hPA q hqD hq
                  have hDy : D[q] = y.d := by
                    have h1 : (ms.map Ev.Dm.d)[q]? = D[q]? := by rw [HMS.out]
                    rw [List.getElem?_map, List.getElem?_eq_getElem hql, List.getElem?_eq_getElem hqD] at h1
                    rw [hy]
                    exact (Option.some.inj h1).symm
                  have hEz : E[i] = z.d := by
                    have h1 : (ms4.map Ev.Dm.d)[i]? = E[i]? := by rw [HH4.out.out.1]
                    rw [List.getElem?_map, List.getElem?_eq_getElem hlt, List.getElem?_eq_getElem hiE] at h1
                    rw [hz]
                    exact (Option.some.inj h1).symm
                  rw [hDy, hEz] at hPB
                  obtain ⟨p1, p2, p3, p4⟩ := hPB
                  obtain ⟨ad'', hE'', -, z0, zx⟩ := Ev.d_at (HH4.out.out.2.below HK.out).li hlt
                  cases hE''
                  have z3 := zx 3 _ (by decide) rfl
                  have z4 := zx 4 _ (by decide) rfl
                  have z5 := zx 5 _ (by decide) rfl
                  have z6 := zx 6 _ (by decide) rfl
                  have hsz : ¬ 9223372036854775807 < m.d.t.path.size + z.d.t.path.size := by
                    have h1 := HDP.out q hql
                    rw [← hy, p1, ByteArray.size_append] at h1
                    have := HDI.out
                    omega
                  rw [p1] at y0
                  obtain ⟨Wy, hWy⟩ : ∃ Wy, Wy = wz.alloc (.cells #[.string (m.d.t.path ++ z.d.t.path), .int .i64 y.d.t.fn, .slice y.A y.d.t.args.length y.c, .int .i64 (y.d.t.fuel : Int), .int .i64 y.d.r.val, .int .i64 y.d.r.err, .int .i64 (y.d.kids : Int)] 40) := ⟨_, rfl⟩
                  have hby : Below wz.heap.size wz Wy := by rw [hWy]; exact Cd.fn1 _ _ _
                  have HBY : Hid (Below w10.heap.size w10 Wy) := HK.out.trans (hby.mono HK.out.size)
                  have HYB : Hid (Wy.heap[wz.heap.size]? = some (.cells #[.string (m.d.t.path ++ z.d.t.path), .int .i64 y.d.t.fn, .slice y.A y.d.t.args.length y.c, .int .i64 (y.d.t.fuel : Int), .int .i64 y.d.r.val, .int .i64 y.d.r.err, .int .i64 (y.d.kids : Int)] 40 (0, 0))) := by show _ = _; rw [hWy]; exact heap_alloc_new wz _
                  have v0 : Wy.cell? ⟨wz.heap.size, 0, none⟩ = some (.string (m.d.t.path ++ z.d.t.path)) := cell_of_row _ _ 0 _ _ _ HYB.out
                  have v3 : Wy.cell? ⟨wz.heap.size, 3, none⟩ = some (.int .i64 (y.d.t.fuel : Int)) := cell_of_row _ _ 3 _ _ _ HYB.out
                  have v4 : Wy.cell? ⟨wz.heap.size, 4, none⟩ = some (.int .i64 y.d.r.val) := cell_of_row _ _ 4 _ _ _ HYB.out
                  have v5 : Wy.cell? ⟨wz.heap.size, 5, none⟩ = some (.int .i64 y.d.r.err) := cell_of_row _ _ 5 _ _ _ HYB.out
                  have v6 : Wy.cell? ⟨wz.heap.size, 6, none⟩ = some (.int .i64 (y.d.kids : Int)) := cell_of_row _ _ 6 _ _ _ HYB.out
                  have tb0 : Wy.cell? ⟨TB, 0, none⟩ = some (.string m.d.t.path) := cell_of_row _ _ 0 _ _ _ ((HBY.out.block TB T10.out).trans HT10.out)
                  have u0 : Wy.cell? (ad4.add (i * 7)) = some (.string z.d.t.path) := by subst hz; exact Ev.cell_below hby z0
                  have u3 : Wy.cell? ⟨(ad4.add (i * 7)).block, (ad4.add (i * 7)).off + 3, none⟩ = some (.int .i64 (y.d.t.fuel : Int)) := by rw [← p4]; subst hz; exact Ev.cell_below hby z3
                  have u4 : Wy.cell? ⟨(ad4.add (i * 7)).block, (ad4.add (i * 7)).off + 4, none⟩ = some (.int .i64 y.d.r.val) := by rw [← p2]; subst hz; exact Ev.cell_below hby z4
                  have u5 : Wy.cell? ⟨(ad4.add (i * 7)).block, (ad4.add (i * 7)).off + 4 + 1, none⟩ = some (.int .i64 y.d.r.err) := by rw [← p2]; subst hz; exact Ev.cell_below hby z5
                  have u6 : Wy.cell? ⟨(ad4.add (i * 7)).block, (ad4.add (i * 7)).off + 6, none⟩ = some (.int .i64 (y.d.kids : Int)) := by rw [← p3]; subst hz; exact Ev.cell_below hby z6
                  have hwi : IntKind.i64.wrap ((i : Int) + 1) = (i : Int) + 1 := by rw [IntKind.wrap_i64]; have := HLE.out; have := HL4.out; omega
                  clear HY
                  clear yx zx hq hlt hy hz hPA hDy hEz p1 p2 p3 p4 z0 z3 z4 z5 z6 hqD hiE hql hby
                  go_upto_region 27 with fail
                  rw [← hWy]
                  clear hWy y0 y1 y2 y3 y4 y5 y6
                  have S27 : Wy.cell? ⟨wz.heap.size, 0, none⟩ = some (.string (m.d.t.path ++ z.d.t.path)) ∧ Wy.cell? ⟨wz.heap.size, 3, none⟩ = some (.int .i64 (y.d.t.fuel : Int)) ∧ Wy.cell? ⟨wz.heap.size, 4, none⟩ = some (.int .i64 y.d.r.val) ∧ Wy.cell? ⟨wz.heap.size, 5, none⟩ = some (.int .i64 y.d.r.err) ∧ Wy.cell? ⟨wz.heap.size, 6, none⟩ = some (.int .i64 (y.d.kids : Int)) ∧ Wy.cell? ⟨TB, 0, none⟩ = some (.string m.d.t.path) ∧ Wy.cell? (ad4.add (i * 7)) = some (.string z.d.t.path) ∧ Wy.cell? ⟨(ad4.add (i * 7)).block, (ad4.add (i * 7)).off + 3, none⟩ = some (.int .i64 (y.d.t.fuel : Int)) ∧ Wy.cell? ⟨(ad4.add (i * 7)).block, (ad4.add (i * 7)).off + 4, none⟩ = some (.int .i64 y.d.r.val) ∧ Wy.cell? ⟨(ad4.add (i * 7)).block, (ad4.add (i * 7)).off + 4 + 1, none⟩ = some (.int .i64 y.d.r.err) ∧ Wy.cell? ⟨(ad4.add (i * 7)).block, (ad4.add (i * 7)).off + 6, none⟩ = some (.int .i64 (y.d.kids : Int)) := ⟨v0, v3, v4, v5, v6, tb0, u0, u3, u4, u5, u6⟩
                  clear v0 v3 v4 v5 v6 tb0 u0 u3 u4 u5 u6
                  go_region_held3 (fun w' => w'.cell? ⟨wz.heap.size, 0, none⟩ = some (.string (m.d.t.path ++ z.d.t.path)) ∧ w'.cell? ⟨wz.heap.size, 3, none⟩ = some (.int .i64 (y.d.t.fuel : Int)) ∧ w'.cell? ⟨wz.heap.size, 4, none⟩ = some (.int .i64 y.d.r.val) ∧ w'.cell? ⟨wz.heap.size, 5, none⟩ = some (.int .i64 y.d.r.err) ∧ w'.cell? ⟨wz.heap.size, 6, none⟩ = some (.int .i64 (y.d.kids : Int)) ∧ w'.cell? ⟨TB, 0, none⟩ = some (.string m.d.t.path) ∧ w'.cell? (ad4.add (i * 7)) = some (.string z.d.t.path) ∧ w'.cell? ⟨(ad4.add (i * 7)).block, (ad4.add (i * 7)).off + 3, none⟩ = some (.int .i64 (y.d.t.fuel : Int)) ∧ w'.cell? ⟨(ad4.add (i * 7)).block, (ad4.add (i * 7)).off + 4, none⟩ = some (.int .i64 y.d.r.val) ∧ w'.cell? ⟨(ad4.add (i * 7)).block, (ad4.add (i * 7)).off + 4 + 1, none⟩ = some (.int .i64 y.d.r.err) ∧ w'.cell? ⟨(ad4.add (i * 7)).block, (ad4.add (i * 7)).off + 6, none⟩ = some (.int .i64 (y.d.kids : Int)))
                    (exact S27) (fail)
                  all_goals
                    go_wp2_with fail
                    have hl1 : i < ms4.length := HLT.out
                    go_roundw
                    case rel => exact ⟨i + 1, by omega, by go_num, by first | exact HBY.out.drew | exact below_drewN HBY.out _⟩
                    case measure => simp [intOf]; omega
                · obtain rfl : i = ms4.length := by omega
                  have i1 : ¬ (ms4.length : Int) < (ms4.length : Int) := by omega
                  clear hlt hi
                  have HBZ : Hid (Below W.heap.size W wz) := HB10.out.trans (HK.out.mono HB10.out.size)
                  have HTZ : Hid (wz.heap[TB]? = some (.cells #[.string m.d.t.path, .int .i64 (nf : Int), .slice m.A m.d.t.args.length m.c, .int .i64 (m.d.t.fuel : Int)] 38 (0, 0))) := (HK.out.block TB T10.out).trans HT10.out
                  by_cases hend : k + ms4.length = ms.length
                  · have hen : ((k : Int) + (ms4.length : Int) == (ms.length : Int)) = true := by rw [beq_iff_eq]; omega
                    have HAZ : Hid (∀ U, Below wz.heap.size wz U → Calls Tryd.prog 5 #[] U fun e w' => e = .returned (.bool true) ∧ Below wz.heap.size wz w') := fun U hU => by
                      refine (alive13 U (HLW.out.later (HBZ.out.trans (hU.mono HBZ.out.size)))).mono ?_
                      rintro e w' ⟨he, hb'⟩
                      exact ⟨he, hU.trans (hb'.mono hU.size)⟩
                    have HBR : Hid (Below wz.heap.size wz wz) := Below.refl _ _
                    clear hend h21
                    go_upto_region 29 with fail
                    refine wp_region_noPanic ?_
                    refine wp_region_held_drew (S := (fun w' : World => Below wz.heap.size wz w')) (by kernel_rfl) (by first | exact HBR.out | exact HBR.out.drew) (fun hHeld => ?_)
                    refine wpAnyH_take (i := 0) (v := ?_) rfl (by kernel_rfl) (by kernel_rfl) (by kernel_rfl) (fun _ _ _ h => h) (Or.inl ⟨by rfl, ?_⟩) (by assumption) ?_
                    rotate_left
                    · (intro w hSw; (try dsimp only at hSw); go_simp; try with_reducible rfl)
                    try simp only [Act.put, List.getElem_toArray, List.getElem_cons_zero, List.setIfInBounds_toArray, List.set_cons_zero, List.set_cons_succ]
                    refine wpAnyH_take (i := 1) (v := ?_) rfl (by kernel_rfl) (by kernel_rfl) (by kernel_rfl) (fun _ _ _ h => h) (Or.inl ⟨by rfl, ?_⟩) (by assumption) ?_
                    rotate_left
                    · (intro w hSw; (try dsimp only at hSw); go_simp; try with_reducible rfl)
                    try simp only [Act.put, List.getElem_toArray, List.getElem_cons_zero, List.getElem_cons_succ, List.setIfInBounds_toArray, List.set_cons_zero, List.set_cons_succ]
                    refine wpAnyH_take (i := 2) (v := ?_) rfl (by kernel_rfl) (by kernel_rfl) (by kernel_rfl) (fun _ _ _ h => h) (Or.inl ⟨by rfl, ?_⟩) (by assumption) ?_
                    rotate_left
                    · (intro w hSw; (try dsimp only at hSw); go_simp; try with_reducible rfl)
                    try simp only [Act.put, List.getElem_toArray, List.getElem_cons_zero, List.getElem_cons_succ, List.setIfInBounds_toArray, List.set_cons_zero, List.set_cons_succ]
                    refine wpAnyH_take (i := 3) (v := ?_) rfl (by kernel_rfl) (by kernel_rfl) (by kernel_rfl) (fun _ _ _ h => h) (Or.inl ⟨by rfl, ?_⟩) (by assumption) ?_
                    rotate_left
                    · (intro w hSw; (try dsimp only at hSw); go_simp; try with_reducible rfl)
                    try simp only [Act.put, List.getElem_toArray, List.getElem_cons_zero, List.getElem_cons_succ, List.setIfInBounds_toArray, List.set_cons_zero, List.set_cons_succ]
                    refine wpAnyH_take (i := 4) (v := ?_) rfl (by kernel_rfl) (by kernel_rfl) (by kernel_rfl) (fun _ _ _ h => h) (Or.inl ⟨by rfl, ?_⟩) (by assumption) ?_
                    rotate_left
                    · (intro w hSw; (try dsimp only at hSw); go_simp; try with_reducible rfl)
                    try simp only [Act.put, List.getElem_toArray, List.getElem_cons_zero, List.getElem_cons_succ, List.setIfInBounds_toArray, List.set_cons_zero, List.set_cons_succ]
                    refine wpAnyH_take (i := 5) (v := ?_) rfl (by kernel_rfl) (by kernel_rfl) (by kernel_rfl) (fun _ _ _ h => h) (Or.inl ⟨by rfl, ?_⟩) (by assumption) ?_
                    rotate_left
                    · (intro w hSw; (try dsimp only at hSw); go_simp; try with_reducible rfl)
                    try simp only [Act.put, List.getElem_toArray, List.getElem_cons_zero, List.getElem_cons_succ, List.setIfInBounds_toArray, List.set_cons_zero, List.set_cons_succ]
                    refine wpAnyH_take (i := 6) (v := ?_) rfl (by kernel_rfl) (by kernel_rfl) (by kernel_rfl) (fun _ _ _ h => h) (Or.inl ⟨by rfl, ?_⟩) (by assumption) ?_
                    rotate_left
                    · (intro w hSw; (try dsimp only at hSw); go_simp; try with_reducible rfl)
                    try simp only [Act.put, List.getElem_toArray, List.getElem_cons_zero, List.getElem_cons_succ, List.setIfInBounds_toArray, List.set_cons_zero, List.set_cons_succ]
                    refine wpAnyH_take (i := 7) (v := ?_) rfl (by kernel_rfl) (by kernel_rfl) (by kernel_rfl) (fun _ _ _ h => h) (Or.inl ⟨by rfl, ?_⟩) (by assumption) ?_
                    rotate_left
                    · (intro w hSw; (try dsimp only at hSw); go_simp; try with_reducible rfl)
                    try simp only [Act.put, List.getElem_toArray, List.getElem_cons_zero, List.getElem_cons_succ, List.setIfInBounds_toArray, List.set_cons_zero, List.set_cons_succ]
                    refine wpAnyH_take (i := 8) (v := undef) rfl (by kernel_rfl) (by kernel_rfl) (by kernel_rfl) (fun _ _ _ h => h) (Or.inr ⟨by rfl, rfl⟩) (by assumption) ?_
                    try simp only [Act.put, List.getElem_toArray, List.getElem_cons_zero, List.getElem_cons_succ, List.setIfInBounds_toArray, List.set_cons_zero, List.set_cons_succ]
                    refine wpAnyH_take (i := 9) (v := undef) rfl (by kernel_rfl) (by kernel_rfl) (by kernel_rfl) (fun _ _ _ h => h) (Or.inr ⟨by rfl, rfl⟩) (by assumption) ?_
                    try simp only [Act.put, List.getElem_toArray, List.getElem_cons_zero, List.getElem_cons_succ, List.setIfInBounds_toArray, List.set_cons_zero, List.set_cons_succ]
                    refine wpAnyH_take (i := 10) (v := undef) rfl (by kernel_rfl) (by kernel_rfl) (by kernel_rfl) (fun _ _ _ h => h) (Or.inr ⟨by rfl, rfl⟩) (by assumption) ?_
                    try simp only [Act.put, List.getElem_toArray, List.getElem_cons_zero, List.getElem_cons_succ, List.setIfInBounds_toArray, List.set_cons_zero, List.set_cons_succ]
                    refine wpAnyH_take (i := 11) (v := undef) rfl (by kernel_rfl) (by kernel_rfl) (by kernel_rfl) (fun _ _ _ h => h) (Or.inr ⟨by rfl, rfl⟩) (by assumption) ?_
                    try simp only [Act.put, List.getElem_toArray, List.getElem_cons_zero, List.getElem_cons_succ, List.setIfInBounds_toArray, List.set_cons_zero, List.set_cons_succ]
                    refine wpAnyH_take (i := 12) (v := undef) rfl (by kernel_rfl) (by kernel_rfl) (by kernel_rfl) (fun _ _ _ h => h) (Or.inr ⟨by rfl, rfl⟩) (by assumption) ?_
                    try simp only [Act.put, List.getElem_toArray, List.getElem_cons_zero, List.getElem_cons_succ, List.setIfInBounds_toArray, List.set_cons_zero, List.set_cons_succ]
                    refine wpAnyH_take (i := 13) (v := undef) rfl (by kernel_rfl) (by kernel_rfl) (by kernel_rfl) (fun _ _ _ h => h) (Or.inr ⟨by rfl, rfl⟩) (by assumption) ?_
                    try simp only [Act.put, List.getElem_toArray, List.getElem_cons_zero, List.getElem_cons_succ, List.setIfInBounds_toArray, List.set_cons_zero, List.set_cons_succ]
                    refine wpAnyH_take (i := 14) (v := undef) rfl (by kernel_rfl) (by kernel_rfl) (by kernel_rfl) (fun _ _ _ h => h) (Or.inr ⟨by rfl, rfl⟩) (by assumption) ?_
                    try simp only [Act.put, List.getElem_toArray, List.getElem_cons_zero, List.getElem_cons_succ, List.setIfInBounds_toArray, List.set_cons_zero, List.set_cons_succ]
                    refine wpAnyH_take (i := 15) (v := undef) rfl (by kernel_rfl) (by kernel_rfl) (by kernel_rfl) (fun _ _ _ h => h) (Or.inr ⟨by rfl, rfl⟩) (by assumption) ?_
                    try simp only [Act.put, List.getElem_toArray, List.getElem_cons_zero, List.getElem_cons_succ, List.setIfInBounds_toArray, List.set_cons_zero, List.set_cons_succ]
                    refine wpAnyH_take (i := 16) (v := undef) rfl (by kernel_rfl) (by kernel_rfl) (by kernel_rfl) (fun _ _ _ h => h) (Or.inr ⟨by rfl, rfl⟩) (by assumption) ?_
                    try simp only [Act.put, List.getElem_toArray, List.getElem_cons_zero, List.getElem_cons_succ, List.setIfInBounds_toArray, List.set_cons_zero, List.set_cons_succ]
                    refine wpAnyH_take (i := 17) (v := undef) rfl (by kernel_rfl) (by kernel_rfl) (by kernel_rfl) (fun _ _ _ h => h) (Or.inr ⟨by rfl, rfl⟩) (by assumption) ?_
                    try simp only [Act.put, List.getElem_toArray, List.getElem_cons_zero, List.getElem_cons_succ, List.setIfInBounds_toArray, List.set_cons_zero, List.set_cons_succ]
                    refine wpAnyH_take (i := 18) (v := undef) rfl (by kernel_rfl) (by kernel_rfl) (by kernel_rfl) (fun _ _ _ h => h) (Or.inr ⟨by rfl, rfl⟩) (by assumption) ?_
                    try simp only [Act.put, List.getElem_toArray, List.getElem_cons_zero, List.getElem_cons_succ, List.setIfInBounds_toArray, List.set_cons_zero, List.set_cons_succ]
                    refine wpAnyH_ready (rs := [19]) (by kernel_rfl) (by simp) ?_
                    refine AllReadyH.cons rfl (fun K hK => ?_) AllReadyH.nil
                    go_simp
                    refine hK.out _ _ (by exact HBR.out.drew) (fun hHeld2 => ?_)
                    clear hK K hHeld
                    try simp only [Act.put, List.getElem_toArray, List.getElem_cons_zero, List.getElem_cons_succ, List.setIfInBounds_toArray, List.set_cons_zero, List.set_cons_succ]
                    refine wpAnyH_take (i := 20) (v := undef) rfl (by kernel_rfl) (by kernel_rfl) (by kernel_rfl) (fun _ _ _ h => h) (Or.inr ⟨by rfl, rfl⟩) (by assumption) ?_
                    try simp only [Act.put, List.getElem_toArray, List.getElem_cons_zero, List.getElem_cons_succ, List.setIfInBounds_toArray, List.set_cons_zero, List.set_cons_succ]
                    refine wpAnyH_take (i := 21) (v := ?_) rfl (by kernel_rfl) (by kernel_rfl) (by kernel_rfl) (fun _ _ _ h => h) (Or.inl ⟨by rfl, ?_⟩) (by assumption) ?_
                    rotate_left
                    · (intro w hSw; (try dsimp only at hSw); go_simp; try with_reducible rfl)
                    try simp only [Act.put, List.getElem_toArray, List.getElem_cons_zero, List.getElem_cons_succ, List.setIfInBounds_toArray, List.set_cons_zero, List.set_cons_succ]
                    refine wpAnyH_take (i := 22) (v := ?_) rfl (by kernel_rfl) (by kernel_rfl) (by kernel_rfl) (fun _ _ _ h => h) (Or.inl ⟨by rfl, ?_⟩) (by assumption) ?_
                    rotate_left
                    · (intro w hSw; (try dsimp only at hSw); go_simp; try with_reducible rfl)
                    try simp only [Act.put, List.getElem_toArray, List.getElem_cons_zero, List.getElem_cons_succ, List.setIfInBounds_toArray, List.set_cons_zero, List.set_cons_succ]
                    refine wpAnyH_ready (rs := [23]) (by kernel_rfl) (by simp) ?_
                    refine AllReadyH.cons rfl (fun K hK => ?_) AllReadyH.nil
                    go_simp
                    refine (HAZ.out _ (by first | exact HBR.out | exact HBR.out.drew)).mono ?_
                    rintro e w12 ⟨rfl, hb12⟩
                    refine hK.out _ _ (by exact hb12) (fun hHeld3 => ?_)
                    clear hK K hHeld2
                    try simp only [Act.put, List.getElem_toArray, List.getElem_cons_zero, List.getElem_cons_succ, List.setIfInBounds_toArray, List.set_cons_zero, List.set_cons_succ]
                    refine wpAnyH_take (i := 24) (v := ?_) rfl (by kernel_rfl) (by kernel_rfl) (by kernel_rfl) (fun _ _ _ h => h) (Or.inl ⟨by rfl, ?_⟩) (by assumption) ?_
                    rotate_left
                    · (intro w hSw; (try dsimp only at hSw); go_simp; try with_reducible rfl)
                    try simp only [Act.put, List.getElem_toArray, List.getElem_cons_zero, List.getElem_cons_succ, List.setIfInBounds_toArray, List.set_cons_zero, List.set_cons_succ]
                    refine wpAnyH_take (i := 25) (v := ?_) rfl (by kernel_rfl) (by kernel_rfl) (by kernel_rfl) (fun _ _ _ h => h) (Or.inl ⟨by rfl, ?_⟩) (by assumption) ?_
                    rotate_left
                    · (intro w hSw; (try dsimp only at hSw); go_simp; try with_reducible rfl)
                    try simp only [Act.put, List.getElem_toArray, List.getElem_cons_zero, List.getElem_cons_succ, List.setIfInBounds_toArray, List.set_cons_zero, List.set_cons_succ]
                    refine wpAnyH_done (by kernel_rfl) ?_ _
                    refine NoPanic.normal ?_
                    go_wp2_with fail
                    go_ret
                    exact ⟨rfl, HB.out.trans ((HBZ.out.trans (hb12.mono HBZ.out.size)).mono HB.out.size)⟩
                  · obtain ⟨q, hq⟩ : ∃ q : Nat, q = k + ms4.length := ⟨_, rfl⟩
                    have hql : q < ms.length := by have := HL4.out; omega
                    have hqD : q < D.length := by rw [← HDL.out]; exact hql
                    have hDq : D[q] = ms[q].d := by
                      have h1 : (ms.map Ev.Dm.d)[q]? = D[q]? := by rw [HMS.out]
                      rw [List.getElem?_map, List.getElem?_eq_getElem hql, List.getElem?_eq_getElem hqD] at h1
                      exact (Option.some.inj h1).symm
                    have hnx : Br.under D[q].t.path m.d.t.path = false := by
                      have h1 : ∀ (j : Nat) (hj : j < D.length), j = k + E.length → Br.under D[j].t.path m.d.t.path = false := fun j hj e => by
                        subst e
                        exact HP.out.next hj
                      exact h1 q hqD (by rw [← HE4.out]; exact hq)
                    rw [hDq] at hnx
                    have hs1 := HDP.out q hql
                    have hs2 := HDP.out k hkl
                    have HUN : Hid (∀ U, Calls Tryd.prog 10 #[.string ms[q].d.t.path, .string m.d.t.path] U fun e w' => e = .returned (.bool false) ∧ U = w') := fun U => by
                      have := bUnder ms[q].d.t.path m.d.t.path U (by have := HDI.out; omega) (by rw [HMM.out]; have := HDI.out; omega)
                      rw [hnx] at this
                      exact this
                    have q0 : (0 : Int) ≤ (q : Int) := by omega
                    have q1 : (q : Int) < (ms.length : Int) := by omega
                    have hkq : IntKind.i64.wrap ((k : Int) + (ms4.length : Int)) = (q : Int) := by rw [IntKind.wrap_i64]; have := HLE.out; omega
                    have hne : ((q : Int) == (ms.length : Int)) = false := by rw [beq_eq_false_iff_ne]; omega
                    obtain ⟨ad', hE', -, y0, yx⟩ := Ev.d_at (HD10.out.below HK.out).li hql
                    cases hE'
                    have tz0 : wz.cell? ⟨TB, 0, none⟩ = some (.string m.d.t.path) := cell_of_row _ _ 0 _ _ _ HTZ.out
                    have HAZ : Hid (∀ U, Below wz.heap.size wz U → Calls Tryd.prog 5 #[] U fun e w' => e = .returned (.bool true) ∧ Below wz.heap.size wz w') := fun U hU => by
                      refine (alive13 U (HLW.out.later (HBZ.out.trans (hU.mono HBZ.out.size)))).mono ?_
                      rintro e w' ⟨he, hb'⟩
                      exact ⟨he, hU.trans (hb'.mono hU.size)⟩
                    have S29 : wz.cell? (ad.add (q * 7)) = some (.string ms[q].d.t.path) ∧ wz.cell? ⟨TB, 0, none⟩ = some (.string m.d.t.path) := ⟨y0, tz0⟩
                    clear yx y0 tz0 hq hend hs1 hs2 hDq hnx hkw h21 hqD
                    go_upto_region 29 with fail
                    go_region_held3 (fun w' => w'.cell? (ad.add (q * 7)) = some (.string ms[q].d.t.path) ∧ w'.cell? ⟨TB, 0, none⟩ = some (.string m.d.t.path)) (first | exact S29 | exact ⟨Ev.cell_below hb12 S29.1, Ev.cell_below hb12 S29.2⟩)
                      (first
                        | (with_reducible refine (HUN.out _).mono ?_
                           rintro e w11 ⟨rfl, rfl⟩)
                        | (with_reducible refine (HAZ.out _ (by first | exact Below.refl _ _ | exact (Below.refl _ _).drew | exact below_drewN (Below.refl _ _) _)).mono ?_
                           rintro e w12 ⟨rfl, hb12⟩))
                    all_goals
                      go_wp2_with fail
                      go_ret
                      exact ⟨rfl, HB.out.trans ((HBZ.out.trans (hb12.mono HBZ.out.size)).mono HB.out.size)⟩
end Go.Proofs.YtnlhacgihmelhaaDoor
