/-
  Each Trim makes the generation one more, and makes room, and what is opened behind it is its snapshot, without records (StoreTrims), of at most twenty texts and twenty between, whatever they are.
-/
import Derived.Test.YtpmhpibbdcifnaaGreatRows
import Derived.Test.YtpmhpibbdcifnaaGreatStT
import Derived.ProofKit
import Derived.OpenShut
import Derived.ShutString
namespace Go.Proofs.YtpmhpibbdcifnaaGreat.storeTrims
open Go.ChangeShapes Go.WideShapes Go.ChangeAt Go.RowKit
open Go.ChangeMaps (open_string shut_string)

set_option maxHeartbeats 4000000 in
set_option maxRecDepth 20000 in
theorem walk (w : World) (l : List ByteArray) (A : Option Addr) (c : Nat) (la : Lies w w.heap.size A (tcells l)) (_ : l.length ≤ maxLen) (bl : ∀ x ∈ l, x.size ≤ maxLen)
    (y : List ByteArray) (B : Option Addr) (d : Nat) (lb : Lies w w.heap.size B (tcells y)) (_ : y.length ≤ maxLen) (bb : ∀ x ∈ y, x.size ≤ maxLen) :
    Calls Tryz.prog 4 #[.slice A l.length c, .slice B y.length d] w fun e w' => e = .returned (.bool true) ∧ Below w.heap.size w w' := by
  have HLA0 := Lib.hid la
  have HLB0 := Lib.hid lb
  have HBL := Lib.hid bl
  have HBY := Lib.hid bb
  clear la lb bl bb
  by_cases hbig : l.length ≤ 20 ∧ y.length ≤ 20
  · obtain ⟨h1, h2⟩ := hbig
    have hd1 : decide ((20 : Int) < (l.length : Int)) = false := by simp; omega
    have hd2 : decide ((20 : Int) < (y.length : Int)) = false := by simp; omega
    have HNEW : Hid (Calls Tryz.prog 13 #[.int .i64 20] w fun e w' => ∃ D : Sec.Bl, e = .returned (.tuple #[.pointer (some ⟨D.b, 0, none⟩), .int .i64 0]) ∧ Sec.At D (Sec.St.fresh 20) w' ∧ Below w.heap.size w w' ∧ D.lo = w.heap.size) := sec_new 20 w (by omega) (by omega)

    go_enter Tryz.func4, Tryz.ntmps4
    go_wp2_with fail
    refine HNEW.out.mono ?_
    rintro e w1 ⟨D0, rfl, hA, hb1, hlo⟩
    obtain ⟨p, hp⟩ : ∃ p, p = D0.b := ⟨_, rfl⟩
    rw [← hp]
    have HC := Lib.hid (lw_make w w1 D0 p hp.symm hA hb1 (by omega))
    clear hA hb1 hlo hp HNEW hd1 hd2
    go_wp2_with fail
    refine HC.out.mono ?_
    rintro e w2 ⟨rfl, D2, s2, hp, hA, hb, hH, hl⟩
    have HC2 := Lib.hid (lw_first w w2 D2 p hp s2 hA hb hH hl)
    clear hp hA hb hH hl HC
    go_wp2_with fail
    refine HC2.out.mono ?_
    rintro e w3 ⟨T, Bk, A3, c3, rfl, hlw⟩
    have HL3 := Lib.hid hlw
    clear hlw HC2
    go_wp2_with fail
    go_loopw [7, 11] (fun sv i wr => ∃ (k T Bk g : Nat) (t : ByteArray), k ≤ l.length ∧ i = .int .i64 k ∧ sv = .pointer (some ⟨T, 0, none⟩) ∧ Hid (Store.Lw w p T Bk g t [] 0 wr) ∧ g = k + 1) (fun _ i _ => l.length - (intOf i).toNat)
    case atStart => exact ⟨0, T, Bk, 1, ⟨#[]⟩, Nat.zero_le _, rfl, rfl, HL3.out, rfl⟩
    case round =>
      obtain ⟨k, T, Bk, g, t, hk, rfl, rfl, HLW, hg⟩ := hrel
      by_cases hlt : k < l.length
      · have hk0 : (0 : Int) ≤ (k : Int) := by omega
        have hk1 : (k : Int) < (l.length : Int) := by omega
        have hkd : decide (k < l.length) = true := by simpa using hlt
        obtain ⟨x, hx⟩ : ∃ x, x = l[k] := ⟨_, rfl⟩
        have HXC : Hid (∃ ad, A = some ad ∧ ∀ wx, Below w.heap.size w wx → wx.cell? (ad.add k) = some (.string x)) := by
          obtain ⟨ad, e, _, hck⟩ := HLA0.out.at_ (tcells_at hlt)
          obtain ⟨ad', e', hlt', _⟩ := HLA0.out (by simp [tcells]; omega)
          obtain rfl : ad = ad' := by rw [e] at e'; exact Option.some.inj e'
          exact ⟨ad, e, fun wx hb => by rw [hx]; exact (World.cell?_of_block (by rw [Lies.add_block]; exact hb.block _ hlt')).trans hck⟩
        obtain ⟨ad, rfl, hxc⟩ := HXC.out
        have HX := Lib.hid hxc
        have hxm : x.size ≤ maxLen := by rw [hx]; exact HBL.out _ (List.getElem_mem hlt)
        have HXM := Lib.hid hxm
        have HLT := Lib.hid hlt
        clear hxc HXC hx hxm hlt
        have cx := HX.out _ HLW.out.size
        by_cases hx1 : x.size ≤ 1024
        · have hxd : decide ((1024 : Int) < (x.size : Int)) = false := by simp; omega
          by_cases hbad : ∃ h : k < y.length, 1024 < (y[k]).size
          · obtain ⟨hy, hz⟩ := hbad
            obtain ⟨z, hze⟩ : ∃ z, z = y[k] := ⟨_, rfl⟩
            obtain ⟨ad2, rfl, _, cz⟩ := (HLB0.out.below HLW.out.size).at_ (tcells_at hy)
            rw [← hze] at hz cz
            have hzm : z.size ≤ maxLen := by rw [hze]; exact HBY.out _ (List.getElem_mem hy)
            have hy0 : (k : Int) < (y.length : Int) := by omega
            have hyd : decide (k < y.length) = true := by simpa using hy
            have hzd : decide ((1024 : Int) < (z.size : Int)) = true := by simp; omega
            have HZM := Lib.hid hzm
            clear hze hzm hy hz hx1
            go_wp2_with fail
            refine (alive7_any _).mono ?_
            rintro e w4 ⟨rfl, hb⟩
            have HB4 := Lib.hid (HLW.out.size.trans (hb.mono HLW.out.size.size))
            clear hb
            go_wp2_with fail
            go_ret
            exact ⟨rfl, HB4.out⟩
          · have HGP := Lib.hid hg
            have HX1 := Lib.hid hx1
            have hg20 : g ≤ 21 := by omega
            have HG20 := Lib.hid hg20
            have hxx : (x.toList == x.toList) = true := by simp
            have hwg : IntKind.u64.wrap ((g : Int) + 1) = (g : Int) + 1 := by rw [IntKind.wrap_u64]; omega
            have hin : k < y.length ∨ y.length ≤ k := by omega
            clear hg hx1 hg20
            rcases hin with hy | hy
            case' inr =>
              have hy0 : ¬ ((k : Int) < (y.length : Int)) := by omega
              have hyd : decide (k < y.length) = false := by simpa using hy
              have HLA := Lib.hid HLW.out
              clear hy hbad
            case' inl =>
              have hz : (y[k]).size ≤ 1024 := by
                rcases Nat.lt_or_ge 1024 (y[k]).size with h | h
                · exact absurd ⟨hy, h⟩ hbad
                · exact h
              obtain ⟨z, hze⟩ : ∃ z, z = y[k] := ⟨_, rfl⟩
              obtain ⟨ad2, rfl, _, cz⟩ := (HLB0.out.below HLW.out.size).at_ (tcells_at hy)
              rw [← hze] at hz cz
              have hy0 : (k : Int) < (y.length : Int) := by omega
              have hyd : decide (k < y.length) = true := by simpa using hy
              have hzd : decide ((1024 : Int) < (z.size : Int)) = false := by simp; omega
              have HAP := Lib.hid (lw_append (HLW.out.below ((Below.refl _ _).alloc (Nat.le_refl _) (.cells #[.string z] 9))) (by omega) z hz (some ⟨wr.heap.size, 0, none⟩) 1 (Book.one_lies wr z))
              clear hze hy hz hbad
              go_wp2_with fail
              refine HAP.out.mono ?_
              rintro e wa ⟨f, ra, rfl, hf, hlw⟩
              have HLA := Lib.hid hlw
              clear hlw HAP cz hzd hy0 hyd cx hxd
              rcases hf with rfl | rfl
            all_goals
              go_wp2_with fail
              refine (lw_gen HLA.out).mono ?_
              rintro e wb ⟨rfl, hb⟩
              have HLB := Lib.hid (HLA.out.below hb)
              clear hb
              have cx2 := HX.out _ HLB.out.size
              try clear cx
              try clear hy0 hyd
              go_wp2_with fail
              refine (lw_trim HLB.out (by omega) x HX1.out (by have := HG20.out; omega)).mono ?_
              rintro e wc ⟨rfl, Bc, hlw⟩
              have HLC := Lib.hid hlw
              clear hlw cx2
              go_wp2_with fail
              refine (lw_open HLC.out (by omega)).mono ?_
              rintro e wd ⟨Td, Bd, Ad, cd, rfl, hlw1, hlw2⟩
              have HLD1 := Lib.hid hlw1
              have HLD2 := Lib.hid hlw2
              clear hlw1 hlw2
              have HGN : Hid (Calls Tryz.prog 11 #[.pointer (some ⟨T, 0, none⟩)] wd fun e w' => e = .returned (.int .u64 ((g : Int) + 1)) ∧ Below wd.heap.size wd w') := lw_gen HLD1.out
              go_wp2_with fail
              refine HGN.out.mono ?_
              rintro e we ⟨rfl, hb⟩
              have HLE1 := Lib.hid (HLD1.out.below hb)
              have HLE2 := Lib.hid (HLD2.out.below hb)
              clear hb HGN
              have cx3 := HX.out _ HLE1.out.size
              have HGN : Hid (Calls Tryz.prog 11 #[.pointer (some ⟨Td, 0, none⟩)] we fun e w' => e = .returned (.int .u64 ((g : Int) + 1)) ∧ Below we.heap.size we w') := lw_gen HLE2.out
              go_wp2_with fail
              refine HGN.out.mono ?_
              rintro e wf ⟨rfl, hb⟩
              have HLF1 := Lib.hid (HLE1.out.below hb)
              have HLF2 := Lib.hid (HLE2.out.below hb)
              clear hb HGN cx3
              obtain ⟨q, hq⟩ : ∃ q, q = 10 * 127 - (Store.strm (some (g + 1, x, []))).length := ⟨_, rfl⟩
              have HR1 : Hid (∀ wx, Below wf.heap.size wf wx → Calls Tryz.prog 12 #[.pointer (some ⟨Td, 0, none⟩)] wx fun e w' => e = .returned (.int .i64 (q : Int)) ∧ Below wx.heap.size wx w') := fun wx hb => by rw [hq]; exact lw_room (HLF2.out.below hb)
              have HR2 : Hid (∀ wx, Below wf.heap.size wf wx → Calls Tryz.prog 12 #[.pointer (some ⟨T, 0, none⟩)] wx fun e w' => e = .returned (.int .i64 (q : Int)) ∧ Below wx.heap.size wx w') := fun wx hb => by rw [hq]; exact lw_room (HLF1.out.below hb)
              clear hq
              go_wp2_with fail
              refine (HR1.out _ (Below.refl _ _)).mono ?_
              rintro e wg ⟨rfl, hb1⟩
              have HBG := Lib.hid hb1
              clear hb1
              go_wp2_with fail
              refine (HR2.out _ HBG.out).mono ?_
              rintro e wh ⟨rfl, hb2⟩
              have HLH := Lib.hid ((HLF2.out.below HBG.out).below hb2)
              clear hb2
              go_wp2_with fail
              go_roundw
              case rel => exact ⟨k + 1, Td, Bd, g + 1, x, by have := HLT.out; omega, by go_num, rfl, HLH.out, by have := HGP.out; omega⟩
              case measure => have := HLT.out; simp [intOf]; omega
        · have hxd : decide ((1024 : Int) < (x.size : Int)) = true := by simp; omega
          clear hx1
          go_wp2_with fail
          refine (alive7_any _).mono ?_
          rintro e w4 ⟨rfl, hb⟩
          have HB4 := Lib.hid (HLW.out.size.trans (hb.mono HLW.out.size.size))
          clear hb
          go_wp2_with fail
          go_ret
          exact ⟨rfl, HB4.out⟩
      · have hk1 : ¬ ((k : Int) < (l.length : Int)) := by omega
        have hkd : decide (k < l.length) = false := by simpa using hlt
        clear hlt
        go_wp2_with fail
        refine (alive7_any _).mono ?_
        rintro e w4 ⟨rfl, hb⟩
        have HB4 := Lib.hid (HLW.out.size.trans (hb.mono HLW.out.size.size))
        clear hb
        go_wp2_with fail
        go_ret
        exact ⟨rfl, HB4.out⟩
  · by_cases h1 : l.length ≤ 20
    · have hd1 : decide ((20 : Int) < (l.length : Int)) = false := by simp; omega
      have hd2 : decide ((20 : Int) < (y.length : Int)) = true := by simp; omega
      clear hbig h1
      go_enter Tryz.func4, Tryz.ntmps4
      go_wp2_with fail
      refine (alive7_any _).mono ?_
      rintro e w1 ⟨rfl, hb⟩
      have B1 := Lib.hid hb
      clear hb
      go_wp2_with fail
      go_ret
      exact ⟨rfl, B1.out⟩
    · have hd1 : decide ((20 : Int) < (l.length : Int)) = true := by simp; omega
      clear hbig h1
      go_enter Tryz.func4, Tryz.ntmps4
      go_wp2_with fail
      refine (alive7_any _).mono ?_
      rintro e w1 ⟨rfl, hb⟩
      have B1 := Lib.hid hb
      clear hb
      go_wp2_with fail
      go_ret
      exact ⟨rfl, B1.out⟩

/-! ### From the walk to the statement -/
theorem own : ownKnob Tryz.prog.godebug = none := by kernel_rfl

set_option maxRecDepth 20000 in
theorem contract (H : Type) (enc : TypeId × Value → H) (W : World) (base : Nat) (args : Array Value) (ds gs : List (DataW H)) (before : List MemPlace)
    (hval : ∀ (j : Nat) t v, Tryz.f4.params[j]? = some t → args[j]? = some v → Value.okWide Tryz.prog W .any base t v)
    (hW : DataW.Whole enc Tryz.prog Tryz.f4.params.toList Rows.storeTrimsSpec.vars false W args.toList ds gs before) :
    Calls Tryz.prog 4 args W fun e W' => ∃ v, e = .returned v ∧ Rows.storeTrimsSpec.post enc Tryz.prog Tryz.f4 false true false false W args v W' := by
  have hW' := hW
  obtain ⟨p, q, hA0, hV, rfl, hfz, hnd⟩ := hW
  have hA : DataW.TrodAll enc Tryz.prog W 0 (fun _ => true) true Tryz.f4.params.toList args.toList ds p := hA0
  rw [Tryz.params4] at hA hval
  obtain ⟨v0, vs0, d0, ds0, p0, q0, hargs, rfl, rfl, h0, r0⟩ := trodAll_cons hA
  obtain ⟨v1, vs1, d1, ds1, p1, q1, rfl, rfl, rfl, h1, r1⟩ := trodAll_cons r0
  obtain ⟨rfl, rfl, rfl⟩ := trodAll_nil r1
  obtain rfl : args = #[v0, v1] := by cases args; simp_all
  obtain ⟨rfl, rfl⟩ := trodVars_none hV
  have k0 := h0
  obtain ⟨fuel0, hf0⟩ := h0
  obtain ⟨xs0, A0, c0, hcs0, hn0, hl0, hb0⟩ := trod_strs Tryz.underlying25 Tryz.underlying9 (by kernel_rfl) hf0
  obtain rfl := slice_of Tryz.underlying25 (hval 0 25 v0 rfl rfl) hcs0
  have k1 := h1
  obtain ⟨fuel1, hf1⟩ := h1
  obtain ⟨xs1, A1, c1, hcs1, hn1, hl1, hb1⟩ := trod_strs Tryz.underlying25 Tryz.underlying9 (by kernel_rfl) hf1
  obtain rfl := slice_of Tryz.underlying25 (hval 1 25 v1 rfl rfl) hcs1
  clear hA0
  simp only [List.append_nil] at hW'
  refine (walk W xs0 A0 c0 hl0 hn0 hb0 xs1 A1 c1 hl1 hn1 hb1).mono fun e W' ⟨he, bel⟩ => ?_
  subst he
  exact ⟨_, rfl, _, _, _, [], _, [], hW', trodAll_mk1 (shut_bool Tryz.underlying4 _), (trodAll_cons_mk (Below.trod laidOut (by kernel_rfl) (of_decide_eq_true (by kernel_rfl)) k0 bel (fun x hx => DataW.trod_lt _ _ _ _ hf0 x hx)) (trodAll_cons_mk (Below.trod laidOut (by kernel_rfl) (of_decide_eq_true (by kernel_rfl)) k1 bel (fun x hx => DataW.trod_lt _ _ _ _ hf1 x hx)) trodAll_mk0)), rfl, bel.frame _, fun h => by cases h⟩

set_option maxRecDepth 100000 in
theorem lifted (os : Os) (started : os.Started) (H : Type) (enc : TypeId × Value → H) :
    ReturnsInHanded {} Tryz.checked os 4 .any (Rows.storeTrimsSpec.pre6 enc Tryz.prog Tryz.f4 Rows.storeTrimsRow.domain false) (Rows.storeTrimsSpec.post enc Tryz.prog Tryz.f4 false true false false) := by
  refine returnsInHanded_of_change (C := Tryz.checked) own started (by kernel_rfl) Tryz.func4
    (ChangeSpec.witness6 (enc := enc) (C := Tryz.checked) false ⟨#[], #[.slice none 0 0, .slice none 0 0], []⟩ 8 (by kernel_rfl) (by kernel_rfl) (by kernel_rfl) (by kernel_rfl)) ?_
  intro W base args ds gs before hval hW _ _
  exact contract H enc W base args ds gs before hval hW

theorem over : Rows.storeTrimsRow.holds Tryz.pinned (OpenSpec.ofChange Rows.storeTrimsSpec) :=
  OpenClaim.holds_of_wide 4 Tryz.f4 rfl rfl rfl rfl rfl rfl rfl ⟨rfl, rfl, rfl, rfl, rfl⟩ rfl rfl rfl rfl rfl (by kernel_rfl) Tryz.func4 (by kernel_rfl)
    (of_decide_eq_true (by kernel_rfl)) (by unfold Func.isWrapper; first | (rw [if_pos (by decide +kernel)]; kernel_rfl) | (rw [if_neg (by decide +kernel)]; exact ⟨rfl, rfl⟩))
    (fun os started H enc _ => lifted os started H enc)

/-- The statement. -/
theorem proved : Rows.StoreTrimsSaid :=
  over

end Go.Proofs.YtpmhpibbdcifnaaGreat.storeTrims
