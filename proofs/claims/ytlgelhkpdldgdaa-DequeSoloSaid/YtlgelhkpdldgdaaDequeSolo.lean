/-
  Law 16: alone the owner has a stack; who steals while he does nothing takes what was pushed first.
-/
import Derived.Test.YtlgelhkpdldgdaaRows
import Derived.Test.YtlgelhkpdldgdaaL16S
import Derived.Deep.RegionHeld3
import Derived.BigQuiet
import Derived.ProofKit
import Derived.OpenShut
import Derived.ShutString
namespace Go.Proofs.Ytlgelhkpdldgdaa.dequeSolo
open Go.ChangeShapes Go.WideShapes Go.ChangeAt Go.RowKit
open Go.ChangeMaps (open_string shut_string)

set_option linter.unusedVariables false
set_option linter.unusedSimpArgs false
theorem lies_tail {w : World} {b : Nat} {ad : Addr} {v : Int} {L : List Int} (h : Lies w b (some ad) (icells (v :: L))) : Lies w b (some (ad.add 1)) (icells L) := fun _ => by
  obtain ⟨ad', e, hb, hc⟩ := h (by rw [Ce.icells_len]; exact Nat.succ_pos _)
  obtain rfl := Option.some.inj e
  refine ⟨_, rfl, by rw [Lies.add_block]; exact hb, fun j u hu => ?_⟩
  rw [Addr.add_add, Nat.add_comm]
  exact hc (j + 1) u hu
theorem lies_init {w : World} {b : Nat} {A : Option Addr} {v : Int} {L : List Int} (h : Lies w b A (icells (L ++ [v]))) : Lies w b A (icells L) := fun hp => by
  obtain ⟨ad', e, hb, hc⟩ := h (by rw [Ce.icells_len, List.length_append]; exact Nat.succ_pos _)
  refine ⟨ad', e, hb, fun j u hu => hc j u ?_⟩
  rw [Ce.icells_cat, List.getElem?_append_left (List.getElem?_eq_some_iff.1 hu).1]
  exact hu
set_option maxHeartbeats 4000000 in
set_option maxRecDepth 200000 in
theorem walk (w : World) (l : List Int) (A : Option Addr) (c : Nat) (la : Lies w w.heap.size A (icells l)) (nl : l.length ≤ maxLen) (lc : (∀ x ∈ l, -9223372036854775808 ≤ x ∧ x ≤ 9223372036854775807) ∧ l.length ≤ c) (st : Int) (hs0 : 0 ≤ st) (hs1 : st ≤ 255) (pn : Int) (hp0 : 0 ≤ pn) (hp1 : pn ≤ 255) :
    Calls Try.prog 5 #[.slice A l.length c, .int .u8 st, .int .u8 pn] w fun e w' => e = .returned (.bool true) ∧ Below w.heap.size w w' := by
  have LA := Lib.hid la
  have NL := Lib.hid nl
  have hcv1 : IntKind.i64.wrap st = st := by rw [IntKind.wrap_i64]; omega
  have hcv2 : IntKind.i64.wrap pn = pn := by rw [IntKind.wrap_i64]; omega
  have HST : Hid ((0 ≤ st ∧ st ≤ 255) ∧ 0 ≤ pn ∧ pn ≤ 255) := ⟨⟨hs0, hs1⟩, hp0, hp1⟩
  have HLC : Hid (l.length ≤ c) := lc.2
  clear la nl lc hs0 hs1 hp0 hp1
  by_cases h3 : l.length ≤ 300
  · have hl3 : ¬ (300 : Int) < (l.length : Int) := by omega
    have HL3 := Lib.hid h3
    have HN := Lib.hid (pm_new w)
    clear h3
    go_enter Try.func5, Try.ntmps5
    go_wp2_with fail
    refine HN.out.mono ?_
    rintro e w1 ⟨B, M, rfl, h1, hb1⟩
    have HC := Lib.hid (mm_make h1 hb1 0 (by decide) 1 (by decide))
    clear h1 hb1 HN
    go_wp2_with fail
    refine HC.out.mono ?_
    rintro e w2 ⟨D, R, rfl, h2⟩
    have H2 : Hid (Dq.So w B M R D 0 0 (l.take 0) w2) := ⟨[], _, h2, Dq.Lv.init (by decide) (by decide), .inl rfl, Nat.zero_le _⟩
    clear h2 HC
    go_wp2_with fail
    go_loopw [10] (fun s10 wr => ∃ i : Nat, s10 = .int .i64 (i : Int) ∧ i ≤ l.length ∧ Hid (Dq.So w B M R D (i : Int) i (l.take i) wr)) (fun s10 _ => l.length - (intOf s10).toNat)
    case atStart => exact ⟨0, rfl, Nat.zero_le _, H2.out⟩
    case round =>
      obtain ⟨i, rfl, hi, HX⟩ := hrel
      by_cases hlt : i < l.length
      · have i1 : (i : Int) < (l.length : Int) := by omega
        have i0 : (0 : Int) ≤ (i : Int) := by omega
        have hbw : Below w.heap.size w wr := by
          obtain ⟨hs, s, hm, _⟩ := HX.out
          exact hm.bel
        obtain ⟨ad, rfl, hadb, hc⟩ := (LA.out.below hbw) (by rw [Ce.icells_len]; omega)
        have q0 := hc i (.int .i64 l[i]) (icells_at hlt)
        have HTK : Hid (l.take (i + 1) = l.take i ++ [l[i]]) := by show _ = _; exact (List.take_append_getElem hlt).symm
        generalize l[i] = x at q0 HTK
        have hP1 : (i : Int) + 1 ≤ 300 := by have := HL3.out; omega
        have HP := Lib.hid (so_push HX.out hP1 x)
        have HI : Hid (i < l.length) := hlt
        have hwi : IntKind.i64.wrap ((i : Int) + 1) = (i : Int) + 1 := by rw [IntKind.wrap_i64]; have := HL3.out; omega
        clear hbw hc HX H2 hP1
        go_wp2_with fail
        refine HP.out.mono ?_
        rintro e w3 ⟨H, rfl, h3⟩
        have HW := Lib.hid (so_whole 0 h3.out (by have h1 := HL3.out; have h2 := HI.out; omega))
        clear h3 HP
        go_wp2_with fail
        refine HW.out.mono ?_
        rintro e w4 h4
        have h4 : e = .returned (.tuple #[.int .u8 1, .int .i64 0, .bool true]) ∧ Dq.So w B M R D ((i : Int) + 1) (i + 1) (l.take i ++ [x]) w4 := by
          rcases h4.out with ⟨_, h5, h6⟩ | ⟨h5, _⟩ | ⟨h5, _⟩
          · exact ⟨h5, h6⟩
          · omega
          · omega
        obtain ⟨rfl, h5⟩ := h4
        have hlen : ((l.take i ++ [x]).length : Int) = (i : Int) + 1 := by
          have := HI.out
          rw [List.length_append, List.length_take, List.length_singleton]
          omega
        have HSS := so_size h5
        rw [hlen] at HSS
        have HS := Lib.hid HSS
        clear h5 HSS HW hlen
        go_wp2_with fail
        refine HS.out.mono ?_
        rintro e w5 ⟨rfl, h6⟩
        have H6 : Hid (Dq.So w B M R D ((i + 1 : Nat) : Int) (i + 1) (l.take (i + 1)) w5) := by rw [HTK.out]; exact h6.out
        clear h6 HS
        go_wp2_with fail
        all_goals
          go_roundw
          case rel => exact ⟨i + 1, by go_num, by have := HI.out; omega, H6.out⟩
          case measure => simp [intOf]; omega
      · have hil : i = l.length := by omega
        subst hil
        have HX2 : Hid (Dq.So w B M R D (l.length : Int) l.length l wr) := by
          have := HX.out
          rw [List.take_length] at this
          exact this
        clear HX H2
        have z0 : ¬ (l.length : Int) < (l.length : Int) := by omega
        go_wp2_with fail
        go_loopw [16, 17] (fun s16 s17 wx => ∃ (i : Nat) (A' : Option Addr) (m c' : Nat), s17 = .int .i64 (i : Int) ∧ s16 = .slice A' m c' ∧ (i : Int) ≤ st ∧ m ≤ c' ∧ Hid (∃ L, L.length = m ∧ m ≤ 300 ∧ Lies w w.heap.size A' (icells L) ∧ Dq.So w B M R D (l.length : Int) (l.length + i) L wx)) (fun _ s17 _ => 255 - (intOf s17).toNat)
        case atStart => exact ⟨0, A, l.length, c, rfl, rfl, HST.out.1.1, HLC.out, l, rfl, HL3.out, LA.out, HX2.out⟩
        case round =>
          rename World => wx
          obtain ⟨i, A', m, c', rfl, rfl, hi, hc, HY⟩ := hrel
          by_cases hlt : (i : Int) < st
          · obtain ⟨L, hL, h300, hLL, hso⟩ := HY.out
            have HP := Lib.hid (so_steal hso)
            have hwi : IntKind.i64.wrap ((i : Int) + 1) = (i : Int) + 1 := by rw [IntKind.wrap_i64]; have := HST.out; omega
            have HI : Hid ((i : Int) < st) := hlt
            have HL := Lib.hid hLL
            have HM : Hid (L.length = m ∧ m ≤ 300 ∧ m ≤ c') := ⟨hL, h300, hc⟩
            clear hso HY HX2 hLL hL h300 hi
            go_wp2_with fail
            refine HP.out.mono ?_
            rintro e w3 ⟨H, rfl, h3⟩
            have HW := Lib.hid (so_stolen h3.out (by have h1 := HL3.out; have h2 := HI.out; have h4 := HST.out; omega))
            clear h3 HP
            go_wp2_with fail
            refine HW.out.mono ?_
            rintro e w4 h4
            rcases h4.out with ⟨rfl, g, rfl, h5⟩ | ⟨v, L', rfl, rfl, h5⟩
            · have hm0 : m = 0 := HM.out.1.symm
              subst hm0
              have H5 := Lib.hid h5
              clear h4 HW h5
              go_wp2_with fail
              all_goals
                go_roundw
                case rel => exact ⟨i + 1, A', 0, c', by go_num, rfl, by have := HI.out; omega, Nat.zero_le _, [], rfl, by omega, HL.out, H5.out⟩
                case measure => have := HI.out; have := HST.out; simp [intOf]; omega
            · obtain ⟨m', hm'⟩ : ∃ m' : Nat, m = m' + 1 := ⟨L'.length, by have := HM.out.1; rw [← this]; rfl⟩
              have hbw : Below w.heap.size w w4 := by
                obtain ⟨hs, s, hm, _⟩ := h5
                exact hm.bel
              obtain ⟨ad, rfl, hadb, hcc⟩ := (HL.out.below hbw) (by show 0 < (icells (v :: L')).length; rw [Ce.icells_len]; exact Nat.succ_pos _)
              have q0 : w4.cell? ad = some (.int .i64 v) := by
                have := hcc 0 (.int .i64 v) rfl
                rw [Addr.add_zero'] at this
                exact this
              have H5 := Lib.hid h5
              have HL2 : Hid (Lies w w.heap.size (if c' = 1 then some ad else some { block := ad.block, off := ad.off + 1 }) (icells L')) := by
                show Lies _ _ _ _
                by_cases hc1 : c' = 1
                · intro hp
                  rw [Ce.icells_len] at hp
                  have h1 := HM.out
                  rw [List.length_cons] at h1
                  omega
                · rw [if_neg hc1]
                  exact lies_tail HL.out
              have m1 : (0 : Int) < (m : Int) := by omega
              have m2 : ((m : Int) == 0) = false := by simp; omega
              have m3 : (1 : Int) ≤ (m : Int) := by omega
              have m4 : (m : Int) ≤ (c' : Int) := by omega
              clear h4 HW h5 hcc hbw
              go_wp2_with fail
              all_goals
                go_roundw
                case rel => exact ⟨i + 1, _, m', c' - 1, by go_num, rfl, by have := HI.out; omega, by have := HM.out; omega, L', by have h1 := HM.out.1; rw [List.length_cons] at h1; omega, by have := HM.out; omega, HL2.out, H5.out⟩
                case measure => have := HI.out; have := HST.out; simp [intOf]; omega
          · obtain ⟨L, hL, h300, hLL, hso⟩ := HY.out
            have H3 : Hid (∃ L, L.length = m ∧ m ≤ 300 ∧ Lies w w.heap.size A' (icells L) ∧ Dq.So w B M R D (l.length : Int) (600 + 0) L wx) := by
              obtain ⟨hs, s, g1, g2, g3, g4⟩ := hso
              exact ⟨L, hL, h300, hLL, hs, s, g1, g2, g3, by have h1 := HL3.out; have h2 := HST.out; omega⟩
            clear hso HY HX2 hLL hL h300
            go_wp2_with fail
            go_loopw [16, 23] (fun s16 s23 wy => ∃ (k m c' : Nat), s23 = .int .i64 (k : Int) ∧ s16 = .slice A' m c' ∧ (k : Int) ≤ pn ∧ m ≤ c' ∧ Hid (∃ L, L.length = m ∧ m ≤ 300 ∧ Lies w w.heap.size A' (icells L) ∧ Dq.So w B M R D (l.length : Int) (600 + k) L wy)) (fun _ s23 _ => 255 - (intOf s23).toNat)
            case atStart => exact ⟨0, m, c', rfl, rfl, HST.out.2.1, hc, H3.out⟩
            case round =>
              rename World => wy
              obtain ⟨k, m, c', rfl, rfl, hk, hc, HY⟩ := hrel
              by_cases hlt : (k : Int) < pn
              · obtain ⟨L, hL, h300, hLL, hso⟩ := HY.out
                have HP := Lib.hid (so_pop hso)
                have hwi : IntKind.i64.wrap ((k : Int) + 1) = (k : Int) + 1 := by rw [IntKind.wrap_i64]; have := HST.out; omega
                have HI : Hid ((k : Int) < pn) := hlt
                have HL := Lib.hid hLL
                have HM : Hid (L.length = m ∧ m ≤ 300 ∧ m ≤ c') := ⟨hL, h300, hc⟩
                clear hso HY hLL hL h300 hk H3
                go_wp2_with fail
                refine HP.out.mono ?_
                rintro e w3 ⟨H, rfl, h3⟩
                have HW := Lib.hid (so_whole 1 h3.out (by have h1 := HL3.out; have h2 := HI.out; have h4 := HST.out; omega))
                clear h3 HP
                go_wp2_with fail
                refine HW.out.mono ?_
                rintro e w4 h4
                rcases h4.out with ⟨h0, _⟩ | ⟨_, rfl, g, rfl, h5⟩ | ⟨_, v, L', rfl, rfl, h5⟩
                · omega
                · have hm0 : m = 0 := HM.out.1.symm
                  subst hm0
                  have H5 := Lib.hid h5
                  clear h4 HW h5
                  go_wp2_with fail
                  all_goals
                    go_roundw
                    case rel => exact ⟨k + 1, 0, c', by go_num, rfl, by have := HI.out; omega, Nat.zero_le _, [], rfl, by omega, HL.out, H5.out⟩
                    case measure => have := HI.out; have := HST.out; simp [intOf]; omega
                · have hLm : m = L'.length + 1 := by have := HM.out.1; rw [List.length_append] at this; exact this.symm
                  have hbw : Below w.heap.size w w4 := by
                    obtain ⟨hs, s, hm, _⟩ := h5
                    exact hm.bel
                  obtain ⟨ad, rfl, hadb, hcc⟩ := (HL.out.below hbw) (by rw [Ce.icells_len, List.length_append]; exact Nat.succ_pos _)
                  obtain ⟨m', hm'⟩ : ∃ m' : Nat, m' = L'.length := ⟨_, rfl⟩
                  have q0 : w4.cell? (ad.add m') = some (.int .i64 v) := hcc m' (.int .i64 v) (by rw [Ce.icells_cat, List.getElem?_append_right (by rw [Ce.icells_len]; omega), Ce.icells_len, hm', Nat.sub_self]; rfl)
                  have H5 := Lib.hid h5
                  have HL2 : Hid (Lies w w.heap.size (some ad) (icells L')) := lies_init HL.out
                  have m1 : (0 : Int) < (m : Int) := by omega
                  have m2 : ((m : Int) == 0) = false := by simp; omega
                  have m5 : IntKind.i64.wrap ((m : Int) - 1) = (m' : Int) := by rw [IntKind.wrap_i64]; have := HM.out; omega
                  have m6 : (m' : Int) < (m : Int) := by omega
                  have m7 : (0 : Int) ≤ (m' : Int) := by omega
                  have m8 : (m' : Int) ≤ (c' : Int) := by omega
                  have HMM : Hid (m' = L'.length ∧ m = m' + 1) := ⟨hm', by omega⟩
                  clear h4 HW h5 hcc hbw hLm hm'
                  go_wp2_with fail
                  all_goals
                    go_roundw
                    case rel => exact ⟨k + 1, m', c', by go_num, rfl, by have := HI.out; omega, by have h1 := HM.out; have h2 := HMM.out; omega, L', HMM.out.1.symm, by have h1 := HM.out; have h2 := HMM.out; omega, HL2.out, H5.out⟩
                    case measure => have := HI.out; have := HST.out; simp [intOf]; omega
              · obtain ⟨L, hL, h300, hLL, hso⟩ := HY.out
                have HSS := so_size hso
                rw [hL] at HSS
                have HS := Lib.hid HSS
                clear hso HY hLL hL h300 HSS H3
                go_wp2_with fail
                refine HS.out.mono ?_
                rintro e w5 ⟨rfl, h6⟩
                have HB5 : Hid (Below w.heap.size w w5) := by
                  obtain ⟨hs, s, hm, _⟩ := h6.out
                  exact hm.bel
                clear h6 HS
                go_wp2_with fail
                refine (alive16_any _).mono ?_
                rintro e w6 ⟨rfl, hb6⟩
                have HB6 := Lib.hid (HB5.out.trans (hb6.mono HB5.out.size))
                clear hb6
                go_wp2_with fail
                go_ret
                exact ⟨rfl, HB6.out⟩
  · have hl3 : (300 : Int) < (l.length : Int) := by omega
    go_enter Try.func5, Try.ntmps5
    go_wp2_with fail
    refine (alive16_any _).mono ?_
    rintro e w1 ⟨rfl, hb1⟩
    go_wp2_with fail
    go_ret
    exact ⟨rfl, hb1⟩

/-! ### From the walk to the statement -/
theorem own : ownKnob Try.prog.godebug = none := by kernel_rfl

set_option maxRecDepth 20000 in
theorem contract (H : Type) (enc : TypeId × Value → H) (W : World) (base : Nat) (args : Array Value) (ds gs : List (DataW H)) (before : List MemPlace)
    (hval : ∀ (j : Nat) t v, Try.f5.params[j]? = some t → args[j]? = some v → Value.okWide Try.prog W .any base t v)
    (hW : DataW.Whole enc Try.prog Try.f5.params.toList Rows.dequeSoloSpec.vars false W args.toList ds gs before) :
    Calls Try.prog 5 args W fun e W' => ∃ v, e = .returned v ∧ Rows.dequeSoloSpec.post enc Try.prog Try.f5 false true false false W args v W' := by
  have hW' := hW
  obtain ⟨p, q, hA0, hV, rfl, hfz, hnd⟩ := hW
  have hA : DataW.TrodAll enc Try.prog W 0 (fun _ => true) true Try.f5.params.toList args.toList ds p := hA0
  rw [Try.params5] at hA hval
  obtain ⟨v0, vs0, d0, ds0, p0, q0, hargs, rfl, rfl, h0, r0⟩ := trodAll_cons hA
  obtain ⟨v1, vs1, d1, ds1, p1, q1, rfl, rfl, rfl, h1, r1⟩ := trodAll_cons r0
  obtain ⟨v2, vs2, d2, ds2, p2, q2, rfl, rfl, rfl, h2, r2⟩ := trodAll_cons r1
  obtain ⟨rfl, rfl, rfl⟩ := trodAll_nil r2
  obtain rfl : args = #[v0, v1, v2] := by cases args; simp_all
  obtain ⟨rfl, rfl⟩ := trodVars_none hV
  have k0 := h0
  obtain ⟨fuel0, hf0⟩ := h0
  obtain ⟨xs0, A0, c0, hcs0, hn0, hl0, hb0⟩ := trod_i64sc Try.underlying27 Try.underlying2 (by kernel_rfl) hf0
  obtain rfl := slice_of Try.underlying27 (hval 0 27 v0 rfl rfl) hcs0
  obtain ⟨a1, rfl, rfl, rfl, w1⟩ := open_int Try.underlying5 (hval 1 5 v1 rfl rfl) h1
  have b1 : 0 ≤ a1 ∧ a1 ≤ 255 := by simpa [Lit.wf, IntKind.min, IntKind.max, IntKind.signed, IntKind.bits] using w1
  obtain ⟨a2, rfl, rfl, rfl, w2⟩ := open_int Try.underlying5 (hval 2 5 v2 rfl rfl) h2
  have b2 : 0 ≤ a2 ∧ a2 ≤ 255 := by simpa [Lit.wf, IntKind.min, IntKind.max, IntKind.signed, IntKind.bits] using w2
  clear hA0
  simp only [List.append_nil] at hW'
  refine (walk W xs0 A0 c0 hl0 hn0 hb0 a1 b1.1 b1.2 a2 b2.1 b2.2).mono fun e W' ⟨he, bel⟩ => ?_
  subst he
  exact ⟨_, rfl, _, _, _, [], _, [], hW', trodAll_mk1 (shut_bool Try.underlying4 _), (trodAll_cons_mk (Below.trod laidOut (by kernel_rfl) (of_decide_eq_true (by kernel_rfl)) k0 bel (fun x hx => DataW.trod_lt _ _ _ _ hf0 x hx)) (trodAll_cons_mk (shut_int Try.underlying5 w1) (trodAll_cons_mk (shut_int Try.underlying5 w2) trodAll_mk0))), rfl, bel.frame _, fun h => by cases h⟩

set_option maxRecDepth 100000 in
theorem lifted (os : Os) (started : os.Started) (H : Type) (enc : TypeId × Value → H) :
    ReturnsInHanded {} Try.checked os 5 .any (Rows.dequeSoloSpec.pre6 enc Try.prog Try.f5 Rows.dequeSoloRow.domain false) (Rows.dequeSoloSpec.post enc Try.prog Try.f5 false true false false) := by
  refine returnsInHanded_of_change (C := Try.checked) own started (by kernel_rfl) Try.func5
    (ChangeSpec.witness6 (enc := enc) (C := Try.checked) false ⟨#[], #[.slice none 0 0, .int .u8 0, .int .u8 0], []⟩ 8 (by kernel_rfl) (by kernel_rfl) (by kernel_rfl) (by kernel_rfl)) ?_
  intro W base args ds gs before hval hW _ _
  exact contract H enc W base args ds gs before hval hW

theorem over : Rows.dequeSoloRow.holds Try.pinned (OpenSpec.ofChange Rows.dequeSoloSpec) :=
  OpenClaim.holds_of_wide 5 Try.f5 rfl rfl rfl rfl rfl rfl rfl ⟨rfl, rfl, rfl, rfl, rfl⟩ rfl rfl rfl rfl rfl (by kernel_rfl) Try.func5 (by kernel_rfl)
    (of_decide_eq_true (by kernel_rfl)) (by unfold Func.isWrapper; first | (rw [if_pos (by decide +kernel)]; kernel_rfl) | (rw [if_neg (by decide +kernel)]; exact ⟨rfl, rfl⟩))
    (fun os started H enc _ => lifted os started H enc)

/-- The statement. -/
theorem proved : Rows.DequeSoloSaid :=
  over

end Go.Proofs.Ytlgelhkpdldgdaa.dequeSolo
