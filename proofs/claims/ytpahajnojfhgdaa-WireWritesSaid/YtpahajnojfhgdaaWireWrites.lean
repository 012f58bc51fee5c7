/-
  What is proved: for all slices of uint64, int64, string and bool the law WireWrites of layer 3 returns true and changes nothing: what the bytes of bricks are, of as many as are handed in. No condition.
-/
import Derived.Test.YtpahajnojfhgdaaRows
import Derived.Test.YtpahajnojfhgdaaL03A
import Derived.Test.YtpahajnojfhgdaaWireO
import Derived.Test.YtpahajnojfhgdaaWireF
import Derived.ProofKit
import Derived.OpenShut
import Derived.ShutString
namespace Go.Proofs.Ytpahajnojfhgdaa.wireWrites
open Go.ChangeShapes Go.WideShapes Go.ChangeAt Go.RowKit
open Go.ChangeMaps (open_string shut_string)

theorem later {B : Nat} {a b c : World} (h : Below B a b) (k : Below b.heap.size b c) (hB : B ≤ a.heap.size) : Below B a c := h.trans (k.mono (by have := h.size; omega))
theorem take_snoc_all {xs : List ByteArray} {k : Nat} {n : Nat} (h : ∀ x ∈ xs.take k, x.size ≤ n) (hk : k < xs.length) (hx : xs[k].size ≤ n) : ∀ x ∈ xs.take (k + 1), x.size ≤ n := by
  rw [List.take_succ_eq_append_getElem hk]
  intro x hm
  rcases List.mem_append.1 hm with hm | hm
  · exact h x hm
  · simp at hm; rw [hm]; exact hx
theorem strEq {a b : List UInt8} (h : a = b) : Value.string ⟨a.toArray⟩ = .string ⟨b.toArray⟩ := by rw [h]

set_option maxRecDepth 20000 in
set_option maxHeartbeats 8000000 in
theorem walk (w : World)
    (u : List Nat) (Au : Option Addr) (cu : Nat) (lu : Lies w w.heap.size Au (u64s u)) (nu : u.length ≤ maxLen) (bu : ∀ x ∈ u, x < 18446744073709551616)
    (i : List Int) (Ai : Option Addr) (ci : Nat) (li : Lies w w.heap.size Ai (icells i)) (ni : i.length ≤ maxLen) (bi : ∀ x ∈ i, -9223372036854775808 ≤ x ∧ x ≤ 9223372036854775807)
    (t : List ByteArray) (At : Option Addr) (ct : Nat) (lt : Lies w w.heap.size At (tcells t)) (nt : t.length ≤ maxLen) (bt : ∀ x ∈ t, x.size ≤ maxLen)
    (b : List Bool) (Ab : Option Addr) (cb : Nat) (lb : Lies w w.heap.size Ab (bcells b)) (nb : b.length ≤ maxLen) (_bb : ∀ x ∈ b, True)
    : Calls Try.prog 3 #[.slice Au u.length cu, .slice Ai i.length ci, .slice At t.length ct, .slice Ab b.length cb] w fun e w' => e = .returned (.bool true) ∧ Below w.heap.size w w' := by
  unfold maxLen at nu ni nt nb
  have Lu := Lib.hid lu
  have Bu := Lib.hid bu
  have Li := Lib.hid li
  have Bi := Lib.hid bi
  have Lt := Lib.hid lt
  have Bt := Lib.hid bt
  have Lb := Lib.hid lb
  clear lu li lt lb bu bi bt _bb
  by_cases hu : 200 < u.length
  · have du : decide (200 < u.length) = true := by simpa using hu
    go_enter Try.func3, Try.ntmps3
    go_wp2_with fail
    refine (alive_any _).mono ?_
    rintro e w1 ⟨rfl, hb1⟩
    go_wp2_with fail
    go_ret
    exact ⟨rfl, hb1⟩
  · have du : decide (200 < u.length) = false := by simpa using hu
    by_cases hi : 200 < i.length
    · have di : decide (200 < i.length) = true := by simpa using hi
      go_enter Try.func3, Try.ntmps3
      go_wp2_with fail
      refine (alive_any _).mono ?_
      rintro e w1 ⟨rfl, hb1⟩
      go_wp2_with fail
      go_ret
      exact ⟨rfl, hb1⟩
    · have di : decide (200 < i.length) = false := by simpa using hi
      by_cases ht : 200 < t.length
      · have dt : decide (200 < t.length) = true := by simpa using ht
        go_enter Try.func3, Try.ntmps3
        go_wp2_with fail
        refine (alive_any _).mono ?_
        rintro e w1 ⟨rfl, hb1⟩
        go_wp2_with fail
        go_ret
        exact ⟨rfl, hb1⟩
      · have dt : decide (200 < t.length) = false := by simpa using ht
        by_cases hb : 200 < b.length
        · have db : decide (200 < b.length) = true := by simpa using hb
          go_enter Try.func3, Try.ntmps3
          go_wp2_with fail
          refine (alive_any _).mono ?_
          rintro e w1 ⟨rfl, hb1⟩
          go_wp2_with fail
          go_ret
          exact ⟨rfl, hb1⟩
        · have db : decide (200 < b.length) = false := by simpa using hb
          go_enter Try.func3, Try.ntmps3
          go_wp2_with fail
          go_loopw [9, 13] (fun s j wr => ∃ k : Nat, k ≤ u.length ∧ s = .string ⟨(uBytes (u.take k)).toArray⟩ ∧ j = .int .i64 k ∧ (uBytes (u.take k)).length ≤ 10 * k ∧ Below w.heap.size w wr) (fun _ j _ => u.length - (intOf j).toNat)
          case atStart => exact ⟨0, Nat.zero_le _, rfl, rfl, by simp [uBytes], (Below.refl _ _)⟩
          case round =>
            obtain ⟨ku, hku, rfl, rfl, hlenu, hbelu⟩ := hrel
            have hszu := hbelu.size
            by_cases hlt : ku < u.length
            · obtain ⟨ad, rfl, _, hc⟩ := (Lu.out.below hbelu).at_ (u64s_at hlt)
              have HS := Lib.hid (uBytes_snoc u ku hlt)
              have HX := Lib.hid (Bu.out u[ku] (List.getElem_mem hlt))
              have hp := Lib.uvarint_length64 (x := u[ku]) HX.out
              go_wp2_with fail
              refine (fuint_any _ _ (by omega) (by have := HX.out; omega)).mono ?_
              rintro e w1 ⟨rfl, hb1⟩
              rw [Int.toNat_natCast]
              have HB1 := Lib.hid (later hbelu hb1 (Nat.le_refl _))
              clear hb1
              go_wp2_with fail
              exact ⟨⟨ku + 1, by omega, by rw [mk_append, HS.out], by go_num, by rw [HS.out, List.length_append]; omega, HB1.out⟩, by simp [intOf]; omega⟩
            · have hallu : u.take ku = u := List.take_of_length_le (by omega)
              rw [hallu]
              clear hallu hlenu
              go_wp2_with fail
              go_loopw [10, 14] (fun s j wr => ∃ k : Nat, k ≤ i.length ∧ s = .string ⟨(iBytes (i.take k)).toArray⟩ ∧ j = .int .i64 k ∧ (iBytes (i.take k)).length ≤ 10 * k ∧ Below w.heap.size w wr) (fun _ j _ => i.length - (intOf j).toNat)
              case atStart => exact ⟨0, Nat.zero_le _, rfl, rfl, by simp [iBytes], hbelu⟩
              case round =>
                clear hbelu
                obtain ⟨ki, hki, rfl, rfl, hleni, hbeli⟩ := hrel
                have hszi := hbeli.size
                by_cases hlt : ki < i.length
                · obtain ⟨ad, rfl, _, hc⟩ := (Li.out.below hbeli).at_ (icells_at hlt)
                  have HS := Lib.hid (iBytes_snoc i ki hlt)
                  have HX := Lib.hid (Bi.out i[ki] (List.getElem_mem hlt))
                  have hp := Lib.uvarint_length64 (Lib.zigzag_lt HX.out.1 HX.out.2)
                  go_wp2_with fail
                  refine (fint_any _ _ HX.out.1 HX.out.2).mono ?_
                  rintro e w1 ⟨rfl, hb1⟩
                  have HB1 := Lib.hid (later hbeli hb1 (Nat.le_refl _))
                  clear hb1
                  go_wp2_with fail
                  exact ⟨⟨ki + 1, by omega, by rw [mk_append, HS.out], by go_num, by rw [HS.out, List.length_append]; omega, HB1.out⟩, by simp [intOf]; omega⟩
                · have halli : i.take ki = i := List.take_of_length_le (by omega)
                  rw [halli]
                  clear halli hleni
                  go_wp2_with fail
                  go_loopw [11, 15] (fun s j wr => ∃ k : Nat, k ≤ t.length ∧ s = .string ⟨(tBytes (t.take k)).toArray⟩ ∧ j = .int .i64 k ∧ (tBytes (t.take k)).length ≤ 4106 * k ∧ (∀ x ∈ t.take k, x.size ≤ 4096) ∧ Below w.heap.size w wr) (fun _ j _ => t.length - (intOf j).toNat)
                  case atStart => exact ⟨0, Nat.zero_le _, rfl, rfl, by simp [tBytes], by simp, hbeli⟩
                  case round =>
                    clear hbeli
                    obtain ⟨kt, hkt, rfl, rfl, hlent, hall, hbelt⟩ := hrel
                    have HALL := Lib.hid hall
                    clear hall
                    have hszt := hbelt.size
                    by_cases hlt : kt < t.length
                    · obtain ⟨ad, rfl, _, hc⟩ := (Lt.out.below hbelt).at_ (tcells_at hlt)
                      have HS := Lib.hid (tBytes_snoc t kt hlt)
                      have hmx := Bt.out t[kt] (List.getElem_mem hlt)
                      unfold maxLen at hmx
                      by_cases hbig : (t[kt].size : Int) > 4096
                      · go_wp2_with fail
                        refine (alive_any _).mono ?_
                        rintro e w1 ⟨rfl, hb1⟩
                        go_wp2_with fail
                        go_ret
                        exact ⟨rfl, later hbelt hb1 (Nat.le_refl _)⟩
                      have hsm : t[kt].size ≤ 4096 := by omega
                      have HK := Lib.hid (take_snoc_all HALL.out hlt hsm)
                      have hp := text_len t[kt] hsm
                      have hp1 := Lib.uvarint_length64 (x := t[kt].size) (by omega)
                      go_wp2_with fail
                      refine (ftext_any _ _ hsm).mono ?_
                      rintro e w1 ⟨rfl, hb1⟩
                      have HB1 := Lib.hid (later hbelt hb1 (Nat.le_refl _))
                      clear hb1
                      go_wp2_with fail
                      exact ⟨⟨kt + 1, by omega, by rw [mk_append, HS.out], by go_num, by rw [HS.out, List.length_append]; omega, HK.out, HB1.out⟩, by simp [intOf]; omega⟩
                    · have hallt : t.take kt = t := List.take_of_length_le (by omega)
                      have HA := Lib.hid (show ∀ x ∈ t, x.size ≤ 4096 from by have := HALL.out; rw [hallt] at this; exact this)
                      clear HALL
                      rw [hallt]
                      clear hallt hlent
                      go_wp2_with fail
                      go_loopw [12, 16] (fun s j wr => ∃ k : Nat, k ≤ b.length ∧ s = .string ⟨(bBytes (b.take k)).toArray⟩ ∧ j = .int .i64 k ∧ (bBytes (b.take k)).length ≤ 10 * k ∧ Below w.heap.size w wr) (fun _ j _ => b.length - (intOf j).toNat)
                      case atStart => exact ⟨0, Nat.zero_le _, rfl, rfl, by simp [bBytes], hbelt⟩
                      case round =>
                        clear hbelt
                        obtain ⟨kb, hkb, rfl, rfl, hlenb, hbelb⟩ := hrel
                        have hszb := hbelb.size
                        by_cases hlt : kb < b.length
                        · obtain ⟨ad, rfl, _, hc⟩ := (Lb.out.below hbelb).at_ (bcells_at hlt)
                          have HS := Lib.hid (bBytes_snoc b kb hlt)
                          have hp := bitB_len b[kb]
                          go_wp2_with fail
                          refine (fbool_any _ _).mono ?_
                          rintro e w' ⟨rfl, rfl⟩
                          go_wp2_with fail
                          exact ⟨⟨kb + 1, by omega, by rw [mk_append, HS.out], by go_num, by rw [HS.out, List.length_append]; omega, hbelb⟩, by simp [intOf]; omega⟩
                        · have hallb : b.take kb = b := List.take_of_length_le (by omega)
                          rw [hallb]
                          clear hallb hlenb
                          go_wp2_with fail
                          refine (uints_any u Au cu _ ((Lu.out.below hbelb).mono hszb) (by omega) Bu.out).mono ?_
                          rintro e w1 ⟨rfl, hb1⟩
                          have h1 := later hbelb hb1 (Nat.le_refl _)
                          have z1 := h1.size
                          clear hb1
                          go_wp2_with fail
                          refine (ints_any i Ai ci _ ((Li.out.below h1).mono z1) (by omega) Bi.out).mono ?_
                          rintro e w2 ⟨rfl, hb2⟩
                          have h2 := later h1 hb2 (Nat.le_refl _)
                          have z2 := h2.size
                          clear hb2
                          go_wp2_with fail
                          refine (texts_any t At ct _ ((Lt.out.below h2).mono z2) (by omega) HA.out).mono ?_
                          rintro e w3 ⟨rfl, hb3⟩
                          have h3 := later h2 hb3 (Nat.le_refl _)
                          have z3 := h3.size
                          clear hb3
                          go_wp2_with fail
                          refine (bools_any b Ab cb _ ((Lb.out.below h3).mono z3) (by omega) (fun _ _ => trivial)).mono ?_
                          rintro e w4 ⟨rfl, hb4⟩
                          have h4 := later h3 hb4 (Nat.le_refl _)
                          clear hb4
                          go_wp2_with fail
                          refine (alive_any _).mono ?_
                          rintro e w5 ⟨rfl, hb5⟩
                          go_wp2_with fail
                          go_ret
                          exact ⟨rfl, later h4 hb5 (Nat.le_refl _)⟩

/-! ### From the walk to the statement -/
theorem own : ownKnob Try.prog.godebug = none := by kernel_rfl

theorem contract (H : Type) (enc : TypeId × Value → H) (W : World) (base : Nat) (args : Array Value) (ds gs : List (DataW H)) (before : List MemPlace)
    (hval : ∀ (j : Nat) t v, Try.f3.params[j]? = some t → args[j]? = some v → Value.okWide Try.prog W .any base t v)
    (hW : DataW.Whole enc Try.prog Try.f3.params.toList Rows.wireWritesSpec.vars false W args.toList ds gs before) :
    Calls Try.prog 3 args W fun e W' => ∃ v, e = .returned v ∧ Rows.wireWritesSpec.post enc Try.prog Try.f3 false true false false W args v W' := by
  have hW' := hW
  obtain ⟨p, q, hA0, hV, rfl, hfz, hnd⟩ := hW
  have hA : DataW.TrodAll enc Try.prog W 0 (fun _ => true) true Try.f3.params.toList args.toList ds p := hA0
  rw [Try.params3] at hA hval
  obtain ⟨v0, vs0, d0, ds0, p0, q0, hargs, rfl, rfl, h0, r0⟩ := trodAll_cons hA
  obtain ⟨v1, vs1, d1, ds1, p1, q1, rfl, rfl, rfl, h1, r1⟩ := trodAll_cons r0
  obtain ⟨v2, vs2, d2, ds2, p2, q2, rfl, rfl, rfl, h2, r2⟩ := trodAll_cons r1
  obtain ⟨v3, vs3, d3, ds3, p3, q3, rfl, rfl, rfl, h3, r3⟩ := trodAll_cons r2
  obtain ⟨rfl, rfl, rfl⟩ := trodAll_nil r3
  obtain rfl : args = #[v0, v1, v2, v3] := by cases args; simp_all
  obtain ⟨rfl, rfl⟩ := trodVars_none hV
  have k0 := h0
  obtain ⟨fuel0, hf0⟩ := h0
  obtain ⟨xs0, A0, c0, hcs0, hn0, hl0, hb0⟩ := trod_u64s Try.underlying22 Try.underlying28 (by kernel_rfl) hf0
  obtain rfl := slice_of Try.underlying22 (hval 0 22 v0 rfl rfl) hcs0
  have k1 := h1
  obtain ⟨fuel1, hf1⟩ := h1
  obtain ⟨xs1, A1, c1, hcs1, hn1, hl1, hb1⟩ := trod_i64s Try.underlying23 Try.underlying2 (by kernel_rfl) hf1
  obtain rfl := slice_of Try.underlying23 (hval 1 23 v1 rfl rfl) hcs1
  have k2 := h2
  obtain ⟨fuel2, hf2⟩ := h2
  obtain ⟨xs2, A2, c2, hcs2, hn2, hl2, hb2⟩ := trod_strs Try.underlying24 Try.underlying9 (by kernel_rfl) hf2
  obtain rfl := slice_of Try.underlying24 (hval 2 24 v2 rfl rfl) hcs2
  have k3 := h3
  obtain ⟨fuel3, hf3⟩ := h3
  obtain ⟨xs3, A3, c3, hcs3, hn3, hl3, hb3⟩ := trod_bools Try.underlying25 Try.underlying4 (by kernel_rfl) hf3
  obtain rfl := slice_of Try.underlying25 (hval 3 25 v3 rfl rfl) hcs3
  clear hA0
  simp only [List.append_nil] at hW'
  refine (walk W xs0 A0 c0 hl0 hn0 hb0 xs1 A1 c1 hl1 hn1 hb1 xs2 A2 c2 hl2 hn2 hb2 xs3 A3 c3 hl3 hn3 hb3).mono fun e W' ⟨he, bel⟩ => ?_
  subst he
  exact ⟨_, rfl, _, _, _, [], _, [], hW', trodAll_mk1 (shut_bool Try.underlying4 _), (trodAll_cons_mk (Below.trod laidOut (by kernel_rfl) (of_decide_eq_true (by kernel_rfl)) k0 bel (fun x hx => DataW.trod_lt _ _ _ _ hf0 x hx)) (trodAll_cons_mk (Below.trod laidOut (by kernel_rfl) (of_decide_eq_true (by kernel_rfl)) k1 bel (fun x hx => DataW.trod_lt _ _ _ _ hf1 x hx)) (trodAll_cons_mk (Below.trod laidOut (by kernel_rfl) (of_decide_eq_true (by kernel_rfl)) k2 bel (fun x hx => DataW.trod_lt _ _ _ _ hf2 x hx)) (trodAll_cons_mk (Below.trod laidOut (by kernel_rfl) (of_decide_eq_true (by kernel_rfl)) k3 bel (fun x hx => DataW.trod_lt _ _ _ _ hf3 x hx)) trodAll_mk0)))), rfl, bel.frame _, fun h => by cases h⟩

set_option maxRecDepth 100000 in
theorem lifted (os : Os) (started : os.Started) (H : Type) (enc : TypeId × Value → H) :
    ReturnsInHanded {} Try.checked os 3 .any (Rows.wireWritesSpec.pre6 enc Try.prog Try.f3 Rows.wireWritesRow.domain false) (Rows.wireWritesSpec.post enc Try.prog Try.f3 false true false false) := by
  refine returnsInHanded_of_change (C := Try.checked) own started (by kernel_rfl) Try.func3
    (ChangeSpec.witness6 (enc := enc) (C := Try.checked) false ⟨#[], #[.slice none 0 0, .slice none 0 0, .slice none 0 0, .slice none 0 0], []⟩ 8 (by kernel_rfl) (by kernel_rfl) (by kernel_rfl) (by kernel_rfl)) ?_
  intro W base args ds gs before hval hW _ _
  exact contract H enc W base args ds gs before hval hW

theorem over : Rows.wireWritesRow.holds Try.pinned (OpenSpec.ofChange Rows.wireWritesSpec) :=
  OpenClaim.holds_of_wide 3 Try.f3 rfl rfl rfl rfl rfl rfl rfl ⟨rfl, rfl, rfl, rfl, rfl⟩ rfl rfl rfl rfl rfl (by kernel_rfl) Try.func3 (by kernel_rfl)
    (of_decide_eq_true (by kernel_rfl)) (by unfold Func.isWrapper; first | (rw [if_pos (by decide +kernel)]; kernel_rfl) | (rw [if_neg (by decide +kernel)]; exact ⟨rfl, rfl⟩))
    (fun os started H enc _ => lifted os started H enc)

/-- The statement. -/
theorem proved : Rows.WireWritesSaid :=
  over

end Go.Proofs.Ytpahajnojfhgdaa.wireWrites
