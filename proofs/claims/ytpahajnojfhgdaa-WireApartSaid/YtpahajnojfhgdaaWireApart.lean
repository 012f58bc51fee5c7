/-
  What is proved: for every two slices of strings the law WireApart of layer 3 returns true and changes nothing: texts which are not the same have bytes that are not; none has bytes with which another one's begin, unless they are its first ones. No condition.
-/
import Derived.Test.YtpahajnojfhgdaaRows
import Derived.Test.YtpahajnojfhgdaaL03A
import Derived.Test.YtpahajnojfhgdaaWireO
import Derived.Test.YtpahajnojfhgdaaWireP
import Derived.Deep.DeepCutAuto
import Derived.Deep.CutBlock
import Derived.BigQuiet
import Derived.WalkLawsBesides
import Derived.ProofKit
import Derived.OpenShut
import Derived.ShutString
namespace Go.Proofs.Ytpahajnojfhgdaa.wireApart
open Go.ChangeShapes Go.WideShapes Go.ChangeAt Go.RowKit
open Go.ChangeMaps (open_string shut_string)

theorem later {B : Nat} {a b c : World} (h : Below B a b) (k : Below b.heap.size b c) (hB : B ≤ a.heap.size) : Below B a c := h.trans (k.mono (by have := h.size; omega))
theorem tc_at {xs : List ByteArray} {k : Nat} (h : k < xs.length) : (tcells xs)[k]? = some (.string xs[k]) := tcells_at h

theorem below_drewN {B : Nat} {a b : World} (h : Below B a b) (n : Nat) : Below B a (b.drewN n) := ⟨h.os, h.tape, h.output, h.size, h.block⟩
/-- Whether both are the same. -/
def eqB (a b : List ByteArray) : Bool := decide (a = b)
theorem eqB_yes {a b : List ByteArray} (h : a = b) : eqB a b = true := by unfold eqB; simpa using h
theorem eqB_no {a b : List ByteArray} (h : ¬ a = b) : eqB a b = false := by unfold eqB; simpa using h
theorem take_snoc_all {xs : List ByteArray} {k : Nat} {n : Nat} (h : ∀ x ∈ xs.take k, x.size ≤ n) (hk : k < xs.length) (hx : xs[k].size ≤ n) : ∀ x ∈ xs.take (k + 1), x.size ≤ n := by
  rw [List.take_succ_eq_append_getElem hk]
  intro x hm
  rcases List.mem_append.1 hm with hm | hm
  · exact h x hm
  · simp at hm; rw [hm]; exact hx
theorem tBytes_len {xs : List ByteArray} (h : ∀ x ∈ xs, x.size ≤ 4096) : (tBytes xs).length ≤ 4106 * xs.length := by
  induction xs with
  | nil => simp [tBytes]
  | cons x xs ih =>
    have h1 := text_len x (h x (by simp))
    have h2 := ih (fun z hz => h z (by simp [hz]))
    rw [Wire.tBytes_cons, ← List.append_assoc, List.length_append, List.length_cons]
    omega
/-- What stands behind the first loop: how many are the same, in slot 6. -/
def Met (a b : List ByteArray) (w : World) (v : Value) (wx : World) : Prop := v = .int .i64 (Wire.cp a b : Int) ∧ Below w.heap.size w wx

set_option maxRecDepth 20000 in
set_option maxHeartbeats 8000000 in
theorem walk (w : World) (a : List ByteArray) (A : Option Addr) (c : Nat) (la : Lies w w.heap.size A (tcells a)) (na : a.length ≤ maxLen) (ba : ∀ x ∈ a, x.size ≤ maxLen)
    (b : List ByteArray) (A' : Option Addr) (c' : Nat) (lb : Lies w w.heap.size A' (tcells b)) (nb : b.length ≤ maxLen) (bb : ∀ x ∈ b, x.size ≤ maxLen) :
    Calls Try.prog 7 #[.slice A a.length c, .slice A' b.length c'] w fun e w' => e = .returned (.bool true) ∧ Below w.heap.size w w' := by
  unfold maxLen at na nb
  have LA := Lib.hid la
  have LB := Lib.hid lb
  have BA := Lib.hid ba
  have BB := Lib.hid bb
  clear la lb ba bb
  by_cases ha : 60 < a.length
  · have d1 : decide (60 < a.length) = true := by simpa using ha
    go_enter Try.func7, Try.ntmps7
    go_wp2_with fail
    refine (alive_any _).mono ?_
    rintro e w1 ⟨rfl, hb1⟩
    go_wp2_with fail
    go_ret
    exact ⟨rfl, hb1⟩
  · have d1 : decide (60 < a.length) = false := by simpa using ha
    by_cases hb : 60 < b.length
    · have d2 : decide (60 < b.length) = true := by simpa using hb
      go_enter Try.func7, Try.ntmps7
      go_wp2_with fail
      refine (alive_any _).mono ?_
      rintro e w1 ⟨rfl, hb1⟩
      go_wp2_with fail
      go_ret
      exact ⟨rfl, hb1⟩
    · have d2 : decide (60 < b.length) = false := by simpa using hb
      obtain ⟨k1, k2⟩ := Wire.cp_le a b
      go_enter Try.func7, Try.ntmps7
      go_upto_block 0 with fail
      go_cut [6] (fun s6 wx => Met a b w s6 wx)
      case first =>
        go_wp2_with fail
        go_loopw [6] (fun i wr => ∃ k : Nat, k ≤ Wire.cp a b ∧ i = .int .i64 k ∧ Below w.heap.size w wr) (fun i _ => Wire.cp a b - (intOf i).toNat)
        case atStart => exact ⟨0, Nat.zero_le _, rfl, Below.refl _ _⟩
        case round =>
          obtain ⟨k, hk, rfl, hbel⟩ := hrel
          by_cases hlt : k < Wire.cp a b
          · have ka : k < a.length := by omega
            have kb : k < b.length := by omega
            obtain ⟨ad, rfl, _, hca⟩ := (LA.out.below hbel).at_ (tc_at ka)
            obtain ⟨bd, rfl, _, hcb⟩ := (LB.out.below hbel).at_ (tc_at kb)
            have hs : a[k] = b[k] := by
              have := Wire.cp_same a b k hlt
              rw [List.getElem?_eq_getElem ka, List.getElem?_eq_getElem kb] at this
              exact Option.some.inj this
            have e3 : (a[k].toList == b[k].toList) = true := by rw [hs]; simp
            clear hs
            have e1 : decide (k < a.length) = true := by simpa using ka
            have e2 : decide (k < b.length) = true := by simpa using kb
            have i1 : (0 : Int) ≤ k := by omega
            have i2 : (k : Int) < a.length := by omega
            have i3 : (k : Int) < b.length := by omega
            go_wp2_with fail
            go_quiet (fail)
            go_wp2_with fail
            go_roundw
            case rel => exact ⟨k + 1, by omega, by go_num, below_drewN hbel _⟩
            case measure => simp [intOf]; omega
          · have hk' : k = Wire.cp a b := by omega
            have HK := Lib.hid hk'
            clear hk'
            by_cases ka : k < a.length
            · have e1 : decide (k < a.length) = true := by simpa using ka
              have i1 : (0 : Int) ≤ k := by omega
              have i2 : (k : Int) < a.length := by omega
              by_cases kb : k < b.length
              · obtain ⟨ad, rfl, _, hca⟩ := (LA.out.below hbel).at_ (tc_at ka)
                obtain ⟨bd, rfl, _, hcb⟩ := (LB.out.below hbel).at_ (tc_at kb)
                have e2 : decide (k < b.length) = true := by simpa using kb
                have i3 : (k : Int) < b.length := by omega
                have e3 : (a[k].toList == b[k].toList) = false := by
                  have hn := Wire.cp_stop a b (by have := HK.out; omega) (by have := HK.out; omega)
                  rw [← HK.out, List.getElem?_eq_getElem ka, List.getElem?_eq_getElem kb] at hn
                  rw [Lib.toList_data, Lib.toList_data]
                  rw [beq_eq_false_iff_ne]
                  intro h
                  exact hn (congrArg some (ByteArray.ext (Array.ext' h)))
                go_wp2_with fail
                go_quiet (fail)
                go_wp2_with fail
                go_meet
                exact ⟨by rw [HK.out], below_drewN hbel _⟩
              · have e2 : decide (k < b.length) = false := by simpa using kb
                go_wp2_with fail
                go_quiet (fail)
                go_wp2_with fail
                go_meet
                exact ⟨by rw [HK.out], below_drewN hbel _⟩
            · have e1 : decide (k < a.length) = false := by simpa using ka
              go_wp2_with fail
              go_quiet (fail)
              go_wp2_with fail
              go_meet
              exact ⟨by rw [HK.out], below_drewN hbel _⟩
      case rest =>
        obtain ⟨rfl, hbel⟩ := hcut
        go_upto_region 7 with fail
        go_cut [5] (fun s5 wx => s5 = .bool (eqB a b) ∧ Below w.heap.size w wx)
        case first =>
          by_cases q1 : a.length = b.length
          · have f1 : ((a.length : Int) == (b.length : Int)) = true := by rw [beq_iff_eq]; omega
            by_cases q2 : Wire.cp a b = a.length
            · have f2 : ((Wire.cp a b : Int) == (a.length : Int)) = true := by rw [beq_iff_eq]; omega
              have HQ := Lib.hid (eqB_yes (Wire.apart_same.2 ⟨q1, q2⟩))
              clear q1 q2
              go_wp2_with fail
              go_meet
              exact ⟨by rw [HQ.out], hbel⟩
            · have f2 : ((Wire.cp a b : Int) == (a.length : Int)) = false := by rw [beq_eq_false_iff_ne]; omega
              have HQ := Lib.hid (eqB_no (fun h => q2 (Wire.apart_same.1 h).2))
              clear q1 q2
              go_wp2_with fail
              go_meet
              exact ⟨by rw [HQ.out], hbel⟩
          · have f1 : ((a.length : Int) == (b.length : Int)) = false := by rw [beq_eq_false_iff_ne]; omega
            have HQ := Lib.hid (eqB_no (fun h => q1 (Wire.apart_same.1 h).1))
            clear q1
            go_wp2_with fail
            go_meet
            exact ⟨by rw [HQ.out], hbel⟩
        case rest =>
          obtain ⟨rfl, hbel2⟩ := hcut
          clear hbel
          go_wp2_with fail
          go_loop [7] (fun i => ∃ k : Nat, k ≤ a.length ∧ i = .int .i64 k ∧ ∀ x ∈ a.take k, x.size ≤ 4096) (fun i => a.length - (intOf i).toNat)
          case atStart => exact ⟨0, Nat.zero_le _, rfl, by simp⟩
          case round =>
            obtain ⟨k, hk, rfl, hall⟩ := hrel
            have HALL := Lib.hid hall
            clear hall
            by_cases hlt : k < a.length
            · obtain ⟨ad, rfl, _, hca⟩ := (LA.out.below hbel2).at_ (tc_at hlt)
              have hmx := BA.out a[k] (List.getElem_mem hlt)
              unfold maxLen at hmx
              by_cases hbig : (a[k].size : Int) > 1024
              · go_wp2_with fail
                refine (alive_any _).mono ?_
                rintro e w1 ⟨rfl, hb1⟩
                go_wp2_with fail
                go_ret
                exact ⟨rfl, later hbel2 hb1 (Nat.le_refl _)⟩
              · have HK := Lib.hid (take_snoc_all HALL.out hlt (by omega))
                go_wp2_with fail
                go_round
                case rel => exact ⟨k + 1, by omega, by go_num, HK.out⟩
                case measure => simp [intOf]; omega
            · have HA := Lib.hid (show ∀ x ∈ a, x.size ≤ 4096 from fun x hx => HALL.out x (by rw [List.take_of_length_le (by omega)]; exact hx))
              clear HALL
              go_wp2_with fail
              go_loop [8] (fun i => ∃ k : Nat, k ≤ b.length ∧ i = .int .i64 k ∧ ∀ x ∈ b.take k, x.size ≤ 4096) (fun i => b.length - (intOf i).toNat)
              case atStart => exact ⟨0, Nat.zero_le _, rfl, by simp⟩
              case round =>
                obtain ⟨m, hm, rfl, hall⟩ := hrel
                have HALL := Lib.hid hall
                clear hall
                by_cases hlt : m < b.length
                · obtain ⟨bd, rfl, _, hcb⟩ := (LB.out.below hbel2).at_ (tc_at hlt)
                  have hmx := BB.out b[m] (List.getElem_mem hlt)
                  unfold maxLen at hmx
                  by_cases hbig : (b[m].size : Int) > 1024
                  · go_wp2_with fail
                    refine (alive_any _).mono ?_
                    rintro e w1 ⟨rfl, hb1⟩
                    go_wp2_with fail
                    go_ret
                    exact ⟨rfl, later hbel2 hb1 (Nat.le_refl _)⟩
                  · have HK := Lib.hid (take_snoc_all HALL.out hlt (by omega))
                    go_wp2_with fail
                    go_round
                    case rel => exact ⟨m + 1, by omega, by go_num, HK.out⟩
                    case measure => simp [intOf]; omega
                · have HB := Lib.hid (show ∀ x ∈ b, x.size ≤ 4096 from fun x hx => HALL.out x (by rw [List.take_of_length_le (by omega)]; exact hx))
                  clear HALL
                  have hs2 := hbel2.size
                  go_wp2_with fail
                  refine (texts_any a A c _ ((LA.out.below hbel2).mono hs2) (by omega) HA.out).mono ?_
                  rintro e w1 ⟨rfl, hb1⟩
                  have hB1 := later hbel2 hb1 (Nat.le_refl _)
                  have hs3 := hB1.size
                  clear hb1
                  go_wp2_with fail
                  refine (texts_any b A' c' _ ((LB.out.below hB1).mono hs3) (by omega) HB.out).mono ?_
                  rintro e w2 ⟨rfl, hb2⟩
                  have hB2 := later hB1 hb2 (Nat.le_refl _)
                  clear hb2
                  obtain ⟨S, hS⟩ : ∃ S : ByteArray, (⟨(tBytes a).toArray⟩ : ByteArray) = S := ⟨_, rfl⟩
                  obtain ⟨T, hT⟩ : ∃ T : ByteArray, (⟨(tBytes b).toArray⟩ : ByteArray) = T := ⟨_, rfl⟩
                  rw [hS, hT]
                  have hS' : S.data.toList = tBytes a := by rw [← hS]
                  have hT' : T.data.toList = tBytes b := by rw [← hT]
                  have zS : S.size ≤ 9223372036854775807 := by
                    have := tBytes_len HA.out
                    have l : S.data.toList.length = S.size := by simp
                    rw [hS'] at l
                    omega
                  have zT : T.size ≤ 9223372036854775807 := by
                    have := tBytes_len HB.out
                    have l : T.data.toList.length = T.size := by simp
                    rw [hT'] at l
                    omega
                  have HE := Lib.hid (Wire.apart_eq HA.out HB.out S T hS' hT')
                  have HF := Lib.hid (Wire.apart_front HA.out HB.out S T hS' hT')
                  have HG := Lib.hid (fun h : ¬ S.size ≤ T.size => Wire.apart_long S T hS' hT' h)
                  clear hS hT hS' hT'
                  by_cases hle : S.size ≤ T.size
                  · have c1 : decide (S.size ≤ T.size) = true := by simpa using hle
                    by_cases hcp : Wire.cp a b = a.length
                    · have c2 : ((T.extract 0 (min (S.size : Int) (T.size : Int)).toNat).toList == S.toList) = true := by rw [show (min (S.size : Int) (T.size : Int)).toNat = S.size from by omega, HF.out]; simpa using hcp
                      have c3 : ((Wire.cp a b : Int) == (a.length : Int)) = true := by rw [beq_iff_eq]; omega
                      cases hq : eqB a b
                      · have c4 : (S.toList == T.toList) = false := by rw [HE.out]; exact hq
                        clear hq hcp
                        go_wp2_with fail
                        refine (alive_any _).mono ?_
                        rintro e w3 ⟨rfl, hb3⟩
                        go_wp2_with fail
                        go_ret
                        exact ⟨rfl, later hB2 hb3 (Nat.le_refl _)⟩
                      · have c4 : (S.toList == T.toList) = true := by rw [HE.out]; exact hq
                        clear hq hcp
                        go_wp2_with fail
                        refine (alive_any _).mono ?_
                        rintro e w3 ⟨rfl, hb3⟩
                        go_wp2_with fail
                        go_ret
                        exact ⟨rfl, later hB2 hb3 (Nat.le_refl _)⟩
                    · have c2 : ((T.extract 0 (min (S.size : Int) (T.size : Int)).toNat).toList == S.toList) = false := by rw [show (min (S.size : Int) (T.size : Int)).toNat = S.size from by omega, HF.out]; simpa using hcp
                      have c3 : ((Wire.cp a b : Int) == (a.length : Int)) = false := by rw [beq_eq_false_iff_ne]; omega
                      have hq : eqB a b = false := eqB_no (fun h => hcp (Wire.apart_same.1 h).2)
                      have c4 : (S.toList == T.toList) = false := by rw [HE.out]; exact hq
                      rw [hq]
                      clear hq hcp
                      go_wp2_with fail
                      refine (alive_any _).mono ?_
                      rintro e w3 ⟨rfl, hb3⟩
                      go_wp2_with fail
                      go_ret
                      exact ⟨rfl, later hB2 hb3 (Nat.le_refl _)⟩
                  · have hcp := HG.out hle
                    have c1 : decide (S.size ≤ T.size) = false := by simpa using hle
                    have c3 : ((Wire.cp a b : Int) == (a.length : Int)) = false := by rw [beq_eq_false_iff_ne]; omega
                    have hq : eqB a b = false := eqB_no (fun h => hcp (Wire.apart_same.1 h).2)
                    have c4 : (S.toList == T.toList) = false := by rw [HE.out]; exact hq
                    rw [hq]
                    clear hq hcp
                    go_wp2_with fail
                    refine (alive_any _).mono ?_
                    rintro e w3 ⟨rfl, hb3⟩
                    go_wp2_with fail
                    go_ret
                    exact ⟨rfl, later hB2 hb3 (Nat.le_refl _)⟩

/-! ### From the walk to the statement -/
theorem own : ownKnob Try.prog.godebug = none := by kernel_rfl

theorem contract (H : Type) (enc : TypeId × Value → H) (W : World) (base : Nat) (args : Array Value) (ds gs : List (DataW H)) (before : List MemPlace)
    (hval : ∀ (j : Nat) t v, Try.f7.params[j]? = some t → args[j]? = some v → Value.okWide Try.prog W .any base t v)
    (hW : DataW.Whole enc Try.prog Try.f7.params.toList Rows.wireApartSpec.vars false W args.toList ds gs before) :
    Calls Try.prog 7 args W fun e W' => ∃ v, e = .returned v ∧ Rows.wireApartSpec.post enc Try.prog Try.f7 false true false false W args v W' := by
  have hW' := hW
  obtain ⟨p, q, hA0, hV, rfl, hfz, hnd⟩ := hW
  have hA : DataW.TrodAll enc Try.prog W 0 (fun _ => true) true Try.f7.params.toList args.toList ds p := hA0
  rw [Try.params7] at hA hval
  obtain ⟨v0, vs0, d0, ds0, p0, q0, hargs, rfl, rfl, h0, r0⟩ := trodAll_cons hA
  obtain ⟨v1, vs1, d1, ds1, p1, q1, rfl, rfl, rfl, h1, r1⟩ := trodAll_cons r0
  obtain ⟨rfl, rfl, rfl⟩ := trodAll_nil r1
  obtain rfl : args = #[v0, v1] := by cases args; simp_all
  obtain ⟨rfl, rfl⟩ := trodVars_none hV
  have k0 := h0
  obtain ⟨fuel0, hf0⟩ := h0
  obtain ⟨xs0, A0, c0, hcs0, hn0, hl0, hb0⟩ := trod_strs Try.underlying24 Try.underlying9 (by kernel_rfl) hf0
  obtain rfl := slice_of Try.underlying24 (hval 0 24 v0 rfl rfl) hcs0
  have k1 := h1
  obtain ⟨fuel1, hf1⟩ := h1
  obtain ⟨xs1, A1, c1, hcs1, hn1, hl1, hb1⟩ := trod_strs Try.underlying24 Try.underlying9 (by kernel_rfl) hf1
  obtain rfl := slice_of Try.underlying24 (hval 1 24 v1 rfl rfl) hcs1
  clear hA0
  simp only [List.append_nil] at hW'
  refine (walk W xs0 A0 c0 hl0 hn0 hb0 xs1 A1 c1 hl1 hn1 hb1).mono fun e W' ⟨he, bel⟩ => ?_
  subst he
  exact ⟨_, rfl, _, _, _, [], _, [], hW', trodAll_mk1 (shut_bool Try.underlying4 _), (trodAll_cons_mk (Below.trod laidOut (by kernel_rfl) (of_decide_eq_true (by kernel_rfl)) k0 bel (fun x hx => DataW.trod_lt _ _ _ _ hf0 x hx)) (trodAll_cons_mk (Below.trod laidOut (by kernel_rfl) (of_decide_eq_true (by kernel_rfl)) k1 bel (fun x hx => DataW.trod_lt _ _ _ _ hf1 x hx)) trodAll_mk0)), rfl, bel.frame _, fun h => by cases h⟩

set_option maxRecDepth 100000 in
theorem lifted (os : Os) (started : os.Started) (H : Type) (enc : TypeId × Value → H) :
    ReturnsInHanded {} Try.checked os 7 .any (Rows.wireApartSpec.pre6 enc Try.prog Try.f7 Rows.wireApartRow.domain false) (Rows.wireApartSpec.post enc Try.prog Try.f7 false true false false) := by
  refine returnsInHanded_of_change (C := Try.checked) own started (by kernel_rfl) Try.func7
    (ChangeSpec.witness6 (enc := enc) (C := Try.checked) false ⟨#[], #[.slice none 0 0, .slice none 0 0], []⟩ 8 (by kernel_rfl) (by kernel_rfl) (by kernel_rfl) (by kernel_rfl)) ?_
  intro W base args ds gs before hval hW _ _
  exact contract H enc W base args ds gs before hval hW

theorem over : Rows.wireApartRow.holds Try.pinned (OpenSpec.ofChange Rows.wireApartSpec) :=
  OpenClaim.holds_of_wide 7 Try.f7 rfl rfl rfl rfl rfl rfl rfl ⟨rfl, rfl, rfl, rfl, rfl⟩ rfl rfl rfl rfl rfl (by kernel_rfl) Try.func7 (by kernel_rfl)
    (of_decide_eq_true (by kernel_rfl)) (by unfold Func.isWrapper; first | (rw [if_pos (by decide +kernel)]; kernel_rfl) | (rw [if_neg (by decide +kernel)]; exact ⟨rfl, rfl⟩))
    (fun os started H enc _ => lifted os started H enc)

/-- The statement. -/
theorem proved : Rows.WireApartSaid :=
  over

end Go.Proofs.Ytpahajnojfhgdaa.wireApart
