/-
  Children, parents, what stands between, what two have in common (P12.4): the stage's theorem.
-/
import Derived.Test.YtkhpbjjmekmaeaaRows
import Derived.Test.YtkhpbjjmekmaeaaBrK
import Derived.Test.YtkhpbjjmekmaeaaL12A
import Derived.ProofKit
import Derived.OpenShut
import Derived.ShutString
namespace Go.Proofs.Ytkhpbjjmekmaeaa.branchKin
open Go.ChangeShapes Go.WideShapes Go.ChangeAt Go.RowKit
open Go.ChangeMaps (open_string shut_string)

set_option maxHeartbeats 1000000 in
set_option maxRecDepth 20000 in
theorem big (a b c : ByteArray) (n : Int) (h : 1024 < a.size ∨ 1024 < b.size ∨ 1024 < c.size) (w : World) :
    Calls Try.prog 5 #[.string a, .string b, .string c, .int .i64 n] w fun e w' => e = .returned (.bool true) ∧ Below w.heap.size w w' := by
  by_cases h1 : 1024 < a.size
  · have e1 : (1024 : Int) < (a.size : Int) := by omega
    clear h1 h
    go_enter Try.func5, Try.ntmps5
    go_wp2_with fail
    refine (alive12_any _).mono ?_
    rintro e w1 ⟨rfl, b1⟩
    have B1 := Lib.hid b1
    clear b1
    go_wp2_with fail
    go_ret
    exact ⟨rfl, B1.out⟩
  · have e1 : ¬ (1024 : Int) < (a.size : Int) := by omega
    by_cases h2 : 1024 < b.size
    · have e2 : (1024 : Int) < (b.size : Int) := by omega
      clear h1 h2 h
      go_enter Try.func5, Try.ntmps5
      go_wp2_with fail
      refine (alive12_any _).mono ?_
      rintro e w1 ⟨rfl, b1⟩
      have B1 := Lib.hid b1
      clear b1
      go_wp2_with fail
      go_ret
      exact ⟨rfl, B1.out⟩
    · have e2 : ¬ (1024 : Int) < (b.size : Int) := by omega
      have e3 : (1024 : Int) < (c.size : Int) := by omega
      clear h1 h2 h
      go_enter Try.func5, Try.ntmps5
      go_wp2_with fail
      refine (alive12_any _).mono ?_
      rintro e w1 ⟨rfl, b1⟩
      have B1 := Lib.hid b1
      clear b1
      go_wp2_with fail
      go_ret
      exact ⟨rfl, B1.out⟩

set_option maxHeartbeats 4000000 in
set_option maxRecDepth 20000 in
theorem small (a b c : ByteArray) (n : Int) (ha : a.size ≤ 1024) (hb : b.size ≤ 1024) (hc : c.size ≤ 1024) (n0 : -9223372036854775808 ≤ n) (n1 : n ≤ 9223372036854775807) (w : World) :
    Calls Try.prog 5 #[.string a, .string b, .string c, .int .i64 n] w fun e w' => e = .returned (.bool true) ∧ Below w.heap.size w w' := by
  have e1 : ¬ (1024 : Int) < (a.size : Int) := by omega
  have e2 : ¬ (1024 : Int) < (b.size : Int) := by omega
  have e3 : ¬ (1024 : Int) < (c.size : Int) := by omega
  have SA : Hid (a.size ≤ 1000000 ∧ b.size ≤ 1000000 ∧ c.size ≤ 1000000) := ⟨by omega, by omega, by omega⟩
  clear ha hb hc
  have KK := Lib.hid (fun U => bKid a n U SA.out.1 ⟨n0, n1⟩)
  have HKF : Hid (Br.kidOk a n = true → Br.KidFacts a (Br.kidT a n) n) := Br.kid_facts
  generalize Br.kidOk a n = ok at KK HKF
  generalize Br.kidT a n = k at KK HKF
  go_enter Try.func5, Try.ntmps5
  go_wp2_with fail
  refine (KK.out _).mono ?_
  rintro e w1 ⟨rfl, b1⟩
  have B1 := Lib.hid b1
  clear b1 KK
  go_upto_if 39 with fail
  go_cut [] (fun wx => Hid (Below w.heap.size w wx))
  case first =>
    cases ok with
    | false =>
      go_wp2_with fail
      go_meet
      case rel => exact B1.out
    | true =>
      have KF := Lib.hid (HKF.out rfl)
      have K1 := Lib.hid (fun U => bParent k U KF.out.sz)
      have K2 := Lib.hid (fun U => bLast k U KF.out.sz)
      have K3 := Lib.hid (fun U => bMay k U KF.out.sz)
      have K4 := Lib.hid (fun U => bCompare a k U)
      have K5 := Lib.hid (fun U => bUnder k a U KF.out.sz SA.out.1)
      have K6 := Lib.hid (fun U => bUnder a k U SA.out.1 KF.out.sz)
      rw [KF.out.par, KF.out.kid] at K1
      rw [KF.out.last] at K2
      rw [KF.out.may] at K3
      rw [KF.out.cmp] at K4
      rw [KF.out.un] at K5
      rw [KF.out.no] at K6
      clear HKF KF
      go_wp2_with fail
      refine (K1.out _).mono ?_
      rintro e w2 ⟨rfl, b2⟩
      have B2 := Lib.hid (B1.out.trans (b2.mono B1.out.size))
      clear b2 B1
      go_wp2_with fail
      refine (K2.out _).mono ?_
      rintro e wx ⟨rfl, rfl⟩
      go_wp2_with fail
      refine (K3.out _).mono ?_
      rintro e wx ⟨rfl, rfl⟩
      go_wp2_with fail
      refine (K4.out _).mono ?_
      rintro e wx ⟨rfl, rfl⟩
      go_wp2_with fail
      refine (K5.out _).mono ?_
      rintro e wx ⟨rfl, rfl⟩
      go_wp2_with fail
      refine (K6.out _).mono ?_
      rintro e wx ⟨rfl, rfl⟩
      go_wp2_with fail
      go_meet
      case rel => exact B2.out
  case rest =>
    have B2 := hcut
    clear hcut B1 HKF
    have KA := Lib.hid (fun U => bMay a U SA.out.1)
    have KB := Lib.hid (fun U => bMay b U SA.out.2.1)
    have KC := Lib.hid (fun U => bMay c U SA.out.2.2)
    have KU := Lib.hid (fun U => bUnder b a U SA.out.2.1 SA.out.1)
    have KAB := Lib.hid (fun U => bCompare a b U)
    have KBA := Lib.hid (fun U => bCompare b a U)
    have HBT : Hid (Br.may c = true → Br.under b a = true → Br.cmpR a c ≤ 0 → Br.cmpR c b ≤ 0 → Br.under c a = true) := Br.between
    have HCF : Hid (Br.may a = true → Br.may b = true → Br.under a (Br.common a b) = true ∧ Br.under b (Br.common a b) = true ∧ (Br.under a c = true → Br.under b c = true → Br.under (Br.common a b) c = true) ∧ (Br.common a b).size ≤ 1000000) := Br.common_facts
    have HDN : Hid (∀ i up met, Br.Ups a b i up met → Br.kidP up = false → Br.under b a = (met && (Br.may a && Br.may b))) := fun _ _ _ h hk => h.done hk
    have HNG := Lib.hid (Br.neg_cmp a b)
    generalize Br.may a = ma at *
    generalize Br.may b = mb at *
    generalize Br.may c = mc at *
    generalize Br.under b a = uba at *
    go_upto_region 8 with fail
    go_cut [89] (fun s wx => s = .bool (ma && (mb && mc)) ∧ Hid (Below w.heap.size w wx))
    case first =>
      clear KU KAB KBA HBT HCF HDN HNG
      cases ma
      · go_wp2_with fail
        refine (KA.out _).mono ?_
        rintro e wx ⟨rfl, rfl⟩
        go_wp2_with fail
        go_meet
        case rel => exact ⟨rfl, B2.out⟩
      · cases mb
        · go_wp2_with fail
          refine (KA.out _).mono ?_
          rintro e wx ⟨rfl, rfl⟩
          go_wp2_with fail
          refine (KB.out _).mono ?_
          rintro e wx ⟨rfl, rfl⟩
          go_wp2_with fail
          go_meet
          case rel => exact ⟨rfl, B2.out⟩
        · go_wp2_with fail
          refine (KA.out _).mono ?_
          rintro e wx ⟨rfl, rfl⟩
          go_wp2_with fail
          refine (KB.out _).mono ?_
          rintro e wx ⟨rfl, rfl⟩
          go_wp2_with fail
          refine (KC.out _).mono ?_
          rintro e wx ⟨rfl, rfl⟩
          go_wp2_with fail
          go_meet
          case rel => exact ⟨rfl, B2.out⟩
    case rest =>
      obtain ⟨rfl, B3⟩ := hcut
      clear B2
      go_upto_if 89 with fail
      go_cut [] (fun wx => Hid (Below w.heap.size w wx))
      case first =>
        clear KA KB KC KAB KBA HDN HNG
        cases hall : (ma && (mb && mc)) with
        | false =>
          go_wp2_with fail
          go_meet
          case rel => exact B3.out
        | true =>
          obtain ⟨rfl, rfl, rfl⟩ : ma = true ∧ mb = true ∧ mc = true := by simpa using hall
          clear hall
          obtain ⟨m1, m2, m3, m4⟩ := HCF.out rfl rfl
          have K1 := Lib.hid (fun U => bCommon a b U SA.out.1 SA.out.2.1)
          have K2 := Lib.hid (fun U => bUnder a (Br.common a b) U SA.out.1 m4)
          have K3 := Lib.hid (fun U => bUnder b (Br.common a b) U SA.out.2.1 m4)
          have K4 := Lib.hid (fun U => bUnder a c U SA.out.1 SA.out.2.2)
          have K5 := Lib.hid (fun U => bUnder b c U SA.out.2.1 SA.out.2.2)
          have K6 := Lib.hid (fun U => bUnder (Br.common a b) c U m4 SA.out.2.2)
          have K7 := Lib.hid (fun U => bCompare a c U)
          have K8 := Lib.hid (fun U => bCompare c b U)
          have K9 := Lib.hid (fun U => bUnder c a U SA.out.2.2 SA.out.1)
          rw [m1] at K2
          rw [m2] at K3
          have M3 := Lib.hid m3
          clear m1 m2 m3 m4 HCF
          generalize Br.under a c = uac at *
          generalize Br.under b c = ubc at *
          generalize Br.under (Br.common a b) c = umc at *
          generalize Br.common a b = m at *
          generalize Br.cmpR a c = r1 at *
          generalize Br.cmpR c b = r2 at *
          generalize Br.under c a = uca at *
          go_upto_region 9 with fail
          go_cut [110] (fun s wx => s = .bool false ∧ wc = wx)
          case first =>
            cases uba
            · go_wp2_with fail
              refine (KU.out _).mono ?_
              rintro e wx ⟨rfl, rfl⟩
              go_wp2_with fail
              go_meet
              case rel => exact ⟨rfl, rfl⟩
            · by_cases h1 : r1 ≤ 0
              · have d1 : decide (r1 ≤ 0) = true := decide_eq_true h1
                by_cases h2 : r2 ≤ 0
                · have d2 : decide (r2 ≤ 0) = true := decide_eq_true h2
                  have h3 : uca = true := HBT.out rfl rfl h1 h2
                  subst h3
                  clear h1 h2
                  go_wp2_with fail
                  refine (KU.out _).mono ?_
                  rintro e wx ⟨rfl, rfl⟩
                  go_wp2_with fail
                  refine (K7.out _).mono ?_
                  rintro e wx ⟨rfl, rfl⟩
                  go_wp2_with fail
                  refine (K8.out _).mono ?_
                  rintro e wx ⟨rfl, rfl⟩
                  go_wp2_with fail
                  refine (K9.out _).mono ?_
                  rintro e wx ⟨rfl, rfl⟩
                  go_wp2_with fail
                  go_meet
                  case rel => exact ⟨rfl, rfl⟩
                · have d2 : decide (r2 ≤ 0) = false := decide_eq_false h2
                  clear h1 h2
                  go_wp2_with fail
                  refine (KU.out _).mono ?_
                  rintro e wx ⟨rfl, rfl⟩
                  go_wp2_with fail
                  refine (K7.out _).mono ?_
                  rintro e wx ⟨rfl, rfl⟩
                  go_wp2_with fail
                  refine (K8.out _).mono ?_
                  rintro e wx ⟨rfl, rfl⟩
                  go_wp2_with fail
                  go_meet
                  case rel => exact ⟨rfl, rfl⟩
              · have d1 : decide (r1 ≤ 0) = false := decide_eq_false h1
                clear h1
                go_wp2_with fail
                refine (KU.out _).mono ?_
                rintro e wx ⟨rfl, rfl⟩
                go_wp2_with fail
                refine (K7.out _).mono ?_
                rintro e wx ⟨rfl, rfl⟩
                go_wp2_with fail
                go_meet
                case rel => exact ⟨rfl, rfl⟩
          case rest =>
            obtain ⟨rfl, rfl⟩ := hcut
            clear HBT K7 K8 K9 KU
            go_wp2_with fail
            refine (K1.out _).mono ?_
            rintro e w4 ⟨rfl, b4⟩
            have B4 := Lib.hid (B3.out.trans (b4.mono B3.out.size))
            clear b4 B3 K1
            cases uac
            · go_wp2_with fail
              refine (K2.out _).mono ?_
              rintro e wx ⟨rfl, rfl⟩
              go_wp2_with fail
              refine (K3.out _).mono ?_
              rintro e wx ⟨rfl, rfl⟩
              go_wp2_with fail
              refine (K4.out _).mono ?_
              rintro e wx ⟨rfl, rfl⟩
              go_wp2_with fail
              go_meet
              case rel => exact B4.out
            · cases ubc
              · go_wp2_with fail
                refine (K2.out _).mono ?_
                rintro e wx ⟨rfl, rfl⟩
                go_wp2_with fail
                refine (K3.out _).mono ?_
                rintro e wx ⟨rfl, rfl⟩
                go_wp2_with fail
                refine (K4.out _).mono ?_
                rintro e wx ⟨rfl, rfl⟩
                go_wp2_with fail
                refine (K5.out _).mono ?_
                rintro e wx ⟨rfl, rfl⟩
                go_wp2_with fail
                go_meet
                case rel => exact B4.out
              · have h3 : umc = true := M3.out rfl rfl
                subst h3
                go_wp2_with fail
                refine (K2.out _).mono ?_
                rintro e wx ⟨rfl, rfl⟩
                go_wp2_with fail
                refine (K3.out _).mono ?_
                rintro e wx ⟨rfl, rfl⟩
                go_wp2_with fail
                refine (K4.out _).mono ?_
                rintro e wx ⟨rfl, rfl⟩
                go_wp2_with fail
                refine (K5.out _).mono ?_
                rintro e wx ⟨rfl, rfl⟩
                go_wp2_with fail
                refine (K6.out _).mono ?_
                rintro e wx ⟨rfl, rfl⟩
                go_wp2_with fail
                go_meet
                case rel => exact B4.out
      case rest =>
        have B5 := hcut
        clear hcut B3 HBT HCF KC
        go_wp2_with fail
        go_loopw [14, 15, 16] (fun s14 s15 s16 wr => ∃ (i : Nat) (up : ByteArray) (met : Bool), s14 = .string up ∧ s15 = .bool met ∧ s16 = .int .i64 i ∧ Hid (Br.Ups a b i up met) ∧ Hid (Below w.heap.size w wr)) (fun _ _ s16 _ => 20 - (intOf s16).toNat)
        case atStart => exact ⟨0, b, _, rfl, rfl, rfl, Br.ups0 a b, B5.out⟩
        case round =>
          clear B5
          obtain ⟨i, up, met, rfl, rfl, rfl, HU, B6⟩ := hrel
          have hi20 := HU.out.lt
          have k0 : (i : Int) < 20 := by omega
          have KP := Lib.hid (fun U => bParent up U (HU.out.size SA.out.2.1))
          cases hk : Br.kidP up with
          | true =>
            have HN := Lib.hid (HU.out.next hk)
            rw [hk] at KP
            generalize Br.par up = q at *
            clear hk HU KA KB KU KAB KBA HDN HNG
            go_wp2_with fail
            refine (KP.out _).mono ?_
            rintro e w7 ⟨rfl, b7⟩
            have B7 := Lib.hid (B6.out.trans (b7.mono B6.out.size))
            clear b7 B6
            cases met with
            | true =>
              rw [Bool.true_or] at HN
              go_wp2_with fail
              exact ⟨⟨i + 1, q, true, rfl, rfl, by go_num, HN.out, B7.out⟩, by simp [intOf]; omega⟩
            | false =>
              rw [Bool.false_or] at HN
              go_wp2_with fail
              exact ⟨⟨i + 1, q, _, rfl, rfl, by go_num, HN.out, B7.out⟩, by simp [intOf]; omega⟩
          | false =>
            have HD := HDN.out _ _ _ HU.out hk
            rw [hk] at KP
            generalize Br.par up = q at *
            rw [HD] at KU
            clear hk HU HD HDN
            obtain ⟨hneg, hval⟩ := HNG.out
            rw [hneg] at KAB
            have hng : IntKind.i64.wrap (- Br.cmpR b a) = - Br.cmpR b a := by rw [IntKind.wrap_i64]; omega
            generalize Br.cmpR b a = r at *
            clear hneg hval HNG
            go_wp2_with fail
            refine (KP.out _).mono ?_
            rintro e w7 ⟨rfl, b7⟩
            have B7 := Lib.hid (B6.out.trans (b7.mono B6.out.size))
            clear b7 B6
            cases met
            · rw [Bool.false_and] at KU
              go_wp2_with fail
              refine (KU.out _).mono ?_
              rintro e wx ⟨rfl, rfl⟩
              go_wp2_with fail
              refine (KAB.out _).mono ?_
              rintro e wx ⟨rfl, rfl⟩
              go_wp2_with fail
              refine (KBA.out _).mono ?_
              rintro e wx ⟨rfl, rfl⟩
              go_wp2_with fail
              refine (alive12_any _).mono ?_
              rintro e w8 ⟨rfl, b8⟩
              have B8 := Lib.hid (B7.out.trans (b8.mono B7.out.size))
              clear b8 B7
              go_wp2_with fail
              go_ret
              exact ⟨rfl, B8.out⟩
            · cases ma
              · rw [Bool.false_and, Bool.and_false] at KU
                go_wp2_with fail
                refine (KU.out _).mono ?_
                rintro e wx ⟨rfl, rfl⟩
                go_wp2_with fail
                refine (KA.out _).mono ?_
                rintro e wx ⟨rfl, rfl⟩
                go_wp2_with fail
                refine (KAB.out _).mono ?_
                rintro e wx ⟨rfl, rfl⟩
                go_wp2_with fail
                refine (KBA.out _).mono ?_
                rintro e wx ⟨rfl, rfl⟩
                go_wp2_with fail
                refine (alive12_any _).mono ?_
                rintro e w8 ⟨rfl, b8⟩
                have B8 := Lib.hid (B7.out.trans (b8.mono B7.out.size))
                clear b8 B7
                go_wp2_with fail
                go_ret
                exact ⟨rfl, B8.out⟩
              · cases mb
                · rw [Bool.and_false, Bool.and_false] at KU
                  go_wp2_with fail
                  refine (KU.out _).mono ?_
                  rintro e wx ⟨rfl, rfl⟩
                  go_wp2_with fail
                  refine (KA.out _).mono ?_
                  rintro e wx ⟨rfl, rfl⟩
                  go_wp2_with fail
                  refine (KB.out _).mono ?_
                  rintro e wx ⟨rfl, rfl⟩
                  go_wp2_with fail
                  refine (KAB.out _).mono ?_
                  rintro e wx ⟨rfl, rfl⟩
                  go_wp2_with fail
                  refine (KBA.out _).mono ?_
                  rintro e wx ⟨rfl, rfl⟩
                  go_wp2_with fail
                  refine (alive12_any _).mono ?_
                  rintro e w8 ⟨rfl, b8⟩
                  have B8 := Lib.hid (B7.out.trans (b8.mono B7.out.size))
                  clear b8 B7
                  go_wp2_with fail
                  go_ret
                  exact ⟨rfl, B8.out⟩
                · rw [Bool.and_true, Bool.and_true] at KU
                  go_wp2_with fail
                  refine (KU.out _).mono ?_
                  rintro e wx ⟨rfl, rfl⟩
                  go_wp2_with fail
                  refine (KA.out _).mono ?_
                  rintro e wx ⟨rfl, rfl⟩
                  go_wp2_with fail
                  refine (KB.out _).mono ?_
                  rintro e wx ⟨rfl, rfl⟩
                  go_wp2_with fail
                  refine (KAB.out _).mono ?_
                  rintro e wx ⟨rfl, rfl⟩
                  go_wp2_with fail
                  refine (KBA.out _).mono ?_
                  rintro e wx ⟨rfl, rfl⟩
                  go_wp2_with fail
                  refine (alive12_any _).mono ?_
                  rintro e w8 ⟨rfl, b8⟩
                  have B8 := Lib.hid (B7.out.trans (b8.mono B7.out.size))
                  clear b8 B7
                  go_wp2_with fail
                  go_ret
                  exact ⟨rfl, B8.out⟩

theorem walk (a : ByteArray) (_ha : a.size ≤ maxLen) (b : ByteArray) (_hb : b.size ≤ maxLen) (c : ByteArray) (_hc : c.size ≤ maxLen) (n : Int) (n0 : -9223372036854775808 ≤ n) (n1 : n ≤ 9223372036854775807) (w : World) :
    Calls Try.prog 5 #[.string a, .string b, .string c, .int .i64 n] w fun e w' => e = .returned (.bool true) ∧ Below w.heap.size w w' := by
  by_cases h : 1024 < a.size ∨ 1024 < b.size ∨ 1024 < c.size
  · exact big a b c n h w
  · exact small a b c n (by omega) (by omega) (by omega) n0 n1 w

/-! ### From the walk to the statement -/
theorem own : ownKnob Try.prog.godebug = none := by kernel_rfl

set_option maxRecDepth 20000 in
theorem contract (H : Type) (enc : TypeId × Value → H) (W : World) (base : Nat) (args : Array Value) (ds gs : List (DataW H)) (before : List MemPlace)
    (hval : ∀ (j : Nat) t v, Try.f5.params[j]? = some t → args[j]? = some v → Value.okWide Try.prog W .any base t v)
    (hW : DataW.Whole enc Try.prog Try.f5.params.toList Rows.branchKinSpec.vars false W args.toList ds gs before) :
    Calls Try.prog 5 args W fun e W' => ∃ v, e = .returned v ∧ Rows.branchKinSpec.post enc Try.prog Try.f5 false true false false W args v W' := by
  have hW' := hW
  obtain ⟨p, q, hA0, hV, rfl, hfz, hnd⟩ := hW
  have hA : DataW.TrodAll enc Try.prog W 0 (fun _ => true) true Try.f5.params.toList args.toList ds p := hA0
  rw [Try.params5] at hA hval
  obtain ⟨v0, vs0, d0, ds0, p0, q0, hargs, rfl, rfl, h0, r0⟩ := trodAll_cons hA
  obtain ⟨v1, vs1, d1, ds1, p1, q1, rfl, rfl, rfl, h1, r1⟩ := trodAll_cons r0
  obtain ⟨v2, vs2, d2, ds2, p2, q2, rfl, rfl, rfl, h2, r2⟩ := trodAll_cons r1
  obtain ⟨v3, vs3, d3, ds3, p3, q3, rfl, rfl, rfl, h3, r3⟩ := trodAll_cons r2
  obtain ⟨rfl, rfl, rfl⟩ := trodAll_nil r3
  obtain rfl : args = #[v0, v1, v2, v3] := by cases args; simp_all
  obtain ⟨rfl, rfl⟩ := trodVars_none hV
  obtain ⟨a0, rfl, rfl, rfl, w0⟩ := open_string Try.underlying9 (hval 0 9 v0 rfl rfl) h0
  obtain ⟨a1, rfl, rfl, rfl, w1⟩ := open_string Try.underlying9 (hval 1 9 v1 rfl rfl) h1
  obtain ⟨a2, rfl, rfl, rfl, w2⟩ := open_string Try.underlying9 (hval 2 9 v2 rfl rfl) h2
  obtain ⟨a3, rfl, rfl, rfl, w3⟩ := open_int Try.underlying3 (hval 3 3 v3 rfl rfl) h3
  have b3 : -9223372036854775808 ≤ a3 ∧ a3 ≤ 9223372036854775807 := by simpa [Lit.wf, IntKind.min, IntKind.max, IntKind.signed, IntKind.bits] using w3
  clear hA0
  simp only [List.append_nil] at hW'
  refine (walk a0 w0 a1 w1 a2 w2 a3 b3.1 b3.2 W).mono fun e W' ⟨he, bel⟩ => ?_
  subst he
  exact ⟨_, rfl, _, _, _, [], _, [], hW', trodAll_mk1 (shut_bool Try.underlying4 _), (trodAll_cons_mk (shut_string Try.underlying9 w0) (trodAll_cons_mk (shut_string Try.underlying9 w1) (trodAll_cons_mk (shut_string Try.underlying9 w2) (trodAll_cons_mk (shut_int Try.underlying3 w3) trodAll_mk0)))), rfl, bel.frame _, fun h => by cases h⟩

set_option maxRecDepth 100000 in
theorem lifted (os : Os) (started : os.Started) (H : Type) (enc : TypeId × Value → H) :
    ReturnsInHanded {} Try.checked os 5 .any (Rows.branchKinSpec.pre6 enc Try.prog Try.f5 Rows.branchKinRow.domain false) (Rows.branchKinSpec.post enc Try.prog Try.f5 false true false false) := by
  refine returnsInHanded_of_change (C := Try.checked) own started (by kernel_rfl) Try.func5
    (ChangeSpec.witness6 (enc := enc) (C := Try.checked) false ⟨#[], #[.string ByteArray.empty, .string ByteArray.empty, .string ByteArray.empty, .int .i64 0], []⟩ 8 (by kernel_rfl) (by kernel_rfl) (by kernel_rfl) (by kernel_rfl)) ?_
  intro W base args ds gs before hval hW _ _
  exact contract H enc W base args ds gs before hval hW

theorem over : Rows.branchKinRow.holds Try.pinned (OpenSpec.ofChange Rows.branchKinSpec) :=
  OpenClaim.holds_of_wide 5 Try.f5 rfl rfl rfl rfl rfl rfl rfl ⟨rfl, rfl, rfl, rfl, rfl⟩ rfl rfl rfl rfl rfl (by kernel_rfl) Try.func5 (by kernel_rfl)
    (of_decide_eq_true (by kernel_rfl)) (by unfold Func.isWrapper; first | (rw [if_pos (by decide +kernel)]; kernel_rfl) | (rw [if_neg (by decide +kernel)]; exact ⟨rfl, rfl⟩))
    (fun os started H enc _ => lifted os started H enc)

/-- The statement. -/
theorem proved : Rows.BranchKinSaid :=
  over

end Go.Proofs.Ytkhpbjjmekmaeaa.branchKin
