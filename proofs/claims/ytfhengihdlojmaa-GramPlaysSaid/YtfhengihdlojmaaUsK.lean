/-
  pdqsort of numbers, whole: its loop and its recursion; what Sort sorts.
-/
import Derived.Test.YtfhengihdlojmaaUsJ
import Derived.Sort.Walk13a
namespace Go.Proofs.Ytfhengihdlojmaa
open Go.RowKit Go.Sort

namespace Us
/-- Whatever sorted order of [a', b') comes of dk, the whole [a, b) of d is in order. -/
def Fin (a b : Nat) (d : Array Int) (a' b' : Nat) (dk : Array Int) : Prop := ∀ R, PermIn a' b' dk R → SortedIn ltInt a' b' R → PermIn a b d R ∧ SortedIn ltInt a b R
theorem Fin.perm {a b a' b' : Nat} {d dk d' : Array Int} (h : Fin a b d a' b' dk) (hp : PermIn a' b' dk d') : Fin a b d a' b' d' := fun R hR hs => h R (permIn_trans _ _ _ a' b' hp hR) hs
/-- What stands behind a call of pdqsort on [a, b). -/
def Done (w0 : World) (B : Nat) (rest : List Value) (a b : Nat) (d : Array Int) (w' : World) : Prop := ∃ d', Us.Row w0 B rest d' w' ∧ PermIn a b d d' ∧ SortedIn ltInt a b d'
section
variable {w0 w : World} {B n : Nat} {rest : List Value} {d : Array Int} {p : Addr}
theorem k_ins (S : Row w0 B rest d w) (hp : p = ⟨B, 0, none⟩) (hs : d.size = n) (cap a b : Nat) (hab : a ≤ b) (hb : b ≤ n) (hsz : n ≤ 1000000) :
    Calls Try.prog 47 #[.slice (some p) n cap, .int .i64 (a : Int), .int .i64 (b : Int)] w fun e w' => e = .returned (.tuple #[]) ∧ Done w0 B rest a b d w' := by
  subst hp hs
  have hS := insertionSort_holds (lt := ltInt) swo d a b hab hb
  exact (uinsertion S cap a b hab hb hsz).mono fun _ _ h => ⟨h.1, _, h.2, hS.1, hS.2⟩
theorem k_heap (S : Row w0 B rest d w) (hp : p = ⟨B, 0, none⟩) (hs : d.size = n) (cap a b : Nat) (hab : a < b) (hb : b ≤ n) (hsz : n ≤ 1000000) :
    Calls Try.prog 48 #[.slice (some p) n cap, .int .i64 (a : Int), .int .i64 (b : Int)] w fun e w' => e = .returned (.tuple #[]) ∧ Done w0 B rest a b d w' := by
  subst hp hs
  have hS := heapSort_holds (lt := ltInt) swo d a b (Nat.le_of_lt hab) hb
  exact (uheap S cap a b hab hb hsz).mono fun _ _ h => ⟨h.1, _, h.2, hS.1, hS.2⟩
theorem k_break (S : Row w0 B rest d w) (hp : p = ⟨B, 0, none⟩) (hs : d.size = n) (cap a b : Nat) (hab : a ≤ b) (hb : b ≤ n) (hsz : n ≤ 1000000) :
    Calls Try.prog 49 #[.slice (some p) n cap, .int .i64 (a : Int), .int .i64 (b : Int)] w fun e w' => e = .returned (.tuple #[]) ∧ ∃ d', Row w0 B rest d' w' ∧ PermIn a b d d' := by
  subst hp hs
  exact ubreak S cap a b hab hb hsz
theorem k_choose (S : Row w0 B rest d w) (hp : p = ⟨B, 0, none⟩) (hs : d.size = n) (cap a b : Nat) (hab : a < b) (hb : b ≤ n) (hsz : n ≤ 1000000) :
    Calls Try.prog 50 #[.slice (some p) n cap, .int .i64 (a : Int), .int .i64 (b : Int)] w fun e w' =>
      (∃ (m : Nat) (h : Int), e = .returned (.tuple #[.int .i64 (m : Int), .int .i64 h]) ∧ a ≤ m ∧ m < b ∧ (h = 0 ∨ h = 1 ∨ h = 2)) ∧ Row w0 B rest d w' := by
  subst hp hs
  exact uchoose S cap a b hab hb hsz
theorem k_rev (S : Row w0 B rest d w) (hp : p = ⟨B, 0, none⟩) (hs : d.size = n) (cap a b : Nat) (hab : a < b) (hb : b ≤ n) (hsz : n ≤ 1000000) :
    Calls Try.prog 51 #[.slice (some p) n cap, .int .i64 (a : Int), .int .i64 (b : Int)] w fun e w' => e = .returned (.tuple #[]) ∧ ∃ d', Row w0 B rest d' w' ∧ PermIn a b d d' := by
  subst hp hs
  exact (ureverse S cap a b hab hb hsz).mono fun _ _ h => ⟨h.1, _, h.2, reverseRange_holds d a b (Nat.le_of_lt hab) hb⟩
theorem k_partial (S : Row w0 B rest d w) (hp : p = ⟨B, 0, none⟩) (hs : d.size = n) (cap a b : Nat) (hab : a < b) (hb : b ≤ n) (hsz : n ≤ 1000000) (hB : Go.Sort.Below ltInt a b d) :
    Calls Try.prog 52 #[.slice (some p) n cap, .int .i64 (a : Int), .int .i64 (b : Int)] w fun e w' => ∃ v : Bool, e = .returned (.bool v) ∧ ∃ d', Row w0 B rest d' w' ∧ PermIn a b d d' ∧ (v = true → SortedIn ltInt a b d') := by
  subst hp hs
  have hS := partialInsertionSort_holds (lt := ltInt) swo d a b hab hb hB
  exact (upartial S cap a b hab hb hsz).mono fun _ _ ⟨⟨v, e, hv⟩, h⟩ => ⟨v, e, _, h, hS.1, fun hvt => hS.2 (hv.symm.trans hvt)⟩
theorem k_eq (S : Row w0 B rest d w) (hp : p = ⟨B, 0, none⟩) (hs : d.size = n) (cap a b pivot : Nat) (hap : a ≤ pivot) (hpb : pivot < b) (hb : b ≤ n) (hsz : n ≤ 1000000) (hB : Go.Sort.Below ltInt a b d)
    (ha0 : 0 < a) (hnl : ltInt d[a - 1]! d[pivot]! = false) {a0 b0 : Nat} {d0 : Array Int} (hF : Fin a0 b0 d0 a b d) :
    Calls Try.prog 54 #[.slice (some p) n cap, .int .i64 (a : Int), .int .i64 (b : Int), .int .i64 (pivot : Int)] w fun e w' => ∃ m : Nat, e = .returned (.int .i64 (m : Int)) ∧ a < m ∧ m ≤ b ∧
      ∃ d', d'.size = n ∧ Row w0 B rest d' w' ∧ Go.Sort.Below ltInt m b d' ∧ Fin a0 b0 d0 m b d' := by
  subst hp hs
  have hx : partitionEqual ltInt d a b pivot = ((partitionEqual ltInt d a b pivot).1, (partitionEqual ltInt d a b pivot).2) := rfl
  obtain ⟨r1, r2, r3, r4, r5⟩ := round_eq swo (partitionEqual_holds ltInt) ha0 hap hpb hb hB hnl hx
  exact (upartEq S cap a b pivot hap hpb hb hsz).mono fun _ _ ⟨⟨m, e, hm⟩, h⟩ => ⟨m, e, by rw [hm]; exact r1, by rw [hm]; exact r2, _, r3, h, by rw [hm]; exact r4, fun R hR hs => by
    rw [hm] at hR hs
    obtain ⟨q1, q2⟩ := r5 R hR hs
    exact hF R q1 q2⟩
theorem k_part (S : Row w0 B rest d w) (hp : p = ⟨B, 0, none⟩) (hs : d.size = n) (cap a b pivot : Nat) (hap : a ≤ pivot) (hpb : pivot < b) (hb : b ≤ n) (hsz : n ≤ 1000000) (hB : Go.Sort.Below ltInt a b d)
    {a0 b0 : Nat} {d0 : Array Int} (hF : Fin a0 b0 d0 a b d) :
    Calls Try.prog 55 #[.slice (some p) n cap, .int .i64 (a : Int), .int .i64 (b : Int), .int .i64 (pivot : Int)] w fun e w' => ∃ (m : Nat) (wp : Bool), e = .returned (.tuple #[.int .i64 (m : Int), .bool wp]) ∧ a ≤ m ∧ m < b ∧
      ∃ d', d'.size = n ∧ Row w0 B rest d' w' ∧ Go.Sort.Below ltInt a m d' ∧ Go.Sort.Below ltInt (m + 1) b d' ∧
        (∀ L, PermIn a m d' L → SortedIn ltInt a m L → Go.Sort.Below ltInt (m + 1) b L ∧ Fin a0 b0 d0 (m + 1) b L) ∧
        (∀ L, PermIn (m + 1) b d' L → SortedIn ltInt (m + 1) b L → Go.Sort.Below ltInt a m L ∧ Fin a0 b0 d0 a m L) := by
  subst hp hs
  have hx : Sort.partition ltInt d a b pivot = ((Sort.partition ltInt d a b pivot).1, (Sort.partition ltInt d a b pivot).2.1, (Sort.partition ltInt d a b pivot).2.2) := rfl
  obtain ⟨r1, r2, r3, r4, r5, r6, r7⟩ := round_part swo (partition_holds ltInt) hap hpb hb hB hx
  exact (upart S cap a b pivot hap hpb hb hsz).mono fun _ _ ⟨⟨m, wp, e, hm, _⟩, h⟩ => by
    rw [← hm] at r1 r2 r4 r5 r6 r7
    exact ⟨m, wp, e, r1, r2, _, r3, h, r4, r5, fun L hL hs => ⟨(r6 L hL hs).1, fun R hR hs2 => by
      obtain ⟨q1, q2⟩ := (r6 L hL hs).2 R hR hs2
      exact hF R q1 q2⟩, fun L hL hs => ⟨(r7 L hL hs).1, fun R hR hs2 => by
      obtain ⟨q1, q2⟩ := (r7 L hL hs).2 R hR hs2
      exact hF R q1 q2⟩⟩
end
end Us

set_option maxRecDepth 20000 in
set_option maxHeartbeats 8000000 in
theorem updq : ∀ (N : Nat) (w0 : World) (B : Nat) (rest : List Value) (d : Array Int) (w : World) (p : Addr) (n cap a b limit : Nat), b - a < N → Us.Row w0 B rest d w → p = ⟨B, 0, none⟩ → d.size = n → a ≤ b → b ≤ n → n ≤ 1000000 → limit ≤ 64 → Go.Sort.Below ltInt a b d →
    Calls Try.prog 45 #[.slice (some p) n cap, .int .i64 (a : Int), .int .i64 (b : Int), .int .i64 (limit : Int)] w fun e w' => e = .returned (.tuple #[]) ∧ Us.Done w0 B rest a b d w' := by
  intro N
  induction N with
  | zero => intro _ _ _ _ _ _ _ _ _ _ _ h; exact absurd h (Nat.not_lt_zero _)
  | succ N ih =>
    intro w0 B rest d w p n cap a b limit hN S hp hd hab hb hn hlimit hB0
    have IH := Lib.hid ih
    have HP := Lib.hid hp
    have HD := Lib.hid hd
    have S0 := Lib.hid S
    have HB0 := Lib.hid hB0
    have n9 : (n : Int) ≤ 1000000 := by omega
    clear ih hp S hB0 hd
    go_enter Try.func45, Try.ntmps45
    go_wp2_with fail
    go_loopg [1, 2, 3, 8, 9] (b - a) (fun k s1 s2 s3 s8 s9 wr => ∃ (a' b' lim : Nat) (wb wp : Bool) (dk : Array Int), s1 = .int .i64 a' ∧ s2 = .int .i64 b' ∧ s3 = .int .i64 lim ∧ s8 = .bool wb ∧ s9 = .bool wp ∧
      a' ≤ b' ∧ b' ≤ n ∧ b' - a' ≤ k ∧ k ≤ b - a ∧ lim ≤ 64 ∧ Hid (dk.size = n) ∧ Hid (Go.Sort.Below ltInt a' b' dk) ∧ Hid (Us.Row w0 B rest dk wr) ∧ Hid (Us.Fin a b d a' b' dk))
    case atStart => exact ⟨a, b, limit, true, true, d, rfl, rfl, rfl, rfl, rfl, hab, hb, Nat.le_refl _, Nat.le_refl _, hlimit, HD.out, HB0.out, S0.out, fun R h1 h2 => ⟨h1, h2⟩⟩
    case round =>
      clear S0 HB0
      obtain ⟨a', b', lim, wb, wp, dk, rfl, rfl, rfl, rfl, rfl, hab', hb', hk, hkN, hlim, HS, HB, SK, HF⟩ := hrel
      by_cases h12 : b' - a' ≤ 12
      · have h12z : (b' : Int) - (a' : Int) ≤ 12 := by omega
        have HC := Lib.hid (Us.k_ins SK.out HP.out HS.out cap a' b' hab' hb' hn)
        clear h12 SK
        go_wp2_with fail
        refine HC.out.mono ?_
        rintro e w1 ⟨rfl, hR⟩
        have HR := Lib.hid hR
        clear hR HC
        go_wp2_with fail
        refine bodyPost_ret (results_none rfl _ _ _) rfl ?_
        obtain ⟨d', hR, hP, hS⟩ := HR.out
        obtain ⟨q1, q2⟩ := HF.out d' hP hS
        exact ⟨rfl, d', hR, q1, q2⟩
      · have h12z : ¬ ((b' : Int) - (a' : Int) ≤ 12) := by omega
        have HLT : Hid (a' < b') := by show _ < _; omega
        by_cases hl0 : lim = 0
        · subst hl0
          have HC := Lib.hid (Us.k_heap SK.out HP.out HS.out cap a' b' HLT.out hb' hn)
          clear h12 SK
          go_wp2_with fail
          refine HC.out.mono ?_
          rintro e w1 ⟨rfl, hR⟩
          have HR := Lib.hid hR
          clear hR HC
          go_wp2_with fail
          refine bodyPost_ret (results_none rfl _ _ _) rfl ?_
          obtain ⟨d', hR, hP, hS⟩ := HR.out
          obtain ⟨q1, q2⟩ := HF.out d' hP hS
          exact ⟨rfl, d', hR, q1, q2⟩
        · have hl0z : ¬ ((lim : Int) = 0) := by omega
          go_upto_if 35 with fail
          go_cut [3] (fun s3 wc => ∃ (l1 : Nat) (d1 : Array Int), s3 = .int .i64 (l1 : Int) ∧ l1 ≤ 64 ∧ Hid (Us.Row w0 B rest d1 wc) ∧ Hid (PermIn a' b' dk d1))
          case first =>
            cases wb
            · have HC := Lib.hid (Us.k_break SK.out HP.out HS.out cap a' b' hab' hb' hn)
              have zl : (lim : Int) - 1 = ((lim - 1 : Nat) : Int) := by omega
              obtain ⟨l2, hl2⟩ : ∃ l2, l2 = lim - 1 := ⟨_, rfl⟩
              rw [← hl2] at zl
              have HL2 := Lib.hid hl2
              clear SK hl2
              go_wp2_with fail
              refine HC.out.mono ?_
              rintro e w1 ⟨rfl, hR⟩
              have HR := Lib.hid hR
              clear hR HC
              go_wp2_with fail
              go_meet
              case rel =>
                obtain ⟨d', hR, hPm⟩ := HR.out
                exact ⟨l2, d', rfl, by have := HL2.out; omega, hR, hPm⟩
            · go_wp2_with fail
              go_meet
              case rel => exact ⟨lim, dk, rfl, hlim, SK.out, permIn_refl dk a' b'⟩
          case rest =>
            obtain ⟨l1, d1, rfl, hl1, S1, HP1⟩ := hcut
            have HB1 := Lib.hid (HB.out.perm (by rw [HS.out]; exact hb') HP1.out)
            have HF1 := Lib.hid (HF.out.perm HP1.out)
            have HS1 := Lib.hid (HP1.out.1.trans HS.out)
            have HC := Lib.hid (Us.k_choose S1.out HP.out HS1.out cap a' b' HLT.out hb' hn)
            clear SK HS HB HF HP1 S1 hl0z hl0 hlim
            go_upto_if 50 with (go_at_call 50; refine HC.out.mono ?_; rintro e w2 ⟨⟨pv, hint, rfl, hpa, hpb, hh⟩, S2⟩)
            have HPV : Hid (a' ≤ pv ∧ pv < b') := ⟨hpa, hpb⟩
            have S2' := Lib.hid S2
            clear S2 HC hpa hpb
            go_cut [11, 12] (fun s11 s12 wc => ∃ (pw : Nat) (h2 : Int) (d2 : Array Int), s11 = .int .i64 (pw : Int) ∧ s12 = .int .i64 h2 ∧ a' ≤ pw ∧ pw < b' ∧ (h2 = 0 ∨ h2 = 1) ∧ Hid (Us.Row w0 B rest d2 wc) ∧ Hid (PermIn a' b' d1 d2))
            case first =>
              rcases hh with rfl | rfl | rfl
              · go_wp2_with fail
                go_meet
                case rel => exact ⟨pv, 0, d1, rfl, rfl, HPV.out.1, HPV.out.2, .inl rfl, S2'.out, permIn_refl d1 a' b'⟩
              · go_wp2_with fail
                go_meet
                case rel => exact ⟨pv, 1, d1, rfl, rfl, HPV.out.1, HPV.out.2, .inr rfl, S2'.out, permIn_refl d1 a' b'⟩
              · have HC := Lib.hid (Us.k_rev S2'.out HP.out HS1.out cap a' b' HLT.out hb' hn)
                obtain ⟨pw, hpw⟩ : ∃ pw, pw = (b' - 1) - (pv - a') := ⟨_, rfl⟩
                have zpw : (b' : Int) - 1 - ((pv : Int) - (a' : Int)) = (pw : Int) := by have := HPV.out; omega
                have HPW := Lib.hid hpw
                have pv9 : (pv : Int) < (b' : Int) := by have := HPV.out; omega
                have pv8 : (a' : Int) ≤ (pv : Int) := by have := HPV.out; omega
                clear hpw S2'
                go_wp2_with fail
                refine HC.out.mono ?_
                rintro e w1 ⟨rfl, hR⟩
                have HR := Lib.hid hR
                clear hR HC
                go_wp2_with fail
                go_meet
                case rel =>
                  obtain ⟨d', hR, hPm⟩ := HR.out
                  have := HPW.out
                  have := HPV.out
                  exact ⟨pw, 1, d', by first | rfl | (congr 1; omega), rfl, by omega, by omega, .inr rfl, hR, hPm⟩
            case rest =>
              obtain ⟨pw, h2, d2, rfl, rfl, hpa, hpb, hh2, S2, HP2⟩ := hcut
              have HB2 := Lib.hid (HB1.out.perm (by rw [HS1.out]; exact hb') HP2.out)
              have HF2 := Lib.hid (HF1.out.perm HP2.out)
              have HS2 := Lib.hid (HP2.out.1.trans HS1.out)
              have HPW : Hid (a' ≤ pw ∧ pw < b') := ⟨hpa, hpb⟩
              clear HS1 HB1 HF1 HP2 S2' HPV hh hpa hpb
              go_upto_region 15 with fail
              go_cut [12, 68] (fun s12 s68 wx => ∃ v : Bool, s12 = .int .i64 h2 ∧ s68 = .bool v ∧ wx = wc)
              case first =>
                rcases hh2 with rfl | rfl <;> cases wb <;> cases wp <;>
                  (go_wp2_with fail
                   go_meet
                   exact ⟨_, rfl, rfl, rfl⟩)
              case rest =>
                obtain ⟨v68, rfl, rfl, rfl⟩ := hcut
                clear hh2
                go_upto_if 68 with fail
                go_cut [] (fun wx => ∃ d3 : Array Int, Hid (Us.Row w0 B rest d3 wx) ∧ Hid (PermIn a' b' d2 d3))
                case first =>
                  cases v68
                  · go_wp2_with fail
                    go_meet
                    case rel => exact ⟨d2, S2.out, permIn_refl d2 a' b'⟩
                  · have HC := Lib.hid (Us.k_partial S2.out HP.out HS2.out cap a' b' HLT.out hb' hn HB2.out)
                    clear S2
                    go_wp2_with fail
                    refine HC.out.mono ?_
                    rintro e w1 ⟨v, rfl, hR⟩
                    have HR := Lib.hid hR
                    clear hR HC
                    cases v
                    · go_wp2_with fail
                      go_meet
                      case rel =>
                        obtain ⟨d', hR, hPm, _⟩ := HR.out
                        exact ⟨d', hR, hPm⟩
                    · go_wp2_with fail
                      refine bodyPost_ret (results_none rfl _ _ _) rfl ?_
                      obtain ⟨d', hR, hPm, hSd⟩ := HR.out
                      obtain ⟨q1, q2⟩ := HF2.out d' hPm (hSd trivial)
                      exact ⟨rfl, d', hR, q1, q2⟩
                case rest =>
                  obtain ⟨d3, S3, HP3⟩ := hcut
                  have HB3 := Lib.hid (HB2.out.perm (by rw [HS2.out]; exact hb') HP3.out)
                  have HF3 := Lib.hid (HF2.out.perm HP3.out)
                  have HS3 := Lib.hid (HP3.out.1.trans HS2.out)
                  clear HS2 HB2 HF2 HP3 S2
                  go_upto_region 17 with fail
                  go_cut [87] (fun s87 wx => ∃ v : Bool, s87 = .bool v ∧ Hid (v = true → 0 < a' ∧ ltInt d3[a' - 1]! d3[pw]! = false) ∧ Hid (Us.Row w0 B rest d3 wx))
                  case first =>
                    rcases Nat.eq_zero_or_pos a' with ha0 | ha0
                    · have g0 : decide ((0 : Int) < (a' : Int)) = false := decide_eq_false (by omega)
                      clear HF3
                      go_quiet (fail)
                      have S4 := Lib.hid (S3.out.drewN nq)
                      generalize wc.drewN nq = w5 at S4 ⊢
                      go_wp2_with fail
                      go_meet
                      exact ⟨false, rfl, ⟨fun h => absurd h (by decide), S4.out⟩⟩
                    · have g0 : decide ((0 : Int) < (a' : Int)) = true := decide_eq_true (by omega)
                      have g1 : (a' : Int) > 0 := by omega
                      have g2 : decide (0 < a') = true := decide_eq_true ha0
                      obtain ⟨q, hq⟩ : ∃ q, q = a' - 1 := ⟨_, rfl⟩
                      have zq : (a' : Int) - 1 = (q : Int) := by omega
                      have q1 : q < d3.size := by have := HPW.out; have := HS3.out; omega
                      have pw1 : pw < d3.size := by have := HPW.out; have := HS3.out; omega
                      have q2 : (q : Int) < (n : Int) := by have := HPW.out; have := HS3.out; omega
                      have pw2 : (pw : Int) < (n : Int) := by have := HPW.out; have := HS3.out; omega
                      have lc1 := S3.out.cell HP.out q1
                      have lc2 := S3.out.cell HP.out pw1
                      have hxy := uless d3[q]! d3[pw]!
                      generalize hv : ltInt d3[q]! d3[pw]! = v at hxy
                      have HV : Hid ((!v) = true → 0 < a' ∧ ltInt d3[a' - 1]! d3[pw]! = false) := fun h => ⟨ha0, by rw [← hq, hv]; simpa using h⟩
                      generalize d3[q]! = x at hxy lc1
                      generalize d3[pw]! = y at hxy lc2
                      have HXY : Hid (∀ W, Calls Try.prog 53 #[.int .u64 x, .int .u64 y] W fun e w' => e = .returned (.bool v) ∧ W = w') := hxy
                      clear hv hxy hq q1 pw1 ha0 HF3
                      go_quiet ((go_at_call 53; exact Calls.quiet_of_same ((HXY.out _).mono fun _ _ h => ⟨h.1, h.2.symm⟩)))
                      have S4 := Lib.hid (S3.out.drewN nq)
                      generalize wc.drewN nq = w5 at S4 ⊢
                      clear lc1 lc2
                      go_wp2_with fail
                      go_meet
                      exact ⟨!v, rfl, HV.out, S4.out⟩
                  case rest =>
                    obtain ⟨v87, rfl, HV, S4⟩ := hcut
                    clear S3
                    cases v87
                    · have HC := Lib.hid (Us.k_part S4.out HP.out HS3.out cap a' b' pw HPW.out.1 HPW.out.2 hb' hn HB3.out HF3.out)
                      clear S4 HV HB3 HF3
                      go_upto_if 113 with (go_at_call 55; refine HC.out.mono ?_; rintro e w7 ⟨mid, ap, rfl, hm1, hm2, hR⟩)
                      obtain ⟨d4, hS4, hR4, hBl, hBr, hFl, hFr⟩ := hR
                      have HX := Lib.hid (And.intro hR4 (And.intro hBl (And.intro hBr (And.intro hFl hFr))))
                      have HS4 := Lib.hid hS4
                      clear hR4 hBl hBr hFl hFr hS4 HC
                      by_cases h4 : mid - a' < b' - mid
                      · have h4z : (mid : Int) - (a' : Int) < (b' : Int) - (mid : Int) := by omega
                        have HC := Lib.hid (IH.out w0 B rest d4 w7 p n cap a' mid l1 (by omega) HX.out.1 HP.out HS4.out hm1 (by omega) hn hl1 HX.out.2.1)
                        clear h4
                        go_wp2_with fail
                        refine HC.out.mono ?_
                        rintro e w8 ⟨rfl, hR⟩
                        have HR := Lib.hid hR
                        clear hR HC
                        go_wp2_with fail
                        go_roundg (b' - (mid + 1))
                        case measure => omega
                        case rel =>
                          obtain ⟨L, hL1, hL2, hL3⟩ := HR.out
                          obtain ⟨q1, q2⟩ := HX.out.2.2.2.1 L hL2 hL3
                          refine ⟨mid + 1, b', l1, _, ap, L, by simp, rfl, rfl, rfl, rfl, by omega, by omega, Nat.le_refl _, by omega, hl1, hL2.1.trans HS4.out, q1, hL1, q2⟩
                      · have h4z : ¬ ((mid : Int) - (a' : Int) < (b' : Int) - (mid : Int)) := by omega
                        have zm1 : (mid : Int) + 1 = ((mid + 1 : Nat) : Int) := by omega
                        have HC := Lib.hid (IH.out w0 B rest d4 w7 p n cap (mid + 1) b' l1 (by omega) HX.out.1 HP.out HS4.out (by omega) hb' hn hl1 HX.out.2.2.1)
                        obtain ⟨m1, hm1'⟩ : ∃ m1, m1 = mid + 1 := ⟨_, rfl⟩
                        rw [← hm1'] at zm1 HC
                        have HM1 := Lib.hid hm1'
                        clear h4 hm1'
                        go_wp2_with fail
                        refine HC.out.mono ?_
                        rintro e w8 ⟨rfl, hR⟩
                        have HR := Lib.hid hR
                        clear hR HC
                        go_wp2_with fail
                        go_roundg (mid - a')
                        case measure => omega
                        case rel =>
                          have hR := HR.out
                          rw [HM1.out] at hR
                          obtain ⟨L, hL1, hL2, hL3⟩ := hR
                          obtain ⟨q1, q2⟩ := HX.out.2.2.2.2 L hL2 hL3
                          refine ⟨a', mid, l1, _, ap, L, rfl, rfl, rfl, rfl, rfl, hm1, by omega, Nat.le_refl _, by omega, hl1, hL2.1.trans HS4.out, q1, hL1, q2⟩
                    · obtain ⟨ha0, hnl⟩ := HV.out rfl
                      have HC := Lib.hid (Us.k_eq S4.out HP.out HS3.out cap a' b' pw HPW.out.1 HPW.out.2 hb' hn HB3.out ha0 hnl HF3.out)
                      clear S4 HV HB3 HF3 hnl
                      go_wp2_with fail
                      refine HC.out.mono ?_
                      rintro e w7 ⟨mid, rfl, hm1, hm2, hR⟩
                      have HR := Lib.hid hR
                      clear hR HC
                      go_wp2_with fail
                      go_roundg (b' - mid)
                      case measure => omega
                      case rel =>
                        obtain ⟨d4, hS4, hR4, hB4, hF4⟩ := HR.out
                        exact ⟨mid, b', l1, wb, wp, d4, rfl, rfl, rfl, rfl, rfl, hm2, hb', Nat.le_refl _, by omega, hl1, hS4, hB4, hR4, hF4⟩

/-- pdqsort sorts, however many numbers there are. -/
theorem updq_ok (n : Nat) (hn : n ≤ 1000000) : Us.PdqOk n := by
  intro w0 B rest d w cap limit S hd hlim
  obtain h := updq (d.size + 1) w0 B rest d w ⟨B, 0, none⟩ d.size cap 0 d.size limit (by omega) S rfl rfl (Nat.zero_le _) (Nat.le_refl _) (by omega) hlim (.inl rfl)
  exact h
end Go.Proofs.Ytfhengihdlojmaa
