/-
  The document's op, May, Input (layer 11).
-/
import Derived.Test.YtndgafjnifkghaaDoorChH
import Derived.Test.YtndgafjnifkghaaDoorCrD
namespace Go.Proofs.YtndgafjnifkghaaDoor
open Go.RowKit

namespace Ck
theorem regsOk_not (o : Cd.OpV) (n : Int) (h : o.k ≠ 12) : (!regsOk o n) = ((Cd.hD o.k && decide (n ≤ o.d)) || ((Cd.hA o.k && decide (n ≤ o.a)) || (Cd.hB o.k && decide (n ≤ o.b)))) := by
  have e : ∀ x : Int, decide (n ≤ x) = !decide (x < n) := fun x => by
    rw [Bool.eq_iff_iff]
    simp
  unfold regsOk
  rw [decide_eq_false h, e, e, e]
  cases Cd.hD o.k <;> cases Cd.hA o.k <;> cases Cd.hB o.k <;> simp
end Ck

set_option maxHeartbeats 3000000 in
set_option maxRecDepth 20000 in
theorem rOp11 (A : Option Addr) (c : Nat) (l : List Cd.Fm) (w : World) (hP : Ck.PrgP w A l) (m : Cd.Fm) (_hm : m.f.ops.length ≤ 64) (_hr : 0 ≤ m.f.regs ∧ m.f.regs ≤ 16) (o : Cd.OpV) (hok : o.ok = true) :
    Calls Tryd.prog 17 #[.agg #[.slice A l.length c], .agg #[.int .i64 m.f.args, .int .i64 m.f.regs, .slice m.A m.f.ops.length m.c], .agg #[.int .u8 (o.k : Int), .int .i64 o.d, .int .i64 o.a, .int .i64 o.b, .int .i64 o.n]] w
      fun e w' => e = .returned (.int .i64 (Ck.opE (Cd.fns l) m.f o : Int)) ∧ Below w.heap.size w w' := by
  have hK : 1 ≤ o.k ∧ o.k ≤ 14 := by
    have := hok
    rw [Cd.ok_parts4] at this
    simp only [Bool.and_eq_true] at this
    exact Cd.isK_iff.1 this.1.1
  obtain ⟨W0, hW0⟩ : ∃ W0, W0 = w.alloc (.cells #[.slice A l.length c] 24) := ⟨_, rfl⟩
  obtain ⟨W1, hW1⟩ : ∃ W1, W1 = W0.alloc (.cells #[.int .i64 m.f.args, .int .i64 m.f.regs, .slice m.A m.f.ops.length m.c] 41) := ⟨_, rfl⟩
  obtain ⟨W, hW⟩ : ∃ W, W = W1.alloc (.cells #[.int .u8 (o.k : Int), .int .i64 o.d, .int .i64 o.a, .int .i64 o.b, .int .i64 o.n] 44) := ⟨_, rfl⟩
  obtain ⟨hbx, hb, s0, s1, -⟩ := Ck.box3 hW0 hW1 hW
  have HB := Lib.hid hb
  have HPW := Lib.hid (hP.later hb)
  have hn16 := hP.n
  have HE : Hid (Ck.opE (Cd.fns l) m.f o = if Ck.regsOk o m.f.regs then (if Ck.tgtOk l.length m.f o then (if Ck.argOk (Cd.fns l) m.f o then 0 else 111) else 112) else 111) := by show _ = _; unfold Ck.opE; rw [Cd.fns_len]
  have HHAS := Lib.hid (rHas10 o.k (by omega) W)
  obtain ⟨-, hra, -⟩ := Cd.OpV.ok_reg hok
  rw [Cd.reg_iff] at hra
  have c0 := hbx.o.c0
  have c1 := hbx.o.c1
  have c2 := hbx.o.c2
  have c3 := hbx.o.c3
  have c4 := hbx.o.c4
  have f1 := hbx.f.c1
  have f2 := hbx.f.c2
  have p0 := hbx.p.c0
  clear hbx hb hP
  by_cases hk : o.k = 12
  · have hke : (o.k : Int) = 12 := by omega
    have hD : Cd.hD o.k = true := by rw [hk]; rfl
    have hB : Cd.hB o.k = false := by rw [hk]; rfl
    have HRG : Hid (Ck.regsOk o m.f.regs = decide (o.d < m.f.regs)) := by
      show _ = _
      unfold Ck.regsOk
      rw [hD, hB, decide_eq_true hk]
      simp
    have HTG : Hid (Ck.tgtOk l.length m.f o = Ck.inN o.n l.length) := by show _ = _; unfold Ck.tgtOk; rw [if_neg (by omega), if_pos hk]
    have HAG : Hid (Ck.argOk (Cd.fns l) m.f o = (decide (Ck.argN (Cd.fns l) o ≤ 0) || decide (o.a + Ck.argN (Cd.fns l) o ≤ m.f.regs))) := by show _ = _; unfold Ck.argOk; rw [if_pos hk]
    rw [hD, hB] at HHAS
    rw [hke] at HHAS c0 hW ⊢
    have HK : Hid (o.k = 12) := hk
    clear hk hke hD hB hK hok
    go_enter Tryd.func17, Tryd.ntmps17
    go_upto_region 1 with fail
    rw [← hW0, ← s0, ← hW1, s0]
    rw [show w.heap.size + 1 + 1 = W1.heap.size by omega, ← hW, s1]
    clear hW hW1 hW0 s0 s1
    go_wp2_with fail
    refine HHAS.out.mono ?_
    rintro e w1 ⟨rfl, rfl⟩
    by_cases hd : o.d < m.f.regs
    · have d1 : decide (m.f.regs ≤ o.d) = false := by simpa using (by omega : ¬ m.f.regs ≤ o.d)
      have HE1 : Hid (Ck.opE (Cd.fns l) m.f o = if Ck.tgtOk l.length m.f o then (if Ck.argOk (Cd.fns l) m.f o then 0 else 111) else 112) := by show _ = _; rw [HE.out, HRG.out, decide_eq_true hd]; rfl
      clear hd HE HRG
      by_cases h0 : o.n < 0
      · have n0 : decide (o.n < 0) = true := by simpa using h0
        have HE2 : Hid (Ck.opE (Cd.fns l) m.f o = 112) := by show _ = _; rw [HE1.out, HTG.out]; unfold Ck.inN; rw [decide_eq_false (by omega)]; rfl
        clear h0 HE1 HTG HAG
        go_wp2_with fail
        go_ret
        exact ⟨by rw [HE2.out]; rfl, HB.out⟩
      · have n0 : decide (o.n < 0) = false := by simpa using h0
        by_cases h1 : o.n < (l.length : Int)
        · have n1 : decide ((l.length : Int) ≤ o.n) = false := by simpa using (by omega : ¬ (l.length : Int) ≤ o.n)
          have HE2 : Hid (Ck.opE (Cd.fns l) m.f o = if Ck.argOk (Cd.fns l) m.f o then 0 else 111) := by show _ = _; rw [HE1.out, HTG.out]; unfold Ck.inN; rw [decide_eq_true (by omega), decide_eq_true h1]; rfl
          obtain ⟨q, hq⟩ := Int.eq_ofNat_of_zero_le (by omega : 0 ≤ o.n)
          have hql : q < l.length := by omega
          have hmem := List.getElem_mem hql
          obtain ⟨⟨y, ey, hy⟩, -⟩ := Cd.FnV.ok_parts (HPW.out.k _ hmem)
          have HAN : Hid (Ck.argN (Cd.fns l) o = (y : Int)) := by
            show _ = _
            unfold Ck.argN
            rw [hq, Int.toNat_natCast]
            unfold Cd.fns
            rw [List.getElem?_map, List.getElem?_eq_getElem hql]
            simp only [Option.map_some, Option.getD_some, ey]
          obtain ⟨ad, rfl, -, e0, -, -⟩ := Cd.fn_at HPW.out.p.fs hql
          rw [ey] at e0
          rw [hq] at c4 n0 n1
          have q0 : (0 : Int) ≤ (q : Int) := by omega
          have q1 : (q : Int) < (l.length : Int) := by omega
          have hs : IntKind.i64.wrap (o.a + (y : Int)) = o.a + (y : Int) := by rw [IntKind.wrap_i64]; omega
          have HE3 : Hid (Ck.opE (Cd.fns l) m.f o = if (decide ((y : Int) ≤ 0) || decide (o.a + (y : Int) ≤ m.f.regs)) then 0 else 111) := by show _ = _; rw [HE2.out, HAG.out, HAN.out]
          clear h0 h1 HE1 HE2 HTG HAG HAN hq hql hmem ey
          by_cases hy0 : (y : Int) ≤ 0
          · have y0 : decide ((0 : Int) < (y : Int)) = false := by simpa using (by omega : ¬ (0 : Int) < (y : Int))
            have y1 : decide (0 < y) = false := by simpa using (by omega : ¬ 0 < y)
            have HE4 : Hid (Ck.opE (Cd.fns l) m.f o = 0) := by show _ = _; rw [HE3.out, decide_eq_true hy0]; rfl
            obtain rfl : y = 0 := by omega
            clear hy0 HE3
            go_wp2_with fail
            go_ret
            exact ⟨by rw [HE4.out]; rfl, HB.out⟩
          · have y0 : decide ((0 : Int) < (y : Int)) = true := by simpa using (by omega : (0 : Int) < (y : Int))
            have y1 : decide (0 < y) = true := by simpa using (by omega : 0 < y)
            have y2 : (0 : Int) < (y : Int) := by omega
            by_cases hs2 : o.a + (y : Int) ≤ m.f.regs
            · have z0 : decide (m.f.regs < o.a + (y : Int)) = false := by simpa using (by omega : ¬ m.f.regs < o.a + (y : Int))
              have HE4 : Hid (Ck.opE (Cd.fns l) m.f o = 0) := by show _ = _; rw [HE3.out, decide_eq_true hs2, Bool.or_true]; rfl
              clear hy0 hs2 HE3
              go_wp2_with fail
              go_ret
              exact ⟨by rw [HE4.out]; rfl, HB.out⟩
            · have z0 : decide (m.f.regs < o.a + (y : Int)) = true := by simpa using (by omega : m.f.regs < o.a + (y : Int))
              have HE4 : Hid (Ck.opE (Cd.fns l) m.f o = 111) := by show _ = _; rw [HE3.out, decide_eq_false hs2, decide_eq_false hy0]; rfl
              clear hy0 hs2 HE3
              go_wp2_with fail
              go_ret
              exact ⟨by rw [HE4.out]; rfl, HB.out⟩
        · have n1 : decide ((l.length : Int) ≤ o.n) = true := by simpa using (by omega : (l.length : Int) ≤ o.n)
          have HE2 : Hid (Ck.opE (Cd.fns l) m.f o = 112) := by show _ = _; rw [HE1.out, HTG.out]; unfold Ck.inN; rw [decide_eq_false h1, Bool.and_false]; rfl
          clear h0 h1 HE1 HTG HAG
          go_wp2_with fail
          go_ret
          exact ⟨by rw [HE2.out]; rfl, HB.out⟩
    · have d1 : decide (m.f.regs ≤ o.d) = true := by simpa using (by omega : m.f.regs ≤ o.d)
      have HE1 : Hid (Ck.opE (Cd.fns l) m.f o = 111) := by show _ = _; rw [HE.out, HRG.out, decide_eq_false hd]; rfl
      clear hd HE HRG HTG HAG
      go_wp2_with fail
      go_ret
      exact ⟨by rw [HE1.out]; rfl, HB.out⟩
  · have e12 : ((o.k : Int) == 12) = false := by rw [beq_eq_false_iff_ne]; omega
    have n12 : ((o.k : Int) != 12) = true := by simpa using (by omega : ¬ (o.k : Int) = 12)
    have HAG : Hid (Ck.argOk (Cd.fns l) m.f o = true) := by show _ = _; unfold Ck.argOk; rw [if_neg hk]
    have HRG := Lib.hid (Ck.regsOk_not o m.f.regs hk)
    have HTG : Hid (Ck.tgtOk l.length m.f o = if o.k = 10 ∨ o.k = 11 then Ck.inN o.n m.f.ops.length else true) := by
      show _ = _
      unfold Ck.tgtOk
      by_cases h : o.k = 10 ∨ o.k = 11
      · rw [if_pos h, if_pos h]
      · rw [if_neg h, if_neg h, if_neg hk]
    obtain ⟨rBad, hrBad⟩ : ∃ rBad, rBad = !Ck.regsOk o m.f.regs := ⟨_, rfl⟩
    have HR2 : Hid (Ck.regsOk o m.f.regs = !rBad) := by show _ = _; rw [hrBad, Bool.not_not]
    rw [← hrBad] at HRG
    clear hrBad
    generalize Cd.hD o.k = pd at HHAS HRG
    generalize Cd.hA o.k = pa at HHAS HRG
    generalize Cd.hB o.k = pb at HHAS HRG
    clear hk
    go_enter Tryd.func17, Tryd.ntmps17
    go_upto_region 1 with fail
    rw [← hW0, ← s0, ← hW1, s0]
    rw [show w.heap.size + 1 + 1 = W1.heap.size by omega, ← hW, s1]
    clear hW hW1 hW0 s0 s1
    go_wp2_with fail
    refine HHAS.out.mono ?_
    rintro e w1 ⟨rfl, rfl⟩
    go_upto_region 4 with fail
    go_cut [50] (fun v wx => v = .bool rBad ∧ wx = W)
    case first =>
      cases pd with
      | false =>
        cases pa with
        | false =>
          cases pb with
          | false =>
            go_wp2_with fail
            go_meet
            exact ⟨by rw [HRG.out]; simp [*], rfl⟩
          | true =>
            by_cases hb : m.f.regs ≤ o.b
            · have bb : decide (m.f.regs ≤ o.b) = true := by simpa using hb
              go_wp2_with fail
              go_meet
              exact ⟨by rw [HRG.out]; simp [*], rfl⟩
            · have bb : decide (m.f.regs ≤ o.b) = false := by simpa using hb
              go_wp2_with fail
              go_meet
              exact ⟨by rw [HRG.out]; simp [*], rfl⟩
        | true =>
          by_cases ha : m.f.regs ≤ o.a
          · have ba : decide (m.f.regs ≤ o.a) = true := by simpa using ha
            go_wp2_with fail
            go_meet
            exact ⟨by rw [HRG.out]; simp [*], rfl⟩
          · have ba : decide (m.f.regs ≤ o.a) = false := by simpa using ha
            cases pb with
            | false =>
              go_wp2_with fail
              go_meet
              exact ⟨by rw [HRG.out]; simp [*], rfl⟩
            | true =>
              by_cases hb : m.f.regs ≤ o.b
              · have bb : decide (m.f.regs ≤ o.b) = true := by simpa using hb
                go_wp2_with fail
                go_meet
                exact ⟨by rw [HRG.out]; simp [*], rfl⟩
              · have bb : decide (m.f.regs ≤ o.b) = false := by simpa using hb
                go_wp2_with fail
                go_meet
                exact ⟨by rw [HRG.out]; simp [*], rfl⟩
      | true =>
        by_cases hd : m.f.regs ≤ o.d
        · have bd : decide (m.f.regs ≤ o.d) = true := by simpa using hd
          go_wp2_with fail
          go_meet
          exact ⟨by rw [HRG.out]; simp [*], rfl⟩
        · have bd : decide (m.f.regs ≤ o.d) = false := by simpa using hd
          cases pa with
          | false =>
            cases pb with
            | false =>
              go_wp2_with fail
              go_meet
              exact ⟨by rw [HRG.out]; simp [*], rfl⟩
            | true =>
              by_cases hb : m.f.regs ≤ o.b
              · have bb : decide (m.f.regs ≤ o.b) = true := by simpa using hb
                go_wp2_with fail
                go_meet
                exact ⟨by rw [HRG.out]; simp [*], rfl⟩
              · have bb : decide (m.f.regs ≤ o.b) = false := by simpa using hb
                go_wp2_with fail
                go_meet
                exact ⟨by rw [HRG.out]; simp [*], rfl⟩
          | true =>
            by_cases ha : m.f.regs ≤ o.a
            · have ba : decide (m.f.regs ≤ o.a) = true := by simpa using ha
              go_wp2_with fail
              go_meet
              exact ⟨by rw [HRG.out]; simp [*], rfl⟩
            · have ba : decide (m.f.regs ≤ o.a) = false := by simpa using ha
              cases pb with
              | false =>
                go_wp2_with fail
                go_meet
                exact ⟨by rw [HRG.out]; simp [*], rfl⟩
              | true =>
                by_cases hb : m.f.regs ≤ o.b
                · have bb : decide (m.f.regs ≤ o.b) = true := by simpa using hb
                  go_wp2_with fail
                  go_meet
                  exact ⟨by rw [HRG.out]; simp [*], rfl⟩
                · have bb : decide (m.f.regs ≤ o.b) = false := by simpa using hb
                  go_wp2_with fail
                  go_meet
                  exact ⟨by rw [HRG.out]; simp [*], rfl⟩
    case rest =>
      obtain ⟨rfl, rfl⟩ := hcut
      clear HRG
      cases rBad with
      | true =>
        have HE1 : Hid (Ck.opE (Cd.fns l) m.f o = 111) := by show _ = _; rw [HE.out, HR2.out]; rfl
        clear HE HR2 HTG HAG
        go_wp2_with fail
        go_ret
        exact ⟨by rw [HE1.out]; rfl, HB.out⟩
      | false =>
        have HE1 : Hid (Ck.opE (Cd.fns l) m.f o = if Ck.tgtOk l.length m.f o then 0 else 112) := by show _ = _; rw [HE.out, HR2.out, HAG.out]; rfl
        clear HE HR2 HAG
        by_cases h10 : o.k = 10 ∨ o.k = 11
        · have HT2 : Hid (Ck.tgtOk l.length m.f o = Ck.inN o.n m.f.ops.length) := HTG.out.trans (if_pos h10)
          have hor : (((o.k : Int) == 10) = true) ∨ (((o.k : Int) == 10) = false ∧ ((o.k : Int) == 11) = true) := by
            rcases h10 with h | h
            · exact .inl (by rw [beq_iff_eq]; omega)
            · exact .inr ⟨by rw [beq_eq_false_iff_ne]; omega, by rw [beq_iff_eq]; omega⟩
          clear HTG h10
          by_cases h0 : o.n < 0
          · have n0 : decide (o.n < 0) = true := by simpa using h0
            have HE2 : Hid (Ck.opE (Cd.fns l) m.f o = 112) := by show _ = _; rw [HE1.out, HT2.out]; unfold Ck.inN; rw [decide_eq_false (by omega)]; rfl
            clear h0 HE1 HT2
            rcases hor with k1 | ⟨k1, k2⟩
            all_goals
              go_wp2_with fail
              go_ret
              exact ⟨by rw [HE2.out]; rfl, HB.out⟩
          · have n0 : decide (o.n < 0) = false := by simpa using h0
            by_cases h1 : o.n < (m.f.ops.length : Int)
            · have n1 : decide ((m.f.ops.length : Int) ≤ o.n) = false := by simpa using (by omega : ¬ (m.f.ops.length : Int) ≤ o.n)
              have HE2 : Hid (Ck.opE (Cd.fns l) m.f o = 0) := by show _ = _; rw [HE1.out, HT2.out]; unfold Ck.inN; rw [decide_eq_true (by omega), decide_eq_true h1]; rfl
              clear h0 h1 HE1 HT2
              rcases hor with k1 | ⟨k1, k2⟩
              all_goals
                go_wp2_with fail
                go_ret
                exact ⟨by rw [HE2.out]; rfl, HB.out⟩
            · have n1 : decide ((m.f.ops.length : Int) ≤ o.n) = true := by simpa using (by omega : (m.f.ops.length : Int) ≤ o.n)
              have HE2 : Hid (Ck.opE (Cd.fns l) m.f o = 112) := by show _ = _; rw [HE1.out, HT2.out]; unfold Ck.inN; rw [decide_eq_false h1, Bool.and_false]; rfl
              clear h0 h1 HE1 HT2
              rcases hor with k1 | ⟨k1, k2⟩
              all_goals
                go_wp2_with fail
                go_ret
                exact ⟨by rw [HE2.out]; rfl, HB.out⟩
        · have HT2 : Hid (Ck.tgtOk l.length m.f o = true) := HTG.out.trans (if_neg h10)
          have k1 : ((o.k : Int) == 10) = false := by rw [beq_eq_false_iff_ne]; omega
          have k2 : ((o.k : Int) == 11) = false := by rw [beq_eq_false_iff_ne]; omega
          have HE2 : Hid (Ck.opE (Cd.fns l) m.f o = 0) := by show _ = _; rw [HE1.out, HT2.out]; rfl
          clear HTG h10 HE1 HT2
          go_wp2_with fail
          go_ret
          exact ⟨by rw [HE2.out]; rfl, HB.out⟩
end Go.Proofs.YtndgafjnifkghaaDoor
