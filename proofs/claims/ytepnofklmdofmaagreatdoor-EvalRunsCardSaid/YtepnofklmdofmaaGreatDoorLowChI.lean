/-
  The document's op, May, Input (layer 11).
  The document's May, Input (layer 11).
  The document's Input (layer 11).
-/
import Derived.Test.YtepnofklmdofmaaGreatDoorLowChF
import Derived.Test.YtepnofklmdofmaaGreatDoorLowCr
section
namespace Go.Proofs.YtepnofklmdofmaaGreatDoor
open Go.RowKit

namespace Ck
theorem regsOk_not (o : Cd.OpV) (n : Int) (h : o.k ≠ 12) : (!regsOk o n) = ((Cd.hD o.k && decide (n ≤ o.d)) || ((Cd.hA o.k && decide (n ≤ o.a)) || (Cd.hB o.k && decide (n ≤ o.b)))) := by
  have e : ∀ x : Int, decide (n ≤ x) = !decide (x < n) := fun x => by
    rw [Bool.eq_iff_iff]
    simp
  unfold regsOk
  rw [decide_eq_false h, e, e, e]
  cases Cd.hD o.k <;> cases Cd.hA o.k <;> cases Cd.hB o.k <;> simp
end Ck

set_option maxHeartbeats 3000000 in
set_option maxRecDepth 20000 in
theorem rOp11 (A : Option Addr) (c : Nat) (l : List Cd.Fm) (w : World) (hP : Ck.PrgP w A l) (m : Cd.Fm) (_hm : m.f.ops.length ≤ 64) (_hr : 0 ≤ m.f.regs ∧ m.f.regs ≤ 16) (o : Cd.OpV) (hok : o.ok = true) :
    Calls Tryz.prog 86 #[.agg #[.slice A l.length c], .agg #[.int .i64 m.f.args, .int .i64 m.f.regs, .slice m.A m.f.ops.length m.c], .agg #[.int .u8 (o.k : Int), .int .i64 o.d, .int .i64 o.a, .int .i64 o.b, .int .i64 o.n]] w
      fun e w' => e = .returned (.int .i64 (Ck.opE (Cd.fns l) m.f o : Int)) ∧ Below w.heap.size w w' := by
  have hK : 1 ≤ o.k ∧ o.k ≤ 14 := by
    have := hok
    rw [Cd.ok_parts4] at this
    simp only [Bool.and_eq_true] at this
    exact Cd.isK_iff.1 this.1.1
  obtain ⟨W0, hW0⟩ : ∃ W0, W0 = w.alloc (.cells #[.slice A l.length c] 24) := ⟨_, rfl⟩
  obtain ⟨W1, hW1⟩ : ∃ W1, W1 = W0.alloc (.cells #[.int .i64 m.f.args, .int .i64 m.f.regs, .slice m.A m.f.ops.length m.c] 107) := ⟨_, rfl⟩
  obtain ⟨W, hW⟩ : ∃ W, W = W1.alloc (.cells #[.int .u8 (o.k : Int), .int .i64 o.d, .int .i64 o.a, .int .i64 o.b, .int .i64 o.n] 72) := ⟨_, rfl⟩
  obtain ⟨hbx, hb, s0, s1, -⟩ := Ck.box3 hW0 hW1 hW
  have HB := Lib.hid hb
  have HPW := Lib.hid (hP.later hb)
  have hn16 := hP.n
  have HE : Hid (Ck.opE (Cd.fns l) m.f o = if Ck.regsOk o m.f.regs then (if Ck.tgtOk l.length m.f o then (if Ck.argOk (Cd.fns l) m.f o then 0 else 111) else 112) else 111) := by show _ = _; unfold Ck.opE; rw [Cd.fns_len]
  have HHAS := Lib.hid (rHas10 o.k (by omega) W)
  obtain ⟨-, hra, -⟩ := Cd.OpV.ok_reg hok
  rw [Cd.reg_iff] at hra
  have c0 := hbx.o.c0
  have c1 := hbx.o.c1
  have c2 := hbx.o.c2
  have c3 := hbx.o.c3
  have c4 := hbx.o.c4
  have f1 := hbx.f.c1
  have f2 := hbx.f.c2
  have p0 := hbx.p.c0
  clear hbx hb hP
  by_cases hk : o.k = 12
  · have hke : (o.k : Int) = 12 := by omega
    have hD : Cd.hD o.k = true := by rw [hk]; rfl
    have hB : Cd.hB o.k = false := by rw [hk]; rfl
    have HRG : Hid (Ck.regsOk o m.f.regs = decide (o.d < m.f.regs)) := by
      show _ = _
      unfold Ck.regsOk
      rw [hD, hB, decide_eq_true hk]
      simp
    have HTG : Hid (Ck.tgtOk l.length m.f o = Ck.inN o.n l.length) := by show _ = _; unfold Ck.tgtOk; rw [if_neg (by omega), if_pos hk]
    have HAG : Hid (Ck.argOk (Cd.fns l) m.f o = (decide (Ck.argN (Cd.fns l) o ≤ 0) || decide (o.a + Ck.argN (Cd.fns l) o ≤ m.f.regs))) := by show _ = _; unfold Ck.argOk; rw [if_pos hk]
    rw [hD, hB] at HHAS
    rw [hke] at HHAS c0 hW ⊢
    have HK : Hid (o.k = 12) := hk
    clear hk hke hD hB hK hok
    go_enter Tryz.func86, Tryz.ntmps86
    go_upto_region 1 with fail
    rw [← hW0, ← s0, ← hW1, s0]
    rw [show w.heap.size + 1 + 1 = W1.heap.size by omega, ← hW, s1]
    clear hW hW1 hW0 s0 s1
    go_wp2_with fail
    refine HHAS.out.mono ?_
    rintro e w1 ⟨rfl, rfl⟩
    by_cases hd : o.d < m.f.regs
    · have d1 : decide (m.f.regs ≤ o.d) = false := by simpa using (by omega : ¬ m.f.regs ≤ o.d)
      have HE1 : Hid (Ck.opE (Cd.fns l) m.f o = if Ck.tgtOk l.length m.f o then (if Ck.argOk (Cd.fns l) m.f o then 0 else 111) else 112) := by show _ = _; rw [HE.out, HRG.out, decide_eq_true hd]; rfl
      clear hd HE HRG
      by_cases h0 : o.n < 0
      · have n0 : decide (o.n < 0) = true := by simpa using h0
        have HE2 : Hid (Ck.opE (Cd.fns l) m.f o = 112) := by show _ = _; rw [HE1.out, HTG.out]; unfold Ck.inN; rw [decide_eq_false (by omega)]; rfl
        clear h0 HE1 HTG HAG
        go_wp2_with fail
        go_ret
        exact ⟨by rw [HE2.out]; rfl, HB.out⟩
      · have n0 : decide (o.n < 0) = false := by simpa using h0
        by_cases h1 : o.n < (l.length : Int)
        · have n1 : decide ((l.length : Int) ≤ o.n) = false := by simpa using (by omega : ¬ (l.length : Int) ≤ o.n)
          have HE2 : Hid (Ck.opE (Cd.fns l) m.f o = if Ck.argOk (Cd.fns l) m.f o then 0 else 111) := by show _ = _; rw [HE1.out, HTG.out]; unfold Ck.inN; rw [decide_eq_true (by omega), decide_eq_true h1]; rfl
          obtain ⟨q, hq⟩ := Int.eq_ofNat_of_zero_le (by omega : 0 ≤ o.n)
          have hql : q < l.length := by omega
          have hmem := List.getElem_mem hql
          obtain ⟨⟨y, ey, hy⟩, -⟩ := Cd.FnV.ok_parts (HPW.out.k _ hmem)
          have HAN : Hid (Ck.argN (Cd.fns l) o = (y : Int)) := by
            show _ = _
            unfold Ck.argN
            rw [hq, Int.toNat_natCast]
            unfold Cd.fns
            rw [List.getElem?_map, List.getElem?_eq_getElem hql]
            simp only [Option.map_some, Option.getD_some, ey]
          obtain ⟨ad, rfl, -, e0, -, -⟩ := Cd.fn_at HPW.out.p.fs hql
          rw [ey] at e0
          rw [hq] at c4 n0 n1
          have q0 : (0 : Int) ≤ (q : Int) := by omega
          have q1 : (q : Int) < (l.length : Int) := by omega
          have hs : IntKind.i64.wrap (o.a + (y : Int)) = o.a + (y : Int) := by rw [IntKind.wrap_i64]; omega
          have HE3 : Hid (Ck.opE (Cd.fns l) m.f o = if (decide ((y : Int) ≤ 0) || decide (o.a + (y : Int) ≤ m.f.regs)) then 0 else 111) := by show _ = _; rw [HE2.out, HAG.out, HAN.out]
          clear h0 h1 HE1 HE2 HTG HAG HAN hq hql hmem ey
          by_cases hy0 : (y : Int) ≤ 0
          · have y0 : decide ((0 : Int) < (y : Int)) = false := by simpa using (by omega : ¬ (0 : Int) < (y : Int))
            have y1 : decide (0 < y) = false := by simpa using (by omega : ¬ 0 < y)
            have HE4 : Hid (Ck.opE (Cd.fns l) m.f o = 0) := by show _ = _; rw [HE3.out, decide_eq_true hy0]; rfl
            obtain rfl : y = 0 := by omega
            clear hy0 HE3
            go_wp2_with fail
            go_ret
            exact ⟨by rw [HE4.out]; rfl, HB.out⟩
          · have y0 : decide ((0 : Int) < (y : Int)) = true := by simpa using (by omega : (0 : Int) < (y : Int))
            have y1 : decide (0 < y) = true := by simpa using (by omega : 0 < y)
            have y2 : (0 : Int) < (y : Int) := by omega
            by_cases hs2 : o.a + (y : Int) ≤ m.f.regs
            · have z0 : decide (m.f.regs < o.a + (y : Int)) = false := by simpa using (by omega : ¬ m.f.regs < o.a + (y : Int))
              have HE4 : Hid (Ck.opE (Cd.fns l) m.f o = 0) := by show _ = _; rw [HE3.out, decide_eq_true hs2, Bool.or_true]; rfl
              clear hy0 hs2 HE3
              go_wp2_with fail
              go_ret
              exact ⟨by rw [HE4.out]; rfl, HB.out⟩
            · have z0 : decide (m.f.regs < o.a + (y : Int)) = true := by simpa using (by omega : m.f.regs < o.a + (y : Int))
              have HE4 : Hid (Ck.opE (Cd.fns l) m.f o = 111) := by show _ = _; rw [HE3.out, decide_eq_false hs2, decide_eq_false hy0]; rfl
              clear hy0 hs2 HE3
              go_wp2_with fail
              go_ret
              exact ⟨by rw [HE4.out]; rfl, HB.out⟩
        · have n1 : decide ((l.length : Int) ≤ o.n) = true := by simpa using (by omega : (l.length : Int) ≤ o.n)
          have HE2 : Hid (Ck.opE (Cd.fns l) m.f o = 112) := by show _ = _; rw [HE1.out, HTG.out]; unfold Ck.inN; rw [decide_eq_false h1, Bool.and_false]; rfl
          clear h0 h1 HE1 HTG HAG
          go_wp2_with fail
          go_ret
          exact ⟨by rw [HE2.out]; rfl, HB.out⟩
    · have d1 : decide (m.f.regs ≤ o.d) = true := by simpa using (by omega : m.f.regs ≤ o.d)
      have HE1 : Hid (Ck.opE (Cd.fns l) m.f o = 111) := by show _ = _; rw [HE.out, HRG.out, decide_eq_false hd]; rfl
      clear hd HE HRG HTG HAG
      go_wp2_with fail
      go_ret
      exact ⟨by rw [HE1.out]; rfl, HB.out⟩
  · have e12 : ((o.k : Int) == 12) = false := by rw [beq_eq_false_iff_ne]; omega
    have n12 : ((o.k : Int) != 12) = true := by simpa using (by omega : ¬ (o.k : Int) = 12)
    have HAG : Hid (Ck.argOk (Cd.fns l) m.f o = true) := by show _ = _; unfold Ck.argOk; rw [if_neg hk]
    have HRG := Lib.hid (Ck.regsOk_not o m.f.regs hk)
    have HTG : Hid (Ck.tgtOk l.length m.f o = if o.k = 10 ∨ o.k = 11 then Ck.inN o.n m.f.ops.length else true) := by
      show _ = _
      unfold Ck.tgtOk
      by_cases h : o.k = 10 ∨ o.k = 11
      · rw [if_pos h, if_pos h]
      · rw [if_neg h, if_neg h, if_neg hk]
    obtain ⟨rBad, hrBad⟩ : ∃ rBad, rBad = !Ck.regsOk o m.f.regs := ⟨_, rfl⟩
    have HR2 : Hid (Ck.regsOk o m.f.regs = !rBad) := by show _ = _; rw [hrBad, Bool.not_not]
    rw [← hrBad] at HRG
    clear hrBad
    generalize Cd.hD o.k = pd at HHAS HRG
    generalize Cd.hA o.k = pa at HHAS HRG
    generalize Cd.hB o.k = pb at HHAS HRG
    clear hk
    go_enter Tryz.func86, Tryz.ntmps86
    go_upto_region 1 with fail
    rw [← hW0, ← s0, ← hW1, s0]
    rw [show w.heap.size + 1 + 1 = W1.heap.size by omega, ← hW, s1]
    clear hW hW1 hW0 s0 s1
    go_wp2_with fail
    refine HHAS.out.mono ?_
    rintro e w1 ⟨rfl, rfl⟩
    go_upto_region 4 with fail
    go_cut [50] (fun v wx => v = .bool rBad ∧ wx = W)
    case first =>
      cases pd with
      | false =>
        cases pa with
        | false =>
          cases pb with
          | false =>
            go_wp2_with fail
            go_meet
            exact ⟨by rw [HRG.out]; simp [*], rfl⟩
          | true =>
            by_cases hb : m.f.regs ≤ o.b
            · have bb : decide (m.f.regs ≤ o.b) = true := by simpa using hb
              go_wp2_with fail
              go_meet
              exact ⟨by rw [HRG.out]; simp [*], rfl⟩
            · have bb : decide (m.f.regs ≤ o.b) = false := by simpa using hb
              go_wp2_with fail
              go_meet
              exact ⟨by rw [HRG.out]; simp [*], rfl⟩
        | true =>
          by_cases ha : m.f.regs ≤ o.a
          · have ba : decide (m.f.regs ≤ o.a) = true := by simpa using ha
            go_wp2_with fail
            go_meet
            exact ⟨by rw [HRG.out]; simp [*], rfl⟩
          · have ba : decide (m.f.regs ≤ o.a) = false := by simpa using ha
            cases pb with
            | false =>
              go_wp2_with fail
              go_meet
              exact ⟨by rw [HRG.out]; simp [*], rfl⟩
            | true =>
              by_cases hb : m.f.regs ≤ o.b
              · have bb : decide (m.f.regs ≤ o.b) = true := by simpa using hb
                go_wp2_with fail
                go_meet
                exact ⟨by rw [HRG.out]; simp [*], rfl⟩
              · have bb : decide (m.f.regs ≤ o.b) = false := by simpa using hb
                go_wp2_with fail
                go_meet
                exact ⟨by rw [HRG.out]; simp [*], rfl⟩
      | true =>
        by_cases hd : m.f.regs ≤ o.d
        · have bd : decide (m.f.regs ≤ o.d) = true := by simpa using hd
          go_wp2_with fail
          go_meet
          exact ⟨by rw [HRG.out]; simp [*], rfl⟩
        · have bd : decide (m.f.regs ≤ o.d) = false := by simpa using hd
          cases pa with
          | false =>
            cases pb with
            | false =>
              go_wp2_with fail
              go_meet
              exact ⟨by rw [HRG.out]; simp [*], rfl⟩
            | true =>
              by_cases hb : m.f.regs ≤ o.b
              · have bb : decide (m.f.regs ≤ o.b) = true := by simpa using hb
                go_wp2_with fail
                go_meet
                exact ⟨by rw [HRG.out]; simp [*], rfl⟩
              · have bb : decide (m.f.regs ≤ o.b) = false := by simpa using hb
                go_wp2_with fail
                go_meet
                exact ⟨by rw [HRG.out]; simp [*], rfl⟩
          | true =>
            by_cases ha : m.f.regs ≤ o.a
            · have ba : decide (m.f.regs ≤ o.a) = true := by simpa using ha
              go_wp2_with fail
              go_meet
              exact ⟨by rw [HRG.out]; simp [*], rfl⟩
            · have ba : decide (m.f.regs ≤ o.a) = false := by simpa using ha
              cases pb with
              | false =>
                go_wp2_with fail
                go_meet
                exact ⟨by rw [HRG.out]; simp [*], rfl⟩
              | true =>
                by_cases hb : m.f.regs ≤ o.b
                · have bb : decide (m.f.regs ≤ o.b) = true := by simpa using hb
                  go_wp2_with fail
                  go_meet
                  exact ⟨by rw [HRG.out]; simp [*], rfl⟩
                · have bb : decide (m.f.regs ≤ o.b) = false := by simpa using hb
                  go_wp2_with fail
                  go_meet
                  exact ⟨by rw [HRG.out]; simp [*], rfl⟩
    case rest =>
      obtain ⟨rfl, rfl⟩ := hcut
      clear HRG
      cases rBad with
      | true =>
        have HE1 : Hid (Ck.opE (Cd.fns l) m.f o = 111) := by show _ = _; rw [HE.out, HR2.out]; rfl
        clear HE HR2 HTG HAG
        go_wp2_with fail
        go_ret
        exact ⟨by rw [HE1.out]; rfl, HB.out⟩
      | false =>
        have HE1 : Hid (Ck.opE (Cd.fns l) m.f o = if Ck.tgtOk l.length m.f o then 0 else 112) := by show _ = _; rw [HE.out, HR2.out, HAG.out]; rfl
        clear HE HR2 HAG
        by_cases h10 : o.k = 10 ∨ o.k = 11
        · have HT2 : Hid (Ck.tgtOk l.length m.f o = Ck.inN o.n m.f.ops.length) := HTG.out.trans (if_pos h10)
          have hor : (((o.k : Int) == 10) = true) ∨ (((o.k : Int) == 10) = false ∧ ((o.k : Int) == 11) = true) := by
            rcases h10 with h | h
            · exact .inl (by rw [beq_iff_eq]; omega)
            · exact .inr ⟨by rw [beq_eq_false_iff_ne]; omega, by rw [beq_iff_eq]; omega⟩
          clear HTG h10
          by_cases h0 : o.n < 0
          · have n0 : decide (o.n < 0) = true := by simpa using h0
            have HE2 : Hid (Ck.opE (Cd.fns l) m.f o = 112) := by show _ = _; rw [HE1.out, HT2.out]; unfold Ck.inN; rw [decide_eq_false (by omega)]; rfl
            clear h0 HE1 HT2
            rcases hor with k1 | ⟨k1, k2⟩
            all_goals
              go_wp2_with fail
              go_ret
              exact ⟨by rw [HE2.out]; rfl, HB.out⟩
          · have n0 : decide (o.n < 0) = false := by simpa using h0
            by_cases h1 : o.n < (m.f.ops.length : Int)
            · have n1 : decide ((m.f.ops.length : Int) ≤ o.n) = false := by simpa using (by omega : ¬ (m.f.ops.length : Int) ≤ o.n)
              have HE2 : Hid (Ck.opE (Cd.fns l) m.f o = 0) := by show _ = _; rw [HE1.out, HT2.out]; unfold Ck.inN; rw [decide_eq_true (by omega), decide_eq_true h1]; rfl
              clear h0 h1 HE1 HT2
              rcases hor with k1 | ⟨k1, k2⟩
              all_goals
                go_wp2_with fail
                go_ret
                exact ⟨by rw [HE2.out]; rfl, HB.out⟩
            · have n1 : decide ((m.f.ops.length : Int) ≤ o.n) = true := by simpa using (by omega : (m.f.ops.length : Int) ≤ o.n)
              have HE2 : Hid (Ck.opE (Cd.fns l) m.f o = 112) := by show _ = _; rw [HE1.out, HT2.out]; unfold Ck.inN; rw [decide_eq_false h1, Bool.and_false]; rfl
              clear h0 h1 HE1 HT2
              rcases hor with k1 | ⟨k1, k2⟩
              all_goals
                go_wp2_with fail
                go_ret
                exact ⟨by rw [HE2.out]; rfl, HB.out⟩
        · have HT2 : Hid (Ck.tgtOk l.length m.f o = true) := HTG.out.trans (if_neg h10)
          have k1 : ((o.k : Int) == 10) = false := by rw [beq_eq_false_iff_ne]; omega
          have k2 : ((o.k : Int) == 11) = false := by rw [beq_eq_false_iff_ne]; omega
          have HE2 : Hid (Ck.opE (Cd.fns l) m.f o = 0) := by show _ = _; rw [HE1.out, HT2.out]; rfl
          clear HTG h10 HE1 HT2
          go_wp2_with fail
          go_ret
          exact ⟨by rw [HE2.out]; rfl, HB.out⟩
end Go.Proofs.YtepnofklmdofmaaGreatDoor
end

section
namespace Go.Proofs.YtepnofklmdofmaaGreatDoor
open Go.RowKit

namespace Ck
theorem cell_keep {w U : World} {a : Addr} {v : Value} (h : w.cell? a = some v) (hb : Below w.heap.size w U) : U.cell? a = some v := by
  by_cases hlt : a.block < w.heap.size
  · exact (World.cell?_of_block (hb.block _ hlt)).trans h
  · have hn : w.heap[a.block]? = none := Array.getElem?_eq_none (by omega)
    simp [World.cell?, hn] at h
theorem fnE_args {p : List Cd.FnV} {f : Cd.FnV} (h : f.regs < f.args) : fnE p f = (110, 0) := by unfold fnE; rw [if_pos h]
theorem fnE_op {p : List Cd.FnV} {f : Cd.FnV} (h : ¬ f.regs < f.args) {k : Nat} (hj : ∀ i (hi : i < f.ops.length), i < k → opE p f f.ops[i] = 0) (hk : k < f.ops.length) (he : opE p f f.ops[k] ≠ 0) : fnE p f = (opE p f f.ops[k], k) := by
  have := opsE_at (j := 0) hj hk he
  rw [Nat.zero_add] at this
  unfold fnE
  rw [if_neg h, this, if_neg he]
theorem fnE_end {p : List Cd.FnV} {f : Cd.FnV} (h : ¬ f.regs < f.args) (hj : ∀ i (hi : i < f.ops.length), opE p f f.ops[i] = 0) : fnE p f = endE f := by
  unfold fnE
  rw [if_neg h, opsE_no hj, if_pos rfl]
theorem chk_fn {l : List Cd.Fm} {k : Nat} (hk : k < l.length) (hp : Cd.pok (Cd.fns l) = true) (hj : ∀ j (hj : j < l.length), j < k → (fnE (Cd.fns l) l[j].f).1 = 0) {e op : Nat} (he : fnE (Cd.fns l) l[k].f = (e, op)) (h0 : e ≠ 0) : chk (Cd.fns l) = (e, k, op) := by
  obtain ⟨hkl, ek⟩ := fns_at hk
  have h1 : (fnE (Cd.fns l) (Cd.fns l)[k]).1 ≠ 0 := by rw [ek, he]; exact h0
  have := fnsE_at (p := Cd.fns l) (l := Cd.fns l) (k := k) (j := 0) (fun j hj' hjk => by
    have hj2 : j < l.length := by rwa [Cd.fns_len] at hj'
    obtain ⟨_, ej⟩ := fns_at hj2
    rw [ej]
    exact hj j hj2 hjk) hkl h1
  rw [chk_go hp (fun e0 => by rw [e0] at hkl; simp at hkl), this, ek, he, Nat.zero_add]
theorem chk_all {l : List Cd.Fm} (h0 : l.length ≠ 0) (hp : Cd.pok (Cd.fns l) = true) (hj : ∀ j (hj : j < l.length), (fnE (Cd.fns l) l[j].f).1 = 0) : chk (Cd.fns l) = (0, 0, 0) := by
  rw [chk_go hp (fun e0 => h0 (by rw [← Cd.fns_len l, e0]; rfl))]
  exact fnsE_no (fun j hj' => by
    have hj2 : j < l.length := by rwa [Cd.fns_len] at hj'
    obtain ⟨_, ej⟩ := fns_at hj2
    rw [ej]
    exact hj j hj2)
theorem endE_none {f : Cd.FnV} (h : f.ops.length = 0) : endE f = (113, 0) := by unfold endE; rw [List.eq_nil_of_length_eq_zero h]; rfl
theorem endE_some {f : Cd.FnV} (h : f.ops.length - 1 < f.ops.length) : endE f = if ends f.ops[f.ops.length - 1].k then (0, 0) else (113, f.ops.length - 1) := by
  unfold endE
  rw [List.getLast?_eq_getElem?, List.getElem?_eq_getElem h]
end Ck

set_option maxHeartbeats 3000000 in
set_option maxRecDepth 20000 in
theorem rMay11 (A : Option Addr) (c : Nat) (l : List Cd.Fm) (w : World) (hR : ∀ m ∈ l, m.f.Rng) (hn : l.length ≤ maxLen) (hP : Cd.Prog w w.heap.size A l) :
    Calls Tryz.prog 56 #[.agg #[.slice A l.length c]] w fun e w' => e = .returned (.tuple #[.int .i64 ((Ck.chk (Cd.fns l)).1 : Int), .int .i64 ((Ck.chk (Cd.fns l)).2.1 : Int), .int .i64 ((Ck.chk (Cd.fns l)).2.2 : Int)]) ∧ Below w.heap.size w w' := by
  obtain ⟨W, hW⟩ : ∃ W, W = w.alloc (.cells #[.slice A l.length c] 24) := ⟨_, rfl⟩
  have hb : Below w.heap.size w W := by rw [hW]; exact Cd.fn1 _ _ _
  have hX : Cd.PBlk W w.heap.size (.slice A l.length c) := by show W.heap[_]? = _; rw [hW]; exact heap_alloc_new w _
  have HB := Lib.hid hb
  have HX := Lib.hid hX
  have p0 := hX.c0
  have hPW := (hP.below hb).mono hb.size
  have HM := Lib.hid (rMay10 l hR hn A c W hPW)
  have HOK : Hid (Cd.pok (Cd.fns l) = true → Ck.PrgP W A l) := fun h => by
    rw [Cd.pok_iff, Bool.and_eq_true, decide_eq_true_eq, List.all_eq_true] at h
    exact ⟨hPW, hR, h.1, h.2⟩
  have HCB : Hid (Cd.pok (Cd.fns l) = false → Ck.chk (Cd.fns l) = (8, 0, 0)) := fun h => Ck.chk_bad h
  have HCN : Hid (Cd.pok (Cd.fns l) = true → l.length = 0 → Ck.chk (Cd.fns l) = (110, 0, 0)) := fun h h0 => Ck.chk_none h (by unfold Cd.fns; rw [List.eq_nil_of_length_eq_zero h0]; rfl)
  have HCA : Hid (Cd.pok (Cd.fns l) = true → l.length ≠ 0 → (∀ j (hj : j < l.length), (Ck.fnE (Cd.fns l) l[j].f).1 = 0) → Ck.chk (Cd.fns l) = (0, 0, 0)) := fun h h0 h1 => Ck.chk_all h0 h h1
  have HCF : Hid (Cd.pok (Cd.fns l) = true → ∀ k (hk : k < l.length), (∀ j (hj : j < l.length), j < k → (Ck.fnE (Cd.fns l) l[j].f).1 = 0) → ∀ e op, Ck.fnE (Cd.fns l) l[k].f = (e, op) → e ≠ 0 → Ck.chk (Cd.fns l) = (e, k, op)) := fun h k hk hj e op he h0 => Ck.chk_fn hk h hj he h0
  generalize Ck.chk (Cd.fns l) = r at HCB HCN HCA HCF ⊢
  obtain ⟨r0, r1, r2⟩ := r
  simp only [Prod.mk.injEq] at HCB HCN HCA HCF
  dsimp only
  generalize Cd.pok (Cd.fns l) = q at HM HOK HCB HCN HCA HCF
  unfold maxLen at hn
  clear hb hX hP hPW hR
  go_enter Tryz.func56, Tryz.ntmps56
  go_upto_region 1 with fail
  rw [← hW]
  clear hW
  obtain ⟨X, hXe⟩ : ∃ X, X = w.heap.size := ⟨_, rfl⟩
  rw [← hXe] at HX p0 ⊢
  clear hXe
  go_wp2_with fail
  refine HM.out.mono ?_
  rintro e w1 ⟨rfl, hb1⟩
  have H1 := Lib.hid hb1
  have p0 := (HX.out.of_block (hb1.block _ HX.out.lt)).c0
  clear hb1 HM
  cases q with
  | false =>
    obtain ⟨rfl, rfl, rfl⟩ := HCB.out rfl
    clear HOK HCB HCN HCA HCF
    go_wp2_with fail
    go_ret3
    exact ⟨rfl, HB.out.trans (H1.out.mono HB.out.size)⟩
  | true =>
    by_cases h0 : l.length = 0
    · obtain ⟨rfl, rfl, rfl⟩ := HCN.out rfl h0
      have e0 : ((l.length : Int) == 0) = true := by rw [beq_iff_eq]; omega
      clear HOK HCB HCN HCA HCF h0
      go_wp2_with fail
      go_ret3
      exact ⟨rfl, HB.out.trans (H1.out.mono HB.out.size)⟩
    · have HALL := Lib.hid (HCA.out rfl h0)
      have HFN := Lib.hid (HCF.out rfl)
      have e0 : ((l.length : Int) == 0) = false := by rw [beq_eq_false_iff_ne]; omega
      have HP := Lib.hid (HOK.out rfl)
      clear HOK HCB HCN HCA HCF h0
      go_wp2_with fail
      clear p0
      go_loopw [5] (fun s5 wr => ∃ k : Nat, k ≤ l.length ∧ s5 = .int .i64 k ∧ Hid (∀ j (hj : j < l.length), j < k → (Ck.fnE (Cd.fns l) l[j].f).1 = 0) ∧ Hid (Below W.heap.size W wr)) (fun s5 _ => l.length - (intOf s5).toNat)
      case atStart => exact ⟨0, Nat.zero_le _, rfl, (show Hid _ from fun j _ h => by omega), H1.out⟩
      case round =>
        obtain ⟨k, hk, rfl, HK, HBW⟩ := hrel
        have HXr := Lib.hid (HX.out.of_block (HBW.out.block _ HX.out.lt))
        have p0 := HXr.out.c0
        by_cases hlt : k < l.length
        · have k0 : (0 : Int) ≤ (k : Int) := by omega
          have k1 : (k : Int) < (l.length : Int) := by omega
          have HPR := Lib.hid (HP.out.later HBW.out)
          have HFK : Hid (∀ e op, Ck.fnE (Cd.fns l) l[k].f = (e, op) → e ≠ 0 → r0 = e ∧ r1 = k ∧ r2 = op) := HFN.out k hlt HK.out
          have HK2 : Hid ((Ck.fnE (Cd.fns l) l[k].f).1 = 0 → ∀ j (hj : j < l.length), j < k + 1 → (Ck.fnE (Cd.fns l) l[j].f).1 = 0) := fun h j hj hjk => by
            rcases Nat.lt_succ_iff_lt_or_eq.1 hjk with h1 | rfl
            · exact HK.out j hj h1
            · exact h
          have hmem := List.getElem_mem hlt
          have HLI := Lib.hid (HPR.out.p.os _ hmem)
          obtain ⟨-, hrg, h64, hops⟩ := Cd.FnV.ok_parts (HPR.out.k _ hmem)
          obtain ⟨ad, rfl, -, d0, d1, d2⟩ := Cd.fn_at HPR.out.p.fs hlt
          generalize l[k] = m at d0 d1 d2 HLI hrg hops h64 HFK HK2
          clear hmem
          obtain ⟨g, AO, mc⟩ := m
          dsimp only at d0 d1 d2 HLI hrg hops h64 HFK HK2
          have HOPS := Lib.hid hops
          have hr16 : 0 ≤ g.regs ∧ g.regs ≤ 16 := by obtain ⟨y, hy, hy2⟩ := hrg; omega
          obtain ⟨V, hV⟩ : ∃ V, V = wr.alloc (.cells #[.int .i64 g.args, .int .i64 g.regs, .slice AO g.ops.length mc] 107) := ⟨_, rfl⟩
          have hbV : Below wr.heap.size wr V := by rw [hV]; exact Cd.fn1 _ _ _
          have HFB : Hid (Cd.FB V wr.heap.size g.args g.regs (.slice AO g.ops.length mc)) := by show V.heap[_]? = _; rw [hV]; exact heap_alloc_new wr _
          have HBV := Lib.hid (HBW.out.trans (hbV.mono HBW.out.size))
          have HXV := Lib.hid (HXr.out.of_block (hbV.block _ HXr.out.lt))
          have HPV := Lib.hid (HPR.out.later hbV)
          have HLV := Lib.hid ((HLI.out.below hbV).mono hbV.size)
          clear hops hrg hbV HLI HPR HBW HK hlt
          go_upto_region 9 with fail
          rw [← hV]
          clear hV p0 d0 d1 d2 HXr
          generalize wr.heap.size = F at HFB ⊢
          have f0 := HFB.out.c0
          have f1 := HFB.out.c1
          by_cases hra : g.regs < g.args
          · obtain ⟨rfl, rfl, rfl⟩ := HFK.out 110 0 (Ck.fnE_args hra) (by omega)
            have hd : decide (g.regs < g.args) = true := by simpa using hra
            clear HFK HK2
            go_wp2_with fail
            go_ret3
            exact ⟨rfl, HB.out.trans (HBV.out.mono HB.out.size)⟩
          · have hd : decide (g.regs < g.args) = false := by simpa using hra
            have HOPE : Hid (∀ j, (∀ i (hi : i < g.ops.length), i < j → Ck.opE (Cd.fns l) g g.ops[i] = 0) → ∀ (hj : j < g.ops.length), Ck.opE (Cd.fns l) g g.ops[j] ≠ 0 → r0 = Ck.opE (Cd.fns l) g g.ops[j] ∧ r1 = k ∧ r2 = j) := fun j hi hj he => HFK.out _ _ (Ck.fnE_op hra hi hj he) he
            have HEND : Hid ((∀ i (hi : i < g.ops.length), Ck.opE (Cd.fns l) g g.ops[i] = 0) → Ck.fnE (Cd.fns l) g = Ck.endE g) := fun hi => Ck.fnE_end hra hi
            go_wp2_with fail
            clear f0 f1
            go_loopw [7] (fun s7 wr => ∃ j : Nat, j ≤ g.ops.length ∧ s7 = .int .i64 j ∧ Hid (∀ i (hi : i < g.ops.length), i < j → Ck.opE (Cd.fns l) g g.ops[i] = 0) ∧ Hid (Below V.heap.size V wr)) (fun s7 _ => g.ops.length - (intOf s7).toNat)
            case atStart => exact ⟨0, Nat.zero_le _, rfl, (show Hid _ from fun j _ h => by omega), Below.refl _ _⟩
            case round =>
              obtain ⟨j, hj, rfl, HJ, HBQ⟩ := hrel
              have HXq := Lib.hid (HXV.out.of_block (HBQ.out.block _ HXV.out.lt))
              have HFq := Lib.hid (HFB.out.of_block (HBQ.out.block _ HFB.out.lt))
              have HLq := Lib.hid (HLV.out.below HBQ.out)
              have f2 := HFq.out.c2
              by_cases hlj : j < g.ops.length
              · have j0 : (0 : Int) ≤ (j : Int) := by omega
                have j1 : (j : Int) < (g.ops.length : Int) := by omega
                have p0 := HXq.out.c0
                have f0 := HFq.out.c0
                have f1 := HFq.out.c1
                have HPq := Lib.hid (HPV.out.later HBQ.out)
                have HJ2 : Hid (Ck.opE (Cd.fns l) g g.ops[j] = 0 → ∀ i (hi : i < g.ops.length), i < j + 1 → Ck.opE (Cd.fns l) g g.ops[i] = 0) := fun h i hi hij => by
                  rcases Nat.lt_succ_iff_lt_or_eq.1 hij with h1 | rfl
                  · exact HJ.out i hi h1
                  · exact h
                have HJ3 : Hid (Ck.opE (Cd.fns l) g g.ops[j] ≠ 0 → r0 = Ck.opE (Cd.fns l) g g.ops[j] ∧ r1 = k ∧ r2 = j) := HOPE.out j HJ.out hlj
                obtain ⟨ado, rfl, -, c0, c1, c2, c3, c4⟩ := Cd.op_at HLq.out hlj
                have HWO : Hid (∀ {U : World}, Below wr.heap.size wr U → Calls Tryz.prog 86 #[.agg #[.slice (some ad) l.length c], .agg #[.int .i64 g.args, .int .i64 g.regs, .slice (some ado) g.ops.length mc], .agg #[.int .u8 (g.ops[j].k : Int), .int .i64 g.ops[j].d, .int .i64 g.ops[j].a, .int .i64 g.ops[j].b, .int .i64 g.ops[j].n]] U
                  fun e w' => e = .returned (.int .i64 (Ck.opE (Cd.fns l) g g.ops[j] : Int)) ∧ Below wr.heap.size wr w') := fun {U} hU => by
                  refine (rOp11 (some ad) c l U (HPq.out.later hU) (⟨g, some ado, mc⟩ : Cd.Fm) h64 hr16 g.ops[j] (HOPS.out _ (List.getElem_mem hlj))).mono ?_
                  rintro e w' ⟨he, hb⟩
                  exact ⟨he, hU.trans (hb.mono hU.size)⟩
                generalize Ck.opE (Cd.fns l) g g.ops[j] = e at HWO HJ2 HJ3
                generalize g.ops[j] = o at c0 c1 c2 c3 c4 HWO
                have HKEEP : Hid (∀ {U : World}, Below wr.heap.size wr U → U.cell? ⟨X, 0, none⟩ = some (.slice (some ad) l.length c) ∧ U.cell? ⟨F, 0, none⟩ = some (.int .i64 g.args) ∧ U.cell? ⟨F, 1, none⟩ = some (.int .i64 g.regs) ∧ U.cell? ⟨F, 2, none⟩ = some (.slice (some ado) g.ops.length mc) ∧
                  U.cell? (ado.add (j * 5)) = some (.int .u8 (o.k : Int)) ∧ U.cell? ⟨(ado.add (j * 5)).block, (ado.add (j * 5)).off + 1, none⟩ = some (.int .i64 o.d) ∧ U.cell? ⟨(ado.add (j * 5)).block, (ado.add (j * 5)).off + 2, none⟩ = some (.int .i64 o.a) ∧ U.cell? ⟨(ado.add (j * 5)).block, (ado.add (j * 5)).off + 3, none⟩ = some (.int .i64 o.b) ∧ U.cell? ⟨(ado.add (j * 5)).block, (ado.add (j * 5)).off + 4, none⟩ = some (.int .i64 o.n) ∧ Below wr.heap.size wr U) := fun {U} hU =>
                  ⟨Ck.cell_keep p0 hU, Ck.cell_keep f0 hU, Ck.cell_keep f1 hU, Ck.cell_keep f2 hU, Ck.cell_keep c0 hU, Ck.cell_keep c1 hU, Ck.cell_keep c2 hU, Ck.cell_keep c3 hU, Ck.cell_keep c4 hU, hU⟩
                have bb := (Below.refl wr.heap.size wr).drew
                have hks := HKEEP.out (Below.refl _ _)
                clear hlj
                go_wp2_with fail
                clear p0 f0 f1 f2 c0 c1 c2 c3 c4
                go_region_held3 (fun wx => wx.cell? ⟨X, 0, none⟩ = some (.slice (some ad) l.length c) ∧ wx.cell? ⟨F, 0, none⟩ = some (.int .i64 g.args) ∧ wx.cell? ⟨F, 1, none⟩ = some (.int .i64 g.regs) ∧ wx.cell? ⟨F, 2, none⟩ = some (.slice (some ado) g.ops.length mc) ∧ wx.cell? (ado.add (j * 5)) = some (.int .u8 (o.k : Int)) ∧ wx.cell? ⟨(ado.add (j * 5)).block, (ado.add (j * 5)).off + 1, none⟩ = some (.int .i64 o.d) ∧ wx.cell? ⟨(ado.add (j * 5)).block, (ado.add (j * 5)).off + 2, none⟩ = some (.int .i64 o.a) ∧ wx.cell? ⟨(ado.add (j * 5)).block, (ado.add (j * 5)).off + 3, none⟩ = some (.int .i64 o.b) ∧ wx.cell? ⟨(ado.add (j * 5)).block, (ado.add (j * 5)).off + 4, none⟩ = some (.int .i64 o.n) ∧ Below wr.heap.size wr wx)
                  (first | with_reducible assumption | with_reducible exact HKEEP.out (by with_reducible assumption))
                  (with_reducible refine (HWO.out (by with_reducible assumption)).mono ?_; rintro e y1 ⟨rfl, hy1⟩)
                simp only [Exit.then]
                go_at_K
                have H3 := Lib.hid (HBQ.out.trans (hy1.mono HBQ.out.size))
                clear hks bb hy1 HKEEP HWO
                by_cases he : e = 0
                · have HJ4 := Lib.hid (HJ2.out he)
                  have hei : ((e : Int) != 0) = false := by simpa using (by omega : (e : Int) = 0)
                  subst he
                  clear HJ2 HJ3
                  go_wp2_with fail
                  go_roundw
                  case rel => exact ⟨j + 1, by omega, by go_num, HJ4.out, H3.out⟩
                  case measure => simp [intOf]; omega
                · obtain ⟨rfl, rfl, rfl⟩ := HJ3.out he
                  have hei : ((r0 : Int) != 0) = true := by simpa using (by omega : ¬ (r0 : Int) = 0)
                  clear HJ2 HJ3 he
                  go_wp2_with fail
                  go_ret3
                  exact ⟨rfl, HB.out.trans ((HBV.out.trans (H3.out.mono HBV.out.size)).mono HB.out.size)⟩
              · have j1 : ¬ (j : Int) < (g.ops.length : Int) := by omega
                have HE := Lib.hid (HEND.out (fun i hi => HJ.out i hi (by omega)))
                have HBR := Lib.hid (HBV.out.trans (HBQ.out.mono HBV.out.size))
                clear hlj
                by_cases hz : g.ops.length = 0
                · obtain ⟨rfl, rfl, rfl⟩ := HFK.out 113 0 (by rw [HE.out, Ck.endE_none hz]) (by omega)
                  have hzb : ((g.ops.length : Int) == 0) = true := by rw [beq_iff_eq]; omega
                  clear hz HE HFK HK2 HOPE HEND
                  go_wp2_with fail
                  go_ret3
                  exact ⟨rfl, HB.out.trans (HBR.out.mono HB.out.size)⟩
                · have hzb : ((g.ops.length : Int) == 0) = false := by rw [beq_eq_false_iff_ne]; omega
                  obtain ⟨N, hN⟩ : ∃ N, N = g.ops.length - 1 := ⟨_, rfl⟩
                  have hNl : N < g.ops.length := by omega
                  have HE2 : Hid (Ck.fnE (Cd.fns l) g = if Ck.ends g.ops[N].k then (0, 0) else (113, N)) := by
                    show _ = _
                    subst hN
                    rw [HE.out, Ck.endE_some hNl]
                  have hsub : IntKind.i64.wrap ((g.ops.length : Int) - 1) = (N : Int) := by rw [IntKind.wrap_i64]; omega
                  have n0 : (0 : Int) ≤ (N : Int) := by omega
                  have n1 : (N : Int) < (g.ops.length : Int) := by omega
                  obtain ⟨ado, rfl, -, c0, -, -, -, -⟩ := Cd.op_at HLq.out hNl
                  generalize g.ops[N].k = kk at c0 HE2
                  clear hz HE HOPE HEND hN hNl
                  by_cases hk10 : kk = 10
                  · subst hk10
                    have HZ := Lib.hid (HK2.out (by rw [HE2.out]; rfl))
                    clear HE2 HFK HK2
                    go_wp2_with fail
                    go_roundw
                    case rel => exact ⟨k + 1, by omega, by go_num, HZ.out, HBR.out⟩
                    case measure => simp [intOf]; omega
                  · by_cases hk14 : kk = 14
                    · subst hk14
                      have HZ := Lib.hid (HK2.out (by rw [HE2.out]; rfl))
                      clear HE2 HFK HK2
                      go_wp2_with fail
                      go_roundw
                      case rel => exact ⟨k + 1, by omega, by go_num, HZ.out, HBR.out⟩
                      case measure => simp [intOf]; omega
                    · obtain ⟨rfl, rfl, rfl⟩ := HFK.out 113 N (by rw [HE2.out]; unfold Ck.ends; rw [decide_eq_false hk10, decide_eq_false hk14]; rfl) (by omega)
                      have e1 : ((kk : Int) != 10) = true := by simpa using (by omega : ¬ (kk : Int) = 10)
                      have e2 : ((kk : Int) != 14) = true := by simpa using (by omega : ¬ (kk : Int) = 14)
                      clear HE2 HFK HK2 hk10 hk14
                      go_wp2_with fail
                      go_ret3
                      exact ⟨rfl, HB.out.trans (HBR.out.mono HB.out.size)⟩
        · have k1 : ¬ (k : Int) < (l.length : Int) := by omega
          obtain ⟨rfl, rfl, rfl⟩ := HALL.out (fun j hj => HK.out j hj (by omega))
          clear hlt HK HFN HALL
          go_wp2_with fail
          go_ret3
          exact ⟨rfl, HB.out.trans (HBW.out.mono HB.out.size)⟩
end Go.Proofs.YtepnofklmdofmaaGreatDoor
end

section
namespace Go.Proofs.YtepnofklmdofmaaGreatDoor
open Go.RowKit

set_option maxHeartbeats 1000000 in
set_option maxRecDepth 20000 in
theorem rInput11 (A : Option Addr) (c : Nat) (l : List Cd.Fm) (w : World) (hR : ∀ m ∈ l, m.f.Rng) (hn : l.length ≤ maxLen) (hP : Cd.Prog w w.heap.size A l) (A2 : Option Addr) (n c2 : Nat) (_hn2 : n ≤ maxLen) :
    Calls Tryz.prog 37 #[.agg #[.slice A l.length c], .slice A2 n c2] w fun e w' => e = .returned (.int .i64 (Ck.inp (Cd.fns l) n : Int)) ∧ Below w.heap.size w w' := by
  unfold maxLen at _hn2
  obtain ⟨W, hW⟩ : ∃ W, W = w.alloc (.cells #[.slice A l.length c] 24) := ⟨_, rfl⟩
  have hb : Below w.heap.size w W := by rw [hW]; exact Cd.fn1 _ _ _
  have hX : Cd.PBlk W w.heap.size (.slice A l.length c) := by show W.heap[_]? = _; rw [hW]; exact heap_alloc_new w _
  have HB := Lib.hid hb
  have HX := Lib.hid hX
  have p0 := hX.c0
  have HP := Lib.hid ((hP.below hb).mono hb.size)
  have HC := Lib.hid (rMay11 A c l W hR hn HP.out)
  have HIN : Hid (Ck.inp (Cd.fns l) n = if (Ck.chk (Cd.fns l)).1 = 0 then (if ((Cd.fns l)[0]?.getD default).args = (n : Int) then 0 else 114) else (Ck.chk (Cd.fns l)).1) := rfl
  have HPS : Hid ((Ck.chk (Cd.fns l)).1 = 0 → 0 < l.length) := fun h => by rw [← Cd.fns_len l]; exact (Ck.chk_some h).1
  generalize Ck.inp (Cd.fns l) n = r at HIN ⊢
  generalize Ck.chk (Cd.fns l) = x at HC HIN HPS
  obtain ⟨e, i, k⟩ := x
  dsimp only at HC HIN HPS
  clear hb hX hP hR hn
  go_enter Tryz.func37, Tryz.ntmps37
  go_upto_region 1 with fail
  rw [← hW]
  clear hW
  obtain ⟨X, hXe⟩ : ∃ X, X = w.heap.size := ⟨_, rfl⟩
  rw [← hXe] at HX p0 ⊢
  clear hXe
  go_wp2_with fail
  refine HC.out.mono ?_
  rintro e2 w2 ⟨rfl, hb2⟩
  have H2 := Lib.hid hb2
  have p0 := (HX.out.of_block (hb2.block _ HX.out.lt)).c0
  clear hb2 HC
  by_cases he : e = 0
  · subst he
    have hl0 := HPS.out rfl
    have HR2 : Hid (r = if ((Cd.fns l)[0]?.getD default).args = (n : Int) then 0 else 114) := HIN.out.trans (if_pos rfl)
    obtain ⟨ad, rfl, -, d0, -, -⟩ := Cd.fn_at ((HP.out.below H2.out).mono H2.out.size).fs hl0
    have ea : ((Cd.fns l)[0]?.getD default).args = l[0].f.args := by unfold Cd.fns; rw [List.getElem?_map, List.getElem?_eq_getElem hl0]; rfl
    have i1 : (0 : Int) < (l.length : Int) := by omega
    have HR3 : Hid (r = if l[0].f.args = (n : Int) then 0 else 114) := by have := HR2.out; rwa [ea] at this
    have d0' : w2.cell? ad = some (.int .i64 l[0].f.args) := d0
    generalize l[0].f.args = a at d0 d0' HR3
    clear HR2 ea HIN HPS hl0
    by_cases ha : a = (n : Int)
    · have HE : Hid (r = 0) := HR3.out.trans (if_pos ha)
      have hab : ((n : Int) != a) = false := by simp; omega
      clear ha HR3
      go_wp2_with fail
      go_ret
      exact ⟨by rw [HE.out]; rfl, HB.out.trans (H2.out.mono HB.out.size)⟩
    · have HE : Hid (r = 114) := HR3.out.trans (if_neg ha)
      have hab : ((n : Int) != a) = true := by simp; omega
      clear ha HR3
      go_wp2_with fail
      go_ret
      exact ⟨by rw [HE.out]; rfl, HB.out.trans (H2.out.mono HB.out.size)⟩
  · have HE : Hid (r = e) := HIN.out.trans (if_neg he)
    have hei : ((e : Int) == 0) = false := by rw [beq_eq_false_iff_ne]; omega
    clear he HIN HPS
    go_wp2_with fail
    go_ret
    exact ⟨by rw [HE.out]; rfl, HB.out.trans (H2.out.mono HB.out.size)⟩
end Go.Proofs.YtepnofklmdofmaaGreatDoor
end
