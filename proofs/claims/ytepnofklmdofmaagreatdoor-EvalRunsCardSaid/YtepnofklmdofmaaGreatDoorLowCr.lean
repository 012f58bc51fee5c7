/-
  The document's Has, reg, op (layer 10): what a kind of op has; a register; an op's form.
  The document's op (layer 10): has an op its form?
  The document's May (layer 10).
-/
import Derived.Test.YtepnofklmdofmaaGreatDoorCrA
import Derived.Test.YtepnofklmdofmaaGreatDoorLowCdF
section
namespace Go.Proofs.YtepnofklmdofmaaGreatDoor
open Go.RowKit

theorem results_tmp4 {fn : Func} {t u v x : Tmp} (h : fn.results = #[.tmp t, .tmp u, .tmp v, .tmp x]) (tmps : Array Value) (P : Program) (w : World) :
    (results fn tmps).run P w = .ok (.tuple #[tmps.getD t undef, tmps.getD u undef, tmps.getD v undef, tmps.getD x undef]) w := by
  simp [results, h]

set_option maxHeartbeats 1000000 in
set_option maxRecDepth 20000 in
theorem rHas10 (k : Nat) (hk : k < 256) (w : World) : Calls Tryz.prog 106 #[.int .u8 (k : Int)] w fun e w' => e = .returned (.tuple #[.bool (Cd.hD k), .bool (Cd.hA k), .bool (Cd.hB k), .bool (Cd.hN k)]) ∧ w = w' := by
  by_cases h : k < 15
  · have : k = 0 ∨ k = 1 ∨ k = 2 ∨ k = 3 ∨ k = 4 ∨ k = 5 ∨ k = 6 ∨ k = 7 ∨ k = 8 ∨ k = 9 ∨ k = 10 ∨ k = 11 ∨ k = 12 ∨ k = 13 ∨ k = 14 := by omega
    clear h hk
    rcases this with rfl | rfl | rfl | rfl | rfl | rfl | rfl | rfl | rfl | rfl | rfl | rfl | rfl | rfl | rfl
    all_goals
      go_enter Tryz.func106, Tryz.ntmps106
      go_wp2_with fail
      refine bodyPost_ret (results_tmp4 rfl _ _ _) rfl ?_
      exact ⟨rfl, rfl⟩
  · have h1 : decide ((1 : Int) ≤ (k : Int)) = true := by simpa using (by omega : (1 : Int) ≤ (k : Int))
    have h2 : decide ((k : Int) ≤ 9) = false := by simpa using (by omega : ¬ (k : Int) ≤ 9)
    have h3 : decide ((2 : Int) ≤ (k : Int)) = true := by simpa using (by omega : (2 : Int) ≤ (k : Int))
    have h4 : decide ((3 : Int) ≤ (k : Int)) = true := by simpa using (by omega : (3 : Int) ≤ (k : Int))
    have e1 : ((k : Int) == 1) = false := by simpa using (by omega : ¬ (k : Int) = 1)
    have e2 : ((k : Int) == 10) = false := by simpa using (by omega : ¬ (k : Int) = 10)
    have e3 : ((k : Int) == 11) = false := by simpa using (by omega : ¬ (k : Int) = 11)
    have e4 : ((k : Int) == 12) = false := by simpa using (by omega : ¬ (k : Int) = 12)
    have e5 : ((k : Int) == 14) = false := by simpa using (by omega : ¬ (k : Int) = 14)
    have p1 : Cd.hD k = false := by unfold Cd.hD; simp; omega
    have p2 : Cd.hA k = false := by unfold Cd.hA; simp; omega
    have p3 : Cd.hB k = false := by unfold Cd.hB; simp; omega
    have p4 : Cd.hN k = false := by unfold Cd.hN; simp; omega
    rw [p1, p2, p3, p4]
    clear p1 p2 p3 p4 h
    go_enter Tryz.func106, Tryz.ntmps106
    go_wp2_with fail
    refine bodyPost_ret (results_tmp4 rfl _ _ _) rfl ?_
    exact ⟨rfl, rfl⟩

set_option maxHeartbeats 1000000 in
set_option maxRecDepth 20000 in
theorem rReg10 (x : Int) (w : World) : Calls Tryz.prog 104 #[.int .i64 x] w fun e w' => e = .returned (.bool (Cd.reg x)) ∧ w = w' := by
  by_cases h0 : 0 ≤ x
  · have b0 : decide (0 ≤ x) = true := by simpa using h0
    by_cases h1 : x ≤ 16
    · have b1 : decide (x ≤ 16) = true := by simpa using h1
      have e : Cd.reg x = true := Cd.reg_iff.2 ⟨h0, h1⟩
      rw [e]
      clear h0 h1 e
      go_enter Tryz.func104, Tryz.ntmps104
      go_wp2_with fail
      go_ret
      exact ⟨rfl, rfl⟩
    · have b1 : decide (x ≤ 16) = false := by simpa using h1
      have e : Cd.reg x = false := by unfold Cd.reg; rw [b1, Bool.and_false]
      rw [e]
      clear h0 h1 e
      go_enter Tryz.func104, Tryz.ntmps104
      go_wp2_with fail
      go_ret
      exact ⟨rfl, rfl⟩
  · have b0 : decide (0 ≤ x) = false := by simpa using h0
    have e : Cd.reg x = false := by unfold Cd.reg; rw [b0, Bool.false_and]
    rw [e]
    clear h0 e
    go_enter Tryz.func104, Tryz.ntmps104
    go_wp2_with fail
    go_ret
    exact ⟨rfl, rfl⟩
end Go.Proofs.YtepnofklmdofmaaGreatDoor
end

section
namespace Go.Proofs.YtepnofklmdofmaaGreatDoor
open Go.RowKit

namespace Cd
/-- An op's form, part by part. -/
def okP (h : Bool) (x : Int) : Bool := h || (x == 0)
theorem okP_t (x : Int) : okP true x = true := rfl
theorem ok_parts4 (o : OpV) : o.ok = (isK o.k && (reg o.d && reg o.a && reg o.b) && (okP (hD o.k) o.d && okP (hA o.k) o.a && okP (hB o.k) o.b && okP (hN o.k) o.n)) := by
  have h : ∀ (c : Bool) (x : Int), decide ((if c then 0 else x) = 0) = okP c x := fun c x => by
    cases c with
    | true => rfl
    | false => unfold okP; rw [Bool.false_or, Bool.eq_iff_iff]; simp
  unfold OpV.ok OpV.bare OpV.less
  simp only [h]
theorem isK_iff {k : Nat} : isK k = true ↔ 1 ≤ k ∧ k ≤ 14 := by unfold isK; simp
end Cd

set_option maxHeartbeats 2000000 in
set_option maxRecDepth 20000 in
theorem rOp10 (o : Cd.OpV) (hR : o.Rng) (w : World) : Calls Tryz.prog 105 #[.agg #[.int .u8 (o.k : Int), .int .i64 o.d, .int .i64 o.a, .int .i64 o.b, .int .i64 o.n]] w fun e w' => e = .returned (.bool o.ok) ∧ Below w.heap.size w w' := by
  rw [Cd.ok_parts4]
  obtain ⟨k, d, a, b, n⟩ := o
  have hk : k < 256 := hR.k
  clear hR
  simp only
  obtain ⟨W, hW⟩ : ∃ W, W = w.alloc (.cells #[.int .u8 (k : Int), .int .i64 d, .int .i64 a, .int .i64 b, .int .i64 n] 72) := ⟨_, rfl⟩
  have hb : Below w.heap.size w W := by rw [hW]; exact Cd.fn1 _ _ _
  have hF : W.heap[w.heap.size]? = some (.cells #[.int .u8 (k : Int), .int .i64 d, .int .i64 a, .int .i64 b, .int .i64 n] 72 (0, 0)) := by rw [hW]; exact heap_alloc_new w _
  have HB := Lib.hid hb
  have c0 : W.cell? ⟨w.heap.size, 0, none⟩ = some (.int .u8 (k : Int)) := cell_of_row _ _ 0 _ _ _ hF
  have c1 : W.cell? ⟨w.heap.size, 1, none⟩ = some (.int .i64 d) := cell_of_row _ _ 1 _ _ _ hF
  have c2 : W.cell? ⟨w.heap.size, 2, none⟩ = some (.int .i64 a) := cell_of_row _ _ 2 _ _ _ hF
  have c3 : W.cell? ⟨w.heap.size, 3, none⟩ = some (.int .i64 b) := cell_of_row _ _ 3 _ _ _ hF
  have c4 : W.cell? ⟨w.heap.size, 4, none⟩ = some (.int .i64 n) := cell_of_row _ _ 4 _ _ _ hF
  clear hb hF
  have HHAS := Lib.hid (rHas10 k hk W)
  have HRD := Lib.hid (rReg10 d W)
  have HRA := Lib.hid (rReg10 a W)
  have HRB := Lib.hid (rReg10 b W)
  have HIS : Hid (Cd.isK k = (!(decide (k < 1)) && !(decide (14 < k)))) := by
    show _ = _
    rw [Bool.eq_iff_iff, Cd.isK_iff]
    simp
    omega
  generalize Cd.hD k = pd at HHAS ⊢
  generalize Cd.hA k = pa at HHAS ⊢
  generalize Cd.hB k = pb at HHAS ⊢
  generalize Cd.hN k = pn at HHAS ⊢
  generalize Cd.reg d = rd at HRD ⊢
  generalize Cd.reg a = ra at HRA ⊢
  generalize Cd.reg b = rb at HRB ⊢
  by_cases hbad : k < 1 ∨ 14 < k ∨ rd = false ∨ ra = false ∨ rb = false
  · have hv : (Cd.isK k && (rd && ra && rb)) = false := by
      rw [HIS.out]
      by_cases k1 : k < 1
      · simp [k1]
      · by_cases k2 : 14 < k
        · simp [k2]
        · rcases hbad with h | h | h | h | h
          · exact absurd h k1
          · exact absurd h k2
          · rw [h]; simp
          · rw [h]; simp
          · rw [h]; simp
    rw [hv, Bool.false_and]
    clear hv HIS HHAS
    by_cases k1 : k < 1
    · have e1 : decide ((k : Int) < 1) = true := by simpa using (by omega : (k : Int) < 1)
      have e1n : decide (k < 1) = true := by simpa using k1
      clear hbad k1
      go_enter Tryz.func105, Tryz.ntmps105
      go_upto_region 1 with fail
      rw [← hW]
      clear hW
      go_wp2_with fail
      go_ret
      exact ⟨rfl, HB.out⟩
    · have e1 : decide ((k : Int) < 1) = false := by simpa using (by omega : ¬ (k : Int) < 1)
      have e1n : decide (k < 1) = false := by simpa using k1
      by_cases k2 : 14 < k
      · have e2 : decide ((14 : Int) < k) = true := by simpa using (by omega : (14 : Int) < (k : Int))
        have e2n : decide (14 < k) = true := by simpa using k2
        clear hbad k1 k2
        go_enter Tryz.func105, Tryz.ntmps105
        go_upto_region 1 with fail
        rw [← hW]
        clear hW
        go_wp2_with fail
        go_ret
        exact ⟨rfl, HB.out⟩
      · have e2 : decide ((14 : Int) < k) = false := by simpa using (by omega : ¬ (14 : Int) < (k : Int))
        have e2n : decide (14 < k) = false := by simpa using k2
        have hbad2 : rd = false ∨ ra = false ∨ rb = false := by
          rcases hbad with h | h | h
          · exact absurd h k1
          · exact absurd h k2
          · exact h
        clear hbad k1 k2
        go_enter Tryz.func105, Tryz.ntmps105
        go_upto_region 1 with fail
        rw [← hW]
        clear hW
        go_wp2_with fail
        refine HRD.out.mono ?_
        rintro e w1 ⟨rfl, rfl⟩
        cases rd with
        | false =>
          go_wp2_with fail
          go_ret
          exact ⟨rfl, HB.out⟩
        | true =>
          go_wp2_with fail
          refine HRA.out.mono ?_
          rintro e w1 ⟨rfl, rfl⟩
          cases ra with
          | false =>
            go_wp2_with fail
            go_ret
            exact ⟨rfl, HB.out⟩
          | true =>
            go_wp2_with fail
            refine HRB.out.mono ?_
            rintro e w1 ⟨rfl, rfl⟩
            obtain rfl : rb = false := by simpa using hbad2
            go_wp2_with fail
            go_ret
            exact ⟨rfl, HB.out⟩
  · have k1 : ¬ k < 1 := fun h => hbad (.inl h)
    have k2 : ¬ 14 < k := fun h => hbad (.inr (.inl h))
    obtain rfl : rd = true := by cases rd <;> simp_all
    obtain rfl : ra = true := by cases ra <;> simp_all
    obtain rfl : rb = true := by cases rb <;> simp_all
    have hik : Cd.isK k = true := Cd.isK_iff.2 ⟨by omega, by omega⟩
    rw [hik]
    simp only [Bool.true_and]
    have e1 : decide ((k : Int) < 1) = false := by simpa using (by omega : ¬ (k : Int) < 1)
    have e2 : decide ((14 : Int) < k) = false := by simpa using (by omega : ¬ (14 : Int) < (k : Int))
    have e1n : decide (k < 1) = false := by simpa using k1
    have e2n : decide (14 < k) = false := by simpa using k2
    clear hbad k1 k2 hik HIS
    go_enter Tryz.func105, Tryz.ntmps105
    go_upto_region 1 with fail
    rw [← hW]
    clear hW
    go_wp2_with fail
    refine HRD.out.mono ?_
    rintro e w1 ⟨rfl, rfl⟩
    go_wp2_with fail
    refine HRA.out.mono ?_
    rintro e w1 ⟨rfl, rfl⟩
    go_wp2_with fail
    refine HRB.out.mono ?_
    rintro e w1 ⟨rfl, rfl⟩
    go_wp2_with fail
    refine HHAS.out.mono ?_
    rintro e w1 ⟨rfl, rfl⟩
    clear HHAS HRD HRA HRB
    go_upto_region 4 with fail
    cases pd with
    | true =>
      cases pa with
      | true =>
        cases pb with
        | true =>
          cases pn with
          | true =>
            go_wp2_with fail
            go_ret
            exact ⟨by simp [Cd.okP, *], HB.out⟩
          | false =>
            cases hn : (n == 0) with
            | true =>
              go_wp2_with fail
              go_ret
              exact ⟨by simp [Cd.okP, *], HB.out⟩
            | false =>
              go_wp2_with fail
              go_ret
              exact ⟨by simp [Cd.okP, *], HB.out⟩
        | false =>
          cases hb : (b == 0) with
          | true =>
            cases pn with
            | true =>
              go_wp2_with fail
              go_ret
              exact ⟨by simp [Cd.okP, *], HB.out⟩
            | false =>
              cases hn : (n == 0) with
              | true =>
                go_wp2_with fail
                go_ret
                exact ⟨by simp [Cd.okP, *], HB.out⟩
              | false =>
                go_wp2_with fail
                go_ret
                exact ⟨by simp [Cd.okP, *], HB.out⟩
          | false =>
            go_wp2_with fail
            go_ret
            exact ⟨by simp [Cd.okP, *], HB.out⟩
      | false =>
        cases ha : (a == 0) with
        | true =>
          cases pb with
          | true =>
            cases pn with
            | true =>
              go_wp2_with fail
              go_ret
              exact ⟨by simp [Cd.okP, *], HB.out⟩
            | false =>
              cases hn : (n == 0) with
              | true =>
                go_wp2_with fail
                go_ret
                exact ⟨by simp [Cd.okP, *], HB.out⟩
              | false =>
                go_wp2_with fail
                go_ret
                exact ⟨by simp [Cd.okP, *], HB.out⟩
          | false =>
            cases hb : (b == 0) with
            | true =>
              cases pn with
              | true =>
                go_wp2_with fail
                go_ret
                exact ⟨by simp [Cd.okP, *], HB.out⟩
              | false =>
                cases hn : (n == 0) with
                | true =>
                  go_wp2_with fail
                  go_ret
                  exact ⟨by simp [Cd.okP, *], HB.out⟩
                | false =>
                  go_wp2_with fail
                  go_ret
                  exact ⟨by simp [Cd.okP, *], HB.out⟩
            | false =>
              go_wp2_with fail
              go_ret
              exact ⟨by simp [Cd.okP, *], HB.out⟩
        | false =>
          go_wp2_with fail
          go_ret
          exact ⟨by simp [Cd.okP, *], HB.out⟩
    | false =>
      cases hd : (d == 0) with
      | true =>
        cases pa with
        | true =>
          cases pb with
          | true =>
            cases pn with
            | true =>
              go_wp2_with fail
              go_ret
              exact ⟨by simp [Cd.okP, *], HB.out⟩
            | false =>
              cases hn : (n == 0) with
              | true =>
                go_wp2_with fail
                go_ret
                exact ⟨by simp [Cd.okP, *], HB.out⟩
              | false =>
                go_wp2_with fail
                go_ret
                exact ⟨by simp [Cd.okP, *], HB.out⟩
          | false =>
            cases hb : (b == 0) with
            | true =>
              cases pn with
              | true =>
                go_wp2_with fail
                go_ret
                exact ⟨by simp [Cd.okP, *], HB.out⟩
              | false =>
                cases hn : (n == 0) with
                | true =>
                  go_wp2_with fail
                  go_ret
                  exact ⟨by simp [Cd.okP, *], HB.out⟩
                | false =>
                  go_wp2_with fail
                  go_ret
                  exact ⟨by simp [Cd.okP, *], HB.out⟩
            | false =>
              go_wp2_with fail
              go_ret
              exact ⟨by simp [Cd.okP, *], HB.out⟩
        | false =>
          cases ha : (a == 0) with
          | true =>
            cases pb with
            | true =>
              cases pn with
              | true =>
                go_wp2_with fail
                go_ret
                exact ⟨by simp [Cd.okP, *], HB.out⟩
              | false =>
                cases hn : (n == 0) with
                | true =>
                  go_wp2_with fail
                  go_ret
                  exact ⟨by simp [Cd.okP, *], HB.out⟩
                | false =>
                  go_wp2_with fail
                  go_ret
                  exact ⟨by simp [Cd.okP, *], HB.out⟩
            | false =>
              cases hb : (b == 0) with
              | true =>
                cases pn with
                | true =>
                  go_wp2_with fail
                  go_ret
                  exact ⟨by simp [Cd.okP, *], HB.out⟩
                | false =>
                  cases hn : (n == 0) with
                  | true =>
                    go_wp2_with fail
                    go_ret
                    exact ⟨by simp [Cd.okP, *], HB.out⟩
                  | false =>
                    go_wp2_with fail
                    go_ret
                    exact ⟨by simp [Cd.okP, *], HB.out⟩
              | false =>
                go_wp2_with fail
                go_ret
                exact ⟨by simp [Cd.okP, *], HB.out⟩
          | false =>
            go_wp2_with fail
            go_ret
            exact ⟨by simp [Cd.okP, *], HB.out⟩
      | false =>
        go_wp2_with fail
        go_ret
        exact ⟨by simp [Cd.okP, *], HB.out⟩
end Go.Proofs.YtepnofklmdofmaaGreatDoor
end

section
namespace Go.Proofs.YtepnofklmdofmaaGreatDoor
open Go.RowKit

set_option maxHeartbeats 1500000 in
set_option maxRecDepth 20000 in
theorem rMay10 (l : List Cd.Fm) (hR : ∀ m ∈ l, m.f.Rng) (hn : l.length ≤ maxLen) (A : Option Addr) (c : Nat) (w : World) (hP : Cd.Prog w w.heap.size A l) :
    Calls Tryz.prog 85 #[.agg #[.slice A l.length c]] w fun e w' => e = .returned (.bool (Cd.pok (Cd.fns l))) ∧ Below w.heap.size w w' := by
  unfold maxLen at hn
  obtain ⟨W, hW⟩ : ∃ W, W = w.alloc (.cells #[.slice A l.length c] 24) := ⟨_, rfl⟩
  have hb : Below w.heap.size w W := by rw [hW]; exact Cd.fn1 _ _ _
  have HF : Hid (W.heap[w.heap.size]? = some (.cells #[.slice A l.length c] 24 (0, 0))) := by show _ = _; rw [hW]; exact heap_alloc_new w _
  have HB := Lib.hid hb
  have HP := Lib.hid hP
  have HR := Lib.hid hR
  have HOK := Lib.hid (Cd.pok_iff l)
  clear hb hP hR
  go_enter Tryz.func85, Tryz.ntmps85
  go_upto_region 1 with fail
  rw [← hW]
  clear hW
  obtain ⟨X, hX⟩ : ∃ X, X = w.heap.size := ⟨_, rfl⟩
  rw [← hX] at HF ⊢
  clear hX
  have c0 : W.cell? ⟨X, 0, none⟩ = some (.slice A l.length c) := cell_of_row _ _ 0 _ _ _ HF.out
  by_cases h16 : 16 < l.length
  · have h16i : (16 : Int) < l.length := by omega
    have HE : Hid (Cd.pok (Cd.fns l) = false) := by show _ = _; rw [HOK.out, decide_eq_false (by omega)]; rfl
    clear h16
    go_wp2_with fail
    go_ret
    exact ⟨by rw [HE.out]; rfl, HB.out⟩
  · have h16i : ¬ (16 : Int) < l.length := by omega
    have HOK2 : Hid (Cd.pok (Cd.fns l) = l.all fun m => m.f.ok) := by show _ = _; rw [HOK.out, decide_eq_true (by omega), Bool.true_and]
    clear h16 HOK
    go_wp2_with fail
    clear c0
    go_loopw [3] (fun s3 wr => ∃ k : Nat, k ≤ l.length ∧ s3 = .int .i64 k ∧ Hid ((l.take k).all (fun m => m.f.ok) = true) ∧ Hid (Below W.heap.size W wr)) (fun s3 _ => l.length - (intOf s3).toNat)
    case atStart => exact ⟨0, Nat.zero_le _, rfl, rfl, Below.refl _ _⟩
    case round =>
      obtain ⟨k, hk, rfl, HK, HBW⟩ := hrel
      have c0 : wr.cell? ⟨X, 0, none⟩ = some (.slice A l.length c) := cell_of_row _ _ 0 _ _ _ ((HBW.out.block _ (Cd.ltH HF.out)).trans HF.out)
      have hbw : Below w.heap.size w wr := HB.out.trans (HBW.out.mono HB.out.size)
      by_cases hlt : k < l.length
      · obtain ⟨ad, rfl, hadb, d0, d1, d2⟩ := Cd.fn_at (HP.out.below hbw).fs hlt
        have k0 : (0 : Int) ≤ (k : Int) := by omega
        have k1 : (k : Int) < l.length := by omega
        have HRM := Lib.hid (HR.out _ (List.getElem_mem hlt))
        have hlen := HRM.out.len
        unfold maxLen at hlen
        have HLI := Lib.hid (HP.out.os _ (List.getElem_mem hlt))
        have HK2 : Hid (l[k].f.ok = true → (l.take (k + 1)).all (fun m => m.f.ok) = true) := fun h => by
          rw [List.take_succ_eq_append_getElem hlt, List.all_append, HK.out]
          simpa using h
        have HK3 : Hid (l[k].f.ok = false → Cd.pok (Cd.fns l) = false) := fun h => by
          rw [HOK2.out]
          by_cases hq : (l.all fun m => m.f.ok) = true
          · rw [List.all_eq_true.1 hq _ (List.getElem_mem hlt)] at h; cases h
          · simpa using hq
        generalize l[k] = m at d0 d1 d2 HLI HK2 HK3 HRM hlen
        clear hadb hlt HK
        obtain ⟨V, hV⟩ : ∃ V, V = wr.alloc (.cells #[.int .i64 m.f.args, .int .i64 m.f.regs, .slice m.A m.f.ops.length m.c] 107) := ⟨_, rfl⟩
        have hbV : Below wr.heap.size wr V := by rw [hV]; exact Cd.fn1 _ _ _
        have HFB : Hid (Cd.FB V wr.heap.size m.f.args m.f.regs (.slice m.A m.f.ops.length m.c)) := by show V.heap[_]? = _; rw [hV]; exact heap_alloc_new wr _
        have HBV := Lib.hid (HBW.out.trans (hbV.mono HBW.out.size))
        have HBVw := Lib.hid (hbw.trans (hbV.mono hbw.size))
        have HRA := Lib.hid (fun U => rReg10 m.f.args U)
        have HRB := Lib.hid (fun U => rReg10 m.f.regs U)
        have HMK : Hid (m.f.ok = (Cd.reg m.f.args && Cd.reg m.f.regs && decide (m.f.ops.length ≤ 64) && m.f.ops.all Cd.OpV.ok)) := rfl
        generalize Cd.reg m.f.args = ra at HRA HMK
        generalize Cd.reg m.f.regs = rb at HRB HMK
        clear hbV hbw HBW
        go_upto_region 7 with fail
        rw [← hV]
        clear hV c0 d0 d1 d2
        generalize wr.heap.size = F at HFB ⊢
        have x0 := HFB.out.c0
        have x1 := HFB.out.c1
        have x2 := HFB.out.c2
        go_wp2_with fail
        refine (HRA.out _).mono ?_
        rintro e w1 ⟨rfl, rfl⟩
        cases ra with
        | false =>
          have HE := Lib.hid (HK3.out (by rw [HMK.out]; rfl))
          clear HK2 HK3
          go_wp2_with fail
          go_ret
          exact ⟨by rw [HE.out]; rfl, HBVw.out⟩
        | true =>
          go_wp2_with fail
          refine (HRB.out _).mono ?_
          rintro e w1 ⟨rfl, rfl⟩
          cases rb with
          | false =>
            have HE := Lib.hid (HK3.out (by rw [HMK.out]; rfl))
            clear HK2 HK3
            go_wp2_with fail
            go_ret
            exact ⟨by rw [HE.out]; rfl, HBVw.out⟩
          | true =>
            by_cases h64 : 64 < m.f.ops.length
            · have h64i : (64 : Int) < m.f.ops.length := by omega
              have h64b : decide ((64 : Int) < m.f.ops.length) = true := by simpa using h64i
              have h64n : decide (64 < m.f.ops.length) = true := by simpa using h64
              have HE := Lib.hid (HK3.out (by rw [HMK.out, decide_eq_false (by omega)]; rfl))
              clear HK2 HK3 h64
              go_wp2_with fail
              go_ret
              exact ⟨by rw [HE.out]; rfl, HBVw.out⟩
            · have h64i : ¬ (64 : Int) < m.f.ops.length := by omega
              have h64b : decide ((64 : Int) < m.f.ops.length) = false := by simpa using h64i
              have h64n : decide (64 < m.f.ops.length) = false := by simpa using h64
              have HMK2 : Hid (m.f.ok = m.f.ops.all Cd.OpV.ok) := by show _ = _; rw [HMK.out, decide_eq_true (by omega)]; rfl
              clear h64 HMK HRA HRB
              go_wp2_with fail
              clear x0 x1 x2 h64i h64b h64n
              go_loopw [5] (fun s5 wy => ∃ j : Nat, j ≤ m.f.ops.length ∧ s5 = .int .i64 j ∧ Hid ((m.f.ops.take j).all Cd.OpV.ok = true) ∧ Hid (Below V.heap.size V wy)) (fun s5 _ => m.f.ops.length - (intOf s5).toNat)
              case atStart => exact ⟨0, Nat.zero_le _, rfl, rfl, Below.refl _ _⟩
              case round =>
                rename World => wy
                obtain ⟨j, hj, rfl, HJ, HBY⟩ := hrel
                have x2 := (HFB.out.of_block (HBY.out.block F HFB.out.lt)).c2
                have hby : Below w.heap.size w wy := HBVw.out.trans (HBY.out.mono HBVw.out.size)
                by_cases hjt : j < m.f.ops.length
                · obtain ⟨adm, hAm, hadm, c0, c1, c2, c3, c4⟩ := Cd.op_at (HLI.out.below hby) hjt
                  rw [hAm] at x2
                  have j0 : (0 : Int) ≤ (j : Int) := by omega
                  have j1 : (j : Int) < m.f.ops.length := by omega
                  have HO := Lib.hid (rOp10 m.f.ops[j] (HRM.out.ops _ (List.getElem_mem hjt)) wy)
                  have HJ2 : Hid (m.f.ops[j].ok = true → (m.f.ops.take (j + 1)).all Cd.OpV.ok = true) := fun h => by
                    rw [List.take_succ_eq_append_getElem hjt, List.all_append, HJ.out]
                    simpa using h
                  have HJ3 : Hid (m.f.ops[j].ok = false → Cd.pok (Cd.fns l) = false) := fun h => HK3.out (by
                    rw [HMK2.out]
                    by_cases hq : (m.f.ops.all Cd.OpV.ok) = true
                    · rw [List.all_eq_true.1 hq _ (List.getElem_mem hjt)] at h; cases h
                    · simpa using hq)
                  generalize m.f.ops[j].ok = q at HO HJ2 HJ3
                  generalize m.f.ops[j] = o at c0 c1 c2 c3 c4 HO
                  have HYW := Lib.hid hby
                  clear hadm hjt hAm hby HJ HK2 HK3
                  go_wp2_with fail
                  refine HO.out.mono ?_
                  rintro e wz ⟨rfl, hbz⟩
                  have HZ := Lib.hid (HBY.out.trans (hbz.mono HBY.out.size))
                  have HZW := Lib.hid (HYW.out.trans (hbz.mono HYW.out.size))
                  clear hbz
                  cases q with
                  | true =>
                    have HJ4 := Lib.hid (HJ2.out rfl)
                    clear HJ2 HJ3
                    go_wp2_with fail
                    go_roundw
                    case rel => exact ⟨j + 1, by omega, by go_num, HJ4.out, HZ.out⟩
                    case measure => simp [intOf]; omega
                  | false =>
                    have HJ4 := Lib.hid (HJ3.out rfl)
                    clear HJ2 HJ3
                    go_wp2_with fail
                    go_ret
                    exact ⟨by rw [HJ4.out]; rfl, HZW.out⟩
                · have j1 : ¬ ((j : Int) < m.f.ops.length) := by omega
                  have HJ4 := Lib.hid (HK2.out (by rw [HMK2.out]; have := HJ.out; rwa [List.take_of_length_le (by omega)] at this))
                  have HBZ := Lib.hid (HBV.out.trans (HBY.out.mono HBV.out.size))
                  clear hby HK2 HK3
                  go_wp2_with fail
                  go_roundw
                  case rel => exact ⟨k + 1, by omega, by go_num, HJ4.out, HBZ.out⟩
                  case measure => simp [intOf]; omega
      · have k1 : ¬ ((k : Int) < l.length) := by omega
        have HE : Hid (Cd.pok (Cd.fns l) = true) := by
          have := HK.out
          rw [List.take_of_length_le (by omega)] at this
          exact HOK2.out.trans this
        have HBZ := Lib.hid hbw
        clear hbw
        go_wp2_with fail
        go_ret
        exact ⟨by rw [HE.out]; rfl, HBZ.out⟩
end Go.Proofs.YtepnofklmdofmaaGreatDoor
end
