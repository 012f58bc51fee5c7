/-
  The document's op (layer 10): has an op its form?
-/
import Derived.Test.YtndgafjnifkghaaDoorCrB
namespace Go.Proofs.YtndgafjnifkghaaDoor
open Go.RowKit

namespace Cd
/-- An op's form, part by part. -/
def okP (h : Bool) (x : Int) : Bool := h || (x == 0)
theorem okP_t (x : Int) : okP true x = true := rfl
theorem ok_parts4 (o : OpV) : o.ok = (isK o.k && (reg o.d && reg o.a && reg o.b) && (okP (hD o.k) o.d && okP (hA o.k) o.a && okP (hB o.k) o.b && okP (hN o.k) o.n)) := by
  have h : ∀ (c : Bool) (x : Int), decide ((if c then 0 else x) = 0) = okP c x := fun c x => by
    cases c with
    | true => rfl
    | false => unfold okP; rw [Bool.false_or, Bool.eq_iff_iff]; simp
  unfold OpV.ok OpV.bare OpV.less
  simp only [h]
theorem isK_iff {k : Nat} : isK k = true ↔ 1 ≤ k ∧ k ≤ 14 := by unfold isK; simp
end Cd

set_option maxHeartbeats 2000000 in
set_option maxRecDepth 20000 in
theorem rOp10 (o : Cd.OpV) (hR : o.Rng) (w : World) : Calls Tryd.prog 27 #[.agg #[.int .u8 (o.k : Int), .int .i64 o.d, .int .i64 o.a, .int .i64 o.b, .int .i64 o.n]] w fun e w' => e = .returned (.bool o.ok) ∧ Below w.heap.size w w' := by
  rw [Cd.ok_parts4]
  obtain ⟨k, d, a, b, n⟩ := o
  have hk : k < 256 := hR.k
  clear hR
  simp only
  obtain ⟨W, hW⟩ : ∃ W, W = w.alloc (.cells #[.int .u8 (k : Int), .int .i64 d, .int .i64 a, .int .i64 b, .int .i64 n] 44) := ⟨_, rfl⟩
  have hb : Below w.heap.size w W := by rw [hW]; exact Cd.fn1 _ _ _
  have hF : W.heap[w.heap.size]? = some (.cells #[.int .u8 (k : Int), .int .i64 d, .int .i64 a, .int .i64 b, .int .i64 n] 44 (0, 0)) := by rw [hW]; exact heap_alloc_new w _
  have HB := Lib.hid hb
  have c0 : W.cell? ⟨w.heap.size, 0, none⟩ = some (.int .u8 (k : Int)) := cell_of_row _ _ 0 _ _ _ hF
  have c1 : W.cell? ⟨w.heap.size, 1, none⟩ = some (.int .i64 d) := cell_of_row _ _ 1 _ _ _ hF
  have c2 : W.cell? ⟨w.heap.size, 2, none⟩ = some (.int .i64 a) := cell_of_row _ _ 2 _ _ _ hF
  have c3 : W.cell? ⟨w.heap.size, 3, none⟩ = some (.int .i64 b) := cell_of_row _ _ 3 _ _ _ hF
  have c4 : W.cell? ⟨w.heap.size, 4, none⟩ = some (.int .i64 n) := cell_of_row _ _ 4 _ _ _ hF
  clear hb hF
  have HHAS := Lib.hid (rHas10 k hk W)
  have HRD := Lib.hid (rReg10 d W)
  have HRA := Lib.hid (rReg10 a W)
  have HRB := Lib.hid (rReg10 b W)
  have HIS : Hid (Cd.isK k = (!(decide (k < 1)) && !(decide (14 < k)))) := by
    show _ = _
    rw [Bool.eq_iff_iff, Cd.isK_iff]
    simp
    omega
  generalize Cd.hD k = pd at HHAS ⊢
  generalize Cd.hA k = pa at HHAS ⊢
  generalize Cd.hB k = pb at HHAS ⊢
  generalize Cd.hN k = pn at HHAS ⊢
  generalize Cd.reg d = rd at HRD ⊢
  generalize Cd.reg a = ra at HRA ⊢
  generalize Cd.reg b = rb at HRB ⊢
  by_cases hbad : k < 1 ∨ 14 < k ∨ rd = false ∨ ra = false ∨ rb = false
  · have hv : (Cd.isK k && (rd && ra && rb)) = false := by
      rw [HIS.out]
      by_cases k1 : k < 1
      · simp [k1]
      · by_cases k2 : 14 < k
        · simp [k2]
        · rcases hbad with h | h | h | h | h
          · exact absurd h k1
          · exact absurd h k2
          · rw [h]; simp
          · rw [h]; simp
          · rw [h]; simp
    rw [hv, Bool.false_and]
    clear hv HIS HHAS
    by_cases k1 : k < 1
    · have e1 : decide ((k : Int) < 1) = true := by simpa using (by omega : (k : Int) < 1)
      have e1n : decide (k < 1) = true := by simpa using k1
      clear hbad k1
      go_enter Tryd.func27, Tryd.ntmps27
      go_upto_region 1 with fail
      rw [← hW]
      clear hW
      go_wp2_with fail
      go_ret
      exact ⟨rfl, HB.out⟩
    · have e1 : decide ((k : Int) < 1) = false := by simpa using (by omega : ¬ (k : Int) < 1)
      have e1n : decide (k < 1) = false := by simpa using k1
      by_cases k2 : 14 < k
      · have e2 : decide ((14 : Int) < k) = true := by simpa using (by omega : (14 : Int) < (k : Int))
        have e2n : decide (14 < k) = true := by simpa using k2
        clear hbad k1 k2
        go_enter Tryd.func27, Tryd.ntmps27
        go_upto_region 1 with fail
        rw [← hW]
        clear hW
        go_wp2_with fail
        go_ret
        exact ⟨rfl, HB.out⟩
      · have e2 : decide ((14 : Int) < k) = false := by simpa using (by omega : ¬ (14 : Int) < (k : Int))
        have e2n : decide (14 < k) = false := by simpa using k2
        have hbad2 : rd = false ∨ ra = false ∨ rb = false := by
          rcases hbad with h | h | h
          · exact absurd h k1
          · exact absurd h k2
          · exact h
        clear hbad k1 k2
        go_enter Tryd.func27, Tryd.ntmps27
        go_upto_region 1 with fail
        rw [← hW]
        clear hW
        go_wp2_with fail
        refine HRD.out.mono ?_
        rintro e w1 ⟨rfl, rfl⟩
        cases rd with
        | false =>
          go_wp2_with fail
          go_ret
          exact ⟨rfl, HB.out⟩
        | true =>
          go_wp2_with fail
          refine HRA.out.mono ?_
          rintro e w1 ⟨rfl, rfl⟩
          cases ra with
          | false =>
            go_wp2_with fail
            go_ret
            exact ⟨rfl, HB.out⟩
          | true =>
            go_wp2_with fail
            refine HRB.out.mono ?_
            rintro e w1 ⟨rfl, rfl⟩
            obtain rfl : rb = false := by simpa using hbad2
            go_wp2_with fail
            go_ret
            exact ⟨rfl, HB.out⟩
  · have k1 : ¬ k < 1 := fun h => hbad (.inl h)
    have k2 : ¬ 14 < k := fun h => hbad (.inr (.inl h))
    obtain rfl : rd = true := by cases rd <;> simp_all
    obtain rfl : ra = true := by cases ra <;> simp_all
    obtain rfl : rb = true := by cases rb <;> simp_all
    have hik : Cd.isK k = true := Cd.isK_iff.2 ⟨by omega, by omega⟩
    rw [hik]
    simp only [Bool.true_and]
    have e1 : decide ((k : Int) < 1) = false := by simpa using (by omega : ¬ (k : Int) < 1)
    have e2 : decide ((14 : Int) < k) = false := by simpa using (by omega : ¬ (14 : Int) < (k : Int))
    have e1n : decide (k < 1) = false := by simpa using k1
    have e2n : decide (14 < k) = false := by simpa using k2
    clear hbad k1 k2 hik HIS
    go_enter Tryd.func27, Tryd.ntmps27
    go_upto_region 1 with fail
    rw [← hW]
    clear hW
    go_wp2_with fail
    refine HRD.out.mono ?_
    rintro e w1 ⟨rfl, rfl⟩
    go_wp2_with fail
    refine HRA.out.mono ?_
    rintro e w1 ⟨rfl, rfl⟩
    go_wp2_with fail
    refine HRB.out.mono ?_
    rintro e w1 ⟨rfl, rfl⟩
    go_wp2_with fail
    refine HHAS.out.mono ?_
    rintro e w1 ⟨rfl, rfl⟩
    clear HHAS HRD HRA HRB
    go_upto_region 4 with fail
    cases pd with
    | true =>
      cases pa with
      | true =>
        cases pb with
        | true =>
          cases pn with
          | true =>
            go_wp2_with fail
            go_ret
            exact ⟨by simp [Cd.okP, *], HB.out⟩
          | false =>
            cases hn : (n == 0) with
            | true =>
              go_wp2_with fail
              go_ret
              exact ⟨by simp [Cd.okP, *], HB.out⟩
            | false =>
              go_wp2_with fail
              go_ret
              exact ⟨by simp [Cd.okP, *], HB.out⟩
        | false =>
          cases hb : (b == 0) with
          | true =>
            cases pn with
            | true =>
              go_wp2_with fail
              go_ret
              exact ⟨by simp [Cd.okP, *], HB.out⟩
            | false =>
              cases hn : (n == 0) with
              | true =>
                go_wp2_with fail
                go_ret
                exact ⟨by simp [Cd.okP, *], HB.out⟩
              | false =>
                go_wp2_with fail
                go_ret
                exact ⟨by simp [Cd.okP, *], HB.out⟩
          | false =>
            go_wp2_with fail
            go_ret
            exact ⟨by simp [Cd.okP, *], HB.out⟩
      | false =>
        cases ha : (a == 0) with
        | true =>
          cases pb with
          | true =>
            cases pn with
            | true =>
              go_wp2_with fail
              go_ret
              exact ⟨by simp [Cd.okP, *], HB.out⟩
            | false =>
              cases hn : (n == 0) with
              | true =>
                go_wp2_with fail
                go_ret
                exact ⟨by simp [Cd.okP, *], HB.out⟩
              | false =>
                go_wp2_with fail
                go_ret
                exact ⟨by simp [Cd.okP, *], HB.out⟩
          | false =>
            cases hb : (b == 0) with
            | true =>
              cases pn with
              | true =>
                go_wp2_with fail
                go_ret
                exact ⟨by simp [Cd.okP, *], HB.out⟩
              | false =>
                cases hn : (n == 0) with
                | true =>
                  go_wp2_with fail
                  go_ret
                  exact ⟨by simp [Cd.okP, *], HB.out⟩
                | false =>
                  go_wp2_with fail
                  go_ret
                  exact ⟨by simp [Cd.okP, *], HB.out⟩
            | false =>
              go_wp2_with fail
              go_ret
              exact ⟨by simp [Cd.okP, *], HB.out⟩
        | false =>
          go_wp2_with fail
          go_ret
          exact ⟨by simp [Cd.okP, *], HB.out⟩
    | false =>
      cases hd : (d == 0) with
      | true =>
        cases pa with
        | true =>
          cases pb with
          | true =>
            cases pn with
            | true =>
              go_wp2_with fail
              go_ret
              exact ⟨by simp [Cd.okP, *], HB.out⟩
            | false =>
              cases hn : (n == 0) with
              | true =>
                go_wp2_with fail
                go_ret
                exact ⟨by simp [Cd.okP, *], HB.out⟩
              | false =>
                go_wp2_with fail
                go_ret
                exact ⟨by simp [Cd.okP, *], HB.out⟩
          | false =>
            cases hb : (b == 0) with
            | true =>
              cases pn with
              | true =>
                go_wp2_with fail
                go_ret
                exact ⟨by simp [Cd.okP, *], HB.out⟩
              | false =>
                cases hn : (n == 0) with
                | true =>
                  go_wp2_with fail
                  go_ret
                  exact ⟨by simp [Cd.okP, *], HB.out⟩
                | false =>
                  go_wp2_with fail
                  go_ret
                  exact ⟨by simp [Cd.okP, *], HB.out⟩
            | false =>
              go_wp2_with fail
              go_ret
              exact ⟨by simp [Cd.okP, *], HB.out⟩
        | false =>
          cases ha : (a == 0) with
          | true =>
            cases pb with
            | true =>
              cases pn with
              | true =>
                go_wp2_with fail
                go_ret
                exact ⟨by simp [Cd.okP, *], HB.out⟩
              | false =>
                cases hn : (n == 0) with
                | true =>
                  go_wp2_with fail
                  go_ret
                  exact ⟨by simp [Cd.okP, *], HB.out⟩
                | false =>
                  go_wp2_with fail
                  go_ret
                  exact ⟨by simp [Cd.okP, *], HB.out⟩
            | false =>
              cases hb : (b == 0) with
              | true =>
                cases pn with
                | true =>
                  go_wp2_with fail
                  go_ret
                  exact ⟨by simp [Cd.okP, *], HB.out⟩
                | false =>
                  cases hn : (n == 0) with
                  | true =>
                    go_wp2_with fail
                    go_ret
                    exact ⟨by simp [Cd.okP, *], HB.out⟩
                  | false =>
                    go_wp2_with fail
                    go_ret
                    exact ⟨by simp [Cd.okP, *], HB.out⟩
              | false =>
                go_wp2_with fail
                go_ret
                exact ⟨by simp [Cd.okP, *], HB.out⟩
          | false =>
            go_wp2_with fail
            go_ret
            exact ⟨by simp [Cd.okP, *], HB.out⟩
      | false =>
        go_wp2_with fail
        go_ret
        exact ⟨by simp [Cd.okP, *], HB.out⟩
end Go.Proofs.YtndgafjnifkghaaDoor
