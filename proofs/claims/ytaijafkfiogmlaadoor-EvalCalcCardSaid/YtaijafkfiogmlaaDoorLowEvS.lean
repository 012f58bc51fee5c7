/-
  Layer 13: the document's Calc.
  Layer 13: EvalCalc's walk.
-/
import Derived.Test.YtaijafkfiogmlaaDoorLowEvQ
section
namespace Go.Proofs.YtaijafkfiogmlaaDoor
open Go.RowKit

theorem Ev.wrap_eq (x : Int) : IntKind.i64.wrap x = wrap64 x := by rw [IntKind.wrap_i64, wrap64]
set_option maxRecDepth 20000 in
theorem rdivide13 (a b : Int) (hb : b ≠ 0) (w : World) : Calls Tryd.prog 14 #[.int .i64 a, .int .i64 b] w fun e w' => e = .returned (.tuple #[.int .i64 (wrap64 (a.tdiv b)), .int .i64 (a.tmod b)]) ∧ ∃ q, w' = w.drewN q := by
  by_cases h1 : b = -1
  · subst h1
    have HE : Hid (a.tdiv (-1) = -a ∧ a.tmod (-1) = 0) := ⟨by rw [Int.tdiv_neg, Int.tdiv_one], by rw [Int.tmod_neg, Int.tmod_one]⟩
    clear hb
    go_enter Tryd.func14, Tryd.ntmps14
    go_wp2_with fail
    refine bodyPost_ret (results_tmp2 rfl _ _ _) rfl ?_
    exact ⟨by rw [HE.out.1, HE.out.2]; rfl, 0, rfl⟩
  · have e1 : (b == -1) = false := by simpa using h1
    clear h1
    go_enter Tryd.func14, Tryd.ntmps14
    go_wp2_with fail
    go_region
    all_goals
      go_wp2_with fail
      refine bodyPost_ret (results_tmp2 rfl _ _ _) rfl ?_
      exact ⟨rfl, 1, rfl⟩
def Ev.CalcQ (k : Nat) (a b : Int) (w : World) (e : Ending) (w' : World) : Prop := e = .returned (.tuple #[.int .i64 ((Ev.calcV k a b).getD 0), .bool (Ev.calcV k a b).isSome]) ∧ ∃ q, w' = w.drewN q
theorem Ev.calcQ_of {k : Nat} {a b : Int} {x : Option Int} (h : Ev.calcV k a b = x) {w : World} {q : Nat} {e : Ending} (he : e = .returned (.tuple #[.int .i64 (x.getD 0), .bool x.isSome])) : Ev.CalcQ k a b w e (w.drewN q) := by
  subst h
  exact ⟨he, q, rfl⟩
theorem rCalc13 (k : Nat) (h2 : 2 ≤ k) (h9 : k ≤ 9) (a b : Int) (w : World) : Calls Tryd.prog 6 #[.int .u8 (k : Int), .int .i64 a, .int .i64 b] w (Ev.CalcQ k a b w) := by
  obtain rfl | rfl | rfl | rfl | rfl | rfl | rfl | rfl : k = 2 ∨ k = 3 ∨ k = 4 ∨ k = 5 ∨ k = 6 ∨ k = 7 ∨ k = 8 ∨ k = 9 := by omega
  · have HE : Hid (Ev.calcV 2 a b = some a) := rfl
    go_enter Tryd.func6, Tryd.ntmps6
    go_wp2_with fail
    refine bodyPost_ret (results_tmp2 rfl _ _ _) rfl ?_
    exact Ev.calcQ_of (q := 0) HE.out rfl
  · have HE : Hid (Ev.calcV 3 a b = some (wrap64 (a + b))) := by show _ = _; rw [← Ev.wrap_eq]; rfl
    go_enter Tryd.func6, Tryd.ntmps6
    go_wp2_with fail
    refine bodyPost_ret (results_tmp2 rfl _ _ _) rfl ?_
    exact Ev.calcQ_of (q := 0) HE.out rfl
  · have HE : Hid (Ev.calcV 4 a b = some (wrap64 (a - b))) := by show _ = _; rw [← Ev.wrap_eq]; rfl
    go_enter Tryd.func6, Tryd.ntmps6
    go_wp2_with fail
    refine bodyPost_ret (results_tmp2 rfl _ _ _) rfl ?_
    exact Ev.calcQ_of (q := 0) HE.out rfl
  · have HE : Hid (Ev.calcV 5 a b = some (wrap64 (a * b))) := by show _ = _; rw [← Ev.wrap_eq]; rfl
    go_enter Tryd.func6, Tryd.ntmps6
    go_wp2_with fail
    refine bodyPost_ret (results_tmp2 rfl _ _ _) rfl ?_
    exact Ev.calcQ_of (q := 0) HE.out rfl
  · by_cases hb : b = 0
    · subst hb
      have HE : Hid (Ev.calcV 6 a 0 = none) := rfl
      go_enter Tryd.func6, Tryd.ntmps6
      go_wp2_with fail
      refine bodyPost_ret (results_tmp2 rfl _ _ _) rfl ?_
      exact Ev.calcQ_of (q := 0) HE.out rfl
    · have HE : Hid (Ev.calcV 6 a b = some (wrap64 (a.tdiv b))) := by show _ = _; rw [← Ev.wrap_eq]; unfold Ev.calcV; simp [hb]
      have HD := Lib.hid (rdivide13 a b hb w)
      have e0 : (b == 0) = false := by simpa using hb
      clear hb
      go_enter Tryd.func6, Tryd.ntmps6
      go_wp2_with fail
      refine HD.out.mono ?_
      rintro e w1 ⟨rfl, q, rfl⟩
      go_wp2_with fail
      refine bodyPost_ret (results_tmp2 rfl _ _ _) rfl ?_
      exact Ev.calcQ_of HE.out rfl
  · by_cases hb : b = 0
    · subst hb
      have HE : Hid (Ev.calcV 7 a 0 = none) := rfl
      go_enter Tryd.func6, Tryd.ntmps6
      go_wp2_with fail
      refine bodyPost_ret (results_tmp2 rfl _ _ _) rfl ?_
      exact Ev.calcQ_of (q := 0) HE.out rfl
    · have HE : Hid (Ev.calcV 7 a b = some (a.tmod b)) := by show _ = _; unfold Ev.calcV; simp [hb]
      have HD := Lib.hid (rdivide13 a b hb w)
      have e0 : (b == 0) = false := by simpa using hb
      clear hb
      go_enter Tryd.func6, Tryd.ntmps6
      go_wp2_with fail
      refine HD.out.mono ?_
      rintro e w1 ⟨rfl, q, rfl⟩
      go_wp2_with fail
      refine bodyPost_ret (results_tmp2 rfl _ _ _) rfl ?_
      exact Ev.calcQ_of HE.out rfl
  · by_cases h : a < b
    · have HE : Hid (Ev.calcV 8 a b = some 1) := by show _ = _; unfold Ev.calcV; simp [h]
      go_enter Tryd.func6, Tryd.ntmps6
      go_wp2_with fail
      refine bodyPost_ret (results_tmp2 rfl _ _ _) rfl ?_
      exact Ev.calcQ_of (q := 0) HE.out rfl
    · have HE : Hid (Ev.calcV 8 a b = some 0) := by show _ = _; unfold Ev.calcV; simp [h]
      go_enter Tryd.func6, Tryd.ntmps6
      go_wp2_with fail
      refine bodyPost_ret (results_tmp2 rfl _ _ _) rfl ?_
      exact Ev.calcQ_of (q := 0) HE.out rfl
  · by_cases h : a = b
    · have HE : Hid (Ev.calcV 9 a b = some 1) := by show _ = _; unfold Ev.calcV; simp [h]
      have hq : (a == b) = true := by simpa using h
      clear h
      go_enter Tryd.func6, Tryd.ntmps6
      go_wp2_with fail
      refine bodyPost_ret (results_tmp2 rfl _ _ _) rfl ?_
      exact Ev.calcQ_of (q := 0) HE.out rfl
    · have HE : Hid (Ev.calcV 9 a b = some 0) := by show _ = _; unfold Ev.calcV; simp [h]
      have hq : (a == b) = false := by simpa using h
      clear h
      go_enter Tryd.func6, Tryd.ntmps6
      go_wp2_with fail
      refine bodyPost_ret (results_tmp2 rfl _ _ _) rfl ?_
      exact Ev.calcQ_of (q := 0) HE.out rfl
end Go.Proofs.YtaijafkfiogmlaaDoor
end

section
namespace Go.Proofs.YtaijafkfiogmlaaDoor
open Go.RowKit

namespace Ev
def calcO (k : Nat) (b : Int) : List Cd.OpV := [⟨k, 2, 0, b, 0⟩, ⟨14, 0, 2, 0, 0⟩]
def calcPr (k : Nat) (b : Int) : List Cd.FnV := [⟨2, 3, calcO k b⟩]
def bOf (k : Nat) : Int := if k = 2 then 0 else 1
theorem calc_root {k : Nat} (h2 : 2 ≤ k) (h9 : k ≤ 9) : rootE (calcPr k (bOf k)) 2 2 = 0 := by
  obtain rfl | rfl | rfl | rfl | rfl | rfl | rfl | rfl : k = 2 ∨ k = 3 ∨ k = 4 ∨ k = 5 ∨ k = 6 ∨ k = 7 ∨ k = 8 ∨ k = 9 := by omega
  all_goals decide +kernel
theorem calc_ev {k : Nat} (h2 : 2 ≤ k) (h9 : k ≤ 9) (a b : Int) : evR (calcPr k (bOf k)) [a, b] 2 = match calcV k a b with | none => ⟨0, 131⟩ | some x => ⟨x, 0⟩ := by
  have hc : ∀ b', calcV 2 a b' = some a := fun _ => rfl
  unfold evR
  rw [if_pos (show rootE (calcPr k (bOf k)) [a, b].length 2 = 0 from calc_root h2 h9)]
  show (run 3 (calcPr k (bOf k)) (root [a, b] 2) (start (calcPr k (bOf k)) (root [a, b] 2))).1 = _
  have hs : start (calcPr k (bOf k)) (root [a, b] 2) = ⟨[a, b, 0], 0, 2, 0, [], []⟩ := rfl
  rw [hs, run_act _ 2 _ _ (by show ¬ (2 : Nat) = 0; decide) (Nat.le_refl 2)]
  have ho : opAt (calcPr k (bOf k)) (root [a, b] 2) ⟨[a, b, 0], 0, 2, 0, [], []⟩ = ⟨k, 2, 0, bOf k, 0⟩ := rfl
  rw [ho]
  have hp : plain (paid ⟨[a, b, 0], 0, 2, 0, [], []⟩) ⟨k, 2, 0, bOf k, 0⟩ = (calcV k a b).map fun x => ⟨[a, b, x], 1, 1, 0, [], []⟩ := by
    rw [plain_calc (s := paid ⟨[a, b, 0], 0, 2, 0, [], []⟩) (o := ⟨k, 2, 0, bOf k, 0⟩) h2 h9]
    show (calcV k a (if k = 2 then 0 else rgAt [a, b, 0] (bOf k))).map _ = _
    by_cases e : k = 2
    · subst e
      rfl
    · rw [if_neg e]
      unfold bOf
      rw [if_neg e]
      rfl
  have hE : actE (root [a, b] 2) (paid ⟨[a, b, 0], 0, 2, 0, [], []⟩) ⟨k, 2, 0, bOf k, 0⟩ = if (calcV k a b).isSome then 0 else 131 := by
    unfold actE
    rw [if_neg (by show ¬ k = 12; omega), if_neg (by show ¬ (k = 13 ∨ k = 14); omega)]
    unfold plE
    rw [hp, Option.isSome_map]
  have hS : ∀ x, calcV k a b = some x → actS (calcPr k (bOf k)) (root [a, b] 2) (paid ⟨[a, b, 0], 0, 2, 0, [], []⟩) ⟨k, 2, 0, bOf k, 0⟩ = ⟨[a, b, x], 1, 1, 0, [], []⟩ := fun x hx => by
    unfold actS
    rw [if_neg (by show ¬ k = 12; omega), if_neg (by show ¬ (k = 13 ∨ k = 14); omega)]
    unfold plS
    rw [hp, hx]
    rfl
  cases hx : calcV k a b with
  | none =>
    rw [hx] at hE
    rw [hE]
    rfl
  | some x =>
    rw [hx] at hE
    rw [hE, if_neg (by simp), if_neg (by show ¬ k = 14; omega), hS x hx]
    rfl
/-- The program that EvalCalc writes down: the ops, the function, the program, one block behind the other; one of its cells may have been written anew. -/
theorem calc_laid {w : World} {O F : Nat} {k : Nat} {b : Int} (hO : w.heap[O]? = some (.cells (Cd.ocells (calcO k b)).toArray 23 (0, 0))) (hF : w.heap[F]? = some (.cells #[.int .i64 2, .int .i64 3, .slice (some ⟨O, 0, none⟩) 2 2] 26 (0, 0))) :
    Cd.Prog w w.heap.size (some ⟨F, 0, none⟩) [⟨⟨2, 3, calcO k b⟩, some ⟨O, 0, none⟩, 2⟩] := by
  refine ⟨fun _ => ⟨_, rfl, Cd.ltH hF, fun j u hu => World.news_of_block hF j u hu⟩, fun m hm => ?_⟩
  rw [List.mem_singleton.1 hm]
  exact fun _ => ⟨_, rfl, Cd.ltH hO, fun j u hu => World.news_of_block hO j u (by simpa using hu)⟩
theorem calc_rng {O k : Nat} {b : Int} (hk : k ≤ 9) (hb : b = 0 ∨ b = 1) : ∀ m ∈ [(⟨⟨2, 3, calcO k b⟩, some ⟨O, 0, none⟩, 2⟩ : Cd.Fm)], m.f.Rng := fun m hm => by
  rw [List.mem_singleton.1 hm]
  refine ⟨(by show (-9223372036854775808 : Int) ≤ 2 ∧ (2 : Int) ≤ 9223372036854775807; decide), (by show (-9223372036854775808 : Int) ≤ 3 ∧ (3 : Int) ≤ 9223372036854775807; decide), fun o ho => ?_, by show (2 : Nat) ≤ maxLen; unfold maxLen; omega⟩
  simp only [calcO, List.mem_cons, List.not_mem_nil, or_false] at ho
  rcases ho with rfl | rfl
  · exact ⟨by show k < 256; omega, (by show (-9223372036854775808 : Int) ≤ 2 ∧ (2 : Int) ≤ 9223372036854775807; decide), (by show (-9223372036854775808 : Int) ≤ 0 ∧ (0 : Int) ≤ 9223372036854775807; decide), by show -9223372036854775808 ≤ b ∧ b ≤ 9223372036854775807; omega, (by show (-9223372036854775808 : Int) ≤ 0 ∧ (0 : Int) ≤ 9223372036854775807; decide)⟩
  · exact ⟨by decide, by decide, by decide, by decide, by decide⟩
end Ev

set_option maxHeartbeats 4000000 in
set_option maxRecDepth 20000 in
theorem calc13 (W : World) (hL : Ck.Laid W) (d : Int) (d0 : 0 ≤ d) (_d1 : d ≤ 255) (a b : Int) : Calls Tryd.prog 3 #[.int .u8 d, .int .i64 a, .int .i64 b] W fun e w' => e = .returned (.bool true) ∧ Below W.heap.size W w' := by
  have HL := Lib.hid hL
  obtain ⟨k, hk, k2, k9⟩ : ∃ k : Nat, d % 8 + 2 = (k : Int) ∧ 2 ≤ k ∧ k ≤ 9 := ⟨(d % 8 + 2).toNat, by omega, by omega, by omega⟩
  have hk' : 2 + d % 8 = (k : Int) := by omega
  have hw : IntKind.u8.wrap (2 + d % 8) = (k : Int) := by rw [hk']; show (k : Int) % 256 = _; omega
  have ht : d.tmod 8 = d % 8 := Int.tmod_eq_emod_of_nonneg d0
  have K2 := Lib.hid k2
  have K9 := Lib.hid k9
  clear hL k2 k9
  go_enter Tryd.func3, Tryd.ntmps3
  go_upto_region 3 with fail
  obtain ⟨W1, h1⟩ : ∃ V, V = W.alloc (.cells #[.int .u8 (k : Int), .int .i64 2, .int .i64 0, .int .i64 1, .int .i64 0, .int .u8 14, .int .i64 0, .int .i64 2, .int .i64 0, .int .i64 0] 23) := ⟨_, rfl⟩
  obtain ⟨W2, h2⟩ : ∃ V, V = W1.alloc (.cells #[.int .i64 2, .int .i64 3, .slice (some ⟨W.heap.size, 0, none⟩) 2 2] 26) := ⟨_, rfl⟩
  obtain ⟨W3, h3⟩ : ∃ V, V = W2.alloc (.cells #[.slice (some ⟨W.heap.size + 1, 0, none⟩) 1 1] 29) := ⟨_, rfl⟩
  rw [← h1, ← h2, ← h3]
  have b1 : Below W.heap.size W W1 := by rw [h1]; exact Cd.fn1 _ _ _
  have b2 : Below W1.heap.size W1 W2 := by rw [h2]; exact Cd.fn1 _ _ _
  have b3 : Below W2.heap.size W2 W3 := by rw [h3]; exact Cd.fn1 _ _ _
  have s1 : W1.heap.size = W.heap.size + 1 := by rw [h1]; simp
  have s2 : W2.heap.size = W.heap.size + 2 := by rw [h2]; simp [s1]
  have hO : W3.heap[W.heap.size]? = some (.cells (Cd.ocells (Ev.calcO k 1)).toArray 23 (0, 0)) := by rw [b3.block W.heap.size (by omega), b2.block W.heap.size (by omega), h1]; exact heap_alloc_new W _
  have hF : W3.heap[W.heap.size + 1]? = some (.cells #[.int .i64 2, .int .i64 3, .slice (some ⟨W.heap.size, 0, none⟩) 2 2] 26 (0, 0)) := by
    have h := heap_alloc_new W1 (.cells #[.int .i64 2, .int .i64 3, .slice (some ⟨W.heap.size, 0, none⟩) 2 2] 26)
    rw [← h2, s1] at h
    rw [b3.block (W.heap.size + 1) (by omega)]
    exact h
  have hP : W3.heap[W.heap.size + 1 + 1]? = some (.cells #[.slice (some ⟨W.heap.size + 1, 0, none⟩) 1 1] 29 (0, 0)) := by rw [show W.heap.size + 1 + 1 = W2.heap.size by omega, h3]; exact heap_alloc_new W2 _
  have hB := b1.trans ((b2.trans (b3.mono b2.size)).mono b1.size)
  obtain ⟨O, hOe⟩ : ∃ O, O = W.heap.size := ⟨_, rfl⟩
  rw [← hOe] at hO hF hP ⊢
  have HB := Lib.hid hB
  have HOE := Lib.hid hOe
  clear h1 h2 h3 b1 b2 b3 s1 s2 hB hOe hk hk' hw ht d0
  have HREST : Hid (∀ W5, W5.heap[O]? = some (.cells (Cd.ocells (Ev.calcO k (Ev.bOf k))).toArray 23 (0, 0)) → W5.heap[O + 1]? = some (.cells #[.int .i64 2, .int .i64 3, .slice (some ⟨O, 0, none⟩) 2 2] 26 (0, 0)) → Below W.heap.size W W5 →
      Calls Tryd.prog 5 #[.agg #[.slice (some ⟨O + 1, 0, none⟩) 1 1], .slice (some ⟨W5.heap.size, 0, none⟩) 2 2, .int .i64 2] (W5.alloc (.cells #[.int .i64 a, .int .i64 b] 2)) fun e w' =>
        (Ev.calcV k a b = none → e = .returned (.tuple #[.agg #[.int .i64 0, .int .i64 131], .int .i64 0])) ∧ (∀ x, Ev.calcV k a b = some x → e = .returned (.tuple #[.agg #[.int .i64 x, .int .i64 0], .int .i64 0])) ∧ Below W.heap.size W w') := fun W5 hO hF hb => by
    have hb5 := Cd.fn1 W5 #[.int .i64 a, .int .i64 b] 2
    have hk2 := K2.out
    have hk9 := K9.out
    refine (eEval (some ⟨O + 1, 0, none⟩) 1 [⟨⟨2, 3, Ev.calcO k (Ev.bOf k)⟩, some ⟨O, 0, none⟩, 2⟩] _ (Ev.calc_rng hk9 (by unfold Ev.bOf; split; exact .inl rfl; exact .inr rfl)) (by show (1 : Nat) ≤ maxLen; unfold maxLen; omega) (((Ev.calc_laid hO hF).below hb5).mono hb5.size) (HL.out.later (hb.trans (hb5.mono hb.size)))
      (some ⟨W5.heap.size, 0, none⟩) [a, b] 2 (fun _ => ⟨_, rfl, by simp, fun j u hu => World.news_of_block (heap_alloc_new W5 _) j u hu⟩) (by simp) 2).mono ?_
    rintro e w' ⟨he, hbw⟩
    have e1 : Cd.fns [(⟨⟨2, 3, Ev.calcO k (Ev.bOf k)⟩, some ⟨O, 0, none⟩, 2⟩ : Cd.Fm)] = Ev.calcPr k (Ev.bOf k) := rfl
    rw [e1, show [a, b].length = 2 from rfl, Ev.calc_root hk2 hk9, Ev.calc_ev hk2 hk9] at he
    refine ⟨fun h => by rw [he, h], fun x h => by rw [he, h], (hb.trans (hb5.mono hb.size)).trans (hbw.mono (Nat.le_trans hb.size hb5.size))⟩
  have HGO : ∃ W5 : World, (k = 2 → W5 = W3.setCell ⟨O, 3, none⟩ (.int .i64 0)) ∧ (k ≠ 2 → W5 = W3) := by
    by_cases h : k = 2
    · exact ⟨_, fun _ => rfl, fun h2 => absurd h h2⟩
    · exact ⟨_, fun h2 => absurd h2 h, fun _ => rfl⟩
  obtain ⟨W5, hW5a, hW5b⟩ := HGO
  have H5 : Hid (W5.heap[O]? = some (.cells (Cd.ocells (Ev.calcO k (Ev.bOf k))).toArray 23 (0, 0)) ∧ W5.heap[O + 1]? = some (.cells #[.int .i64 2, .int .i64 3, .slice (some ⟨O, 0, none⟩) 2 2] 26 (0, 0)) ∧ W5.heap[O + 1 + 1]? = some (.cells #[.slice (some ⟨O + 1, 0, none⟩) 1 1] 29 (0, 0)) ∧ Below W.heap.size W W5) := by
    show _ ∧ _
    by_cases h : k = 2
    · rw [hW5a h]
      refine ⟨?_, (Below.heap_setCell _ _ _ _ (by simp)).trans hF, (Below.heap_setCell _ _ _ _ (by show O + 1 + 1 ≠ O; omega)).trans hP, HB.out.setCell (by have := HOE.out; show W.heap.size ≤ O; omega) _⟩
      rw [heap_setCell_same _ _ _ _ _ _ hO]
      unfold Ev.bOf
      rw [if_pos h]
      rfl
    · rw [hW5b h]
      refine ⟨?_, hF, hP, HB.out⟩
      unfold Ev.bOf
      rw [if_neg h]
      exact hO
  have HCV := Lib.hid (HREST.out W5 H5.out.1 H5.out.2.1 H5.out.2.2.2)
  have HCA : Hid (∀ U, Calls Tryd.prog 6 #[.int .u8 (k : Int), .int .i64 a, .int .i64 b] U (Ev.CalcQ k a b U)) := fun U => rCalc13 k K2.out K9.out a b U
  have p5 : W5.cell? ⟨O + 1 + 1, 0, none⟩ = some (.slice (some ⟨O + 1, 0, none⟩) 1 1) := cell_of_row _ _ 0 _ _ _ H5.out.2.2.1
  clear HREST
  by_cases hk2 : k = 2
  · have hW5 := hW5a hk2
    have p0 : W3.cell? ⟨O + 1 + 1, 0, none⟩ = some (.slice (some ⟨O + 1, 0, none⟩) 1 1) := cell_of_row _ _ 0 _ _ _ hP
    have f2 : W3.cell? ⟨O + 1, 2, none⟩ = some (.slice (some ⟨O, 0, none⟩) 2 2) := cell_of_row _ _ 2 _ _ _ hF
    have o3 : W3.cell? ⟨O, 3, none⟩ = some (.int .i64 1) := cell_of_row _ _ 3 _ _ _ hO
    have of3 := frozen_of_row _ _ 3 _ _ hO
    have e2 : (k : Int) = 2 := by omega
    have e2b : ((k : Int) == 2) = true := by simpa using e2
    clear hW5a hW5b hO hF hP
    go_upto_region 5 with fail
    rw [← hW5]
    clear hW5 e2 e2b p0 f2 o3 of3 hk2
    have HB5 := Lib.hid H5.out.2.2.2
    have HCA2 : Hid (∀ U, Calls Tryd.prog 6 #[.int .u8 (k : Int), .int .i64 a, .int .i64 b] U fun e w' => e = .returned (.tuple #[.int .i64 ((Ev.calcV k a b).getD 0), .bool (Ev.calcV k a b).isSome]) ∧ ∃ q, w' = U.drewN q) := HCA.out
    clear HCA H5
    generalize Ev.calcV k a b = cv at HCV HCA2
    cases cv with
    | none =>
      go_wp2_with fail
      refine HCV.out.mono ?_
      rintro e w6 ⟨hh, -, hb6⟩
      obtain rfl := hh trivial
      have H6 := Lib.hid (hb6.alloc hb6.size (.cells #[.int .i64 0, .int .i64 131] 32))
      have HQ := Lib.hid (heap_alloc_new w6 (.cells #[.int .i64 0, .int .i64 131] 32))
      clear hb6 hh p5
      go_wp2_with fail
      refine (HCA2.out _).mono ?_
      rintro e w7 ⟨rfl, q, rfl⟩
      have q0 : (w6.alloc (.cells #[.int .i64 0, .int .i64 131] 32)).cell? ⟨w6.heap.size, 0, none⟩ = some (.int .i64 0) := cell_of_row _ _ 0 _ _ _ HQ.out
      have q1 : (w6.alloc (.cells #[.int .i64 0, .int .i64 131] 32)).cell? ⟨w6.heap.size, 1, none⟩ = some (.int .i64 131) := cell_of_row _ _ 1 _ _ _ HQ.out
      have HAL := Lib.hid (alive13 ((w6.alloc (.cells #[.int .i64 0, .int .i64 131] 32)).drewN q) (show Ck.Laid (w6.alloc (.cells #[.int .i64 0, .int .i64 131] 32)) from HL.out.later H6.out))
      go_wp2_with fail
      refine HAL.out.mono ?_
      rintro e w8 ⟨rfl, hb8⟩
      have H8 : Hid (Below W.heap.size W w8) := H6.out.trans (Below.mono (show Below (w6.alloc (.cells #[.int .i64 0, .int .i64 131] 32)).heap.size (w6.alloc (.cells #[.int .i64 0, .int .i64 131] 32)) w8 from ⟨hb8.os, hb8.tape, hb8.output, hb8.size, hb8.block⟩) H6.out.size)
      clear hb8
      go_wp2_with fail
      go_ret
      exact ⟨rfl, H8.out⟩
    | some x =>
      go_wp2_with fail
      refine HCV.out.mono ?_
      rintro e w6 ⟨-, hh, hb6⟩
      obtain rfl := hh x rfl
      have H6 := Lib.hid (hb6.alloc hb6.size (.cells #[.int .i64 x, .int .i64 0] 32))
      have HQ := Lib.hid (heap_alloc_new w6 (.cells #[.int .i64 x, .int .i64 0] 32))
      clear hb6 hh p5
      go_wp2_with fail
      refine (HCA2.out _).mono ?_
      rintro e w7 ⟨rfl, q, rfl⟩
      have q0 : (w6.alloc (.cells #[.int .i64 x, .int .i64 0] 32)).cell? ⟨w6.heap.size, 0, none⟩ = some (.int .i64 x) := cell_of_row _ _ 0 _ _ _ HQ.out
      have q1 : (w6.alloc (.cells #[.int .i64 x, .int .i64 0] 32)).cell? ⟨w6.heap.size, 1, none⟩ = some (.int .i64 0) := cell_of_row _ _ 1 _ _ _ HQ.out
      have HAL := Lib.hid (alive13 ((w6.alloc (.cells #[.int .i64 x, .int .i64 0] 32)).drewN q) (show Ck.Laid (w6.alloc (.cells #[.int .i64 x, .int .i64 0] 32)) from HL.out.later H6.out))
      go_wp2_with fail
      refine HAL.out.mono ?_
      rintro e w8 ⟨rfl, hb8⟩
      have H8 : Hid (Below W.heap.size W w8) := H6.out.trans (Below.mono (show Below (w6.alloc (.cells #[.int .i64 x, .int .i64 0] 32)).heap.size (w6.alloc (.cells #[.int .i64 x, .int .i64 0] 32)) w8 from ⟨hb8.os, hb8.tape, hb8.output, hb8.size, hb8.block⟩) H6.out.size)
      clear hb8
      go_wp2_with fail
      go_ret
      exact ⟨rfl, H8.out⟩
  · have hW5 := hW5b hk2
    have e2b : ((k : Int) == 2) = false := by rw [beq_eq_false_iff_ne]; omega
    clear hW5a hW5b hO hF hP
    go_upto_region 5 with fail
    rw [← hW5]
    clear hW5 hk2 e2b
    have HB5 := Lib.hid H5.out.2.2.2
    have HCA2 : Hid (∀ U, Calls Tryd.prog 6 #[.int .u8 (k : Int), .int .i64 a, .int .i64 b] U fun e w' => e = .returned (.tuple #[.int .i64 ((Ev.calcV k a b).getD 0), .bool (Ev.calcV k a b).isSome]) ∧ ∃ q, w' = U.drewN q) := HCA.out
    clear HCA H5
    generalize Ev.calcV k a b = cv at HCV HCA2
    cases cv with
    | none =>
      go_wp2_with fail
      refine HCV.out.mono ?_
      rintro e w6 ⟨hh, -, hb6⟩
      obtain rfl := hh trivial
      have H6 := Lib.hid (hb6.alloc hb6.size (.cells #[.int .i64 0, .int .i64 131] 32))
      have HQ := Lib.hid (heap_alloc_new w6 (.cells #[.int .i64 0, .int .i64 131] 32))
      clear hb6 hh p5
      go_wp2_with fail
      refine (HCA2.out _).mono ?_
      rintro e w7 ⟨rfl, q, rfl⟩
      have q0 : (w6.alloc (.cells #[.int .i64 0, .int .i64 131] 32)).cell? ⟨w6.heap.size, 0, none⟩ = some (.int .i64 0) := cell_of_row _ _ 0 _ _ _ HQ.out
      have q1 : (w6.alloc (.cells #[.int .i64 0, .int .i64 131] 32)).cell? ⟨w6.heap.size, 1, none⟩ = some (.int .i64 131) := cell_of_row _ _ 1 _ _ _ HQ.out
      have HAL := Lib.hid (alive13 ((w6.alloc (.cells #[.int .i64 0, .int .i64 131] 32)).drewN q) (show Ck.Laid (w6.alloc (.cells #[.int .i64 0, .int .i64 131] 32)) from HL.out.later H6.out))
      go_wp2_with fail
      refine HAL.out.mono ?_
      rintro e w8 ⟨rfl, hb8⟩
      have H8 : Hid (Below W.heap.size W w8) := H6.out.trans (Below.mono (show Below (w6.alloc (.cells #[.int .i64 0, .int .i64 131] 32)).heap.size (w6.alloc (.cells #[.int .i64 0, .int .i64 131] 32)) w8 from ⟨hb8.os, hb8.tape, hb8.output, hb8.size, hb8.block⟩) H6.out.size)
      clear hb8
      go_wp2_with fail
      go_ret
      exact ⟨rfl, H8.out⟩
    | some x =>
      go_wp2_with fail
      refine HCV.out.mono ?_
      rintro e w6 ⟨-, hh, hb6⟩
      obtain rfl := hh x rfl
      have H6 := Lib.hid (hb6.alloc hb6.size (.cells #[.int .i64 x, .int .i64 0] 32))
      have HQ := Lib.hid (heap_alloc_new w6 (.cells #[.int .i64 x, .int .i64 0] 32))
      clear hb6 hh p5
      go_wp2_with fail
      refine (HCA2.out _).mono ?_
      rintro e w7 ⟨rfl, q, rfl⟩
      have q0 : (w6.alloc (.cells #[.int .i64 x, .int .i64 0] 32)).cell? ⟨w6.heap.size, 0, none⟩ = some (.int .i64 x) := cell_of_row _ _ 0 _ _ _ HQ.out
      have q1 : (w6.alloc (.cells #[.int .i64 x, .int .i64 0] 32)).cell? ⟨w6.heap.size, 1, none⟩ = some (.int .i64 0) := cell_of_row _ _ 1 _ _ _ HQ.out
      have HAL := Lib.hid (alive13 ((w6.alloc (.cells #[.int .i64 x, .int .i64 0] 32)).drewN q) (show Ck.Laid (w6.alloc (.cells #[.int .i64 x, .int .i64 0] 32)) from HL.out.later H6.out))
      go_wp2_with fail
      refine HAL.out.mono ?_
      rintro e w8 ⟨rfl, hb8⟩
      have H8 : Hid (Below W.heap.size W w8) := H6.out.trans (Below.mono (show Below (w6.alloc (.cells #[.int .i64 x, .int .i64 0] 32)).heap.size (w6.alloc (.cells #[.int .i64 x, .int .i64 0] 32)) w8 from ⟨hb8.os, hb8.tape, hb8.output, hb8.size, hb8.block⟩) H6.out.size)
      clear hb8
      go_wp2_with fail
      go_ret
      exact ⟨rfl, H8.out⟩
end Go.Proofs.YtaijafkfiogmlaaDoor
end
