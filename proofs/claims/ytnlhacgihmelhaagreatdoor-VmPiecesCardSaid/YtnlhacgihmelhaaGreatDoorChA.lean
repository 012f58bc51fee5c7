/-
  Contracts of check.below (are all of these below n), check.from, check.within.
-/
import Derived.Test.YtnlhacgihmelhaaGreatDoorChM
import Derived.Test.YtnlhacgihmelhaaGreatDoorLowCdF
import Derived.Deep.AppendLies
import Derived.Test.YtnlhacgihmelhaaGreatDoorLowCdN
namespace Go.Proofs.YtnlhacgihmelhaaGreatDoor
open Go.RowKit

namespace Ck
def allLt (xs : List Int) (n : Int) : Bool := xs.all fun x => decide (x < n)
theorem intInfo : (Tryz.prog.info? 3).map (fun i => (i.zero, i.size, i.bytes)) = some (some (.int .i64 0), 1, 8) := by kernel_rfl
end Ck

set_option maxHeartbeats 400000 in
theorem kbelow1 (x n : Int) (X : Nat) (w : World) (hc : w.cell? ⟨X, 0, none⟩ = some (.int .i64 n)) : Calls Tryz.prog 174 #[.int .i64 x, .pointer (some ⟨X, 0, none⟩)] w fun e w' => e = .returned (.bool (!decide (x < n))) ∧ w = w' := by
  by_cases h : x < n
  · have hd : decide (x < n) = true := by simpa using h
    have hd2 : decide (n ≤ x) = false := by simpa using h
    rw [hd]
    clear h
    go_enter Tryz.func174, Tryz.ntmps174
    go_wp2_with fail
    go_ret
    exact ⟨by first | rfl | (simp only [*]; rfl), rfl⟩
  · have hd : decide (x < n) = false := by simpa using h
    have hd2 : decide (n ≤ x) = true := by simpa using h
    rw [hd]
    clear h
    go_enter Tryz.func174, Tryz.ntmps174
    go_wp2_with fail
    go_ret
    exact ⟨by first | rfl | (simp only [*]; rfl), rfl⟩

set_option maxHeartbeats 400000 in
theorem kidx (xs : List Int) (n : Int) (A : Option Addr) (c X : Nat) (w : World) (hn : xs.length ≤ 1000) (hli : Lies w w.heap.size A (icells xs)) (hc : w.cell? ⟨X, 0, none⟩ = some (.int .i64 n)) :
    Calls Tryz.prog 175 #[.slice A xs.length c, .func (.func 174) #[] #[.pointer (some ⟨X, 0, none⟩)]] w fun e w' => ∃ i : Int, e = .returned (.int .i64 i) ∧ decide (0 ≤ i) = !Ck.allLt xs n ∧ w = w' := by
  have HL := Lib.hid hli
  have HX := Lib.hid hc
  clear hli hc
  go_enter Tryz.func175, Tryz.ntmps175
  go_wp2_with fail
  go_loop [8] (fun i => ∃ k : Nat, k ≤ xs.length ∧ i = .int .i64 k ∧ Hid (Ck.allLt (xs.take k) n = true)) (fun i => xs.length - (intOf i).toNat)
  case atStart => exact ⟨0, Nat.zero_le _, rfl, rfl⟩
  case round =>
    obtain ⟨k, hk, rfl, HN⟩ := hrel
    by_cases hlt : k < xs.length
    · obtain ⟨ad, rfl, hb, hc⟩ := HL.out.at_ (icells_at hlt)
      clear hb
      have HM := Lib.hid (List.getElem_mem hlt)
      have HT := Lib.hid (List.take_succ_eq_append_getElem hlt)
      generalize xs[k] = x at hc HM HT
      cases he : decide (x < n)
      · have HD : Hid (Ck.allLt xs n = false) := by
          show _ = _
          unfold Ck.allLt
          rw [List.all_eq_false]
          exact ⟨x, HM.out, by rw [he]; decide⟩
        have HC := Lib.hid (kbelow1 x n X w HX.out)
        rw [he] at HC
        clear he
        go_wp2_with fail
        refine HC.out.mono ?_
        rintro e w1 ⟨rfl, rfl⟩
        go_wp2_with fail
        go_ret
        exact ⟨k, rfl, by rw [HD.out]; simp, rfl⟩
      · have HC := Lib.hid (kbelow1 x n X w HX.out)
        rw [he] at HC
        have HE := Lib.hid he
        clear he
        go_wp2_with fail
        refine HC.out.mono ?_
        rintro e w1 ⟨rfl, rfl⟩
        go_wp2_with fail
        go_round
        case rel => exact ⟨k + 1, by omega, by go_num, by show _ = _; rw [HT.out]; unfold Ck.allLt; rw [List.all_append]; have := HN.out; unfold Ck.allLt at this; rw [this]; simpa using HE.out⟩
        case measure => simp [intOf]; omega
    · have HD : Hid (Ck.allLt xs n = true) := by
        show _ = _
        rw [← HN.out, List.take_of_length_le (by omega)]
      have k1 : ¬ ((k : Int) < xs.length) := by omega
      go_wp2_with fail
      go_ret
      exact ⟨-1, rfl, by rw [HD.out]; decide, rfl⟩

set_option maxHeartbeats 400000 in
theorem kbelow (n : Int) (xs : List Int) (A : Option Addr) (c : Nat) (w : World) (hn : xs.length ≤ 1000) (hli : Lies w w.heap.size A (icells xs)) :
    Calls Tryz.prog 155 #[.int .i64 n, .slice A xs.length c] w fun e w' => e = .returned (.bool (Ck.allLt xs n)) ∧ Below w.heap.size w w' := by
  obtain ⟨W, hW⟩ : ∃ W, W = w.alloc (.cells #[.int .i64 n] 3) := ⟨_, rfl⟩
  have hb : Below w.heap.size w W := by rw [hW]; exact Cd.fn1 _ _ _
  have hr : W.heap[w.heap.size]? = some (.cells #[.int .i64 n] 3 (0, 0)) := by rw [hW]; exact heap_alloc_new w _
  have hc : W.cell? ⟨w.heap.size, 0, none⟩ = some (.int .i64 n) := cell_of_row _ _ 0 _ _ _ hr
  have HB := Lib.hid hb
  have HC : Hid (Calls Tryz.prog 170 #[.slice A xs.length c, .func (.func 174) #[] #[.pointer (some ⟨w.heap.size, 0, none⟩)]] W fun e w' => e = .returned (.bool (!Ck.allLt xs n)) ∧ W = w') := by
    have HI := Lib.hid (kidx xs n A c w.heap.size W hn ((hli.below hb).mono hb.size) hc)
    clear hli hn hW hr hc hb HB
    show Calls _ _ _ _ _
    go_enter Tryz.func170, Tryz.ntmps170
    go_wp2_with fail
    refine HI.out.mono ?_
    rintro e w1 ⟨i, rfl, hi, rfl⟩
    go_wp2_with fail
    go_ret
    exact ⟨by rw [← hi]; rfl, rfl⟩
  clear hli hn hr hc hb
  go_enter Tryz.func155, Tryz.ntmps155
  go_upto_region 1 with fail
  rw [← hW]
  clear hW
  go_wp2_with fail
  refine HC.out.mono ?_
  rintro e w1 ⟨rfl, rfl⟩
  go_wp2_with fail
  go_ret
  exact ⟨by cases Ck.allLt xs n <;> rfl, HB.out⟩

set_option maxHeartbeats 400000 in
theorem kwithin (x : Int) (n : Nat) (_hn : (n : Int) ≤ 9223372036854775807) (w : World) : Calls Tryz.prog 156 #[.int .i64 x, .int .i64 (n : Int)] w fun e w' => e = .returned (.bool (Ck.inN x n)) ∧ w = w' := by
  by_cases h0 : 0 ≤ x
  · have b0 : decide (0 ≤ x) = true := by simpa using h0
    by_cases h1 : x < (n : Int)
    · have b1 : decide (x < (n : Int)) = true := by simpa using h1
      have e : Ck.inN x n = true := by unfold Ck.inN; rw [b0, b1]; rfl
      rw [e]
      clear h0 h1 e
      go_enter Tryz.func156, Tryz.ntmps156
      go_wp2_with fail
      go_ret
      exact ⟨rfl, rfl⟩
    · have b1 : decide (x < (n : Int)) = false := by simpa using h1
      have e : Ck.inN x n = false := by unfold Ck.inN; rw [b0, b1]; rfl
      rw [e]
      clear h0 h1 e
      go_enter Tryz.func156, Tryz.ntmps156
      go_wp2_with fail
      go_ret
      exact ⟨rfl, rfl⟩
  · have b0 : decide (0 ≤ x) = false := by simpa using h0
    have e : Ck.inN x n = false := by unfold Ck.inN; rw [b0]; rfl
    rw [e]
    clear h0 e
    go_enter Tryz.func156, Tryz.ntmps156
    go_wp2_with fail
    go_ret
    exact ⟨rfl, rfl⟩

namespace Ck
/-- n numbers, from a on. -/
def fromL (a : Int) (n : Nat) : List Int := (List.range n).map fun (i : Nat) => a + (i : Int)
theorem fromL_succ (a : Int) (n : Nat) : fromL a (n + 1) = fromL a n ++ [a + (n : Int)] := by unfold fromL; rw [List.range_succ, List.map_append]; rfl
/-- append(l, x), at a region's list. -/
theorem ipush {ops : Array Oper} {rest : List Oper} {oo : Oper} {a : Act} {w : World} {Q : Exit → Act → World → Prop} {T1 : TypeId} {base n b : Nat} {v : Value} {xs : List Value}
    (hrow : w.ownsRow base 3 1 v n xs) (hgd : oo.guard = none) (s x : Operand)
    (hop : oo.op = .call { callee := .builtin .append, args := #[s, x], argTypes := #[75, 75] }) (hs : a.eval s = v) (hx : a.eval x = .slice (some ⟨b, 0, none⟩) 1 1) (z : Int) (hb : w.heap.size = b) (hn : n ≤ 100000) (hbase : base ≤ w.heap.size)
    (h : ∀ g cap w', w'.ownsRow base 3 1 (.slice (some ⟨g, 0, none⟩) (n + 1) cap) (n + 1) (xs ++ icells [z]) → (w.alloc (.cells #[.int .i64 z] T1)).grownBy w' v.ownBlock → wpList Tryz.prog ops Q rest (a.put oo.dst (.slice (some ⟨g, 0, none⟩) (n + 1) cap)) w') :
    wpList Tryz.prog ops Q (oo :: rest) a (w.alloc (.cells #[.int .i64 z] T1)) := by
  obtain ⟨i, hi, hz⟩ := Option.map_eq_some_iff.1 intInfo
  simp only [Prod.mk.injEq] at hz
  obtain ⟨z1, z2, z3⟩ := hz
  subst hb
  refine wpList_append_lies _ hgd s x 75 hop base 3 i (.int .i64 0) 1 8 Tryz.underlying75 hi z1 z2 z3 rfl (by decide) v n xs hs (hrow.alloc _) ⟨w.heap.size, 0, none⟩ 1 1 (icells [z]) hx rfl
    (fun j u hu => World.news_of_block (heap_alloc_new w (.cells #[.int .i64 z] T1)) j u hu) (by simp [icells, Value.oneCell']) (by decide) (by unfold maxLen; omega) (by omega) (by simp; omega) (w.heap.size + 1) (by simp) ?_
  intro g cap w' h1 h2 _ _
  exact h g cap w' h1 h2
def FromP (n : Nat) (l : List Int) (w : World) (e : Ending) (w' : World) : Prop := ∃ (A : Option Addr) (c : Nat), e = .returned (.slice A n c) ∧ Lies w' w'.heap.size A (icells l) ∧ Below w.heap.size w w'
theorem fromL_len (a : Int) (n : Nat) : (fromL a n).length = n := by unfold fromL; simp
theorem fromL_lt (a : Int) (n : Nat) (m : Int) : allLt (fromL a n) m = (decide ((n : Int) ≤ 0) || decide (a + (n : Int) ≤ m)) := by
  induction n with
  | zero => rfl
  | succ n ih =>
    rw [fromL_succ]
    unfold allLt at ih ⊢
    rw [List.all_append, ih, Bool.eq_iff_iff]
    simp
    omega
end Ck

set_option maxHeartbeats 600000 in
set_option maxRecDepth 20000 in
theorem kfrom (a : Int) (n : Nat) (ha : 0 ≤ a ∧ a ≤ 16) (hn : n ≤ 16) (w : World) :
    Calls Tryz.prog 157 #[.int .i64 a, .int .i64 (n : Int)] w (Ck.FromP n (Ck.fromL a n) w) := by
  go_enter Tryz.func157, Tryz.ntmps157
  go_wp2_with fail
  go_loopw [5, 8] (fun s5 s8 wr => ∃ (k : Nat) (A : Option Addr) (c : Nat), k ≤ n ∧ s5 = .slice A k c ∧ s8 = .int .i64 k ∧ Hid (wr.ownsRow w.heap.size 3 1 (.slice A k c) k (icells (Ck.fromL a k)) ∧ Below w.heap.size w wr)) (fun _ s8 _ => n - (intOf s8).toNat)
  case atStart => exact ⟨0, none, 0, Nat.zero_le _, rfl, rfl, ⟨rfl, .inl ⟨rfl, rfl⟩⟩, Below.refl _ _⟩
  case round =>
    obtain ⟨k, A, c, hk, rfl, rfl, HS⟩ := hrel
    by_cases hlt : k < n
    · have k1 : (k : Int) < (n : Int) := by omega
      have hs : IntKind.i64.wrap (a + (k : Int)) = a + (k : Int) := by rw [IntKind.wrap_i64]; omega
      have hbs := HS.out.2.size
      clear hlt
      have hk100 : k ≤ 100000 := by omega
      go_wp2_with (refine Cd.at_app rfl ?_; refine Ck.ipush HS.out.1 rfl _ _ rfl rfl rfl (a + (k : Int)) (by first | with_reducible rfl | rfl) hk100 hbs ?_; intro g cap w6 hown hgr)
      have HNEW : Hid (w6.ownsRow w.heap.size 3 1 (.slice (some ⟨g, 0, none⟩) (k + 1) cap) (k + 1) (icells (Ck.fromL a (k + 1))) ∧ Below w.heap.size w w6) := by
        refine ⟨?_, ?_⟩
        · rw [Ck.fromL_succ]
          have e : icells (Ck.fromL a k ++ [a + (k : Int)]) = icells (Ck.fromL a k) ++ icells [a + (k : Int)] := by unfold icells; rw [List.map_append]
          rw [e]
          exact hown
        · have hb := HS.out.2.trans ((Cd.fn1 wr #[.int .i64 (a + (k : Int))] 3).mono HS.out.2.size)
          exact hb.grown hgr hb.size (fun q hq => (HS.out.1.lt q hq).1)
      clear hown hgr hs hbs
      go_wp2_with fail
      go_roundw
      case rel => exact ⟨k + 1, some ⟨g, 0, none⟩, cap, by omega, by go_num, by go_num, HNEW.out⟩
      case measure => simp [intOf]; omega
    · obtain rfl : k = n := by omega
      have k1 : ¬ (k : Int) < (k : Int) := by omega
      clear hlt
      go_wp2_with fail
      go_ret
      exact ⟨A, c, rfl, Cd.rowLies HS.out.1, HS.out.2⟩
end Go.Proofs.YtnlhacgihmelhaaGreatDoor
