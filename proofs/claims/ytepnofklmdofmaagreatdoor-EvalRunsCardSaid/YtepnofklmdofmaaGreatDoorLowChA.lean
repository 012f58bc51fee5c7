/-
  Contracts of check.below (are all of these below n), check.from, check.within.
  Contracts of check.hasRegisters, hasTarget, hasArguments, wrongOp.
-/
import Derived.Test.YtepnofklmdofmaaGreatDoorChM
import Derived.Test.YtepnofklmdofmaaGreatDoorLowCdF
import Derived.Deep.AppendLies
import Derived.Test.YtepnofklmdofmaaGreatDoorLowCdN
import Derived.Test.YtepnofklmdofmaaGreatDoorLowCdI
import Derived.BigRegion
section
namespace Go.Proofs.YtepnofklmdofmaaGreatDoor
open Go.RowKit

namespace Ck
def allLt (xs : List Int) (n : Int) : Bool := xs.all fun x => decide (x < n)
theorem intInfo : (Tryz.prog.info? 3).map (fun i => (i.zero, i.size, i.bytes)) = some (some (.int .i64 0), 1, 8) := by kernel_rfl
end Ck

set_option maxHeartbeats 400000 in
theorem kbelow1 (x n : Int) (X : Nat) (w : World) (hc : w.cell? ⟨X, 0, none⟩ = some (.int .i64 n)) : Calls Tryz.prog 172 #[.int .i64 x, .pointer (some ⟨X, 0, none⟩)] w fun e w' => e = .returned (.bool (!decide (x < n))) ∧ w = w' := by
  by_cases h : x < n
  · have hd : decide (x < n) = true := by simpa using h
    have hd2 : decide (n ≤ x) = false := by simpa using h
    rw [hd]
    clear h
    go_enter Tryz.func172, Tryz.ntmps172
    go_wp2_with fail
    go_ret
    exact ⟨by first | rfl | (simp only [*]; rfl), rfl⟩
  · have hd : decide (x < n) = false := by simpa using h
    have hd2 : decide (n ≤ x) = true := by simpa using h
    rw [hd]
    clear h
    go_enter Tryz.func172, Tryz.ntmps172
    go_wp2_with fail
    go_ret
    exact ⟨by first | rfl | (simp only [*]; rfl), rfl⟩

set_option maxHeartbeats 400000 in
theorem kidx (xs : List Int) (n : Int) (A : Option Addr) (c X : Nat) (w : World) (hn : xs.length ≤ 1000) (hli : Lies w w.heap.size A (icells xs)) (hc : w.cell? ⟨X, 0, none⟩ = some (.int .i64 n)) :
    Calls Tryz.prog 173 #[.slice A xs.length c, .func (.func 172) #[] #[.pointer (some ⟨X, 0, none⟩)]] w fun e w' => ∃ i : Int, e = .returned (.int .i64 i) ∧ decide (0 ≤ i) = !Ck.allLt xs n ∧ w = w' := by
  have HL := Lib.hid hli
  have HX := Lib.hid hc
  clear hli hc
  go_enter Tryz.func173, Tryz.ntmps173
  go_wp2_with fail
  go_loop [8] (fun i => ∃ k : Nat, k ≤ xs.length ∧ i = .int .i64 k ∧ Hid (Ck.allLt (xs.take k) n = true)) (fun i => xs.length - (intOf i).toNat)
  case atStart => exact ⟨0, Nat.zero_le _, rfl, rfl⟩
  case round =>
    obtain ⟨k, hk, rfl, HN⟩ := hrel
    by_cases hlt : k < xs.length
    · obtain ⟨ad, rfl, hb, hc⟩ := HL.out.at_ (icells_at hlt)
      clear hb
      have HM := Lib.hid (List.getElem_mem hlt)
      have HT := Lib.hid (List.take_succ_eq_append_getElem hlt)
      generalize xs[k] = x at hc HM HT
      cases he : decide (x < n)
      · have HD : Hid (Ck.allLt xs n = false) := by
          show _ = _
          unfold Ck.allLt
          rw [List.all_eq_false]
          exact ⟨x, HM.out, by rw [he]; decide⟩
        have HC := Lib.hid (kbelow1 x n X w HX.out)
        rw [he] at HC
        clear he
        go_wp2_with fail
        refine HC.out.mono ?_
        rintro e w1 ⟨rfl, rfl⟩
        go_wp2_with fail
        go_ret
        exact ⟨k, rfl, by rw [HD.out]; simp, rfl⟩
      · have HC := Lib.hid (kbelow1 x n X w HX.out)
        rw [he] at HC
        have HE := Lib.hid he
        clear he
        go_wp2_with fail
        refine HC.out.mono ?_
        rintro e w1 ⟨rfl, rfl⟩
        go_wp2_with fail
        go_round
        case rel => exact ⟨k + 1, by omega, by go_num, by show _ = _; rw [HT.out]; unfold Ck.allLt; rw [List.all_append]; have := HN.out; unfold Ck.allLt at this; rw [this]; simpa using HE.out⟩
        case measure => simp [intOf]; omega
    · have HD : Hid (Ck.allLt xs n = true) := by
        show _ = _
        rw [← HN.out, List.take_of_length_le (by omega)]
      have k1 : ¬ ((k : Int) < xs.length) := by omega
      go_wp2_with fail
      go_ret
      exact ⟨-1, rfl, by rw [HD.out]; decide, rfl⟩

set_option maxHeartbeats 400000 in
theorem kbelow (n : Int) (xs : List Int) (A : Option Addr) (c : Nat) (w : World) (hn : xs.length ≤ 1000) (hli : Lies w w.heap.size A (icells xs)) :
    Calls Tryz.prog 153 #[.int .i64 n, .slice A xs.length c] w fun e w' => e = .returned (.bool (Ck.allLt xs n)) ∧ Below w.heap.size w w' := by
  obtain ⟨W, hW⟩ : ∃ W, W = w.alloc (.cells #[.int .i64 n] 3) := ⟨_, rfl⟩
  have hb : Below w.heap.size w W := by rw [hW]; exact Cd.fn1 _ _ _
  have hr : W.heap[w.heap.size]? = some (.cells #[.int .i64 n] 3 (0, 0)) := by rw [hW]; exact heap_alloc_new w _
  have hc : W.cell? ⟨w.heap.size, 0, none⟩ = some (.int .i64 n) := cell_of_row _ _ 0 _ _ _ hr
  have HB := Lib.hid hb
  have HC : Hid (Calls Tryz.prog 168 #[.slice A xs.length c, .func (.func 172) #[] #[.pointer (some ⟨w.heap.size, 0, none⟩)]] W fun e w' => e = .returned (.bool (!Ck.allLt xs n)) ∧ W = w') := by
    have HI := Lib.hid (kidx xs n A c w.heap.size W hn ((hli.below hb).mono hb.size) hc)
    clear hli hn hW hr hc hb HB
    show Calls _ _ _ _ _
    go_enter Tryz.func168, Tryz.ntmps168
    go_wp2_with fail
    refine HI.out.mono ?_
    rintro e w1 ⟨i, rfl, hi, rfl⟩
    go_wp2_with fail
    go_ret
    exact ⟨by rw [← hi]; rfl, rfl⟩
  clear hli hn hr hc hb
  go_enter Tryz.func153, Tryz.ntmps153
  go_upto_region 1 with fail
  rw [← hW]
  clear hW
  go_wp2_with fail
  refine HC.out.mono ?_
  rintro e w1 ⟨rfl, rfl⟩
  go_wp2_with fail
  go_ret
  exact ⟨by cases Ck.allLt xs n <;> rfl, HB.out⟩

set_option maxHeartbeats 400000 in
theorem kwithin (x : Int) (n : Nat) (_hn : (n : Int) ≤ 9223372036854775807) (w : World) : Calls Tryz.prog 154 #[.int .i64 x, .int .i64 (n : Int)] w fun e w' => e = .returned (.bool (Ck.inN x n)) ∧ w = w' := by
  by_cases h0 : 0 ≤ x
  · have b0 : decide (0 ≤ x) = true := by simpa using h0
    by_cases h1 : x < (n : Int)
    · have b1 : decide (x < (n : Int)) = true := by simpa using h1
      have e : Ck.inN x n = true := by unfold Ck.inN; rw [b0, b1]; rfl
      rw [e]
      clear h0 h1 e
      go_enter Tryz.func154, Tryz.ntmps154
      go_wp2_with fail
      go_ret
      exact ⟨rfl, rfl⟩
    · have b1 : decide (x < (n : Int)) = false := by simpa using h1
      have e : Ck.inN x n = false := by unfold Ck.inN; rw [b0, b1]; rfl
      rw [e]
      clear h0 h1 e
      go_enter Tryz.func154, Tryz.ntmps154
      go_wp2_with fail
      go_ret
      exact ⟨rfl, rfl⟩
  · have b0 : decide (0 ≤ x) = false := by simpa using h0
    have e : Ck.inN x n = false := by unfold Ck.inN; rw [b0]; rfl
    rw [e]
    clear h0 e
    go_enter Tryz.func154, Tryz.ntmps154
    go_wp2_with fail
    go_ret
    exact ⟨rfl, rfl⟩

namespace Ck
/-- n numbers, from a on. -/
def fromL (a : Int) (n : Nat) : List Int := (List.range n).map fun (i : Nat) => a + (i : Int)
theorem fromL_succ (a : Int) (n : Nat) : fromL a (n + 1) = fromL a n ++ [a + (n : Int)] := by unfold fromL; rw [List.range_succ, List.map_append]; rfl
/-- append(l, x), at a region's list. -/
theorem ipush {ops : Array Oper} {rest : List Oper} {oo : Oper} {a : Act} {w : World} {Q : Exit → Act → World → Prop} {T1 : TypeId} {base n b : Nat} {v : Value} {xs : List Value}
    (hrow : w.ownsRow base 3 1 v n xs) (hgd : oo.guard = none) (s x : Operand)
    (hop : oo.op = .call { callee := .builtin .append, args := #[s, x], argTypes := #[75, 75] }) (hs : a.eval s = v) (hx : a.eval x = .slice (some ⟨b, 0, none⟩) 1 1) (z : Int) (hb : w.heap.size = b) (hn : n ≤ 100000) (hbase : base ≤ w.heap.size)
    (h : ∀ g cap w', w'.ownsRow base 3 1 (.slice (some ⟨g, 0, none⟩) (n + 1) cap) (n + 1) (xs ++ icells [z]) → (w.alloc (.cells #[.int .i64 z] T1)).grownBy w' v.ownBlock → wpList Tryz.prog ops Q rest (a.put oo.dst (.slice (some ⟨g, 0, none⟩) (n + 1) cap)) w') :
    wpList Tryz.prog ops Q (oo :: rest) a (w.alloc (.cells #[.int .i64 z] T1)) := by
  obtain ⟨i, hi, hz⟩ := Option.map_eq_some_iff.1 intInfo
  simp only [Prod.mk.injEq] at hz
  obtain ⟨z1, z2, z3⟩ := hz
  subst hb
  refine wpList_append_lies _ hgd s x 75 hop base 3 i (.int .i64 0) 1 8 Tryz.underlying75 hi z1 z2 z3 rfl (by decide) v n xs hs (hrow.alloc _) ⟨w.heap.size, 0, none⟩ 1 1 (icells [z]) hx rfl
    (fun j u hu => World.news_of_block (heap_alloc_new w (.cells #[.int .i64 z] T1)) j u hu) (by simp [icells, Value.oneCell']) (by decide) (by unfold maxLen; omega) (by omega) (by simp; omega) (w.heap.size + 1) (by simp) ?_
  intro g cap w' h1 h2 _ _
  exact h g cap w' h1 h2
def FromP (n : Nat) (l : List Int) (w : World) (e : Ending) (w' : World) : Prop := ∃ (A : Option Addr) (c : Nat), e = .returned (.slice A n c) ∧ Lies w' w'.heap.size A (icells l) ∧ Below w.heap.size w w'
theorem fromL_len (a : Int) (n : Nat) : (fromL a n).length = n := by unfold fromL; simp
theorem fromL_lt (a : Int) (n : Nat) (m : Int) : allLt (fromL a n) m = (decide ((n : Int) ≤ 0) || decide (a + (n : Int) ≤ m)) := by
  induction n with
  | zero => rfl
  | succ n ih =>
    rw [fromL_succ]
    unfold allLt at ih ⊢
    rw [List.all_append, ih, Bool.eq_iff_iff]
    simp
    omega
end Ck

set_option maxHeartbeats 600000 in
set_option maxRecDepth 20000 in
theorem kfrom (a : Int) (n : Nat) (ha : 0 ≤ a ∧ a ≤ 16) (hn : n ≤ 16) (w : World) :
    Calls Tryz.prog 155 #[.int .i64 a, .int .i64 (n : Int)] w (Ck.FromP n (Ck.fromL a n) w) := by
  go_enter Tryz.func155, Tryz.ntmps155
  go_wp2_with fail
  go_loopw [5, 8] (fun s5 s8 wr => ∃ (k : Nat) (A : Option Addr) (c : Nat), k ≤ n ∧ s5 = .slice A k c ∧ s8 = .int .i64 k ∧ Hid (wr.ownsRow w.heap.size 3 1 (.slice A k c) k (icells (Ck.fromL a k)) ∧ Below w.heap.size w wr)) (fun _ s8 _ => n - (intOf s8).toNat)
  case atStart => exact ⟨0, none, 0, Nat.zero_le _, rfl, rfl, ⟨rfl, .inl ⟨rfl, rfl⟩⟩, Below.refl _ _⟩
  case round =>
    obtain ⟨k, A, c, hk, rfl, rfl, HS⟩ := hrel
    by_cases hlt : k < n
    · have k1 : (k : Int) < (n : Int) := by omega
      have hs : IntKind.i64.wrap (a + (k : Int)) = a + (k : Int) := by rw [IntKind.wrap_i64]; omega
      have hbs := HS.out.2.size
      clear hlt
      have hk100 : k ≤ 100000 := by omega
      go_wp2_with (refine Cd.at_app rfl ?_; refine Ck.ipush HS.out.1 rfl _ _ rfl rfl rfl (a + (k : Int)) (by first | with_reducible rfl | rfl) hk100 hbs ?_; intro g cap w6 hown hgr)
      have HNEW : Hid (w6.ownsRow w.heap.size 3 1 (.slice (some ⟨g, 0, none⟩) (k + 1) cap) (k + 1) (icells (Ck.fromL a (k + 1))) ∧ Below w.heap.size w w6) := by
        refine ⟨?_, ?_⟩
        · rw [Ck.fromL_succ]
          have e : icells (Ck.fromL a k ++ [a + (k : Int)]) = icells (Ck.fromL a k) ++ icells [a + (k : Int)] := by unfold icells; rw [List.map_append]
          rw [e]
          exact hown
        · have hb := HS.out.2.trans ((Cd.fn1 wr #[.int .i64 (a + (k : Int))] 3).mono HS.out.2.size)
          exact hb.grown hgr hb.size (fun q hq => (HS.out.1.lt q hq).1)
      clear hown hgr hs hbs
      go_wp2_with fail
      go_roundw
      case rel => exact ⟨k + 1, some ⟨g, 0, none⟩, cap, by omega, by go_num, by go_num, HNEW.out⟩
      case measure => simp [intOf]; omega
    · obtain rfl : k = n := by omega
      have k1 : ¬ (k : Int) < (k : Int) := by omega
      clear hlt
      go_wp2_with fail
      go_ret
      exact ⟨A, c, rfl, Cd.rowLies HS.out.1, HS.out.2⟩
end Go.Proofs.YtepnofklmdofmaaGreatDoor
end

section
namespace Go.Proofs.YtepnofklmdofmaaGreatDoor
open Go.RowKit

theorem kbl {w : World} {cs : Array Value} {T : TypeId} {n b : Nat} (m : Int) (xs : List Int) (hc : cs.toList = icells xs) (hln : xs.length = n) (hn : xs.length ≤ 1000) (hb : w.heap.size = b) :
    Calls Tryz.prog 153 #[.int .i64 m, .slice (some ⟨b, 0, none⟩) n n] (w.alloc (.cells cs T)) fun e w' => e = .returned (.bool (Ck.allLt xs m)) ∧ Below w.heap.size w w' := by
  subst hln hb
  refine (kbelow m xs _ _ _ hn (lies_new _ _ _ _ hc)).mono ?_
  rintro e w' ⟨he, h⟩
  exact ⟨he, (Cd.fn1 w cs T).trans (h.mono (Cd.fn1 w cs T).size)⟩

set_option maxHeartbeats 2000000 in
set_option maxRecDepth 20000 in
theorem khasRegs (o : Cd.OpV) (hok : o.ok = true) (n : Int) (w : World) : Calls Tryz.prog 135 #[.agg #[.int .u8 (o.k : Int), .int .i64 o.d, .int .i64 o.a, .int .i64 o.b, .int .i64 o.n], .int .i64 n] w fun e w' => e = .returned (.bool (Ck.regsOk o n)) ∧ Below w.heap.size w w' := by
  have hK : Cd.isK o.k = true := by
    have := hok
    unfold Cd.OpV.ok at this
    simp only [Bool.and_eq_true] at this
    exact this.1.1
  have hk : 1 ≤ o.k ∧ o.k ≤ 14 := by unfold Cd.isK at hK; simpa using hK
  obtain ⟨k, d, a, b, x⟩ := o
  simp only at hk ⊢
  clear hok hK
  obtain ⟨W, hW⟩ : ∃ W, W = w.alloc (.cells #[.int .u8 (k : Int), .int .i64 d, .int .i64 a, .int .i64 b, .int .i64 x] 72) := ⟨_, rfl⟩
  have hb : Below w.heap.size w W := by rw [hW]; exact Cd.fn1 _ _ _
  have hF : Cd.OB W w.heap.size ⟨k, d, a, b, x⟩ := by show W.heap[_]? = _; rw [hW]; exact heap_alloc_new w _
  have HB := Lib.hid hb
  have c0 := hF.c0
  have c1 := hF.c1
  have c2 := hF.c2
  have c3 := hF.c3
  clear hb hF
  have : k = 1 ∨ k = 2 ∨ k = 3 ∨ k = 4 ∨ k = 5 ∨ k = 6 ∨ k = 7 ∨ k = 8 ∨ k = 9 ∨ k = 10 ∨ k = 11 ∨ k = 12 ∨ k = 13 ∨ k = 14 := by omega
  clear hk
  rcases this with h | h | h | h | h | h | h | h | h | h | h | h | h | h
  · have hke : (k : Int) = 1 := by omega
    have HE : Hid (Ck.regsOk ⟨k, d, a, b, x⟩ n = Ck.allLt [d] n) := by show _ = _; subst h; unfold Ck.regsOk Ck.allLt; simp [Cd.hD, Cd.hA, Cd.hB]
    rw [hke] at c0
    clear h hke
    go_enter Tryz.func135, Tryz.ntmps135
    go_upto_region 1 with fail
    rw [← hW]
    clear hW
    go_wp2_with fail
    refine (kbl n [d] rfl rfl (by simp) (by first | with_reducible rfl | rfl)).mono ?_
    rintro e w2 ⟨rfl, hb2⟩
    have H2 := Lib.hid (HB.out.trans (hb2.mono HB.out.size))
    clear hb2
    go_wp2_with fail
    go_ret
    exact ⟨by rw [HE.out]; rfl, H2.out⟩
  · have hke : (k : Int) = 2 := by omega
    have HE : Hid (Ck.regsOk ⟨k, d, a, b, x⟩ n = Ck.allLt [d, a] n) := by show _ = _; subst h; unfold Ck.regsOk Ck.allLt; simp [Cd.hD, Cd.hA, Cd.hB]
    rw [hke] at c0
    clear h hke
    go_enter Tryz.func135, Tryz.ntmps135
    go_upto_region 1 with fail
    rw [← hW]
    clear hW
    go_wp2_with fail
    refine (kbl n [d, a] rfl rfl (by simp) (by first | with_reducible rfl | rfl)).mono ?_
    rintro e w2 ⟨rfl, hb2⟩
    have H2 := Lib.hid (HB.out.trans (hb2.mono HB.out.size))
    clear hb2
    go_wp2_with fail
    go_ret
    exact ⟨by rw [HE.out]; rfl, H2.out⟩
  · have hke : (k : Int) = 3 := by omega
    have HE : Hid (Ck.regsOk ⟨k, d, a, b, x⟩ n = Ck.allLt [d, a, b] n) := by show _ = _; subst h; unfold Ck.regsOk Ck.allLt; simp [Cd.hD, Cd.hA, Cd.hB]
    rw [hke] at c0
    clear h hke
    go_enter Tryz.func135, Tryz.ntmps135
    go_upto_region 1 with fail
    rw [← hW]
    clear hW
    go_wp2_with fail
    refine (kbl n [d, a, b] rfl rfl (by simp) (by first | with_reducible rfl | rfl)).mono ?_
    rintro e w2 ⟨rfl, hb2⟩
    have H2 := Lib.hid (HB.out.trans (hb2.mono HB.out.size))
    clear hb2
    go_wp2_with fail
    go_ret
    exact ⟨by rw [HE.out]; rfl, H2.out⟩
  · have hke : (k : Int) = 4 := by omega
    have HE : Hid (Ck.regsOk ⟨k, d, a, b, x⟩ n = Ck.allLt [d, a, b] n) := by show _ = _; subst h; unfold Ck.regsOk Ck.allLt; simp [Cd.hD, Cd.hA, Cd.hB]
    rw [hke] at c0
    clear h hke
    go_enter Tryz.func135, Tryz.ntmps135
    go_upto_region 1 with fail
    rw [← hW]
    clear hW
    go_wp2_with fail
    refine (kbl n [d, a, b] rfl rfl (by simp) (by first | with_reducible rfl | rfl)).mono ?_
    rintro e w2 ⟨rfl, hb2⟩
    have H2 := Lib.hid (HB.out.trans (hb2.mono HB.out.size))
    clear hb2
    go_wp2_with fail
    go_ret
    exact ⟨by rw [HE.out]; rfl, H2.out⟩
  · have hke : (k : Int) = 5 := by omega
    have HE : Hid (Ck.regsOk ⟨k, d, a, b, x⟩ n = Ck.allLt [d, a, b] n) := by show _ = _; subst h; unfold Ck.regsOk Ck.allLt; simp [Cd.hD, Cd.hA, Cd.hB]
    rw [hke] at c0
    clear h hke
    go_enter Tryz.func135, Tryz.ntmps135
    go_upto_region 1 with fail
    rw [← hW]
    clear hW
    go_wp2_with fail
    refine (kbl n [d, a, b] rfl rfl (by simp) (by first | with_reducible rfl | rfl)).mono ?_
    rintro e w2 ⟨rfl, hb2⟩
    have H2 := Lib.hid (HB.out.trans (hb2.mono HB.out.size))
    clear hb2
    go_wp2_with fail
    go_ret
    exact ⟨by rw [HE.out]; rfl, H2.out⟩
  · have hke : (k : Int) = 6 := by omega
    have HE : Hid (Ck.regsOk ⟨k, d, a, b, x⟩ n = Ck.allLt [d, a, b] n) := by show _ = _; subst h; unfold Ck.regsOk Ck.allLt; simp [Cd.hD, Cd.hA, Cd.hB]
    rw [hke] at c0
    clear h hke
    go_enter Tryz.func135, Tryz.ntmps135
    go_upto_region 1 with fail
    rw [← hW]
    clear hW
    go_wp2_with fail
    refine (kbl n [d, a, b] rfl rfl (by simp) (by first | with_reducible rfl | rfl)).mono ?_
    rintro e w2 ⟨rfl, hb2⟩
    have H2 := Lib.hid (HB.out.trans (hb2.mono HB.out.size))
    clear hb2
    go_wp2_with fail
    go_ret
    exact ⟨by rw [HE.out]; rfl, H2.out⟩
  · have hke : (k : Int) = 7 := by omega
    have HE : Hid (Ck.regsOk ⟨k, d, a, b, x⟩ n = Ck.allLt [d, a, b] n) := by show _ = _; subst h; unfold Ck.regsOk Ck.allLt; simp [Cd.hD, Cd.hA, Cd.hB]
    rw [hke] at c0
    clear h hke
    go_enter Tryz.func135, Tryz.ntmps135
    go_upto_region 1 with fail
    rw [← hW]
    clear hW
    go_wp2_with fail
    refine (kbl n [d, a, b] rfl rfl (by simp) (by first | with_reducible rfl | rfl)).mono ?_
    rintro e w2 ⟨rfl, hb2⟩
    have H2 := Lib.hid (HB.out.trans (hb2.mono HB.out.size))
    clear hb2
    go_wp2_with fail
    go_ret
    exact ⟨by rw [HE.out]; rfl, H2.out⟩
  · have hke : (k : Int) = 8 := by omega
    have HE : Hid (Ck.regsOk ⟨k, d, a, b, x⟩ n = Ck.allLt [d, a, b] n) := by show _ = _; subst h; unfold Ck.regsOk Ck.allLt; simp [Cd.hD, Cd.hA, Cd.hB]
    rw [hke] at c0
    clear h hke
    go_enter Tryz.func135, Tryz.ntmps135
    go_upto_region 1 with fail
    rw [← hW]
    clear hW
    go_wp2_with fail
    refine (kbl n [d, a, b] rfl rfl (by simp) (by first | with_reducible rfl | rfl)).mono ?_
    rintro e w2 ⟨rfl, hb2⟩
    have H2 := Lib.hid (HB.out.trans (hb2.mono HB.out.size))
    clear hb2
    go_wp2_with fail
    go_ret
    exact ⟨by rw [HE.out]; rfl, H2.out⟩
  · have hke : (k : Int) = 9 := by omega
    have HE : Hid (Ck.regsOk ⟨k, d, a, b, x⟩ n = Ck.allLt [d, a, b] n) := by show _ = _; subst h; unfold Ck.regsOk Ck.allLt; simp [Cd.hD, Cd.hA, Cd.hB]
    rw [hke] at c0
    clear h hke
    go_enter Tryz.func135, Tryz.ntmps135
    go_upto_region 1 with fail
    rw [← hW]
    clear hW
    go_wp2_with fail
    refine (kbl n [d, a, b] rfl rfl (by simp) (by first | with_reducible rfl | rfl)).mono ?_
    rintro e w2 ⟨rfl, hb2⟩
    have H2 := Lib.hid (HB.out.trans (hb2.mono HB.out.size))
    clear hb2
    go_wp2_with fail
    go_ret
    exact ⟨by rw [HE.out]; rfl, H2.out⟩
  · have hke : (k : Int) = 10 := by omega
    have HE : Hid (Ck.regsOk ⟨k, d, a, b, x⟩ n = Ck.allLt [] n) := by show _ = _; subst h; unfold Ck.regsOk Ck.allLt; simp [Cd.hD, Cd.hA, Cd.hB]
    rw [hke] at c0
    clear h hke
    go_enter Tryz.func135, Tryz.ntmps135
    go_upto_region 1 with fail
    rw [← hW]
    clear hW
    go_wp2_with fail
    refine (kbelow n [] none 0 _ (by decide) (by intro h; simp [icells] at h)).mono ?_
    rintro e w2 ⟨rfl, hb2⟩
    have H2 := Lib.hid (HB.out.trans (hb2.mono HB.out.size))
    clear hb2
    go_wp2_with fail
    go_ret
    exact ⟨by rw [HE.out]; rfl, H2.out⟩
  · have hke : (k : Int) = 11 := by omega
    have HE : Hid (Ck.regsOk ⟨k, d, a, b, x⟩ n = Ck.allLt [a] n) := by show _ = _; subst h; unfold Ck.regsOk Ck.allLt; simp [Cd.hD, Cd.hA, Cd.hB]
    rw [hke] at c0
    clear h hke
    go_enter Tryz.func135, Tryz.ntmps135
    go_upto_region 1 with fail
    rw [← hW]
    clear hW
    go_wp2_with fail
    refine (kbl n [a] rfl rfl (by simp) (by first | with_reducible rfl | rfl)).mono ?_
    rintro e w2 ⟨rfl, hb2⟩
    have H2 := Lib.hid (HB.out.trans (hb2.mono HB.out.size))
    clear hb2
    go_wp2_with fail
    go_ret
    exact ⟨by rw [HE.out]; rfl, H2.out⟩
  · have hke : (k : Int) = 12 := by omega
    have HE : Hid (Ck.regsOk ⟨k, d, a, b, x⟩ n = Ck.allLt [d] n) := by show _ = _; subst h; unfold Ck.regsOk Ck.allLt; simp [Cd.hD, Cd.hA, Cd.hB]
    rw [hke] at c0
    clear h hke
    go_enter Tryz.func135, Tryz.ntmps135
    go_upto_region 1 with fail
    rw [← hW]
    clear hW
    go_wp2_with fail
    refine (kbl n [d] rfl rfl (by simp) (by first | with_reducible rfl | rfl)).mono ?_
    rintro e w2 ⟨rfl, hb2⟩
    have H2 := Lib.hid (HB.out.trans (hb2.mono HB.out.size))
    clear hb2
    go_wp2_with fail
    go_ret
    exact ⟨by rw [HE.out]; rfl, H2.out⟩
  · have hke : (k : Int) = 13 := by omega
    have HE : Hid (Ck.regsOk ⟨k, d, a, b, x⟩ n = Ck.allLt [] n) := by show _ = _; subst h; unfold Ck.regsOk Ck.allLt; simp [Cd.hD, Cd.hA, Cd.hB]
    rw [hke] at c0
    clear h hke
    go_enter Tryz.func135, Tryz.ntmps135
    go_upto_region 1 with fail
    rw [← hW]
    clear hW
    go_wp2_with fail
    refine (kbelow n [] none 0 _ (by decide) (by intro h; simp [icells] at h)).mono ?_
    rintro e w2 ⟨rfl, hb2⟩
    have H2 := Lib.hid (HB.out.trans (hb2.mono HB.out.size))
    clear hb2
    go_wp2_with fail
    go_ret
    exact ⟨by rw [HE.out]; rfl, H2.out⟩
  · have hke : (k : Int) = 14 := by omega
    have HE : Hid (Ck.regsOk ⟨k, d, a, b, x⟩ n = Ck.allLt [a] n) := by show _ = _; subst h; unfold Ck.regsOk Ck.allLt; simp [Cd.hD, Cd.hA, Cd.hB]
    rw [hke] at c0
    clear h hke
    go_enter Tryz.func135, Tryz.ntmps135
    go_upto_region 1 with fail
    rw [← hW]
    clear hW
    go_wp2_with fail
    refine (kbl n [a] rfl rfl (by simp) (by first | with_reducible rfl | rfl)).mono ?_
    rintro e w2 ⟨rfl, hb2⟩
    have H2 := Lib.hid (HB.out.trans (hb2.mono HB.out.size))
    clear hb2
    go_wp2_with fail
    go_ret
    exact ⟨by rw [HE.out]; rfl, H2.out⟩

namespace Ck
open Cd
/-- Three boxes: a program, a function, an op. -/
structure Box3 (w : World) (X : Nat) (A : Option Addr) (np c : Nat) (m : Fm) (o : OpV) : Prop where
  p : PBlk w X (.slice A np c)
  f : FB w (X + 1) m.f.args m.f.regs (.slice m.A m.f.ops.length m.c)
  o : OB w (X + 2) o
theorem Box3.later {w w' : World} {X : Nat} {A : Option Addr} {np c : Nat} {m : Fm} {o : OpV} (h : Box3 w X A np c m o) (hb : Below w.heap.size w w') : Box3 w' X A np c m o :=
  ⟨h.p.of_block (hb.block _ h.p.lt), h.f.of_block (hb.block _ h.f.lt), h.o.below hb⟩
theorem box3 {w W0 W1 W : World} {A : Option Addr} {np c : Nat} {m : Fm} {o : OpV} (h0 : W0 = w.alloc (.cells #[.slice A np c] 24)) (h1 : W1 = W0.alloc (.cells #[.int .i64 m.f.args, .int .i64 m.f.regs, .slice m.A m.f.ops.length m.c] 107)) (h2 : W = W1.alloc (.cells #[.int .u8 (o.k : Int), .int .i64 o.d, .int .i64 o.a, .int .i64 o.b, .int .i64 o.n] 72)) :
    Box3 W w.heap.size A np c m o ∧ Below w.heap.size w W ∧ W0.heap.size = w.heap.size + 1 ∧ W1.heap.size = w.heap.size + 2 ∧ W.heap.size = w.heap.size + 3 := by
  have s0 : W0.heap.size = w.heap.size + 1 := by rw [h0]; simp
  have s1 : W1.heap.size = w.heap.size + 2 := by rw [h1]; simp [s0]
  have s2 : W.heap.size = w.heap.size + 3 := by rw [h2]; simp [s1]
  have b0 : Below w.heap.size w W0 := by rw [h0]; exact fn1 _ _ _
  have b1 : Below W0.heap.size W0 W1 := by rw [h1]; exact fn1 _ _ _
  have b2 : Below W1.heap.size W1 W := by rw [h2]; exact fn1 _ _ _
  refine ⟨⟨?_, ?_, ?_⟩, b0.trans ((b1.trans (b2.mono b1.size)).mono b0.size), s0, s1, s2⟩
  · show W.heap[w.heap.size]? = _
    rw [b2.block _ (by omega), b1.block _ (by omega), h0]
    exact heap_alloc_new w _
  · show W.heap[w.heap.size + 1]? = _
    rw [b2.block _ (by omega), ← s0, h1]
    exact heap_alloc_new W0 _
  · show W.heap[w.heap.size + 2]? = _
    rw [← s1, h2]
    exact heap_alloc_new W1 _
end Ck

set_option maxHeartbeats 2000000 in
set_option maxRecDepth 20000 in
theorem khasTgt (A : Option Addr) (np c : Nat) (hnp : (np : Int) ≤ 9223372036854775807) (m : Cd.Fm) (hm : (m.f.ops.length : Int) ≤ 9223372036854775807) (o : Cd.OpV) (w : World) :
    Calls Tryz.prog 136 #[.agg #[.slice A np c], .agg #[.int .i64 m.f.args, .int .i64 m.f.regs, .slice m.A m.f.ops.length m.c], .agg #[.int .u8 (o.k : Int), .int .i64 o.d, .int .i64 o.a, .int .i64 o.b, .int .i64 o.n]] w
      fun e w' => e = .returned (.bool (Ck.tgtOk np m.f o)) ∧ Below w.heap.size w w' := by
  obtain ⟨W0, hW0⟩ : ∃ W0, W0 = w.alloc (.cells #[.slice A np c] 24) := ⟨_, rfl⟩
  obtain ⟨W1, hW1⟩ : ∃ W1, W1 = W0.alloc (.cells #[.int .i64 m.f.args, .int .i64 m.f.regs, .slice m.A m.f.ops.length m.c] 107) := ⟨_, rfl⟩
  obtain ⟨W, hW⟩ : ∃ W, W = W1.alloc (.cells #[.int .u8 (o.k : Int), .int .i64 o.d, .int .i64 o.a, .int .i64 o.b, .int .i64 o.n] 72) := ⟨_, rfl⟩
  obtain ⟨hbx, hb, s0, s1, _⟩ := Ck.box3 hW0 hW1 hW
  have HB := Lib.hid hb
  have c0 := hbx.o.c0
  have c4 := hbx.o.c4
  have f2 := hbx.f.c2
  have p0 := hbx.p.c0
  clear hbx hb
  have h4 : o.k = 10 ∨ o.k = 11 ∨ o.k = 12 ∨ (o.k ≠ 10 ∧ o.k ≠ 11 ∧ o.k ≠ 12) := by omega
  rcases h4 with h | h | h | h
  · have hke : (o.k : Int) = 10 := by omega
    have HE : Hid (Ck.tgtOk np m.f o = Ck.inN o.n m.f.ops.length) := by show _ = _; unfold Ck.tgtOk; rw [if_pos (.inl h)]
    rw [hke] at c0 hW ⊢
    clear h hke
    go_enter Tryz.func136, Tryz.ntmps136
    go_upto_region 1 with fail
    rw [← hW0, ← s0, ← hW1, s0]
    rw [show w.heap.size + 1 + 1 = W1.heap.size by omega, ← hW, s1]
    clear hW hW1 hW0 s0 s1
    go_wp2_with fail
    refine (kwithin o.n m.f.ops.length hm _).mono ?_
    rintro e w2 ⟨rfl, rfl⟩
    go_wp2_with fail
    go_ret
    exact ⟨by rw [HE.out]; rfl, HB.out⟩
  · have hke : (o.k : Int) = 11 := by omega
    have HE : Hid (Ck.tgtOk np m.f o = Ck.inN o.n m.f.ops.length) := by show _ = _; unfold Ck.tgtOk; rw [if_pos (.inr h)]
    rw [hke] at c0 hW ⊢
    clear h hke
    go_enter Tryz.func136, Tryz.ntmps136
    go_upto_region 1 with fail
    rw [← hW0, ← s0, ← hW1, s0]
    rw [show w.heap.size + 1 + 1 = W1.heap.size by omega, ← hW, s1]
    clear hW hW1 hW0 s0 s1
    go_wp2_with fail
    refine (kwithin o.n m.f.ops.length hm _).mono ?_
    rintro e w2 ⟨rfl, rfl⟩
    go_wp2_with fail
    go_ret
    exact ⟨by rw [HE.out]; rfl, HB.out⟩
  · have hke : (o.k : Int) = 12 := by omega
    have HE : Hid (Ck.tgtOk np m.f o = Ck.inN o.n np) := by show _ = _; unfold Ck.tgtOk; rw [if_neg (by omega), if_pos h]
    rw [hke] at c0 hW ⊢
    clear h hke
    go_enter Tryz.func136, Tryz.ntmps136
    go_upto_region 1 with fail
    rw [← hW0, ← s0, ← hW1, s0]
    rw [show w.heap.size + 1 + 1 = W1.heap.size by omega, ← hW, s1]
    clear hW hW1 hW0 s0 s1
    go_wp2_with fail
    refine (kwithin o.n np hnp _).mono ?_
    rintro e w2 ⟨rfl, rfl⟩
    go_wp2_with fail
    go_ret
    exact ⟨by rw [HE.out]; rfl, HB.out⟩
  · have e1 : ((o.k : Int) == 10) = false := by simpa using (by omega : ¬ (o.k : Int) = 10)
    have e2 : ((o.k : Int) == 11) = false := by simpa using (by omega : ¬ (o.k : Int) = 11)
    have e3 : ((o.k : Int) == 12) = false := by simpa using (by omega : ¬ (o.k : Int) = 12)
    have HE : Hid (Ck.tgtOk np m.f o = true) := by show _ = _; unfold Ck.tgtOk; rw [if_neg (by omega), if_neg (by omega)]
    clear h
    go_enter Tryz.func136, Tryz.ntmps136
    go_upto_region 1 with fail
    rw [← hW0, ← s0, ← hW1, s0]
    rw [show w.heap.size + 1 + 1 = W1.heap.size by omega, ← hW, s1]
    clear hW hW1 hW0 s0 s1
    go_wp2_with fail
    go_ret
    exact ⟨by rw [HE.out]; rfl, HB.out⟩
end Go.Proofs.YtepnofklmdofmaaGreatDoor
end
