/-
  maps.Keys of the map of messages; its iterator.
-/
import Derived.Test.YtfhengihdlojmaaPgF
import Derived.RangeFuncNested
import Derived.RangeFuncLeaves
import Derived.Shelf.Abstract
import Derived.WalkKit
import Derived.OwnWalkIn
import Derived.TacticsInMore
import Derived.LoopNIn
import Derived.LoopIn
import Derived.Sort.MapsRangeIn
import Derived.RangeFuncGives
namespace Go.Proofs.Ytfhengihdlojmaa
open Go.RowKit Go.Shelf

namespace Gm
/-- What has come of the keys. -/
def KColl {H : Type} (D0 : DataW H) (left : Lit → Bool) (ss : List Int) : Prop := ss.Nodup ∧ (∀ x ∈ ss, (Lit.int .u64 x).wf = true) ∧ ∀ x, x ∈ ss ↔ (Maps.has D0 (.int .u64 x) = true ∧ left (.int .u64 x) = false)
theorem KColl.start {H : Type} (D0 : DataW H) : KColl D0 (Maps.has D0) [] := ⟨List.nodup_nil, fun x h => (List.not_mem_nil h).elim, fun x => by cases Maps.has D0 (.int .u64 x) <;> simp⟩
theorem KColl.step {H : Type} {D0 : DataW H} {left : Lit → Bool} {ss : List Int} (h : KColl D0 left ss) {x : Int} {y : DataW H} (hwf : (Lit.int .u64 x).wf = true) (hlk : left (.int .u64 x) = true) (hat : ∀ zd, D0.atKey (.int .u64 x) zd = y) :
    KColl D0 (fun z => left z && !z.sameKey (.int .u64 x)) (ss ++ [x]) := by
  have hx : x ∉ ss := fun hm => by have := ((h.2.2 x).1 hm).2; rw [hlk] at this; cases this
  have hself : (Lit.int .u64 x).sameKey (.int .u64 x) = true := WideAt.sameKey_self (by trivial)
  refine ⟨?_, fun z hz => ?_, fun z => ?_⟩
  · rw [List.nodup_append]
    refine ⟨h.1, by simp, fun a ha b hb => ?_⟩
    rw [List.mem_singleton.1 hb]
    exact fun e => hx (e ▸ ha)
  · rcases List.mem_append.1 hz with hz | hz
    · exact h.2.1 z hz
    · rw [List.mem_singleton.1 hz]; exact hwf
  · rw [List.mem_append, List.mem_singleton, h.2.2]
    by_cases e : z = x
    · subst e
      simp [hself, Maps.has_true_of_atKey hat]
    · have hne : (Lit.int .u64 z) ≠ .int .u64 x := fun e2 => e (by injection e2)
      simp [e, Maps.sameKey_ne hne]
end Gm

set_option maxRecDepth 100000 in
set_option maxHeartbeats 2000000 in
theorem gkeys1_in {H : Type} (n : Nat) (hn : 1 ≤ n) (l Bm B nn : Nat) (D0 : DataW H) {R : Value → Option (DataW H × List MemPlace)} (J Jx : List Int → World → Prop)
    (hY : ∀ pre x W, J pre W → pre.length < Maps.size D0 → YieldAt Fence.wide (n - 1) Try.prog l #[.int .u64 x] W fun e W' =>
      (e = .returned (.bool true) ∧ J (pre ++ [x]) W' ∧ KeepsWalks W W') ∨ (e = .returned (.bool false) ∧ Jx (pre ++ [x]) W'))
    (W : World) (hJ : AbidesFrom W.heap.size J) (hm : W.cell? ⟨Bm, 0, none⟩ = some (.map (some B))) (hown : W.ownsMap Try.prog 28 R B nn D0) (h0 : J [] W) :
    CallsIn Fence.wide n Try.prog 43 #[.func (.yield l) #[] #[], .pointer (some ⟨Bm, 0, none⟩)] W fun e W' => (∃ v, e = .returned v) ∧
      ((∃ ss, (ss.Nodup ∧ (∀ x ∈ ss, (Lit.int .u64 x).wf = true) ∧ ∀ x, x ∈ ss ↔ Maps.has D0 (.int .u64 x) = true) ∧ J ss W') ∨ ∃ pre, True ∧ Jx pre W') := by
  have HJ := Lib.hid hJ
  have HY := Lib.hid hY
  clear hJ hY
  have K := Maps.int_keyed (P := Try.prog) (k := 28) Try.underlying28
  refine callsIn_of_wp Try.func43 rfl trivial ?_ rfl
  simp only [Try.ntmps43, List.size_toArray, List.length_cons, List.length_nil, Nat.reduceAdd, Nat.reduceSub, Array.replicate_succ, Array.replicate_zero, List.push_toArray, List.append_toArray, List.nil_append, List.cons_append]
  gi_wp2_with (first
    | (gi_at_range; refine wpListIn_range_own _ rfl _ 53 rfl 28 41 K Try.underlying53 _ B nn _ rfl hown ?_; intro w0 hrg0 hg0 hs0)
    | gi_in)
  go_frame
  gi_loopw [3] (fun _ wr => ∃ (left : Lit → Bool) (cnt : Nat) (ss : List Int), wr.ranges Try.prog 28 R B W.heap.size nn D0 left cnt ∧ ss.length + cnt ≤ Maps.size D0 ∧ Gm.KColl D0 left ss ∧ Hid (J ss wr))
    (fun _ wr => wr.rangeLeft B W.heap.size)
  case atStart =>
    exact ⟨_, _, [], hrg0, by simp, Gm.KColl.start D0, HJ.out [] W w0 none h0 hg0 (fun r e => by cases e)⟩
  case round =>
    obtain ⟨left, cnt, ss, hrg, hcs, hC, hJs⟩ := hrel
    gi_wp2_with (first
      | (gi_at_next; refine wpListIn_next_ranges _ rfl _ rfl 28 K R (Value.int .u64) id (fun key kl hk => by obtain ⟨x, hx, _⟩ := Maps.keyOf_int_inv Try.underlying28 hk; exact ⟨x, hx⟩) (fun v _ _ => ⟨v, rfl⟩) B W.heap.size nn _ _ _ rfl hrg ?_ ?_)
      | gi_in)
    · intro hc0 hl0
      gi_wp2
      go_end0
      refine ⟨⟨_, rfl⟩, .inl ⟨ss, ⟨hC.1, hC.2.1, fun x => ?_⟩, hJs.out⟩⟩
      rw [hC.2.2 x]
      exact ⟨fun h => h.1, fun h => ⟨h, hl0 _⟩⟩
    · intro x c kl yd yp w2 cnt2 hkey hlk hv hat hrg2 hlt hg2 hs2 hen
      obtain ⟨x', ex, rfl, hwf⟩ := Maps.keyOf_int_inv Try.underlying28 hkey
      obtain rfl : x = x' := by injection ex
      have hJ2 : J ss w2 := HJ.out ss wr w2 (some W.heap.size) hJs.out hg2 (fun r e => by cases e; exact ⟨Nat.le_refl _, hrg.iter_walk⟩)
      obtain ⟨fn, tmps, assign, body, hy, hR⟩ := HY.out ss x w2 hJ2 (by omega)
      clear hs2
      gi_wp2
      refine hR.mono ?_
      rintro e W3 (⟨rfl, hJ3, hk3⟩ | ⟨rfl, hJx3⟩)
      · have HJ3 := Lib.hid hJ3
        clear hJ3
        gi_wp2
        have hrg3 := hrg2.of_walks hk3
        go_roundw
        case rel => exact ⟨_, cnt2, ss ++ [x], hrg3, by simp; omega, hC.step hwf hlk hat, HJ3⟩
        case measure => rw [hrg3.left_eq, hrg.left_eq]; exact hlt
      · have HJx := Lib.hid hJx3
        clear hJx3
        gi_wp2
        refine bodyPost_ret (results_none rfl _ _ _) rfl ?_
        exact ⟨⟨_, rfl⟩, .inr ⟨_, trivial, HJx.out⟩⟩

set_option maxHeartbeats 400000 in
theorem gkeys (B : Nat) (w : World) :
    Calls Try.prog 40 #[.map (some B)] w fun e w' => e = .returned (.func (.func 43) #[] #[.pointer (some ⟨w.heap.size, 0, none⟩)]) ∧ w' = w.alloc (.cells #[.map (some B)] 53) := by
  have hmf : ∀ (fn : Fn) (first cap : Array Value) (w : World), (Instr.makeFunc fn first cap).run Try.prog w = .ok (.func fn first cap) w := fun _ _ _ _ => rfl
  go_enter Try.func40, Try.ntmps40
  go_wp2
  go_ret
  exact ⟨rfl, rfl⟩
end Go.Proofs.Ytfhengihdlojmaa
