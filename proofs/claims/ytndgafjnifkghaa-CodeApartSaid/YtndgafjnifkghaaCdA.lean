/-
  Contracts of code.having, kinds (the map of what each kind has), has.
-/
import Derived.Test.YtndgafjnifkghaaCdM
import Derived.Test.YtndgafjnifkghaaPgMap
namespace Go.Proofs.Ytndgafjnifkghaa
open Go.RowKit

namespace Cd
def pcells (xs : List Int) : List Value := xs.map fun x : Int => Value.int .u8 x
theorem pcells_at {xs : List Int} {k : Nat} (h : k < xs.length) : (pcells xs)[k]? = some (.int .u8 xs[k]) := by
  unfold pcells
  rw [List.getElem?_map, List.getElem?_eq_getElem h]
  rfl
/-- All of them together. -/
def ors (xs : List Int) : Int := xs.foldl (fun a x => bits .or .u8 a x) 0
theorem ors_snoc (xs : List Int) (x : Int) : ors (xs ++ [x]) = bits .or .u8 (ors xs) x := by unfold ors; rw [List.foldl_append]; rfl
end Cd

set_option maxHeartbeats 1000000 in
set_option maxRecDepth 20000 in
theorem chaving (xs : List Int) (A : Option Addr) (c : Nat) (w : World) (hl : Lies w w.heap.size A (Cd.pcells xs)) (hn : xs.length ≤ 100) :
    Calls Try.prog 40 #[.slice A xs.length c] w fun e w' => e = .returned (.int .u8 (Cd.ors xs)) ∧ w = w' := by
  have HL := Lib.hid hl
  clear hl
  go_enter Try.func40, Try.ntmps40
  go_wp2_with fail
  go_loopw [3, 8] (fun s3 s8 wr => ∃ k : Nat, k ≤ xs.length ∧ s8 = .int .i64 k ∧ s3 = .int .u8 (Cd.ors (xs.take k)) ∧ wr = w) (fun _ s8 _ => xs.length - (intOf s8).toNat)
  case atStart => exact ⟨0, Nat.zero_le _, rfl, rfl, rfl⟩
  case round =>
    obtain ⟨k, hk, rfl, rfl, rfl⟩ := hrel
    by_cases hlt : k < xs.length
    · obtain ⟨ad, rfl, hadb, hc⟩ := HL.out.at_ (Cd.pcells_at hlt)
      have HS : Hid (Cd.ors (xs.take (k + 1)) = bits .or .u8 (Cd.ors (xs.take k)) xs[k]) := by
        show _ = _
        rw [List.take_succ_eq_append_getElem hlt, Cd.ors_snoc]
      have k0 : (0 : Int) ≤ (k : Int) := by omega
      have k1 : (k : Int) < xs.length := by omega
      generalize xs[k] = x at hc HS
      go_wp2_with fail
      go_roundw
      case rel => exact ⟨k + 1, by omega, by go_num, by rw [HS.out], trivial⟩
      case measure => simp [intOf]; omega
    · have k1 : ¬ ((k : Int) < xs.length) := by omega
      have HE : Hid (Cd.ors (xs.take k) = Cd.ors xs) := by show _ = _; rw [List.take_of_length_le (by omega)]
      go_wp2_with fail
      go_ret
      exact ⟨by rw [HE.out]; rfl, rfl⟩

theorem chav {w : World} {cs : Array Value} {T : TypeId} {n b : Nat} (xs : List Int) (r : Int) (hc : cs.toList = Cd.pcells xs) (hln : xs.length = n) (hr : Cd.ors xs = r) (hn : xs.length ≤ 100) (hb : w.heap.size = b) :
    Calls Try.prog 40 #[.slice (some ⟨b, 0, none⟩) n n] (w.alloc (.cells cs T)) fun e w' => e = .returned (.int .u8 r) ∧ w.alloc (.cells cs T) = w' := by
  subst hln hr hb
  exact chaving xs _ _ _ (lies_new _ _ _ _ hc) hn

namespace Cd
theorem has_bit (d a b n : Bool) : bits .and .u8 (pb d a b n : Int) 1 = (if d then 1 else 0) ∧ bits .and .u8 (pb d a b n : Int) 2 = (if a then 2 else 0) ∧ bits .and .u8 (pb d a b n : Int) 4 = (if b then 4 else 0) ∧ bits .and .u8 (pb d a b n : Int) 8 = (if n then 8 else 0) := by
  cases d <;> cases a <;> cases b <;> cases n <;> decide
end Cd
set_option maxHeartbeats 400000 in
theorem chas (p q r : Int) (h : bits .and .u8 p q = r) (w : World) :
    Calls Try.prog 73 #[.int .u8 p, .int .u8 q] w fun e w' => e = .returned (.bool (!(r == 0))) ∧ w = w' := by
  go_enter Try.func73, Try.ntmps73
  go_wp2_with fail
  go_ret
  exact ⟨by rw [← h]; rfl, rfl⟩
theorem chasD (d a b n : Bool) (w : World) : Calls Try.prog 73 #[.int .u8 (Cd.pb d a b n : Int), .int .u8 1] w fun e w' => e = .returned (.bool d) ∧ w = w' := by
  refine (chas _ _ _ (Cd.has_bit d a b n).1 w).mono ?_
  rintro e w' ⟨rfl, rfl⟩
  exact ⟨by cases d <;> rfl, rfl⟩
theorem chasA (d a b n : Bool) (w : World) : Calls Try.prog 73 #[.int .u8 (Cd.pb d a b n : Int), .int .u8 2] w fun e w' => e = .returned (.bool a) ∧ w = w' := by
  refine (chas _ _ _ (Cd.has_bit d a b n).2.1 w).mono ?_
  rintro e w' ⟨rfl, rfl⟩
  exact ⟨by cases a <;> rfl, rfl⟩
theorem chasB (d a b n : Bool) (w : World) : Calls Try.prog 73 #[.int .u8 (Cd.pb d a b n : Int), .int .u8 4] w fun e w' => e = .returned (.bool b) ∧ w = w' := by
  refine (chas _ _ _ (Cd.has_bit d a b n).2.2.1 w).mono ?_
  rintro e w' ⟨rfl, rfl⟩
  exact ⟨by cases b <;> rfl, rfl⟩
theorem chasN (d a b n : Bool) (w : World) : Calls Try.prog 73 #[.int .u8 (Cd.pb d a b n : Int), .int .u8 8] w fun e w' => e = .returned (.bool n) ∧ w = w' := by
  refine (chas _ _ _ (Cd.has_bit d a b n).2.2.2 w).mono ?_
  rintro e w' ⟨rfl, rfl⟩
  exact ⟨by cases n <;> rfl, rfl⟩
end Go.Proofs.Ytndgafjnifkghaa
