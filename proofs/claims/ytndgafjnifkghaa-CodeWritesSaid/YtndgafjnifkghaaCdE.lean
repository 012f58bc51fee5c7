/-
  Contracts of code.small (are all of these registers) and mayDo (may a function have this op).
-/
import Derived.Test.YtndgafjnifkghaaCdD
import Derived.Deep.RegionHeld3
namespace Go.Proofs.Ytndgafjnifkghaa
open Go.RowKit

set_option maxHeartbeats 400000 in
theorem csmallf (x : Int) (w : World) : Calls Try.prog 84 #[.int .i64 x] w fun e w' => e = .returned (.bool (!Cd.reg x)) ∧ w = w' := by
  by_cases h0 : x < 0
  · have HE : Hid (Cd.reg x = false) := by show _ = _; unfold Cd.reg; simp; omega
    go_enter Try.func84, Try.ntmps84
    go_wp2_with fail
    go_ret
    exact ⟨by rw [HE.out]; rfl, rfl⟩
  · by_cases h1 : (16 : Int) < x
    · have HE : Hid (Cd.reg x = false) := by show _ = _; unfold Cd.reg; simp; omega
      go_enter Try.func84, Try.ntmps84
      go_wp2_with fail
      go_ret
      exact ⟨by rw [HE.out]; rfl, rfl⟩
    · have HE : Hid (Cd.reg x = true) := by show _ = _; unfold Cd.reg; simp; omega
      go_enter Try.func84, Try.ntmps84
      go_wp2_with fail
      go_ret
      exact ⟨by rw [HE.out]; rfl, rfl⟩

set_option maxHeartbeats 400000 in
theorem cidxint (xs : List Int) (A : Option Addr) (c : Nat) (w : World) (hn : xs.length ≤ 1000) (hli : Lies w w.heap.size A (icells xs)) :
    Calls Try.prog 93 #[.slice A xs.length c, .func (.func 84) #[] #[]] w fun e w' => ∃ i : Int, e = .returned (.int .i64 i) ∧ decide (0 ≤ i) = !xs.all Cd.reg ∧ w = w' := by
  have HL := Lib.hid hli
  clear hli
  go_enter Try.func93, Try.ntmps93
  go_wp2_with fail
  go_loop [8] (fun i => ∃ k : Nat, k ≤ xs.length ∧ i = .int .i64 k ∧ Hid ((xs.take k).all Cd.reg = true)) (fun i => xs.length - (intOf i).toNat)
  case atStart => exact ⟨0, Nat.zero_le _, rfl, rfl⟩
  case round =>
    obtain ⟨k, hk, rfl, HN⟩ := hrel
    by_cases hlt : k < xs.length
    · obtain ⟨ad, rfl, hb, hc⟩ := HL.out.at_ (icells_at hlt)
      clear hb
      have HM := Lib.hid (List.getElem_mem hlt)
      have HT := Lib.hid (List.take_succ_eq_append_getElem hlt)
      generalize xs[k] = x at hc HM HT
      cases he : Cd.reg x
      · have HD : Hid (xs.all Cd.reg = false) := by
          show _ = _
          rw [List.all_eq_false]
          exact ⟨x, HM.out, by rw [he]; decide⟩
        have HC := Lib.hid (csmallf x w)
        rw [he] at HC
        clear he
        go_wp2_with fail
        refine HC.out.mono ?_
        rintro e w1 ⟨rfl, rfl⟩
        go_wp2_with fail
        go_ret
        exact ⟨k, rfl, by rw [HD.out]; simp, rfl⟩
      · have HC := Lib.hid (csmallf x w)
        rw [he] at HC
        have HE := Lib.hid he
        clear he
        go_wp2_with fail
        refine HC.out.mono ?_
        rintro e w1 ⟨rfl, rfl⟩
        go_wp2_with fail
        go_round
        case rel => exact ⟨k + 1, by omega, by go_num, by show _ = _; rw [HT.out, List.all_append, HN.out]; simp [HE.out]⟩
        case measure => simp [intOf]; omega
    · have HD : Hid (xs.all Cd.reg = true) := by
        show _ = _
        rw [← HN.out, List.take_of_length_le (by omega)]
      have k1 : ¬ ((k : Int) < xs.length) := by omega
      go_wp2_with fail
      go_ret
      exact ⟨-1, rfl, by rw [HD.out]; decide, rfl⟩

set_option maxHeartbeats 400000 in
theorem csmall (xs : List Int) (A : Option Addr) (c : Nat) (w : World) (hn : xs.length ≤ 1000) (hli : Lies w w.heap.size A (icells xs)) :
    Calls Try.prog 65 #[.slice A xs.length c] w fun e w' => e = .returned (.bool (xs.all Cd.reg)) ∧ w = w' := by
  have HC : Hid (Calls Try.prog 83 #[.slice A xs.length c, .func (.func 84) #[] #[]] w fun e w' => e = .returned (.bool (!xs.all Cd.reg)) ∧ w = w') := by
    have HI := Lib.hid (cidxint xs A c w hn hli)
    clear hli hn
    show Calls _ _ _ _ _
    go_enter Try.func83, Try.ntmps83
    go_wp2_with fail
    refine HI.out.mono ?_
    rintro e w1 ⟨i, rfl, hi, rfl⟩
    go_wp2_with fail
    go_ret
    exact ⟨by rw [← hi]; rfl, rfl⟩
  clear hli hn
  go_enter Try.func65, Try.ntmps65
  go_wp2_with fail
  refine HC.out.mono ?_
  rintro e w1 ⟨rfl, rfl⟩
  go_wp2_with fail
  go_ret
  exact ⟨by cases xs.all Cd.reg <;> rfl, rfl⟩
theorem csm {w : World} {cs : Array Value} {T : TypeId} {n b : Nat} (xs : List Int) (r : Bool) (hc : cs.toList = icells xs) (hln : xs.length = n) (hr : xs.all Cd.reg = r) (hn : xs.length ≤ 1000) (hb : w.heap.size = b) :
    Calls Try.prog 65 #[.slice (some ⟨b, 0, none⟩) n n] (w.alloc (.cells cs T)) fun e w' => e = .returned (.bool r) ∧ w.alloc (.cells cs T) = w' := by
  subst hln hr hb
  exact csmall xs _ _ _ hn (lies_new _ _ _ _ hc)

namespace Cd
theorem zeroPart : ∀ w, (zeroValue 69).run Try.prog w = .ok (.int .u8 0) w := fun _ => by kernel_rfl
theorem kF_get (k : Nat) : (kF 14 (.int .u8 (k : Int))).getD (.int .u8 0) = .int .u8 (pb (hD k) (hA k) (hB k) (hN k) : Int) ∧ (kF 14 (.int .u8 (k : Int))).isSome = isK k := by
  by_cases h : 1 ≤ k ∧ k ≤ 14
  · rw [kF_in h.1 h.2]
    exact ⟨rfl, by unfold isK; simp [h.1, h.2]⟩
  · rw [kF_out h]
    have e1 : hD k = false := by unfold hD; simp; omega
    have e2 : hA k = false := by unfold hA; simp; omega
    have e3 : hB k = false := by unfold hB; simp; omega
    have e4 : hN k = false := by unfold hN; simp; omega
    rw [e1, e2, e3, e4]
    refine ⟨rfl, ?_⟩
    unfold isK
    simp
    omega
/-- The program's table at block B. -/
abbrev Tbl (w : World) (B : Nat) : Prop := Gm.MapF 5 w B (kF 14) 14
theorem Tbl.look {w : World} {B k : Nat} (h : Tbl w B) (hk : k < 256) : (Instr.lookup 49 (.map (some B)) (.int .u8 (k : Int)) true).run Try.prog w = .ok (.tuple #[.int .u8 (pb (hD k) (hA k) (hB k) (hN k) : Int), .bool (isK k)]) w := by
  have := Gm.MapF.look h Gm.key8 Try.underlying49 (zeroPart w) (Gm.isKey8 (a := (k : Int)) (by omega) (by omega))
  rw [(kF_get k).1, (kF_get k).2] at this
  exact this
theorem Tbl.look1 {w : World} {B k : Nat} (h : Tbl w B) (hk : k < 256) : (Instr.lookup 49 (.map (some B)) (.int .u8 (k : Int)) false).run Try.prog w = .ok (.int .u8 (pb (hD k) (hA k) (hB k) (hN k) : Int)) w := by
  have := Gm.MapF.look1 h Gm.key8 Try.underlying49 (zeroPart w) (Gm.isKey8 (a := (k : Int)) (by omega) (by omega))
  rw [(kF_get k).1] at this
  exact this
theorem OB.cells {w : World} {B : Nat} {o : OpV} (h : OB w B o) : w.cell? ⟨B, 0, none⟩ = some (.int .u8 (o.k : Int)) ∧ w.cell? ⟨B, 1, none⟩ = some (.int .i64 o.d) ∧ w.cell? ⟨B, 2, none⟩ = some (.int .i64 o.a) ∧ w.cell? ⟨B, 3, none⟩ = some (.int .i64 o.b) ∧ w.cell? ⟨B, 4, none⟩ = some (.int .i64 o.n) :=
  ⟨h.c0, h.c1, h.c2, h.c3, h.c4⟩
end Cd
end Go.Proofs.Ytndgafjnifkghaa
