/-
  Contracts of frame.pieces: the iterator of what stands one behind the other.
-/
import Derived.Test.YtnalpmiinoohoaaFrameR
import Derived.Test.YtnalpmiinoohoaaFrameN
import Derived.RangeFuncNested
import Derived.RangeFuncLeaves
import Derived.Shelf.Abstract
import Derived.Shelf.RegionOpen
import Derived.WalkKit
import Derived.OwnWalkIn
import Derived.TacticsInMore
import Derived.LoopNIn
import Derived.LoopIn
import Derived.Maps.AppendAt
namespace Go.Proofs.Ytnalpmiinoohoaa
open Go.RowKit Go.Shelf

attribute [local go_sem] Oper.semAt_some

namespace Frame
/-- A piece and its fault, as the loop's body is handed them. -/
abbrev encs (x : Told) : Array Value := #[.agg #[.int .u8 (x.1.toNat : Int), .string ⟨x.2.1.toArray⟩, .int .i64 (x.2.2.1 : Int)], .int .i64 (x.2.2.2 : Int)]

/-- The two variables that the iterator reads lie as they lay. -/
def KP (Bs Bm : Nat) (W W' : World) : Prop := W'.heap[Bs]? = W.heap[Bs]? ∧ W'.heap[Bm]? = W.heap[Bm]?
theorem KP.trans {Bs Bm : Nat} {A B C : World} (h : KP Bs Bm A B) (k : KP Bs Bm B C) : KP Bs Bm A C := ⟨k.1.trans h.1, k.2.trans h.2⟩
theorem KP.below {Bs Bm : Nat} {A B : World} (h : Below A.heap.size A B) (h1 : Bs < A.heap.size) (h2 : Bm < A.heap.size) : KP Bs Bm A B := ⟨h.block _ h1, h.block _ h2⟩
theorem wpIn_world {F : Fence} {n : Nat} {P : Program} {c : Code} {Q : Exit → Act → World → Prop} {a : Act} {W : World} (h : ∀ W', W' = W → c.wpIn F n P Q a W') : c.wpIn F n P Q a W := h W rfl
end Frame

set_option maxRecDepth 100000 in
set_option maxHeartbeats 2000000 in
theorem pieces1_in (n : Nat) (hn : 1 ≤ n) (l Bs Bm : Nat) (s : ByteArray) (most : Int) (m0 : -9223372036854775808 ≤ most) (hs : s.size ≤ 1000000) (J Jx : List Frame.Told → World → Prop)
    (hJ : ∀ pre W W', J pre W → Below W.heap.size W W' → J pre W')
    (hY : ∀ pre x W, J pre W → pre.length < s.size → YieldAt Fence.wide (n - 1) Try.prog l (Frame.encs x) W fun e W' =>
      (e = .returned (.bool true) ∧ J (pre ++ [x]) W' ∧ Frame.KP Bs Bm W W') ∨ (e = .returned (.bool false) ∧ Jx (pre ++ [x]) W'))
    (W : World) (hBs : Boxed W Bs 9 (.string s)) (hBm : Boxed W Bm 3 (.int .i64 most)) (h0 : J [] W) :
    CallsIn Fence.wide n Try.prog 46 #[.func (.yield l) #[] #[], .pointer (some ⟨Bs, 0, none⟩), .pointer (some ⟨Bm, 0, none⟩)] W fun e W' => (∃ v, e = .returned v) ∧
      ((∃ ys, ys = Frame.steps s.data.toList most ∧ J ys W') ∨ (∃ pre, pre <+: Frame.steps s.data.toList most ∧ Jx pre W')) := by
  have hm : (s.size : Int) ≤ 1000000 := by omega
  have HJ := Lib.hid hJ
  have HY := Lib.hid hY
  clear hJ hY
  refine callsIn_of_wp Try.func46 rfl trivial ?_ rfl
  simp only [Try.ntmps46, List.size_toArray, List.length_cons, List.length_nil, Nat.reduceAdd, Nat.reduceSub, Array.replicate_succ, Array.replicate_zero, List.push_toArray, List.append_toArray, List.nil_append, List.cons_append]
  gi_wp2
  gi_loopw [4] (fun a wr => ∃ (p : Nat) (pre : List Frame.Told), a = .int .i64 p ∧ p ≤ s.size ∧ Hid (Frame.steps s.data.toList most = pre ++ Frame.steps (s.data.toList.drop p) most) ∧ Hid (Frame.allOk pre) ∧ Hid (J pre wr) ∧ Hid (Boxed wr Bs 9 (.string s)) ∧ Hid (Boxed wr Bm 3 (.int .i64 most)))
    (fun a _ => s.size - (intOf a).toNat)
  case atStart => exact ⟨0, [], rfl, Nat.zero_le _, by show _ = _; rw [List.drop_zero]; rfl, Frame.allOk_nil, h0, hBs, hBm⟩
  case round =>
    obtain ⟨p, pre, rfl, hp, HS, HO, HJ0, HBs, HBm⟩ := hrel
    have cs := HBs.out.cell
    have cm := HBm.out.cell
    have ls := HBs.out.lt
    have lm := HBm.out.lt
    by_cases hlt : p < s.size
    · generalize hR : Frame.rd (s.extract p s.size).data.toList most = R
      have hRd : ∀ w, Calls Try.prog 12 #[.string (s.extract p s.size), .int .i64 most] w fun e w' => e = .returned (Frame.val R) ∧ Below w.heap.size w w' := fun w => by
        rw [← hR]
        exact fread_any _ most w (by rw [ByteArray.size_extract]; omega) m0
      have HRd := Lib.hid hRd
      have hne : s.data.toList.drop p ≠ [] := by
        intro h
        have := congrArg List.length h
        simp at this
        omega
      have hex : (s.extract p s.size).data.toList = s.data.toList.drop p := by
        rw [Lib.extract_data, List.take_of_length_le (by simp)]
      rw [hex] at hR
      have hST : (R.2.2.2 ≠ 0 → Frame.steps s.data.toList most = pre ++ [R]) ∧ (R.2.2.2 = 0 → 7 ≤ R.2.2.1 ∧ p + R.2.2.1 ≤ s.size ∧ Hid (Frame.steps s.data.toList most = (pre ++ [R]) ++ Frame.steps (s.data.toList.drop (p + R.2.2.1)) most)) := by
        constructor
        · intro he
          rw [← hR] at he
          rw [HS.out, Frame.steps_bad hne he, hR]
        · intro he
          rw [← hR] at he
          have hle := Frame.rd_le _ _ he
          rw [hR] at hle
          refine ⟨hle.1, by have := hle.2; simp at this; omega, ?_⟩
          show _ = _
          rw [HS.out, Frame.steps_ok hne he, hR, List.drop_drop, List.append_assoc]
          rfl
      have hPX : (pre ++ [R]) <+: Frame.steps s.data.toList most := by
        by_cases he : R.2.2.2 = 0
        · rw [(hST.2 he).2.2.out]; exact List.prefix_append _ _
        · rw [hST.1 he]; exact List.prefix_refl _
      have hPL : pre.length < s.size := by
        have h1 := hPX.length_le
        have h2 := Frame.steps_len s.data.toList most
        simp at h1 h2
        omega
      have HST := Lib.hid hST
      have HPX := Lib.hid hPX
      have HPL := Lib.hid hPL
      clear hRd hR hST hPX hPL hne hex
      obtain ⟨tg, tx, k, er⟩ := R
      gi_wp2_with (fail)
      have kp0 : (0 : Int) ≤ (p : Int) := by omega
      have kp1 : (p : Int) ≤ s.size := by omega
      have hL2 : ∀ a : Nat, a < a + 1 + 1 := fun a => by omega
      gi_region_with (refine ⟨trivial, ?_⟩; gi_at_call 12; refine (callsIn_wide.2 (HRd.out _)).mono ?_; unfold Frame.val; rintro e w1 ⟨rfl, hb⟩; obtain ⟨hcl, hfr⟩ := kept_cells hb; have hz := hb.size; (try simp at hz))
      all_goals
        rename_i Q' K' hK'
        show K' _ _
        refine hK' _ _ ?_
        clear hK' K'
        refine Frame.wpIn_world (fun W5 hW5 => ?_)
        have hB5 : Below wr.heap.size wr W5 := by
          rw [hW5]
          have hU : Below wr.heap.size wr w1 := by
            refine Below.trans ?_ (hb.mono ?_)
            · repeat (first | with_reducible exact Below.refl _ _ | with_reducible refine Below.drew ?_ | with_reducible refine Below.alloc ?_ ?_ _)
              all_goals (first | exact Nat.le_refl _ | (simp; done) | (simp; omega))
            · first | exact Nat.le_refl _ | (simp; done) | (simp; omega)
          have hs1 := hU.size
          repeat (first | with_reducible exact hU | with_reducible refine Below.drew ?_ | with_reducible refine Below.alloc ?_ ?_ _ | with_reducible refine Below.setCell ?_ ?_ _)
          all_goals (first | exact hs1 | exact Nat.le_refl _ | (simp; done) | (simp; omega))
        obtain ⟨fn, tmps, assign, body, hy, hYR⟩ := HY.out pre (tg, tx, k, er) W5 (HJ.out _ _ _ HJ0.out hB5) HPL.out
        dsimp only [Frame.encs] at hy
        first
          | (have f0 : W5.cell? ⟨w1.heap.size, 0, none⟩ = some (.int .u8 (tg.toNat : Int)) := by (rw [hW5]; simp [go_sem]; done)
             have f1 : W5.cell? ⟨w1.heap.size, 1, none⟩ = some (.string ⟨tx.toArray⟩) := by (rw [hW5]; simp [go_sem]; done)
             have HW5 := Lib.hid hW5
             clear hW5
             gi_wp2_with fail)
          | (have k0 : w1.cell? ⟨wr.heap.size, 0, none⟩ = some (.int .u8 0) := (hcl wr.heap.size 0 (by simp)).trans (by simp [go_sem])
             have k1 : w1.cell? ⟨wr.heap.size, 1, none⟩ = some (.string ⟨#[]⟩) := (hcl wr.heap.size 1 (by simp)).trans (by simp [go_sem])
             have f0 : W5.cell? ⟨wr.heap.size, 0, none⟩ = some (.int .u8 (tg.toNat : Int)) := by (rw [hW5]; simp [go_sem]; exact (Frame.cells2 k0 k1 _ (.string ⟨#[]⟩)).1)
             have f1 : W5.cell? ⟨wr.heap.size, 1, none⟩ = some (.string ⟨tx.toArray⟩) := by (rw [hW5]; exact (Frame.cells2 k0 k1 _ _).2)
             have HW5 := Lib.hid hW5
             clear hW5
             gi_wp2_with fail)
        refine hYR.mono ?_
        rintro e W3 (⟨rfl, hJ3, hk3⟩ | ⟨rfl, hJx3⟩)
        · have HB3 : Hid (Boxed W3 Bs 9 (.string s) ∧ Boxed W3 Bm 3 (.int .i64 most)) := ⟨hk3.1.trans ((hB5.block _ ls).trans HBs.out), hk3.2.trans ((hB5.block _ lm).trans HBm.out)⟩
          have HJ3 := Lib.hid hJ3
          clear hk3 hJ3
          by_cases he : er = 0
          · subst he
            obtain ⟨hk7, hks, HS2⟩ := HST.out.2 rfl
            gi_wp2
            go_roundw
            case rel => exact ⟨p + k, pre ++ [(tg, tx, k, 0)], by go_num, by omega, HS2, Frame.allOk_snoc HO.out rfl, HJ3, HB3.out.1, HB3.out.2⟩
            case measure => simp [intOf]; omega
          · have heb : ((er : Int) != 0) = true := by simpa using (by omega : ¬ (er : Int) = 0)
            have HS3 := Lib.hid (HST.out.1 he)
            clear he
            gi_wp2
            refine bodyPost_ret (results_none rfl _ _ _) rfl ?_
            exact ⟨⟨_, rfl⟩, .inl ⟨_, HS3.out.symm, HJ3.out⟩⟩
        · have HJx := Lib.hid hJx3
          clear hJx3
          gi_wp2
          refine bodyPost_ret (results_none rfl _ _ _) rfl ?_
          exact ⟨⟨_, rfl⟩, .inr ⟨_, HPX.out, HJx.out⟩⟩
    · have hd : s.data.toList.drop p = [] := List.drop_of_length_le (by simp; omega)
      have HS' := HS.out
      rw [hd, Frame.steps_nil, List.append_nil] at HS'
      have HS2 := Lib.hid HS'
      clear HS' hd
      gi_wp2
      go_end0
      exact ⟨⟨_, rfl⟩, .inl ⟨pre, HS2.out.symm, HJ0.out⟩⟩
end Go.Proofs.Ytnalpmiinoohoaa
