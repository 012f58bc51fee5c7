/-
  Contracts of frame.pieces: the iterator of what stands one behind the other.
  The contract of frame.Scan.
  Contracts of layer 4's same and turned.
-/
import Derived.Test.YtpmhpibbdcifnaaGreatLowFrameR
import Derived.Test.YtpmhpibbdcifnaaGreatLowFrameP
import Derived.RangeFuncNested
import Derived.RangeFuncLeaves
import Derived.Shelf.Abstract
import Derived.Shelf.RegionOpen
import Derived.WalkKit
import Derived.OwnWalkIn
import Derived.TacticsInMore
import Derived.LoopNIn
import Derived.LoopIn
import Derived.Maps.AppendAt
import Derived.RangeFuncBox
import Derived.Deep.DeepCutAuto
import Derived.Lib.ConvBytes
import Derived.BigQuiet
import Derived.WalkSmall
section
namespace Go.Proofs.YtpmhpibbdcifnaaGreat
open Go.RowKit Go.Shelf

attribute [local go_sem] Oper.semAt_some

namespace Frame
/-- A piece and its fault, as the loop's body is handed them. -/
abbrev encs (x : Told) : Array Value := #[.agg #[.int .u8 (x.1.toNat : Int), .string ⟨x.2.1.toArray⟩, .int .i64 (x.2.2.1 : Int)], .int .i64 (x.2.2.2 : Int)]

/-- The two variables that the iterator reads lie as they lay. -/
def KP (Bs Bm : Nat) (W W' : World) : Prop := W'.heap[Bs]? = W.heap[Bs]? ∧ W'.heap[Bm]? = W.heap[Bm]?
theorem KP.trans {Bs Bm : Nat} {A B C : World} (h : KP Bs Bm A B) (k : KP Bs Bm B C) : KP Bs Bm A C := ⟨k.1.trans h.1, k.2.trans h.2⟩
theorem KP.below {Bs Bm : Nat} {A B : World} (h : Below A.heap.size A B) (h1 : Bs < A.heap.size) (h2 : Bm < A.heap.size) : KP Bs Bm A B := ⟨h.block _ h1, h.block _ h2⟩
theorem wpIn_world {F : Fence} {n : Nat} {P : Program} {c : Code} {Q : Exit → Act → World → Prop} {a : Act} {W : World} (h : ∀ W', W' = W → c.wpIn F n P Q a W') : c.wpIn F n P Q a W := h W rfl
end Frame

set_option maxRecDepth 100000 in
set_option maxHeartbeats 2000000 in
theorem pieces1_in (n : Nat) (hn : 1 ≤ n) (l Bs Bm : Nat) (s : ByteArray) (most : Int) (m0 : -9223372036854775808 ≤ most) (hs : s.size ≤ 1000000) (J Jx : List Frame.Told → World → Prop)
    (hJ : ∀ pre W W', J pre W → Below W.heap.size W W' → J pre W')
    (hY : ∀ pre x W, J pre W → pre.length < s.size → YieldAt Fence.wide (n - 1) Tryz.prog l (Frame.encs x) W fun e W' =>
      (e = .returned (.bool true) ∧ J (pre ++ [x]) W' ∧ Frame.KP Bs Bm W W') ∨ (e = .returned (.bool false) ∧ Jx (pre ++ [x]) W'))
    (W : World) (hBs : Boxed W Bs 9 (.string s)) (hBm : Boxed W Bm 3 (.int .i64 most)) (h0 : J [] W) :
    CallsIn Fence.wide n Tryz.prog 106 #[.func (.yield l) #[] #[], .pointer (some ⟨Bs, 0, none⟩), .pointer (some ⟨Bm, 0, none⟩)] W fun e W' => (∃ v, e = .returned v) ∧
      ((∃ ys, ys = Frame.steps s.data.toList most ∧ J ys W') ∨ (∃ pre, pre <+: Frame.steps s.data.toList most ∧ Jx pre W')) := by
  have hm : (s.size : Int) ≤ 1000000 := by omega
  have HJ := Lib.hid hJ
  have HY := Lib.hid hY
  clear hJ hY
  refine callsIn_of_wp Tryz.func106 rfl trivial ?_ rfl
  simp only [Tryz.ntmps106, List.size_toArray, List.length_cons, List.length_nil, Nat.reduceAdd, Nat.reduceSub, Array.replicate_succ, Array.replicate_zero, List.push_toArray, List.append_toArray, List.nil_append, List.cons_append]
  gi_wp2
  gi_loopw [4] (fun a wr => ∃ (p : Nat) (pre : List Frame.Told), a = .int .i64 p ∧ p ≤ s.size ∧ Hid (Frame.steps s.data.toList most = pre ++ Frame.steps (s.data.toList.drop p) most) ∧ Hid (Frame.allOk pre) ∧ Hid (J pre wr) ∧ Hid (Boxed wr Bs 9 (.string s)) ∧ Hid (Boxed wr Bm 3 (.int .i64 most)))
    (fun a _ => s.size - (intOf a).toNat)
  case atStart => exact ⟨0, [], rfl, Nat.zero_le _, by show _ = _; rw [List.drop_zero]; rfl, Frame.allOk_nil, h0, hBs, hBm⟩
  case round =>
    obtain ⟨p, pre, rfl, hp, HS, HO, HJ0, HBs, HBm⟩ := hrel
    have cs := HBs.out.cell
    have cm := HBm.out.cell
    have ls := HBs.out.lt
    have lm := HBm.out.lt
    by_cases hlt : p < s.size
    · generalize hR : Frame.rd (s.extract p s.size).data.toList most = R
      have hRd : ∀ w, Calls Tryz.prog 107 #[.string (s.extract p s.size), .int .i64 most] w fun e w' => e = .returned (Frame.val R) ∧ Below w.heap.size w w' := fun w => by
        rw [← hR]
        exact fread_any _ most w (by rw [ByteArray.size_extract]; omega) m0
      have HRd := Lib.hid hRd
      have hne : s.data.toList.drop p ≠ [] := by
        intro h
        have := congrArg List.length h
        simp at this
        omega
      have hex : (s.extract p s.size).data.toList = s.data.toList.drop p := by
        rw [Lib.extract_data, List.take_of_length_le (by simp)]
      rw [hex] at hR
      have hST : (R.2.2.2 ≠ 0 → Frame.steps s.data.toList most = pre ++ [R]) ∧ (R.2.2.2 = 0 → 7 ≤ R.2.2.1 ∧ p + R.2.2.1 ≤ s.size ∧ Hid (Frame.steps s.data.toList most = (pre ++ [R]) ++ Frame.steps (s.data.toList.drop (p + R.2.2.1)) most)) := by
        constructor
        · intro he
          rw [← hR] at he
          rw [HS.out, Frame.steps_bad hne he, hR]
        · intro he
          rw [← hR] at he
          have hle := Frame.rd_le _ _ he
          rw [hR] at hle
          refine ⟨hle.1, by have := hle.2; simp at this; omega, ?_⟩
          show _ = _
          rw [HS.out, Frame.steps_ok hne he, hR, List.drop_drop, List.append_assoc]
          rfl
      have hPX : (pre ++ [R]) <+: Frame.steps s.data.toList most := by
        by_cases he : R.2.2.2 = 0
        · rw [(hST.2 he).2.2.out]; exact List.prefix_append _ _
        · rw [hST.1 he]; exact List.prefix_refl _
      have hPL : pre.length < s.size := by
        have h1 := hPX.length_le
        have h2 := Frame.steps_len s.data.toList most
        simp at h1 h2
        omega
      have HST := Lib.hid hST
      have HPX := Lib.hid hPX
      have HPL := Lib.hid hPL
      clear hRd hR hST hPX hPL hne hex
      obtain ⟨tg, tx, k, er⟩ := R
      gi_wp2_with (fail)
      have kp0 : (0 : Int) ≤ (p : Int) := by omega
      have kp1 : (p : Int) ≤ s.size := by omega
      have hL2 : ∀ a : Nat, a < a + 1 + 1 := fun a => by omega
      gi_region_with (refine ⟨trivial, ?_⟩; gi_at_call 107; refine (callsIn_wide.2 (HRd.out _)).mono ?_; unfold Frame.val; rintro e w1 ⟨rfl, hb⟩; obtain ⟨hcl, hfr⟩ := kept_cells hb; have hz := hb.size; (try simp at hz))
      all_goals
        rename_i Q' K' hK'
        show K' _ _
        refine hK' _ _ ?_
        clear hK' K'
        refine Frame.wpIn_world (fun W5 hW5 => ?_)
        have hB5 : Below wr.heap.size wr W5 := by
          rw [hW5]
          have hU : Below wr.heap.size wr w1 := by
            refine Below.trans ?_ (hb.mono ?_)
            · repeat (first | with_reducible exact Below.refl _ _ | with_reducible refine Below.drew ?_ | with_reducible refine Below.alloc ?_ ?_ _)
              all_goals (first | exact Nat.le_refl _ | (simp; done) | (simp; omega))
            · first | exact Nat.le_refl _ | (simp; done) | (simp; omega)
          have hs1 := hU.size
          repeat (first | with_reducible exact hU | with_reducible refine Below.drew ?_ | with_reducible refine Below.alloc ?_ ?_ _ | with_reducible refine Below.setCell ?_ ?_ _)
          all_goals (first | exact hs1 | exact Nat.le_refl _ | (simp; done) | (simp; omega))
        obtain ⟨fn, tmps, assign, body, hy, hYR⟩ := HY.out pre (tg, tx, k, er) W5 (HJ.out _ _ _ HJ0.out hB5) HPL.out
        dsimp only [Frame.encs] at hy
        first
          | (have f0 : W5.cell? ⟨w1.heap.size, 0, none⟩ = some (.int .u8 (tg.toNat : Int)) := by (rw [hW5]; simp [go_sem]; done)
             have f1 : W5.cell? ⟨w1.heap.size, 1, none⟩ = some (.string ⟨tx.toArray⟩) := by (rw [hW5]; simp [go_sem]; done)
             have HW5 := Lib.hid hW5
             clear hW5
             gi_wp2_with fail)
          | (have k0 : w1.cell? ⟨wr.heap.size, 0, none⟩ = some (.int .u8 0) := (hcl wr.heap.size 0 (by simp)).trans (by simp [go_sem])
             have k1 : w1.cell? ⟨wr.heap.size, 1, none⟩ = some (.string ⟨#[]⟩) := (hcl wr.heap.size 1 (by simp)).trans (by simp [go_sem])
             have f0 : W5.cell? ⟨wr.heap.size, 0, none⟩ = some (.int .u8 (tg.toNat : Int)) := by (rw [hW5]; simp [go_sem]; exact (Frame.cells2 k0 k1 _ (.string ⟨#[]⟩)).1)
             have f1 : W5.cell? ⟨wr.heap.size, 1, none⟩ = some (.string ⟨tx.toArray⟩) := by (rw [hW5]; exact (Frame.cells2 k0 k1 _ _).2)
             have HW5 := Lib.hid hW5
             clear hW5
             gi_wp2_with fail)
        refine hYR.mono ?_
        rintro e W3 (⟨rfl, hJ3, hk3⟩ | ⟨rfl, hJx3⟩)
        · have HB3 : Hid (Boxed W3 Bs 9 (.string s) ∧ Boxed W3 Bm 3 (.int .i64 most)) := ⟨hk3.1.trans ((hB5.block _ ls).trans HBs.out), hk3.2.trans ((hB5.block _ lm).trans HBm.out)⟩
          have HJ3 := Lib.hid hJ3
          clear hk3 hJ3
          by_cases he : er = 0
          · subst he
            obtain ⟨hk7, hks, HS2⟩ := HST.out.2 rfl
            gi_wp2
            go_roundw
            case rel => exact ⟨p + k, pre ++ [(tg, tx, k, 0)], by go_num, by omega, HS2, Frame.allOk_snoc HO.out rfl, HJ3, HB3.out.1, HB3.out.2⟩
            case measure => simp [intOf]; omega
          · have heb : ((er : Int) != 0) = true := by simpa using (by omega : ¬ (er : Int) = 0)
            have HS3 := Lib.hid (HST.out.1 he)
            clear he
            gi_wp2
            refine bodyPost_ret (results_none rfl _ _ _) rfl ?_
            exact ⟨⟨_, rfl⟩, .inl ⟨_, HS3.out.symm, HJ3.out⟩⟩
        · have HJx := Lib.hid hJx3
          clear hJx3
          gi_wp2
          refine bodyPost_ret (results_none rfl _ _ _) rfl ?_
          exact ⟨⟨_, rfl⟩, .inr ⟨_, HPX.out, HJx.out⟩⟩
    · have hd : s.data.toList.drop p = [] := List.drop_of_length_le (by simp; omega)
      have HS' := HS.out
      rw [hd, Frame.steps_nil, List.append_nil] at HS'
      have HS2 := Lib.hid HS'
      clear HS' hd
      gi_wp2
      go_end0
      exact ⟨⟨_, rfl⟩, .inl ⟨pre, HS2.out.symm, HJ0.out⟩⟩
end Go.Proofs.YtpmhpibbdcifnaaGreat
end

section
namespace Go.Proofs.YtpmhpibbdcifnaaGreat
open Go.RowKit Go.Shelf

attribute [local go_sem] Oper.semAt_some

namespace Frame
/-- Frames as the cells of a row. -/
def fcells (l : List (UInt8 × List UInt8)) : List Value := l.flatMap fun f => [Value.int .u8 (f.1.toNat : Int), Value.string ⟨f.2.toArray⟩]
theorem fcells_len (l : List (UInt8 × List UInt8)) : (fcells l).length = l.length * 2 := by
  unfold fcells
  induction l with
  | nil => rfl
  | cons f l ih => rw [List.flatMap_cons, List.length_append, ih, List.length_cons]; simp; omega
theorem fcells_snoc (l : List (UInt8 × List UInt8)) (f : UInt8 × List UInt8) : fcells (l ++ [f]) = fcells l ++ [Value.int .u8 (f.1.toNat : Int), Value.string ⟨f.2.toArray⟩] := by
  unfold fcells; rw [List.flatMap_append]; simp
theorem fcells_at (l : List (UInt8 × List UInt8)) (k : Nat) (h : k < l.length) : (fcells l)[2 * k]? = some (.int .u8 (l[k].1.toNat : Int)) ∧ (fcells l)[2 * k + 1]? = some (.string ⟨l[k].2.toArray⟩) := by
  induction l generalizing k with
  | nil => simp at h
  | cons f l ih =>
    have e : fcells (f :: l) = Value.int .u8 (f.1.toNat : Int) :: Value.string ⟨f.2.toArray⟩ :: fcells l := by unfold fcells; rw [List.flatMap_cons]; rfl
    rw [e]
    cases k with
    | zero => exact ⟨rfl, rfl⟩
    | succ k =>
      have := ih k (by simpa using h)
      have e1 : 2 * (k + 1) = 2 * k + 1 + 1 := by omega
      rw [e1]
      simpa using this

/-- A row that is owned lies there. -/
theorem owns_lies {W : World} {n₀ : Nat} {T : TypeId} {v : Value} {l : List (UInt8 × List UInt8)} (h : W.ownsRow n₀ T 2 v l.length (fcells l)) : ∃ (A : Option Addr) (c : Nat), v = .slice A l.length c ∧ l.length ≤ c ∧ Lies W W.heap.size A (fcells l) := by
  rcases h.2 with ⟨rfl, h0⟩ | ⟨g, cap, cur, rfl, hb, hk, hc, _⟩
  · have : l = [] := List.eq_nil_of_length_eq_zero h0
    subst this
    exact ⟨none, 0, rfl, Nat.le_refl _, Lies.nil⟩
  · refine ⟨_, cap, rfl, hc, fun _ => ⟨_, rfl, (Array.getElem?_eq_some_iff.1 hk).1, fun j u hu => ?_⟩⟩
    exact h.cells rfl j u hu

/-- What a scan leaves. -/
def ScanOut (w : World) (r : List (UInt8 × List UInt8) × Nat × Nat) (e : Ending) (w' : World) : Prop :=
  ∃ (A : Option Addr) (c : Nat), e = .returned (.tuple #[.slice A r.1.length c, .int .i64 (r.2.1 : Int), .int .i64 (r.2.2 : Int)]) ∧ r.1.length ≤ c ∧ Lies w' w'.heap.size A (fcells r.1) ∧ Below w.heap.size w w'

/-- Scan's variables, each in its box: its three results, and what the iterator reads. -/
def Held (n₀ : Nat) (s : ByteArray) (most : Int) (l : List (UInt8 × List UInt8)) (g : Int) (e : Nat) (W : World) : Prop :=
  (∃ v, Boxed W n₀ 121 v ∧ W.ownsRow n₀ 125 2 v l.length (fcells l)) ∧ Boxed W (n₀ + 1) 3 (.int .i64 g) ∧ Boxed W (n₀ + 1 + 1) 26 (.int .i64 (e : Int)) ∧
    Boxed W (n₀ + 1 + 1 + 1) 9 (.string s) ∧ Boxed W (n₀ + 1 + 1 + 1 + 1) 3 (.int .i64 most)
theorem Held.kept {n₀ e : Nat} {s : ByteArray} {most g : Int} {l : List (UInt8 × List UInt8)} {W W' : World} {row : Option Nat} (h : Held n₀ s most l g e W) (hg : W.grownBy W' row) (hr : ∀ r, row = some r → ∃ o : Obj, W.heap[r]? = some o ∧ o.isCells = false) : Held n₀ s most l g e W' := by
  obtain ⟨⟨v, h1, h2⟩, h3, h4, h5, h6⟩ := h
  obtain ⟨u, k1, k2, _⟩ := holdsRow_own n₀ n₀ 121 125 2 (fun (_ : Unit) => l.length) (fun _ => fcells l) (fun _ _ => True) () W W' row ⟨v, h1, h2, trivial⟩ hg hr
  exact ⟨⟨u, k1, k2⟩, boxed_own _ _ (fun (_ : Unit) => Value.int .i64 g) () W W' row h3 hg hr, boxed_own _ _ (fun (_ : Unit) => Value.int .i64 (e : Int)) () W W' row h4 hg hr,
    boxed_own _ _ (fun (_ : Unit) => Value.string s) () W W' row h5 hg hr, boxed_own _ _ (fun (_ : Unit) => Value.int .i64 most) () W W' row h6 hg hr⟩
theorem Held.kp {n₀ e e' : Nat} {s : ByteArray} {most g g' : Int} {l l' : List (UInt8 × List UInt8)} {W W' : World} (h : Held n₀ s most l g e W) (h' : Held n₀ s most l' g' e' W') : KP (n₀ + 1 + 1 + 1) (n₀ + 1 + 1 + 1 + 1) W W' :=
  ⟨h'.2.2.2.1.trans h.2.2.2.1.symm, h'.2.2.2.2.trans h.2.2.2.2.symm⟩
/-- A store into one of the first three boxes. -/
theorem Held.setG {n₀ e : Nat} {s : ByteArray} {most g : Int} {l : List (UInt8 × List UInt8)} {W : World} (h : Held n₀ s most l g e W) (g' : Int) : Held n₀ s most l g' e (W.setCell ⟨n₀ + 1, 0, none⟩ (.int .i64 g')) := by
  obtain ⟨⟨v, h1, h2⟩, h3, h4, h5, h6⟩ := h
  exact ⟨⟨v, h1.other (by omega) _, h2.kept (grownBy_setCell' W _ _) (.inr (h3.not_row (by decide) h2).symm)⟩, h3.set _, h4.other (by omega) _, h5.other (by omega) _, h6.other (by omega) _⟩
theorem Held.setE {n₀ e : Nat} {s : ByteArray} {most g : Int} {l : List (UInt8 × List UInt8)} {W : World} (h : Held n₀ s most l g e W) (e' : Nat) : Held n₀ s most l g e' (W.setCell ⟨n₀ + 1 + 1, 0, none⟩ (.int .i64 (e' : Int))) := by
  obtain ⟨⟨v, h1, h2⟩, h3, h4, h5, h6⟩ := h
  exact ⟨⟨v, h1.other (by omega) _, h2.kept (grownBy_setCell' W _ _) (.inr (h4.not_row (by decide) h2).symm)⟩, h3.other (by omega) _, h4.set _, h5.other (by omega) _, h6.other (by omega) _⟩
theorem Held.setL {n₀ e : Nat} {s : ByteArray} {most g : Int} {l : List (UInt8 × List UInt8)} {W : World} (h : Held n₀ s most l g e W) {v : Value} (hv : Boxed W n₀ 121 v) : Held n₀ s most l g e (W.setCell ⟨n₀, 0, none⟩ v) := by
  obtain ⟨⟨u, h1, h2⟩, h3, h4, h5, h6⟩ := h
  have e1 : u = v := by
    have := hv.symm.trans h1
    cases this
    rfl
  subst e1
  exact ⟨⟨u, h1.set _, h2.kept (grownBy_setCell' W _ _) (.inr (h1.not_row (by decide) h2).symm)⟩, h3.other (by omega) _, h4.other (by omega) _, h5.other (by omega) _, h6.other (by omega) _⟩

/-- A piece in its box. -/
def PB (Bx : Nat) (x : Told) (W : World) : Prop := W.heap[Bx]? = some (.cells #[.int .u8 (x.1.toNat : Int), .string ⟨x.2.1.toArray⟩, .int .i64 (x.2.2.1 : Int)] 152 (0, 0))
theorem PB.kept {Bx : Nat} {x : Told} {W W' : World} {row : Option Nat} (h : PB Bx x W) (hg : W.grownBy W' row) (hr : ∀ r, row = some r → ∃ o : Obj, W.heap[r]? = some o ∧ o.isCells = false) : PB Bx x W' :=
  (hg.block _ (Array.getElem?_eq_some_iff.1 h).1 (fun e => by obtain ⟨o, ho, hc⟩ := hr _ e.symm; rw [show W.heap[Bx]? = _ from h] at ho; cases ho; cases hc)).trans h
theorem PB.cells {Bx : Nat} {x : Told} {W : World} (h : PB Bx x W) : W.cell? ⟨Bx, 0, none⟩ = some (.int .u8 (x.1.toNat : Int)) ∧ W.cell? ⟨Bx, 1, none⟩ = some (.string ⟨x.2.1.toArray⟩) ∧ W.cell? ⟨Bx, 2, none⟩ = some (.int .i64 (x.2.2.1 : Int)) := by
  refine ⟨?_, ?_, ?_⟩ <;> (rw [Lib.cell_of_heap h]; rfl)
theorem PB.not_row {Bx n₀ k : Nat} {x : Told} {W : World} {v : Value} {xs : List Value} (h : PB Bx x W) (hr : W.ownsRow n₀ 125 2 v k xs) : some Bx ≠ v.ownBlock := by
  rcases hr.2 with ⟨rfl, _⟩ | ⟨g, cap, cur, rfl, _, hgb, _⟩
  · simp [Value.ownBlock]
  · intro e'
    obtain rfl : Bx = g := by simpa [Value.ownBlock] using e'
    have := (show W.heap[Bx]? = _ from h).symm.trans hgb
    simp at this

/-- Behind 'l = append(l, p.Frame)'. -/
theorem Held.appended {n₀ e Bx m : Nat} {s : ByteArray} {most g : Int} {l : List (UInt8 × List UInt8)} {f : UInt8 × List UInt8} {W w1 : World} {v v' : Value} {tmp : Obj} {x : Told} (h : Held n₀ s most l g e W) (hv : Boxed W n₀ 121 v)
    (hrow : W.ownsRow n₀ 125 2 v l.length (fcells l)) (hp : PB Bx x W) (hBx : n₀ < Bx) (hn₀ : n₀ ≤ W.heap.size)
    (hown' : w1.ownsRow n₀ 125 2 v' m (fcells l ++ [Value.int .u8 (f.1.toNat : Int), Value.string ⟨f.2.toArray⟩])) (hm : m = l.length + 1) (hgrow : (W.alloc tmp).grownBy w1 v.ownBlock) :
    (Boxed w1 n₀ 121 v ∧ Boxed w1 (n₀ + 1) 3 (.int .i64 g) ∧ PB Bx x w1) ∧ Held n₀ s most (l ++ [f]) g e (w1.setCell ⟨n₀, 0, none⟩ v') ∧ PB Bx x (w1.setCell ⟨n₀, 0, none⟩ v') ∧ KeepsOthers W (w1.setCell ⟨n₀, 0, none⟩ v') ∧ Below n₀ W (w1.setCell ⟨n₀, 0, none⟩ v') := by
  subst hm
  obtain ⟨hv1, hv2, hr2, hk2, hb2⟩ := hv.appended (tmp := tmp) (by decide) hrow hn₀ (Nat.le_refl _) hown' hgrow
  obtain ⟨_, h3, h4, h5, h6⟩ := h
  have other : ∀ {B : Nat} {t : TypeId} {u : Value}, Boxed W B t u → t ≠ 125 → n₀ ≠ B → Boxed (w1.setCell ⟨n₀, 0, none⟩ v') B t u := fun hb ht hne =>
    ((hb.alloc tmp).kept hgrow (hb.not_row ht hrow)).other (fun e => hne e.symm) _
  have h1 : PB Bx x (W.alloc tmp) := hp.kept (World.grownBy_alloc W tmp none) (fun r e => by cases e)
  have h2 : PB Bx x w1 := (hgrow.block _ (Array.getElem?_eq_some_iff.1 h1).1 (hp.not_row hrow)).trans h1
  refine ⟨⟨hv1, (h3.alloc tmp).kept hgrow (h3.not_row (by decide) hrow), h2⟩, ⟨⟨v', hv2, ?_⟩, other h3 (by decide) (by omega), other h4 (by decide) (by omega), other h5 (by decide) (by omega), other h6 (by decide) (by omega)⟩, ?_, hk2, hb2⟩
  · rw [fcells_snoc, List.length_append]
    exact hr2
  · exact ((grownBy_setCell' w1 n₀ v').block _ (Array.getElem?_eq_some_iff.1 h2).1 (fun e => by injection e; omega)).trans h2

theorem cell_two_new (W : World) (x y : Value) (T : TypeId) : ∀ j u, [x, y][j]? = some u → (W.alloc (.cells #[x, y] T)).cell? ((⟨W.heap.size, 0, none⟩ : Addr).add j) = some u := fun j u hu => by
  have e : (⟨W.heap.size, 0, none⟩ : Addr).add j = ⟨W.heap.size, j, none⟩ := by unfold Addr.add; split <;> simp_all
  rw [e, World.cell?_alloc_at _ _ _ _ rfl, ← hu]
  simp

theorem frame_info : (Tryz.prog.info? 125).map (fun i => (i.zero, i.size, i.bytes)) = some (some (.agg #[.int .u8 0, .string ⟨#[]⟩]), 2, 24) := by kernel_rfl

/-- How many bytes, as the loop reckons it. -/
def gsum (l : List Told) : Int := l.foldl (fun g r => wrap64 (g + (r.2.2.1 : Int))) 0
theorem gsum_snoc (l : List Told) (x : Told) : gsum (l ++ [x]) = wrap64 (gsum l + (x.2.2.1 : Int)) := by unfold gsum; rw [List.foldl_append]; rfl
theorem gsum_from (l : List Told) : ∀ (g : Int), 0 ≤ g → g + (bytes l : Int) ≤ 1000000 → l.foldl (fun g r => wrap64 (g + (r.2.2.1 : Int))) g = g + (bytes l : Int) := by
  induction l with
  | nil => intro g _ _; simp [bytes]
  | cons x l ih =>
    intro g h0 h1
    have e : bytes (x :: l) = x.2.2.1 + bytes l := by unfold bytes; simp
    rw [e] at h1 ⊢
    rw [List.foldl_cons, IntWalk.wrap64_in _ ⟨by omega, by omega⟩, ih _ (by omega) (by omega)]
    omega
theorem gsum_eq {l : List Told} (h : bytes l ≤ 1000000) : gsum l = (bytes l : Int) := by
  unfold gsum
  rw [gsum_from l 0 (by omega) (by omega)]
  omega
/-- Between two rounds. -/
def Going (n₀ : Nat) (s : ByteArray) (most : Int) (w : World) (pre : List Told) (W : World) : Prop := (allOk pre ∧ Held n₀ s most (frames pre) (gsum pre) 0 W) ∧ Below n₀ w W
/-- Behind a round that has left. -/
def Gone (n₀ : Nat) (s : ByteArray) (most : Int) (w : World) (c : Code) (xs : List Told) (W : World) : Prop :=
  (c = .ret ∧ ∃ pre x, xs = pre ++ [x] ∧ allOk pre ∧ x.2.2.2 ≠ 0 ∧ Held n₀ s most (frames pre) (gsum pre) x.2.2.2 W) ∧ Below n₀ w W
/-- The frame of a round. -/
def Round (n₀ : Nat) (F : Nat → Told → Act) (x : Told) (a' : Act) (W : World) : Prop := ∃ Bx, n₀ + 4 < Bx ∧ PB Bx x W ∧ a' = F Bx x
end Frame

/-- At the function's return. -/
theorem scan_end (w W : World) (s : ByteArray) (most : Int) (l : List (UInt8 × List UInt8)) (g e D : Nat) (T : Array Value) (hH : Frame.Held w.heap.size s most l (g : Int) e W) (hB : Below w.heap.size w W) (hD : w.heap.size ≤ D) (hK : W.heap[D]? = some (.deferred (some [])))
    (h4 : T[4]?.getD undef = .pointer (some ⟨w.heap.size, 0, none⟩)) (h5 : T[5]?.getD undef = .pointer (some ⟨w.heap.size + 1, 0, none⟩)) (h6 : T[6]?.getD undef = .pointer (some ⟨w.heap.size + 1 + 1, 0, none⟩)) :
    bodyPostM Fence.wide 5 Tryz.prog Tryz.f71 (Frame.ScanOut w (l, g, e)) .ret { tmps := T, defers := [{ target := .collected D, args := #[] }] } W := by
  refine ⟨by simp, .inl ⟨_, _, rfl, run_takeDeferred hK, ?_⟩⟩
  have hH2 := hH.kept (grownBy_putObj' W D (.deferred none)) (fun r e => by cases e; exact ⟨_, hK, rfl⟩)
  have hB2 := hB.trans (belowK_b (w := w) (Nat.le_refl _) W D _ (.deferred none) hD hK rfl rfl)
  obtain ⟨⟨v, bL, hrow⟩, bG, bE, _, _⟩ := hH2
  obtain ⟨A, cp, rfl, hcap, hl⟩ := Frame.owns_lies hrow
  have cL := bL.cell
  have cG := bG.cell
  have cE := bE.cell
  refine ⟨.tuple #[.slice A l.length cp, .int .i64 (g : Int), .int .i64 (e : Int)], ?_, A, cp, rfl, hcap, hl, hB2⟩
  simp [results, Tryz.results71, go_sem, h4, h5, h6, cL, cG, cE]

set_option maxHeartbeats 400000 in
theorem pieces_any (s : ByteArray) (most : Int) (w : World) :
    Calls Tryz.prog 95 #[.string s, .int .i64 most] w fun e w' => e = .returned (.func (.func 106) #[] #[.pointer (some ⟨w.heap.size, 0, none⟩), .pointer (some ⟨w.heap.size + 1, 0, none⟩)]) ∧ w' = (w.alloc (.cells #[.string s] 9)).alloc (.cells #[.int .i64 most] 3) := by
  have hmf : ∀ (fn : Fn) (first cap : Array Value) (w : World), (Instr.makeFunc fn first cap).run Tryz.prog w = .ok (.func fn first cap) w := fun _ _ _ _ => rfl
  go_enter Tryz.func95, Tryz.ntmps95
  go_wp2
  go_ret
  exact ⟨rfl, rfl⟩

theorem pieces_stops (n : Nat) (hn : 1 ≤ n) (Bs Bm : Nat) (s : ByteArray) (most : Int) (m0 : -9223372036854775808 ≤ most) (hs : s.size ≤ 1000000) (w : World) (hBs : Boxed w Bs 9 (.string s)) (hBm : Boxed w Bm 3 (.int .i64 most)) :
    SeqStopsK Fence.wide n Tryz.prog 106 #[.pointer (some ⟨Bs, 0, none⟩), .pointer (some ⟨Bm, 0, none⟩)] Frame.encs (Frame.KP Bs Bm) (fun ys => ys = Frame.steps s.data.toList most) (fun pre => pre <+: Frame.steps s.data.toList most) s.size w := fun l J Jx W hW hJ _ hY h0 =>
  pieces1_in n hn l Bs Bm s most m0 hs J Jx (fun pre X Y h hb => hJ pre X Y none h (grown_of hb none) (fun r e => by cases e)) hY W ((hW.block _ hBs.lt).trans hBs) ((hW.block _ hBm.lt).trans hBm) h0

set_option maxRecDepth 100000 in
set_option maxHeartbeats 2000000 in
theorem fscan_any (s : ByteArray) (most : Int) (w : World) (m0 : -9223372036854775808 ≤ most) (hs : s.size ≤ 1000000) :
    Calls Tryz.prog 71 #[.string s, .int .i64 most] w (Frame.ScanOut w (Frame.sc s.data.toList most)) := by
  refine (callsIn_wide (n := 5)).1 ?_
  refine callsIn_of_wp_marks Tryz.func71 rfl trivial ?_ rfl
  simp only [Tryz.ntmps71, List.size_toArray, List.length_cons, List.length_nil, Nat.reduceAdd, Nat.reduceSub, Array.replicate_succ, Array.replicate_zero, List.push_toArray, List.append_toArray, List.nil_append, List.cons_append]
  gi_wp2_with (refine ⟨trivial, ?_⟩; gi_at_call 95; refine (callsIn_wide.2 (pieces_any s most _)).mono ?_; rintro e w' ⟨rfl, rfl⟩)
  have bL := ((((Boxed.new w 121 (.slice none 0 0)).alloc (.cells #[.int .i64 0] 3)).alloc (.cells #[.int .i64 0] 26)).alloc (.cells #[.string s] 9)).alloc (.cells #[.int .i64 most] 3)
  have bG := (((Boxed.new (w.alloc (.cells #[.slice none 0 0] 121)) 3 (.int .i64 0)).alloc (.cells #[.int .i64 0] 26)).alloc (.cells #[.string s] 9)).alloc (.cells #[.int .i64 most] 3)
  have bE := ((Boxed.new ((w.alloc (.cells #[.slice none 0 0] 121)).alloc (.cells #[.int .i64 0] 3)) 26 (.int .i64 0)).alloc (.cells #[.string s] 9)).alloc (.cells #[.int .i64 most] 3)
  have bS := (Boxed.new (((w.alloc (.cells #[.slice none 0 0] 121)).alloc (.cells #[.int .i64 0] 3)).alloc (.cells #[.int .i64 0] 26)) 9 (.string s)).alloc (.cells #[.int .i64 most] 3)
  have bM := Boxed.new ((((w.alloc (.cells #[.slice none 0 0] 121)).alloc (.cells #[.int .i64 0] 3)).alloc (.cells #[.int .i64 0] 26)).alloc (.cells #[.string s] 9)) 3 (.int .i64 most)
  simp only [World.size_alloc] at bG bE bS bM
  have hB0 : Below w.heap.size w (((((w.alloc (.cells #[.slice none 0 0] 121)).alloc (.cells #[.int .i64 0] 3)).alloc (.cells #[.int .i64 0] 26)).alloc (.cells #[.string s] 9)).alloc (.cells #[.int .i64 most] 3)) :=
    (((((Below.refl _ w).alloc (Nat.le_refl _) _).alloc (by simp) _).alloc (by simp; omega) _).alloc (by simp; omega) _).alloc (by simp; omega) _
  have hsz : (((((w.alloc (.cells #[.slice none 0 0] 121)).alloc (.cells #[.int .i64 0] 3)).alloc (.cells #[.int .i64 0] 26)).alloc (.cells #[.string s] 9)).alloc (.cells #[.int .i64 most] 3)).heap.size = w.heap.size + 5 := by simp
  obtain ⟨W0, hW0⟩ : ∃ W0, ((((w.alloc (.cells #[.slice none 0 0] 121)).alloc (.cells #[.int .i64 0] 3)).alloc (.cells #[.int .i64 0] 26)).alloc (.cells #[.string s] 9)).alloc (.cells #[.int .i64 most] 3) = W0 := ⟨_, rfl⟩
  rw [hW0] at bL bG bE bS bM hB0 hsz ⊢
  clear hW0
  have hH0 : Frame.Held w.heap.size s most [] 0 0 W0 := ⟨⟨_, bL, World.ownsRow_nil _ _ _ _⟩, bG, bE, bS, bM⟩
  refine wpIn_rangeFunc_ownH rfl (by omega) (gf := 106) (lb := #[.pointer (some ⟨w.heap.size + 1 + 1 + 1, 0, none⟩), .pointer (some ⟨w.heap.size + 1 + 1 + 1 + 1, 0, none⟩)]) rfl trivial (enters_of Tryz.func106 (by kernel_rfl) rfl)
    (pieces_stops (5 - 1) (by omega) (w.heap.size + 1 + 1 + 1) (w.heap.size + 1 + 1 + 1 + 1) s most m0 hs W0 bS bM)
    (fun h k => Frame.KP.trans h k) (fun X l o o' hl _ _ _ => ⟨World.putObj_heap_other (by omega), World.putObj_heap_other (by omega)⟩) (Below.refl _ _) (fun _ => rfl)
    (Frame.Going w.heap.size s most w)
    (Frame.Gone w.heap.size s most w)
    (OwnFrom.and (fun pre X Y row hh hg hr => ⟨hh.1, hh.2.kept hg (fun r e => (hr r e).2)⟩) (ownFrom_below (Nat.le_refl _) (by omega)))
    (fun c => OwnFrom.and (fun xs X Y row hh hg hr => ⟨hh.1, by obtain ⟨_, pre, x, h1, h2, h3, h4⟩ := hh; exact ⟨pre, x, h1, h2, h3, h4.kept hg (fun r e => (hr r e).2)⟩⟩) (ownFrom_below (Nat.le_refl _) (by omega)))
    ⟨⟨Frame.allOk_nil, hH0⟩, hB0⟩
    (Frame.Round w.heap.size (fun Bx x => { tmps := #[.string s, .int .i64 most, undef, undef, .pointer (some ⟨w.heap.size, 0, none⟩), .pointer (some ⟨w.heap.size + 1, 0, none⟩), .pointer (some ⟨w.heap.size + 1 + 1, 0, none⟩), .pointer (some ⟨Bx, 0, none⟩), .int .i64 (x.2.2.2 : Int), .string s, .int .i64 most, .func (.func 106) #[] #[.pointer (some ⟨w.heap.size + 1 + 1 + 1, 0, none⟩), .pointer (some ⟨w.heap.size + 1 + 1 + 1 + 1, 0, none⟩)], .agg #[.int .u8 (x.1.toNat : Int), .string ⟨x.2.1.toArray⟩, .int .i64 (x.2.2.1 : Int)], .int .i64 (x.2.2.2 : Int), undef, undef, undef, undef, undef, undef, undef, undef, undef, undef, undef, undef, undef, undef, undef, undef], defers := [] }))
    (fun x a' _ X Y row hh hg hr => by obtain ⟨Bx, h1, h2, h3⟩ := hh; exact ⟨Bx, h1, h2.kept hg (fun r e => (hr r e).2), h3⟩)
    ?assign ?body ?done ?stop
  case assign =>
    rintro l pre x W K ⟨⟨hok, hh⟩, hB⟩ hK
    obtain ⟨tg, tx, k, er⟩ := x
    have hh' : Frame.Held w.heap.size s most (Frame.frames pre) (Frame.gsum pre) 0 (W.alloc (.cells #[.int .u8 (tg.toNat : Int), .string ⟨tx.toArray⟩, .int .i64 (k : Int)] 152)) := hh.kept (World.grownBy_alloc W _ none) (fun r e => by cases e)
    have HK := Lib.hid (hK _ _ ((KeepsOthers.alloc W (.cells #[.int .u8 (tg.toNat : Int), .string ⟨tx.toArray⟩, .int .i64 (k : Int)] 152)).from _) (hh.kp hh') ⟨⟨hok, hh'⟩, hB.alloc hB.size _⟩ ⟨W.heap.size, by have := hh.2.2.2.2.lt; omega, World.alloc_heap_new W _, rfl⟩)
    clear hh hh' hK hok hB
    gi_wp2
    exact HK.out
  case body =>
    rintro l pre x a' W hl ⟨r, hr⟩ ⟨⟨hok, hh⟩, hB⟩ ⟨Bx, hBx, hpb, rfl⟩ hlt
    obtain ⟨tg, tx, k, er⟩ := x
    obtain ⟨p0, p1, p2⟩ := hpb.cells
    obtain ⟨⟨v, bL1, hrow⟩, bG1, bE1, bS1, bM1⟩ := id hh
    obtain ⟨A, cp, rfl, hcap, _⟩ := Frame.owns_lies hrow
    have cL := bL1.cell
    have fL := bL1.frozen
    have cG := bG1.cell
    have fG := bG1.frozen
    have cE := bE1.cell
    have fE := bE1.frozen
    have lL := bL1.lt
    have lG := bG1.lt
    have lE := bE1.lt
    have lP := (Array.getElem?_eq_some_iff.1 hpb).1
    have HH := Lib.hid hh
    have HB := Lib.hid hB
    have HO := Lib.hid hok
    have HP := Lib.hid hpb
    have HBL := Lib.hid bL1
    have HROW := Lib.hid hrow
    have HSZ := Lib.hid hsz
    clear hh hB hok hpb bL1 hrow bG1 bE1 bS1 bM1 hsz hH0 hB0 bL bG bE bS bM hr
    by_cases he : er = 0
    · subst he
      obtain ⟨i0, hi, hz0, hz1, hz2⟩ := info_parts Frame.frame_info
      have hfl : (Frame.frames pre).length ≤ 1000000 := by rw [Frame.frames_len]; omega
      gi_wp2_with (gi_at_builtin; refine wpListIn_append_own _ rfl _ _ 121 rfl w.heap.size 125 i0 (.agg #[.int .u8 0, .string ⟨#[]⟩]) 2 24 Tryz.underlying121 hi hz0 hz1 hz2 rfl (by decide) _ _ _ rfl (HROW.out.alloc _) ⟨W.heap.size, 0, none⟩ 1 1 [.int .u8 (tg.toNat : Int), .string ⟨tx.toArray⟩] rfl rfl (Frame.cell_two_new _ _ _ _) (by simp [Value.oneCell']) (by unfold maxLen; omega) (by omega) (by have := HB.out.size; simp; omega) ?_; intro v' w1 hown' hgrow _; obtain ⟨g', cap', rfl⟩ := ownsRow_succ hown'; obtain ⟨⟨hv1, hg1, hq1⟩, hh2, hp2, hk2, hb2⟩ := Frame.Held.appended (f := (tg, tx)) HH.out HBL.out HROW.out HP.out (by omega) HB.out.size hown' rfl hgrow; have c1 := hv1.cell; have d1 := hv1.frozen; have c2 := hg1.cell; have d2 := hg1.frozen; have c3 := hq1.cells.2.2; have hgl := hg1.lt)
      exact ⟨(hk2.trans (KeepsOthers.setCell _ _ _)).from _, HH.out.kp (hh2.setG _), ⟨⟨Frame.allOk_snoc HO.out rfl, by rw [Frame.frames_snoc, Frame.gsum_snoc]; exact hh2.setG _⟩, (HB.out.trans hb2).setCell (p := ⟨w.heap.size + 1, 0, none⟩) (by simp) _⟩⟩
    · have heb : ((er : Int) != 0) = true := by simpa using (by omega : ¬ (er : Int) = 0)
      have HE := Lib.hid he
      clear he
      gi_wp2_with fail
      gi_region_with (fail)
      all_goals
        gi_wp2
        exact ⟨(((KeepsOthers.setCell _ _ _).trans (KeepsOthers.setCell _ _ _)).trans ((KeepsOthers.setCell _ _ _).trans (KeepsOthers.drew _))).from _, ⟨⟨rfl, pre, (tg, tx, k, er), rfl, HO.out, HE.out, (((HH.out.setL HBL.out).setG _).setE _).kept (Wire.grown_drew _ none) (fun r e => by cases e)⟩,
          (((HB.out.setCell (p := ⟨w.heap.size, 0, none⟩) (Nat.le_refl _) _).setCell (p := ⟨w.heap.size + 1, 0, none⟩) (by simp) _).setCell (p := ⟨w.heap.size + 1 + 1, 0, none⟩) (by simp; omega) _).drew⟩⟩
  case done =>
    rintro D xs W hD rfl ⟨⟨hok, hh⟩, hB⟩ hK
    obtain ⟨⟨v, bL1, hrow⟩, bG1, bE1, bS1, bM1⟩ := id hh
    obtain ⟨A, cp, rfl, hcap, _⟩ := Frame.owns_lies hrow
    have cL := bL1.cell
    have fL := bL1.frozen
    have cG := bG1.cell
    have fG := bG1.frozen
    have cE := bE1.cell
    have fE := bE1.frozen
    have lL := bL1.lt
    have lG := bG1.lt
    have lE := bE1.lt
    have HH := Lib.hid hh
    have HB := Lib.hid hB
    have HO := Lib.hid hok
    have HBL := Lib.hid bL1
    have HK := Lib.hid hK
    have HSZ := Lib.hid hsz
    clear hh hB hok bL1 hrow bG1 bE1 bS1 bM1 hsz hH0 hB0 bL bG bE bS bM hK
    have hby := Frame.bytes_le most s.data.toList.length s.data.toList (Frame.steps s.data.toList most) [] (by rw [List.append_nil]; rfl) HO.out
    have hgs := Frame.gsum_eq (l := Frame.steps s.data.toList most) (by simp at hby; omega)
    have HSC := Lib.hid (Frame.sc_done (s := s.data.toList) (most := most) rfl HO.out)
    have HGS := Lib.hid hgs
    clear hby hgs
    gi_wp2_with fail
    gi_region_with (fail)
    all_goals
      gi_wp2
      rw [HSC.out]
      refine scan_end w _ s most _ _ 0 D _ ?_ ?_ (by have := HSZ.out; omega) ?_ rfl rfl rfl
      · have := (((HH.out.setL HBL.out).setG (Frame.gsum (Frame.steps s.data.toList most))).setE 0).kept (Wire.grown_drew _ none) (fun r e => by cases e)
        rw [← HGS.out]
        exact this
      · exact (((HB.out.setCell (p := ⟨w.heap.size, 0, none⟩) (Nat.le_refl _) _).setCell (p := ⟨w.heap.size + 1, 0, none⟩) (by simp) _).setCell (p := ⟨w.heap.size + 1 + 1, 0, none⟩) (by simp; omega) _).drew
      · exact (((KeepsOthers.setCell _ _ _).trans (KeepsOthers.setCell _ _ _)).trans ((KeepsOthers.setCell _ _ _).trans (KeepsOthers.drew _))).same D _ HK.out rfl
  case stop =>
    rintro D c pre W hD hp ⟨⟨rfl, pre', x, rfl, hok, hx, hh⟩, hB⟩ hK
    obtain ⟨rest, hrest⟩ := hp
    rw [List.append_assoc] at hrest
    have hby := Frame.bytes_le most s.data.toList.length s.data.toList pre' _ hrest.symm hok
    have hgs := Frame.gsum_eq (l := pre') (by simp at hby; omega)
    have HSC := Lib.hid (Frame.sc_stop hrest.symm hok hx)
    rw [hgs] at hh
    have HH := Lib.hid hh
    have HB := Lib.hid hB
    have HK := Lib.hid hK
    have HSZ := Lib.hid hsz
    clear hby hgs hrest hok hx hh hB hsz hH0 hB0 bL bG bE bS bM hK
    gi_wp2
    rw [HSC.out]
    exact scan_end w _ s most _ _ _ D _ HH.out HB.out (by have := HSZ.out; omega) HK.out rfl rfl rfl
end Go.Proofs.YtpmhpibbdcifnaaGreat
end

section
namespace Go.Proofs.YtpmhpibbdcifnaaGreat
open Go.RowKit

namespace Frame
theorem pair1 (A : Addr) (k : Nat) : (⟨(A.add (k * 2)).block, (A.add (k * 2)).off + 1, none⟩ : Addr) = A.add (2 * k + 1) := by
  unfold Addr.add
  by_cases h : k = 0
  · subst h; simp
  · rw [if_neg (by omega), if_neg (by omega)]
    simp
    omega
end Frame

namespace Turn
/-- The bytes of l at the head of block B. -/
def Held (B : Nat) (l : List UInt8) (w : World) : Prop := ∀ i (h : i < l.length), w.cell? ⟨B, i, none⟩ = some (.int .u8 (l[i].toNat : Int)) ∧ w.frozen? ⟨B, i, none⟩ = false

theorem Held.set {B : Nat} {l : List UInt8} {w : World} (h : Held B l w) (q : Nat) (hq : q < l.length) (x : UInt8) (v : Int) (hv : v = (x.toNat : Int)) : Held B (l.set q x) (w.setCell ⟨B, q, none⟩ (.int .u8 v)) := by
  intro i hi
  have hi' : i < l.length := by simpa using hi
  refine ⟨?_, by rw [World.frozen?_setCell]; exact (h i hi').2⟩
  by_cases e : i = q
  · subst e
    rw [World.cell?_setCell_same _ _ _ (h i hi').1, hv, List.getElem_set_self]
  · rw [World.cell?_setCell_other _ _ _ _ (by intro hh; injection hh with _ h2 _; exact e h2.symm), List.getElem_set_ne (fun h => e h.symm)]
    exact (h i hi').1

theorem Held.start (w : World) (t : TypeId) (s : ByteArray) : Held w.heap.size s.data.toList (Lib.bytesWorld w t s) := by
  intro i hi
  have hi' : i < s.size := by simpa using hi
  refine ⟨?_, ?_⟩
  · rw [Lib.bytesWorld_cell w t s i hi']
    simp [List.getD, hi']
  · have : i < (Lib.bytesCells w t s).size := by simp [Lib.bytesCells]; omega
    simp [World.frozen?, Lib.bytesWorld_at_new]
    omega

theorem Held.conv {B : Nat} {l : List UInt8} {w : World} (h : Held B l w) (n cap : Nat) (hn : l.length = n) :
    (convert 94 9 (.slice (some ⟨B, 0, none⟩) n cap)).run Tryz.prog w = .ok (.string ⟨l.toArray⟩) w := by
  subst hn
  exact run_convert_bytes_back w 94 9 5 ⟨B, 0, none⟩ cap l Tryz.underlying94 Tryz.underlying5 Tryz.underlying9 (fun j hj => by
    have : (⟨B, 0, none⟩ : Addr).add j = ⟨B, j, none⟩ := by unfold Addr.add; split <;> simp_all
    rw [this]; exact (h j hj).1)

theorem below_bytes (w : World) (t : TypeId) (s : ByteArray) : Below w.heap.size w (Lib.bytesWorld w t s) :=
  ⟨rfl, rfl, rfl, by rw [Lib.bytesWorld_size]; omega, fun j hj => Lib.bytesWorld_at_old w t s j hj⟩

theorem mod_hit (b i : Nat) (h : b / 2 ^ i % 2 = 1) : b % 2 ^ (i + 1) ≠ 0 := by
  have e : b % 2 ^ (i + 1) = 2 ^ i + b % 2 ^ i := by
    rw [Nat.pow_succ, Nat.mod_mul, h]; omega
  have := Nat.two_pow_pos i
  omega

theorem bit_and (b i : Nat) (h : b < 4294967296) : bits BinOp.and IntKind.u32 ((b : Int) / 2 ^ i) 1 = ((b / 2 ^ i % 2 : Nat) : Int) := by
  have e : (b : Int) / 2 ^ i = ((b / 2 ^ i : Nat) : Int) := by simp
  have hl : b / 2 ^ i < 4294967296 := Nat.lt_of_le_of_lt (Nat.div_le_self _ _) h
  rw [e]
  generalize b / 2 ^ i = q at hl
  have := bits_mask .u32 32 (by decide) wraps_u32 1 (by omega) (q : Int) (by omega) (by omega)
  simpa using this

theorem bit_xor (v : UInt8) (r : Nat) (h : r < 8) : bits BinOp.xor IntKind.u8 (v.toNat : Int) (2 ^ r % 256) = ((v ^^^ UInt8.ofNat (2 ^ r)).toNat : Int) := by
  have hr : (2 : Nat) ^ r < 256 := Nat.lt_of_lt_of_le (Nat.pow_lt_pow_right (by omega) h) (by decide)
  have e : (2 : Int) ^ r % 256 = ((2 ^ r : Nat) : Int) := by
    have : (2 : Int) ^ r = ((2 ^ r : Nat) : Int) := by simp
    rw [this]
    generalize (2 : Nat) ^ r = p at hr
    omega
  rw [e, u8_xor_nat _ _ v.toNat_lt hr, UInt8.toNat_xor, UInt8.toNat_ofNat_of_lt' hr]

theorem bit_val (r : Nat) (h : r < 8) : (UInt8.ofNat (2 ^ r)).toNat = 2 ^ r := by
  have hr : (2 : Nat) ^ r < 256 := Nat.lt_of_lt_of_le (Nat.pow_lt_pow_right (by omega) h) (by decide)
  rw [UInt8.toNat_ofNat_of_lt' hr]
end Turn
end Go.Proofs.YtpmhpibbdcifnaaGreat
end
