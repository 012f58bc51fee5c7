/-
  Layer 14's Heavy.
  Layer 14: two frames side by side.
  Layer 14: VmPieces' walk.
-/
import Derived.Test.YtnlhacgihmelhaaGreatDoorVmW
import Derived.Test.YtnlhacgihmelhaaGreatDoorL10H
section
namespace Go.Proofs.YtnlhacgihmelhaaGreatDoor
open Go.RowKit

/-- What Heavy tells. -/
def Vm.HvP (n : Nat) (fuel : Int) (w : World) (e : Ending) (w' : World) : Prop := ∃ b : Bool, e = .returned (.bool b) ∧ (b = false → n ≤ 100 ∧ fuel ≤ 3000) ∧ Below w.heap.size w w'

set_option maxHeartbeats 1000000 in
set_option maxRecDepth 20000 in
theorem vheavy (l : List Cd.Fm) (hR : ∀ m ∈ l, m.f.Rng) (hn : l.length ≤ maxLen) (A : Option Addr) (c : Nat) (w : World) (hP : Cd.Prog w w.heap.size A l) (A2 : Option Addr) (n : Nat) (c2 : Nat) (fuel : Int) :
    Calls Tryz.prog 8 #[.agg #[.slice A l.length c], .slice A2 n c2, .int .i64 fuel] w (Vm.HvP n fuel w) := by
  obtain ⟨W, hW⟩ : ∃ W, W = w.alloc (.cells #[.slice A l.length c] 24) := ⟨_, rfl⟩
  have hb : Below w.heap.size w W := by rw [hW]; exact Cd.fn1 _ _ _
  have HF : Hid (W.heap[w.heap.size]? = some (.cells #[.slice A l.length c] 24 (0, 0))) := by show _ = _; rw [hW]; exact heap_alloc_new w _
  have c0 : W.cell? ⟨w.heap.size, 0, none⟩ = some (.slice A l.length c) := cell_of_row _ _ 0 _ _ _ HF.out
  have HB := Lib.hid hb
  have HH := Lib.hid (heavyp l hR hn A c W ((hP.below hb).mono hb.size))
  clear hb hP hR hn
  go_enter Tryz.func8, Tryz.ntmps8
  go_upto_region 1 with fail
  rw [← hW]
  clear hW
  go_wp2_with fail
  refine HH.out.mono ?_
  rintro e w2 ⟨b, rfl, -, hb2⟩
  have HB2 : Hid (Below w.heap.size w w2) := HB.out.trans (hb2.mono HB.out.size)
  clear hb2 c0
  cases b with
  | true =>
    go_wp2_with fail
    go_ret
    exact ⟨true, rfl, fun h => by simp at h, HB2.out⟩
  | false =>
    go_wp2_with fail
    all_goals
      go_ret
      refine ⟨_, rfl, fun h => ?_, HB2.out⟩
      simp at h <;> omega
end Go.Proofs.YtnlhacgihmelhaaGreatDoor
end

section
namespace Go.Proofs.YtnlhacgihmelhaaGreatDoor
open Go.RowKit

namespace Vm
open Cd Ev
/-- Two frames of one task, and blocks that neither has. -/
structure DuoV (X : Nat → Prop) (V1 V2 : Nat) (p : List FnV) (t : Tsk) (w0 : World) (b1 b2 : Bk) (s1 s2 : Fs) (w : World) : Prop where
  f : Own (fun i => KOff b2 i ∧ X i) V1 b1 p t s1 w
  g : Own (fun i => KOff b1 i ∧ X i) V2 b2 p t s2 w
  bel : Below w0.heap.size w0 w
  o1 : ∀ i, i < w0.heap.size → KOff b1 i
  o2 : ∀ i, i < w0.heap.size → KOff b2 i
section
variable {X X' : Nat → Prop} {V1 V2 : Nat} {p : List FnV} {t : Tsk} {w0 : World} {b1 b2 b' : Bk} {s1 s2 s' : Fs} {w w' : World}
theorem DuoV.below (h : DuoV X V1 V2 p t w0 b1 b2 s1 s2 w) (hb : Below w.heap.size w w') : DuoV X V1 V2 p t w0 b1 b2 s1 s2 w' := ⟨h.f.below hb, h.g.below hb, h.bel.trans (hb.mono h.bel.size), h.o1, h.o2⟩
theorem DuoV.putF (h : DuoV X V1 V2 p t w0 b1 b2 s1 s2 w) (ho : Own (fun i => KOff b2 i ∧ X i) V1 b' p t s' w') (m : Gm.Mvg (KOff b1) (KOff b') w w') : DuoV X V1 V2 p t w0 b' b2 s' s2 w' := by
  have m2 : Gm.Mvg (fun i => KOff b1 i ∧ X i) (fun i => KOff b' i ∧ X i) w w' := ⟨m.os, m.tape, m.output, m.size, fun i hi ho => m.block i hi ho.1, fun i hi ho => ⟨m.keep i hi ho.1, ho.2⟩⟩
  exact ⟨ho, h.g.mv m2 (fun i hi => ⟨ho.hf.fr.lt i hi, (ho.hf.fresh i hi).2⟩), below_mv h.bel h.o1 m h.bel.size, fun i hi => m.keep i (Nat.lt_of_lt_of_le hi h.bel.size) (h.o1 i hi), h.o2⟩
theorem DuoV.putG (h : DuoV X V1 V2 p t w0 b1 b2 s1 s2 w) (ho : Own (fun i => KOff b1 i ∧ X i) V2 b' p t s' w') (m : Gm.Mvg (KOff b2) (KOff b') w w') : DuoV X V1 V2 p t w0 b1 b' s1 s' w' := by
  have m2 : Gm.Mvg (fun i => KOff b2 i ∧ X i) (fun i => KOff b' i ∧ X i) w w' := ⟨m.os, m.tape, m.output, m.size, fun i hi ho => m.block i hi ho.1, fun i hi ho => ⟨m.keep i hi ho.1, ho.2⟩⟩
  exact ⟨h.f.mv m2 (fun i hi => ⟨ho.hf.fr.lt i hi, (ho.hf.fresh i hi).2⟩), ho, below_mv h.bel h.o2 m h.bel.size, h.o1, fun i hi => m.keep i (Nat.lt_of_lt_of_le hi h.bel.size) (h.o2 i hi)⟩
/-- Other blocks move: written, or made. -/
theorem DuoV.mvX (h : DuoV X V1 V2 p t w0 b1 b2 s1 s2 w) (m : Gm.Mvg X X' w w') (hX : ∀ i, w'.heap.size ≤ i → X' i) (hb : Below w0.heap.size w0 w') : DuoV X' V1 V2 p t w0 b1 b2 s1 s2 w' := by
  have mf : Gm.Mvg (fun i => KOff b2 i ∧ X i) (fun i => KOff b2 i ∧ X' i) w w' := ⟨m.os, m.tape, m.output, m.size, fun i hi ho => m.block i hi ho.2, fun i hi ho => ⟨ho.1, m.keep i hi ho.2⟩⟩
  have mg : Gm.Mvg (fun i => KOff b1 i ∧ X i) (fun i => KOff b1 i ∧ X' i) w w' := ⟨m.os, m.tape, m.output, m.size, fun i hi ho => m.block i hi ho.2, fun i hi ho => ⟨ho.1, m.keep i hi ho.2⟩⟩
  exact ⟨h.f.mv mf (fun i hi => ⟨h.g.hf.fr.lt i (Nat.le_trans m.size hi), hX i hi⟩), h.g.mv mg (fun i hi => ⟨h.f.hf.fr.lt i (Nat.le_trans m.size hi), hX i hi⟩), hb, h.o1, h.o2⟩
theorem DuoV.new (h : DuoV X V1 V2 p t w0 b1 b2 s1 s2 w) (o : Obj) : DuoV (fun i => X i ∧ i ≠ w.heap.size) V1 V2 p t w0 b1 b2 s1 s2 (w.alloc o) := by
  have hb : Below w.heap.size w (w.alloc o) := (Below.refl _ _).alloc (Nat.le_refl _) _
  refine h.mvX ⟨hb.os, hb.tape, hb.output, hb.size, fun i hi _ => hb.block i hi, fun i hi ho => ⟨ho, by omega⟩⟩ (fun i hi => ?_) (h.bel.trans (hb.mono h.bel.size))
  have hs : (w.alloc o).heap.size = w.heap.size + 1 := by simp
  exact ⟨(h.f.hf.fresh i (Nat.le_trans hb.size hi)).2, by omega⟩
theorem DuoV.free (h : DuoV X V1 V2 p t w0 b1 b2 s1 s2 w) (hX : ∀ i, X i → X' i) : DuoV X' V1 V2 p t w0 b1 b2 s1 s2 w := h.mvX (mvg_imp fun i _ ho => hX i ho) (fun i hi => hX i (h.f.hf.fresh i hi).2) h.bel
theorem DuoV.set7 (h : DuoV X V1 V2 p t w0 b1 b2 s1 s2 w) {Q : Nat} (hQ : ∀ i, X i → i ≠ Q) (hw : w0.heap.size ≤ Q) (x y z u v q r : Value) : DuoV X V1 V2 p t w0 b1 b2 s1 s2 (set7 w Q x y z u v q r) :=
  h.mvX (set7_mv (Gm.Mvg.refl _ _) (fun i _ ho => hQ i ho) _ _ _ _ _ _ _) (fun i hi => (h.f.hf.fresh i (by rw [set7_size] at hi; exact hi)).2) (set7_below h.bel hw _ _ _ _ _ _ _)
theorem DuoV.set1 (h : DuoV X V1 V2 p t w0 b1 b2 s1 s2 w) {Q j : Nat} (hQ : ∀ i, X i → i ≠ Q) (hw : w0.heap.size ≤ Q) (x : Value) : DuoV X V1 V2 p t w0 b1 b2 s1 s2 (w.setCell ⟨Q, j, none⟩ x) :=
  h.mvX (mvg_set (Gm.Mvg.refl _ _) (fun i _ ho => hQ i ho) _ _) (fun i hi => (h.f.hf.fresh i (by simpa [World.setCell] using hi)).2) (h.bel.setCell hw _)
/-- Two that were begun. -/
theorem DuoV.start {w1 w2 : World} {s : Fs} (h1 : ∀ K : Nat → Prop, (∀ i, w.heap.size ≤ i → K i) → Own K V1 b1 p t s w1) (o1 : ∀ i, i < w.heap.size → KOff b1 i) (hb1 : Below w.heap.size w w1) (h2 : ∀ K : Nat → Prop, (∀ i, w1.heap.size ≤ i → K i) → Own K V2 b2 p t s w2) (o2 : ∀ i, i < w1.heap.size → KOff b2 i) (hb2 : Below w1.heap.size w1 w2) :
    DuoV (fun _ => True) V1 V2 p t w b1 b2 s s w2 := by
  have hf := h1 (fun _ => True) (fun _ _ => trivial)
  have hg := h2 (fun i => KOff b1 i ∧ True) (fun i hi => ⟨hf.hf.fr.lt i hi, trivial⟩)
  refine ⟨hf.mv ⟨hb2.os, hb2.tape, hb2.output, hb2.size, fun i hi _ => hb2.block i hi, fun i hi _ => ⟨o2 i hi, trivial⟩⟩ (fun i hi => ⟨hg.hf.fr.lt i hi, trivial⟩), hg, hb1.trans (hb2.mono hb1.size), o1, fun i hi => o2 i (Nat.lt_of_lt_of_le hi hb1.size)⟩
/-- Run of the first, of the second. -/
def DRunP (X : Nat → Prop) (V1 V2 : Nat) (p : List FnV) (t : Tsk) (w0 : World) (b1 b2 : Bk) (s2 : Fs) (x : Stp × Fs) (w : World) (e : Ending) (w' : World) : Prop :=
  ∃ (b' : Bk) (k : Int) (pa : ByteArray) (fn : Int) (A : Option Addr) (n c : Nat) (fu va er : Int),
    e = .returned (.tuple #[.agg #[.int .u8 k, .string pa, .int .i64 fn, .slice A n c, .int .i64 fu, .int .i64 va, .int .i64 er], .int .i64 0]) ∧
    Hid (stpV x.1 = (k, pa, fn, n, fu, va, er) ∧ DuoV X V1 V2 p t w0 b' b2 x.2 s2 w' ∧ Gm.Mvg (KOff b1) (KOff b') w w' ∧ LOk (fun i => (KOff b' i ∧ KOff b2 i) ∧ X i ∧ w.heap.size ≤ i) w' A (icells (kargs x.1)))
def ERunP (X : Nat → Prop) (V1 V2 : Nat) (p : List FnV) (t : Tsk) (w0 : World) (b1 b2 : Bk) (s1 : Fs) (x : Stp × Fs) (w : World) (e : Ending) (w' : World) : Prop :=
  ∃ (b' : Bk) (k : Int) (pa : ByteArray) (fn : Int) (A : Option Addr) (n c : Nat) (fu va er : Int),
    e = .returned (.tuple #[.agg #[.int .u8 k, .string pa, .int .i64 fn, .slice A n c, .int .i64 fu, .int .i64 va, .int .i64 er], .int .i64 0]) ∧
    Hid (stpV x.1 = (k, pa, fn, n, fu, va, er) ∧ DuoV X V1 V2 p t w0 b1 b' s1 x.2 w' ∧ Gm.Mvg (KOff b2) (KOff b') w w' ∧ LOk (fun i => (KOff b1 i ∧ KOff b' i) ∧ X i ∧ w.heap.size ≤ i) w' A (icells (kargs x.1)))
theorem DuoV.runF (h : DuoV X V1 V2 p t w0 b1 b2 s1 s2 w) (he : PE p t) (hok : FOk p t s1) (n : Nat) (hn1 : 1 ≤ n) (hn : (n : Int) ≤ 9223372036854775807) :
    Calls Tryz.prog 21 #[.pointer (some ⟨V1, 0, none⟩), .int .i64 (n : Int)] w (DRunP X V1 V2 p t w0 b1 b2 s2 (Vm.runF p t n s1) w) := by
  refine (vRun h.f he hok n hn1 hn).mono ?_
  rintro e w' ⟨b', k2, pa2, fn2, A, m2, c, fu2, va2, er2, rfl, ho⟩
  obtain ⟨g1, g2, g3, g4⟩ := ho.out
  exact ⟨b', k2, pa2, fn2, A, m2, c, fu2, va2, er2, rfl, g1, h.putF g2 g3, g3, g4.imp fun i _ hi => ⟨⟨hi.1.1, hi.1.2.1⟩, hi.1.2.2, hi.2⟩⟩
theorem DuoV.runG (h : DuoV X V1 V2 p t w0 b1 b2 s1 s2 w) (he : PE p t) (hok : FOk p t s2) (n : Nat) (hn1 : 1 ≤ n) (hn : (n : Int) ≤ 9223372036854775807) :
    Calls Tryz.prog 21 #[.pointer (some ⟨V2, 0, none⟩), .int .i64 (n : Int)] w (ERunP X V1 V2 p t w0 b1 b2 s1 (Vm.runF p t n s2) w) := by
  refine (vRun h.g he hok n hn1 hn).mono ?_
  rintro e w' ⟨b', k2, pa2, fn2, A, m2, c, fu2, va2, er2, rfl, ho⟩
  obtain ⟨g1, g2, g3, g4⟩ := ho.out
  exact ⟨b', k2, pa2, fn2, A, m2, c, fu2, va2, er2, rfl, g1, h.putG g2 g3, g3, g4.imp fun i _ hi => ⟨⟨hi.1.2.1, hi.1.1⟩, hi.1.2.2, hi.2⟩⟩
theorem DuoV.giveF (h : DuoV X V1 V2 p t w0 b1 b2 s1 s2 w) (hk : s1.kids.length ≤ 16) (kid : Int) (r : Res) (hE : giveE s1 kid = 0) :
    Calls Tryz.prog 24 #[.pointer (some ⟨V1, 0, none⟩), .int .i64 kid, .agg #[.int .i64 r.val, .int .i64 r.err]] w fun e w' => e = .returned (.int .i64 0) ∧ Hid (DuoV X V1 V2 p t w0 b1 b2 (giveS s1 kid r) s2 w' ∧ Gm.Mvg (KOff b1) (KOff b1) w w') := by
  refine (vGive h.f hk kid r).mono ?_
  rintro e w' ⟨h1, h2, h3⟩
  exact ⟨by rw [h1, hE], h.putF h2 h3, h3⟩
theorem DuoV.giveG (h : DuoV X V1 V2 p t w0 b1 b2 s1 s2 w) (hk : s2.kids.length ≤ 16) (kid : Int) (r : Res) (hE : giveE s2 kid = 0) :
    Calls Tryz.prog 24 #[.pointer (some ⟨V2, 0, none⟩), .int .i64 kid, .agg #[.int .i64 r.val, .int .i64 r.err]] w fun e w' => e = .returned (.int .i64 0) ∧ Hid (DuoV X V1 V2 p t w0 b1 b2 s1 (giveS s2 kid r) w' ∧ Gm.Mvg (KOff b2) (KOff b2) w w') := by
  refine (vGive h.g hk kid r).mono ?_
  rintro e w' ⟨h1, h2, h3⟩
  exact ⟨by rw [h1, hE], h.putG h2 h3, h3⟩
end
end Vm
end Go.Proofs.YtnlhacgihmelhaaGreatDoor
end

section
namespace Go.Proofs.YtnlhacgihmelhaaGreatDoor
open Go.RowKit

namespace Vm
open Cd Ev
def u8c (l : List Int) : List Value := l.map fun x => Value.int .u8 x
/-- The two at a round's beginning: as many pieces as went into at. -/
structure PcR (V1 V2 : Nat) (p : List FnV) (t : Tsk) (w0 : World) (F at_ r : Nat) (w : World) : Prop where
  two : ∃ (s : Fs) (b1 b2 : Bk), DuoV (fun _ => True) V1 V2 p t w0 b1 b2 s s w ∧ FOk p t s ∧ at_ + s.left ≤ F + r ∧ s.left ≤ F
/-- The second's turn: what it told last lies in Q. -/
structure PcI (V1 V2 Q : Nat) (p : List FnV) (t : Tsk) (w0 : World) (F r : Nat) (s : Fs) (b1 : Bk) (S : Nat) (o : Obj) (A : Option Addr) (cs : List Int) (at_ : Nat) (w : World) (y : Stp) (s2 : Fs) (b2 : Bk) (k : Int) (pa : ByteArray) (fn : Int) (A2 : Option Addr) (n c : Nat) (fu va er : Int) : Prop where
  duo : DuoV (fun i => i ≠ Q) V1 V2 p t w0 b1 b2 (runF p t 3001 s).2 s2 w
  ok : FOk p t s2
  told : stpV y = (k, pa, fn, n, fu, va, er)
  row : w.heap[Q]? = some (.cells #[.int .u8 k, .string pa, .int .i64 fn, .slice A2 n c, .int .i64 fu, .int .i64 va, .int .i64 er] 59 (0, 0))
  qo : KOff b2 Q
  srow : w.heap[S]? = some o
  so : KOff b2 S ∧ KOff b1 S
  sq : S ≠ Q
  arg : LOk (fun i => (KOff b1 i ∧ KOff b2 i) ∧ i ≠ Q) w A (icells cs)
  arg2 : LOk (fun i => (KOff b1 i ∧ KOff b2 i) ∧ i ≠ Q) w A2 (icells (kargs y))
  w0Q : w0.heap.size ≤ Q
  run : (y = .more ∧ at_ + s2.left ≤ F + r ∧ ∃ m, (m = 0 ∧ s2 = s) ∨ runF p t m s = (.more, s2)) ∨ (isMore y = false ∧ at_ + s2.left ≤ F + r + 1 ∧ ∃ m, runF p t m s = (y, s2))
section
variable {V1 V2 Q : Nat} {p : List FnV} {t : Tsk} {w0 : World} {F r : Nat} {s : Fs} {b1 : Bk} {S : Nat} {o : Obj} {A : Option Addr} {cs : List Int} {at_ : Nat} {w : World} {y : Stp} {s2 : Fs} {b2 : Bk} {k : Int} {pa : ByteArray} {fn : Int} {A2 : Option Addr} {n c : Nat} {fu va er : Int}
theorem run_left (p : List FnV) (t : Tsk) (n : Nat) (s : Fs) : (runF p t n s).2.left ≤ s.left := by
  have hg : ∀ (n : Nat) (x : Stp × Fs), (goF p t n x).2.left ≤ x.2.left := by
    intro n
    induction n with
    | zero => intro x; rw [go_zero]; exact Nat.le_refl _
    | succ n ih =>
      intro x
      by_cases hx : isMore x.1 = true
      · obtain ⟨y, s⟩ := x
        obtain rfl := more_of hx
        rw [go_more]
        refine Nat.le_trans (ih _) ?_
        show (stepF p t s).2.left ≤ s.left
        unfold stepF
        split
        · exact Nat.le_refl _
        · unfold doF
          split
          · unfold fork
            split
            · show s.left - 1 ≤ _; omega
            · split
              · show s.left - 1 ≤ _; omega
              · show s.left - 1 - (s.left - 1) / 2 ≤ _; omega
          · split
            · rw [join_left]; show s.left - 1 ≤ _; omega
            · unfold plainF
              split
              · show s.left - 1 ≤ _; omega
              · show s.left - 1 ≤ _; omega
      · rw [go_stop p t _ x (by simpa using hx)]
        exact Nat.le_refl _
  rcases run_go p t s with ⟨q, _, h1⟩ | ⟨x, hl, h1, _⟩
  · rw [h1]; exact Nat.le_refl _
  · rw [h1, ← hl]; exact hg n x
/-- One piece more. -/
theorem PcI.next (h : PcI V1 V2 Q p t w0 F r s b1 S o A cs at_ w y s2 b2 k pa fn A2 n c fu va er) (he : PE p t) (hy : isMore y = true) (N : Nat) (hN : 1 ≤ N) {w' : World} {b' : Bk} {k' : Int} {pa' : ByteArray} {fn' : Int} {A' : Option Addr} {n' c' : Nat} {fu' va' er' : Int}
    (ho : stpV (runF p t N s2).1 = (k', pa', fn', n', fu', va', er') ∧ DuoV (fun i => i ≠ Q) V1 V2 p t w0 b1 b' (runF p t 3001 s).2 (runF p t N s2).2 w' ∧ Gm.Mvg (KOff b2) (KOff b') w w' ∧ LOk (fun i => (KOff b1 i ∧ KOff b' i) ∧ i ≠ Q ∧ w.heap.size ≤ i) w' A' (icells (kargs (runF p t N s2).1))) :
    PcI V1 V2 Q p t w0 F r s b1 S o A cs (at_ + 1) (set7 w' Q (.int .u8 k') (.string pa') (.int .i64 fn') (.slice A' n' c') (.int .i64 fu') (.int .i64 va') (.int .i64 er')) (runF p t N s2).1 (runF p t N s2).2 b' k' pa' fn' A' n' c' fu' va' er' := by
  obtain ⟨g1, g2, g3, g4⟩ := ho
  have hQl : Q < w.heap.size := ltH h.row
  have hSl := row_mv h.srow h.so.1 g3
  have m1 : Gm.Mvg (fun i => (KOff b1 i ∧ KOff b2 i) ∧ i ≠ Q) (fun i => (KOff b1 i ∧ KOff b' i) ∧ i ≠ Q) w w' := ⟨g3.os, g3.tape, g3.output, g3.size, fun i hi ho => g3.block i hi ho.1.2, fun i hi ho => ⟨⟨ho.1.1, g3.keep i hi ho.1.2⟩, ho.2⟩⟩
  have m2 : Gm.Mvg (fun i => (KOff b1 i ∧ KOff b' i) ∧ i ≠ Q) (fun i => (KOff b1 i ∧ KOff b' i) ∧ i ≠ Q) w' (set7 w' Q (.int .u8 k') (.string pa') (.int .i64 fn') (.slice A' n' c') (.int .i64 fu') (.int .i64 va') (.int .i64 er')) := set7_mv (Gm.Mvg.refl _ _) (fun i _ ho => ho.2) _ _ _ _ _ _ _
  refine ⟨g2.set7 (fun i hi => hi) h.w0Q _ _ _ _ _ _ _, run_ok he.tok he.good N h.ok, g1, set7_heap ((g3.block Q hQl h.qo).trans h.row), g3.keep Q hQl h.qo, (set7_other _ _ _ _ _ _ _ h.sq).trans hSl.1, ⟨hSl.2, h.so.2⟩, h.sq, (h.arg.mv m1).mv m2, (g4.imp fun i _ hi => ⟨hi.1, hi.2.1⟩).mv m2, h.w0Q, ?_⟩
  have hm := more_of hy
  rcases h.run with ⟨-, hl, m, hmm⟩ | ⟨hf, -⟩
  · have hle := run_left p t N s2
    have hrun : ∃ m', runF p t m' s = ((runF p t N s2).1, (runF p t N s2).2) := by
      rcases hmm with ⟨rfl, rfl⟩ | hmm
      · exact ⟨N, rfl⟩
      · have := (run_add p t m N s (by rw [hmm]; rfl)).1
        rw [hmm] at this
        exact ⟨m + N, this.symm⟩
    cases hx : isMore (runF p t N s2).1 with
    | true =>
      have h2 := (run_add p t N 0 s2 hx).2
      obtain ⟨m', hm'⟩ := hrun
      exact .inl ⟨more_of hx, by omega, m', .inr (by rw [hm', more_of hx])⟩
    | false => exact .inr ⟨rfl, by omega, hrun⟩
  · rw [hm] at hf
    cases hf
/-- At the end both told the same. -/
theorem PcI.done (h : PcI V1 V2 Q p t w0 F r s b1 S o A cs at_ w y s2 b2 k pa fn A2 n c fu va er) (hs : s.left < 3001) (hy : isMore y = false) : y = (runF p t 3001 s).1 ∧ s2 = (runF p t 3001 s).2 ∧ at_ + s2.left ≤ F + r + 1 := by
  rcases h.run with ⟨hm, -⟩ | ⟨-, hl, m, hm⟩
  · rw [hm] at hy
    cases hy
  · have h1 := run_far p t 3001 s hs
    have h2 := run_two p t m 3001 s (by rw [hm]; exact hy) h1
    rw [hm] at h2
    rw [← h2]
    exact ⟨rfl, rfl, hl⟩
end
end Vm
end Go.Proofs.YtnlhacgihmelhaaGreatDoor
end
