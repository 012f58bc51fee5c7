/-
  What the document's disk is in memory, what a call leaves as it was; burn, keep.
  The contract of the document's keep.
  Contracts of the document's disk: Sync, Crash, Sure, Read.
  Contracts of the document's disk: burn, Sync, Sure, Read.
  Contracts of the document's disk: Write, New.
  Contracts of the document's disk: Write and Read of a sector that is not there, of a text that is too long, of a disk that stands still.
  Contract of the document's disk: New.
-/
import Derived.Test.YtdmelkphankfiaaGreatLowBkP
import Derived.Test.YtdmelkphankfiaaGreatLowSecG
import Derived.BigRegion
import Derived.Deep.RegionLaw
import Derived.Deep.OwnRows
import Derived.Deep.AppendLies
section
namespace Go.Proofs.YtdmelkphankfiaaGreat
open Go.RowKit
attribute [local go_sem ↓] Go.wp_at_zero Go.wp_at_succ

namespace Sec
/-- A call that turns nothing of what is off (but makes memory): behind it off' is what is off. -/
structure Mv (off off' : Nat → Prop) (w w' : World) : Prop where
  os : w'.os = w.os
  tape : w'.tape = w.tape
  output : w'.output = w.output
  size : w.heap.size ≤ w'.heap.size
  block : ∀ i, i < w.heap.size → off i → w'.heap[i]? = w.heap[i]?
  keep : ∀ i, i < w.heap.size → off i → off' i
theorem Mv.refl (off : Nat → Prop) (w : World) : Mv off off w w := ⟨rfl, rfl, rfl, Nat.le_refl _, fun _ _ _ => rfl, fun _ _ h => h⟩
theorem Mv.trans {o1 o2 o3 : Nat → Prop} {a b c : World} (h : Mv o1 o2 a b) (k : Mv o2 o3 b c) : Mv o1 o3 a c :=
  ⟨k.os.trans h.os, k.tape.trans h.tape, k.output.trans h.output, Nat.le_trans h.size k.size,
    fun i hi ho => (k.block i (Nat.lt_of_lt_of_le hi h.size) (h.keep i hi ho)).trans (h.block i hi ho), fun i hi ho => k.keep i (Nat.lt_of_lt_of_le hi h.size) (h.keep i hi ho)⟩
theorem Mv.of_below {off : Nat → Prop} {w w' : World} (hb : Below w.heap.size w w') : Mv off off w w' := ⟨hb.os, hb.tape, hb.output, hb.size, fun i hi _ => hb.block i hi, fun _ _ h => h⟩
theorem Mv.of_grown {off off' : Nat → Prop} {w w' : World} {row : Option Nat} (hg : w.grownBy w' row) (hr : ∀ i, off i → some i ≠ row) (hk : ∀ i, i < w.heap.size → off i → off' i) : Mv off off' w w' :=
  ⟨hg.os, hg.tape, hg.output, hg.size, fun i hi ho => hg.block i hi (hr i ho), hk⟩
theorem Mv.below {off off' : Nat → Prop} {w w' : World} {B : Nat} (h : Mv off off' w w') (hB : B ≤ w.heap.size) (hlow : ∀ i, i < B → off i) : Below B w w' :=
  ⟨h.os, h.tape, h.output, h.size, fun i hi => h.block i (by omega) (hlow i hi)⟩
theorem Moves.mv {D D' : Bl} {w w' : World} (h : Moves D D' w w') : Mv D.off D'.off w w' :=
  ⟨h.os, h.tape, h.output, h.size, h.block, fun i hi ho => ⟨by rw [h.b]; exact ho.1, by rw [h.s]; exact ho.2.1, by rw [h.m]; exact ho.2.2.1, h.v i hi ho.2.2.2⟩⟩

/-- Where the document's disk lies: its block, its two slices. -/
structure Rl where
  b : Nat
  g : Value
  v : Value
def Rl.off (R : Rl) (i : Nat) : Prop := i ≠ R.b ∧ some i ≠ R.g.ownBlock ∧ some i ≠ R.v.ownBlock
def rcels : List (Nat × List UInt8) → List Value
  | [] => []
  | x :: r => [.int .i64 (x.1 : Int), .string ⟨x.2.toArray⟩] ++ rcels r
theorem rcels_app (a b : List (Nat × List UInt8)) : rcels (a ++ b) = rcels a ++ rcels b := by
  induction a with
  | nil => rfl
  | cons x r ih => simp [rcels, ih]
theorem rcels_len (l : List (Nat × List UInt8)) : (rcels l).length = l.length * 2 := by
  induction l with
  | nil => rfl
  | cons x r ih => simp [rcels, ih]; omega
theorem rcels_at (l : List (Nat × List UInt8)) (i : Nat) (hi : i < l.length) : (rcels l)[i * 2]? = some (.int .i64 (l[i].1 : Int)) ∧ (rcels l)[i * 2 + 1]? = some (.string ⟨l[i].2.toArray⟩) := by
  induction l generalizing i with
  | nil => simp at hi
  | cons x r ih =>
    cases i with
    | zero => exact ⟨rfl, rfl⟩
    | succ i =>
      have := ih i (by simpa using hi)
      simpa [rcels, Nat.add_mul] using this
def scels (gs : List ByteArray) : List Value := gs.map Value.string

structure RAt (R : Rl) (gs : List ByteArray) (ls : List (Nat × List UInt8)) (fz : Int) (w : World) : Prop where
  ob : w.heap[R.b]? = some (.cells #[R.g, R.v, .int .i64 fz] 47 (0, 0))
  good : w.ownsRow 0 9 1 R.g gs.length (scels gs)
  row : w.ownsRow 0 134 2 R.v ls.length (rcels ls)
  ne1 : R.g.ownBlock ≠ some R.b
  ne2 : R.v.ownBlock ≠ some R.b
  ne3 : R.g.ownBlock = none ∨ R.g.ownBlock ≠ R.v.ownBlock
section
variable {R : Rl} {gs : List ByteArray} {ls : List (Nat × List UInt8)} {fz : Int} {w w' : World}
theorem RAt.ltb (h : RAt R gs ls fz w) : R.b < w.heap.size := lt_of_heap h.ob
/-- What is the disk's lies in the heap. -/
theorem RAt.lt (h : RAt R gs ls fz w) {i : Nat} (hi : ¬ R.off i) : i < w.heap.size := by
  by_cases h1 : i = R.b
  · rw [h1]; exact h.ltb
  · by_cases h2 : some i = R.g.ownBlock
    · exact (h.good.lt i h2.symm).2
    · by_cases h3 : some i = R.v.ownBlock
      · exact (h.row.lt i h3.symm).2
      · exact absurd ⟨h1, h2, h3⟩ hi
theorem owns_keep {base : Nat} {e : TypeId} {size n : Nat} {v : Value} {xs : List Value} (h : w.ownsRow base e size v n xs) (hk : ∀ i, v.ownBlock = some i → w'.heap[i]? = w.heap[i]?) : w'.ownsRow base e size v n xs := by
  refine ⟨h.1, ?_⟩
  rcases h.2 with hn | ⟨g, cap, cur, rfl, hb, hg, rest⟩
  · exact .inl hn
  · exact .inr ⟨g, cap, cur, rfl, hb, (hk g rfl).trans hg, rest⟩
/-- A call of others leaves it as it is. -/
theorem RAt.keep (h : RAt R gs ls fz w) (hk : ∀ i, ¬ R.off i → w'.heap[i]? = w.heap[i]?) : RAt R gs ls fz w' :=
  ⟨(hk R.b (fun ho => ho.1 rfl)).trans h.ob, owns_keep h.good (fun i e => hk i (fun ho => ho.2.1 e.symm)), owns_keep h.row (fun i e => hk i (fun ho => ho.2.2 e.symm)), h.ne1, h.ne2, h.ne3⟩
theorem RAt.below (h : RAt R gs ls fz w) (hb : Below w.heap.size w w') : RAt R gs ls fz w' := h.keep fun i hi => hb.block i (h.lt hi)
theorem RAt.cell (h : RAt R gs ls fz w) (j : Nat) : w.cell? ⟨R.b, j, none⟩ = (#[R.g, R.v, .int .i64 fz] : Array Value)[j]? := cell_of_row w R.b j _ _ _ h.ob
theorem RAt.fro (h : RAt R gs ls fz w) (j : Nat) : w.frozen? ⟨R.b, j, none⟩ = false := frozen_of_row w R.b j _ _ h.ob
theorem RAt.c0 (h : RAt R gs ls fz w) : w.cell? ⟨R.b, 0, none⟩ = some R.g := h.cell 0
theorem RAt.c1 (h : RAt R gs ls fz w) : w.cell? ⟨R.b, 1, none⟩ = some R.v := h.cell 1
theorem RAt.c2 (h : RAt R gs ls fz w) : w.cell? ⟨R.b, 2, none⟩ = some (.int .i64 fz) := h.cell 2
theorem own_eq {base : Nat} {e : TypeId} {size n : Nat} {v : Value} {xs : List Value} (h : w.ownsRow base e size v n xs) : ∃ A c, v = .slice A n c := by
  rcases h.2 with ⟨e, h0⟩ | ⟨g, cap, _, e, _⟩
  · exact ⟨none, 0, by rw [e, h0]⟩
  · exact ⟨_, cap, e⟩
/-- A cell of its own block turns. -/
theorem RAt.set (h : RAt R gs ls fz w) (z : Int) : RAt R gs ls z (w.setCell ⟨R.b, 2, none⟩ (.int .i64 z)) ∧ Mv R.off R.off w (w.setCell ⟨R.b, 2, none⟩ (.int .i64 z)) := by
  have hg := grown_set w R.b 2 (.int .i64 z)
  exact ⟨⟨by rw [heap_setCell_same _ _ _ _ _ _ h.ob]; rfl, h.good.kept hg (.inr h.ne1), h.row.kept hg (.inr h.ne2), h.ne1, h.ne2, h.ne3⟩, .of_grown hg (fun i ho e => ho.1 (Option.some.inj e)) (fun _ _ h => h)⟩
end
end Sec

set_option maxHeartbeats 400000 in
theorem rburn_down (R : Sec.Rl) (gs : List ByteArray) (ls : List (Nat × List UInt8)) (w : World) (h : Sec.RAt R gs ls 0 w) :
    Calls Tryz.prog 76 #[.pointer (some ⟨R.b, 0, none⟩)] w fun e w' => e = .returned (.bool false) ∧ w = w' := by
  have c2 := h.c2
  clear h
  go_enter Tryz.func76, Tryz.ntmps76
  go_wp2
  go_ret
  exact ⟨rfl, rfl⟩

set_option maxHeartbeats 400000 in
theorem rburn_none (R : Sec.Rl) (gs : List ByteArray) (ls : List (Nat × List UInt8)) (w : World) (h : Sec.RAt R gs ls (-1) w) :
    Calls Tryz.prog 76 #[.pointer (some ⟨R.b, 0, none⟩)] w fun e w' => e = .returned (.bool true) ∧ w = w' := by
  have c2 := h.c2
  clear h
  go_enter Tryz.func76, Tryz.ntmps76
  go_wp2
  go_ret
  exact ⟨rfl, rfl⟩

set_option maxHeartbeats 400000 in
theorem rburn_some (R : Sec.Rl) (gs : List ByteArray) (ls : List (Nat × List UInt8)) (n : Nat) (hn : n + 1 ≤ 9223372036854775807) (w : World) (h : Sec.RAt R gs ls ((n + 1 : Nat) : Int) w) :
    Calls Tryz.prog 76 #[.pointer (some ⟨R.b, 0, none⟩)] w fun e w' => e = .returned (.bool true) ∧ Sec.RAt R gs ls (n : Int) w' ∧ Sec.Mv R.off R.off w w' := by
  have c2 := h.c2
  have f2 := h.fro 2
  have H := Lib.hid h
  have d1 : (((n + 1 : Nat) : Int) == 0) = false := by simp; omega
  have d2 : decide (0 < ((n + 1 : Nat) : Int)) = true := by simp
  clear h
  obtain ⟨N, hN⟩ : ∃ N : Nat, N = n + 1 := ⟨_, rfl⟩
  rw [← hN] at c2 d1 d2 H
  have hs : ((N : Int) - 1) = (n : Int) := by omega
  have hN1 : (N : Int) ≤ 9223372036854775807 := by omega
  have hN2 : (1 : Int) ≤ (N : Int) := by omega
  have HS := Lib.hid hs
  clear hs hN hn
  go_enter Tryz.func76, Tryz.ntmps76
  go_wp2
  go_ret
  rw [HS.out]
  obtain ⟨r1, r2⟩ := H.out.set (n : Int)
  exact ⟨rfl, r1, r2⟩
end Go.Proofs.YtdmelkphankfiaaGreat
end

section
namespace Go.Proofs.YtdmelkphankfiaaGreat
open Go.RowKit

namespace Sec
/-- A sector of which m bytes turn. -/
def kept (t old : ByteArray) (m : Nat) : ByteArray := t.extract 0 m ++ old.extract m 128
variable {R : Rl} {gs : List ByteArray} {ls : List (Nat × List UInt8)} {fz : Int} {w : World}
theorem RAt.g_eq (h : RAt R gs ls fz w) (hn : 0 < gs.length) : ∃ g cap, R.g = .slice (some ⟨g, 0, none⟩) gs.length cap ∧ ∀ k (hk : k < gs.length), w.cell? ⟨g, k, none⟩ = some (.string gs[k]) ∧ w.frozen? ⟨g, k, none⟩ = false := by
  rcases h.good.2 with ⟨_, h0⟩ | ⟨g, cap, cur, hv, _, hg, hrest⟩
  · omega
  · refine ⟨g, cap, hv, fun k hk => ⟨?_, frozen_of_row w g k cur _ hg⟩⟩
    have hc := h.good.cells (g := g) (by rw [hv]; rfl) k (.string gs[k]) (by
      unfold scels
      rw [List.getElem?_map, List.getElem?_eq_getElem hk]
      rfl)
    rwa [Addr.add_mid, Nat.zero_add] at hc
/-- One sector turns. -/
theorem RAt.put_good (h : RAt R gs ls fz w) {g cap : Nat} (hv : R.g = .slice (some ⟨g, 0, none⟩) gs.length cap) (k : Nat) (t : ByteArray) :
    RAt R (gs.set k t) ls fz (w.setCell ⟨g, k, none⟩ (.string t)) ∧ Mv R.off R.off w (w.setCell ⟨g, k, none⟩ (.string t)) := by
  have ho := h.good
  rw [hv] at ho
  obtain ⟨h1, h2⟩ := ho.stored k (.string t)
  have hb : R.g.ownBlock = some g := by rw [hv]; rfl
  have hgb : g ≠ R.b := fun e => h.ne1 (by rw [hb, e])
  refine ⟨⟨(h2.block _ h.ltb (by simpa using fun e => hgb e.symm)).trans h.ob, ?_, ?_, h.ne1, h.ne2, h.ne3⟩, .of_grown h2 (fun i ho e => ho.2.1 (by rw [hb, e])) (fun _ _ h => h)⟩
  · rw [hv, List.length_set]
    have e : scels (gs.set k t) = (scels gs).set k (.string t) := by unfold scels; rw [List.map_set]
    rw [e]
    exact h1
  · refine h.row.kept h2 ?_
    rcases h.ne3 with hn | hn
    · rw [hb] at hn; cases hn
    · right
      rw [hb] at hn
      exact fun e => hn e.symm
end Sec

set_option maxHeartbeats 2000000 in
set_option maxRecDepth 20000 in
theorem rkeep (R : Sec.Rl) (gs : List ByteArray) (ls : List (Nat × List UInt8)) (fz : Int) (w : World) (h : Sec.RAt R gs ls fz w) (k : Nat) (hk : k < gs.length) (hg : gs[k].size = 128) (t : ByteArray) (ht : t.size = 128) (n : Int) :
    Calls Tryz.prog 77 #[.pointer (some ⟨R.b, 0, none⟩), .agg #[.int .i64 (k : Int), .string t], .int .i64 n] w fun e w' => e = .returned (.tuple #[]) ∧ Sec.RAt R (gs.set k (Sec.kept t gs[k] (Sec.stay n))) ls fz w' ∧ Sec.Mv R.off R.off w w' := by
  have hb : Below w.heap.size w (w.alloc (.cells #[.int .i64 (k : Int), .string t] 134)) := (Below.refl _ _).alloc (Nat.le_refl _) _
  have H := Lib.hid (h.below hb)
  obtain ⟨g, cap, hv, hc⟩ := H.out.g_eq (by omega)
  have HM : Hid (Sec.Mv R.off R.off w (w.alloc (.cells #[.int .i64 (k : Int), .string t] 134))) := .of_below hb
  have c0 := H.out.c0
  rw [hv] at c0
  obtain ⟨c1, f1⟩ := hc k hk
  have hlt := h.ltb
  have hms : (max 0 (min n 128)) = ((Sec.stay n : Nat) : Int) := by unfold Sec.stay; omega
  have hm1 := Sec.stay_le n
  have HMS := Lib.hid hms
  have HV := Lib.hid hv
  clear h hb hc hms hv
  generalize gs[k] = old at c1 hg
  have hk0 : (0 : Int) ≤ (k : Int) := by omega
  have hk1 : (k : Int) < (gs.length : Int) := by omega
  revert HMS hm1
  generalize Sec.stay n = m
  intro hm1 HMS
  have hm2 : (m : Int) ≤ 128 := by omega
  have hm0 : (0 : Int) ≤ (m : Int) := by omega
  have hsz : (t.extract 0 m).size ≤ 128 := by rw [ByteArray.size_extract]; omega
  have hsz2 : (old.extract m 128).size ≤ 128 := by rw [ByteArray.size_extract]; omega
  go_enter Tryz.func77, Tryz.ntmps77
  go_wp2_with fail
  rw [HMS.out]
  go_region
  all_goals
    go_wp2
    go_end0
    obtain ⟨r1, r2⟩ := H.out.put_good HV.out k (Sec.kept t old m)
    exact ⟨rfl, r1.below (Below.refl _ _).drew, (HM.out.trans r2).trans (.of_below (Below.refl _ _).drew)⟩
end Go.Proofs.YtdmelkphankfiaaGreat
end

section
namespace Go.Proofs.YtdmelkphankfiaaGreat
open Go.RowKit

namespace Sec
theorem kept_eq {x xs : List UInt8} {k m : Nat} (hx : x.length = 128) (hm : m ≤ 128) : kept ⟨x.toArray⟩ (chunk xs k) m = ⟨(x.take m ++ ((xs.drop (k * 128)).take 128).drop (x.take m).length).toArray⟩ := by
  unfold kept chunk
  apply ByteArray.ext
  rw [ByteArray.data_append, ByteArray.data_extract, ByteArray.data_extract]
  apply Array.ext'
  simp only [Array.toList_append, Array.toList_extract, List.toList_toArray, List.extract_eq_take_drop, List.drop_zero, Nat.sub_zero]
  rw [List.length_take, hx, Nat.min_eq_left hm]
  congr 1
  rw [List.take_of_length_le]
  rw [List.length_drop, List.length_take]
  omega
/-- One loose write more is settled. -/
theorem chunks_upto {s : St} (hs : s.Ok) (m : Nat → Nat) (hm : ∀ i, m i ≤ 128) (i : Nat) (hi : i < s.loose.length) :
    chunks (s.upto m (i + 1)).1 s.n = (chunks (s.upto m i).1 s.n).set s.loose[i].1 (kept ⟨s.loose[i].2.toArray⟩ (chunk (s.upto m i).1 s.loose[i].1) (m i)) := by
  have hmem := St.getD_mem (l := s.loose) (i := i) hi
  obtain ⟨h1, _⟩ := St.upto_len hs m i (by omega)
  have hk := hs.at_ _ hmem.2
  have hx := hs.len _ hmem.2
  rw [hmem.1] at hk hx
  show chunks (spl (s.upto m i).1 ((s.loose.getD i (0, [])).1 * 128) ((s.loose.getD i (0, [])).2.take (m i))) s.n = _
  rw [hmem.1, chunks_spl h1 hk (by rw [List.length_take]; omega), kept_eq hx (hm i)]
theorem stay_128 : stay 128 = 128 := by decide

/-- The document's disk at s. -/
def RHas (R : Rl) (s : St) (w : World) : Prop := RAt R (chunks s.good s.n) s.loose s.fz w
variable {R : Rl} {gs : List ByteArray} {ls : List (Nat × List UInt8)} {fz : Int} {w : World}
theorem RAt.v_at (h : RAt R gs ls fz w) (i : Nat) (hi : i < ls.length) : ∃ g cap, R.v = .slice (some ⟨g, 0, none⟩) ls.length cap ∧ w.cell? ⟨g, i * 2, none⟩ = some (.int .i64 (ls[i].1 : Int)) ∧ w.cell? ⟨g, i * 2 + 1, none⟩ = some (.string ⟨ls[i].2.toArray⟩) := by
  rcases h.row.2 with ⟨_, h0⟩ | ⟨g, cap, cur, hv, _, hg, hrest⟩
  · omega
  · obtain ⟨a, b⟩ := rcels_at ls i hi
    have ca := h.row.cells (g := g) (by rw [hv]; rfl) _ _ a
    have cb := h.row.cells (g := g) (by rw [hv]; rfl) _ _ b
    rw [Addr.add_mid, Nat.zero_add] at ca cb
    exact ⟨g, cap, hv, ca, cb⟩
/-- Nothing is loose any more. -/
theorem RAt.clear (h : RAt R gs ls fz w) : RAt { R with v := .slice none 0 0 } gs [] fz (w.setCell ⟨R.b, 1, none⟩ (.slice none 0 0)) ∧ Mv R.off { R with v := .slice none 0 0 : Rl }.off w (w.setCell ⟨R.b, 1, none⟩ (.slice none 0 0)) := by
  have hg := grown_set w R.b 1 (.slice none 0 0)
  exact ⟨⟨by rw [heap_setCell_same _ _ _ _ _ _ h.ob]; rfl, h.good.kept hg (.inr h.ne1), World.ownsRow_nil _ _ _ _, h.ne1, by simp [Value.ownBlock], by cases R.g.ownBlock <;> simp [Value.ownBlock]⟩,
    .of_grown hg (fun i ho e => ho.1 (Option.some.inj e)) (fun i _ ho => ⟨ho.1, ho.2.1, by simp [Value.ownBlock]⟩)⟩
end Sec

set_option maxHeartbeats 2000000 in
set_option maxRecDepth 20000 in
theorem rcrash (R : Sec.Rl) (s : Sec.St) (w : World) (h : Sec.RHas R s w) (hs : s.Ok) (A : Option Addr) (c : Nat) (ps : List Int) (hlim : s.loose.length ≤ 1000000000) (hn : ps.length ≤ maxLen)
    (hp : ∀ w' : World, Sec.Mv R.off R.off w w' → 0 < ps.length → ∃ ad, A = some ad ∧ ∀ (j : Nat) p, ps[j]? = some p → w'.cell? (ad.add j) = some (.int .i64 p)) :
    Calls Tryz.prog 56 #[.pointer (some ⟨R.b, 0, none⟩), .slice A ps.length c] w fun e w' => e = .returned (.tuple #[]) ∧ ∃ v, Sec.RHas { R with v := v } (s.crash ps) w' ∧ Sec.Mv R.off { R with v := v : Sec.Rl }.off w w' := by
  have H := Lib.hid h
  have HS := Lib.hid hs
  have HP := Lib.hid hp
  clear h hs hp
  unfold maxLen at hn
  go_enter Tryz.func56, Tryz.ntmps56
  go_wp2_with fail
  go_loopw [4] (fun t wr => ∃ i : Nat, i ≤ s.loose.length ∧ t = .int .i64 i ∧ Sec.RAt R (Sec.chunks (s.upto (Sec.pk ps) i).1 s.n) s.loose s.fz wr ∧ Sec.Mv R.off R.off w wr) (fun t _ => s.loose.length - (intOf t).toNat)
  case atStart => exact ⟨0, Nat.zero_le _, rfl, H.out, .refl _ _⟩
  case round =>
    obtain ⟨i, hi, rfl, hA, hM⟩ := hrel
    have HA := Lib.hid hA
    have HM := Lib.hid hM
    have c1 := hA.c1
    obtain ⟨A1, cp1, hv1⟩ := Sec.own_eq hA.row
    rw [hv1] at c1
    clear hA hM
    by_cases hlt : i < s.loose.length
    · obtain ⟨g, cap, hv, ca, cb⟩ := HA.out.v_at i hlt
      obtain ⟨rfl, rfl⟩ : A1 = some ⟨g, 0, none⟩ ∧ cp1 = cap := by
        rw [hv1] at hv
        injection hv with e1 e2 e3
        exact ⟨e1, e3⟩
      have hmem : s.loose[i] ∈ s.loose := List.getElem_mem hlt
      have HK := Lib.hid (HS.out.at_ _ hmem)
      have HX := Lib.hid (HS.out.len _ hmem)
      have HC := Lib.hid (Sec.chunks_upto HS.out (Sec.pk ps) (Sec.pk_le ps) i hlt)
      have hi0 : (0 : Int) ≤ (i : Int) := by omega
      have hi1 : (i : Int) < (s.loose.length : Int) := by omega
      obtain ⟨hg1, _⟩ := Sec.St.upto_len HS.out (Sec.pk ps) i hi
      have HG := Lib.hid hg1
      clear hv hv1 hmem hg1
      generalize s.loose[i] = x at ca cb HK HX HC
      obtain ⟨k, x⟩ := x
      simp only [] at ca cb
      have hkn : k < s.n := HK.out
      have hcs : (Sec.chunk (s.upto (Sec.pk ps) i).1 k).size = 128 := Sec.chunk_size HG.out hkn
      have HKEEP : Hid (∀ (w' : World) (n : Int), Sec.RAt R (Sec.chunks (s.upto (Sec.pk ps) i).1 s.n) s.loose s.fz w' → Sec.pk ps i = Sec.stay n → Calls Tryz.prog 77 #[.pointer (some ⟨R.b, 0, none⟩), .agg #[.int .i64 (k : Int), .string ⟨x.toArray⟩], .int .i64 n] w' fun e w'' => e = .returned (.tuple #[]) ∧ Sec.RAt R (Sec.chunks (s.upto (Sec.pk ps) (i + 1)).1 s.n) s.loose s.fz w'' ∧ Sec.Mv R.off R.off w' w'') := fun w' n hA hn => by
        have hk' : k < (Sec.chunks (s.upto (Sec.pk ps) i).1 s.n).length := by rw [Sec.chunks_len]; exact hkn
        have hgk : (Sec.chunks (s.upto (Sec.pk ps) i).1 s.n)[k] = Sec.chunk (s.upto (Sec.pk ps) i).1 k := by
          have := Sec.chunks_at (xs := (s.upto (Sec.pk ps) i).1) hkn
          rw [List.getElem?_eq_getElem hk'] at this
          exact Option.some.inj this
        have hr := rkeep R _ s.loose s.fz w' hA k hk' (by rw [hgk]; exact hcs) ⟨x.toArray⟩ (by show x.toArray.size = 128; rw [List.size_toArray]; exact HX.out) n
        rw [hgk, ← hn, ← HC.out] at hr
        exact hr
      by_cases hpi : i < ps.length
      · obtain ⟨ad, rfl, hc⟩ := HP.out wr HM.out (by omega)
        have hc1 := hc i ps[i] (List.getElem?_eq_getElem hpi)
        have hpk : Hid (Sec.pk ps i = Sec.stay ps[i]) := by
          show _ = _
          unfold Sec.pk
          rw [List.getElem?_eq_getElem hpi]
        have hpi1 : (i : Int) < (ps.length : Int) := by omega
        clear hc
        generalize ps[i] = p at hc1 hpk
        go_wp2_with fail
        refine (HKEEP.out wr p HA.out hpk.out).mono ?_
        rintro e w2 ⟨rfl, hA2, hM2⟩
        have HA2 := Lib.hid hA2
        have HM2 := Lib.hid (HM.out.trans hM2)
        clear hA2 hM2
        go_wp2_with fail
        go_roundw
        case rel => exact ⟨i + 1, by omega, by go_num, HA2.out, HM2.out⟩
        case measure => simp [intOf]; omega
      · have hpk : Hid (Sec.pk ps i = Sec.stay 0) := by
          show _ = _
          unfold Sec.pk
          rw [List.getElem?_eq_none (by omega)]
          rfl
        go_wp2_with fail
        refine (HKEEP.out wr 0 HA.out hpk.out).mono ?_
        rintro e w2 ⟨rfl, hA2, hM2⟩
        have HA2 := Lib.hid hA2
        have HM2 := Lib.hid (HM.out.trans hM2)
        clear hA2 hM2
        go_wp2_with fail
        go_roundw
        case rel => exact ⟨i + 1, by omega, by go_num, HA2.out, HM2.out⟩
        case measure => simp [intOf]; omega
    · obtain rfl : i = s.loose.length := by omega
      have c2 := HA.out.c2
      have f1 := HA.out.fro 1
      have f2 := HA.out.fro 2
      clear hv1
      go_wp2_with fail
      go_end0
      obtain ⟨r1, r2⟩ := HA.out.clear
      obtain ⟨r3, r4⟩ := r1.set (-1)
      exact ⟨rfl, _, r3, (HM.out.trans r2).trans r4⟩
end Go.Proofs.YtdmelkphankfiaaGreat
end

section
namespace Go.Proofs.YtdmelkphankfiaaGreat
open Go.RowKit

namespace Sec
theorem fz_still {s : St} (h : s.still = true) : s.fz = 0 := by
  unfold St.still at h
  simp at h
  unfold St.fz
  rw [if_pos h.1, h.2]
  rfl
theorem cat_snoc (l : List ByteArray) (x : ByteArray) : cat (l ++ [x]) = cat l ++ x := by unfold cat; rw [List.foldl_append]; rfl
theorem fold_size (l : List ByteArray) (a : ByteArray) (h : ∀ x ∈ l, x.size ≤ 128) : (l.foldl (· ++ ·) a).size ≤ a.size + l.length * 128 := by
  induction l generalizing a with
  | nil => simp
  | cons x l ih =>
    rw [List.foldl_cons, List.length_cons]
    have h1 := ih (a ++ x) (fun y hy => h y (List.mem_cons_of_mem _ hy))
    have h2 := h x (List.mem_cons_self ..)
    rw [ByteArray.size_append] at h1
    omega
theorem cat_size (l : List ByteArray) (h : ∀ x ∈ l, x.size ≤ 128) : (cat l).size ≤ l.length * 128 := by
  have := fold_size l ByteArray.empty h
  have e : ByteArray.empty.size = 0 := rfl
  unfold cat
  omega
end Sec

theorem rburn (R : Sec.Rl) (s : Sec.St) (w : World) (h : Sec.RHas R s w) (hs : s.Ok) (hd : s.still = false) :
    Calls Tryz.prog 76 #[.pointer (some ⟨R.b, 0, none⟩)] w fun e w' => e = .returned (.bool true) ∧ Sec.RHas R s.burn w' ∧ Sec.Mv R.off R.off w w' := by
  unfold Sec.RHas at h ⊢
  have hl := hs.left
  unfold Sec.St.still at hd
  unfold Sec.St.fz at h ⊢
  unfold Sec.St.burn
  cases e : s.lit with
  | false =>
    rw [e] at h
    simp only [Bool.false_eq_true, if_false] at h ⊢
    exact (rburn_none R _ _ w h).mono fun _ _ ⟨a, b⟩ => ⟨a, by subst b; exact ⟨h, .refl _ _⟩⟩
  | true =>
    rw [e] at h hd
    simp only [Bool.true_and, if_true] at h hd ⊢
    obtain ⟨n, hn⟩ : ∃ n, s.left = n + 1 := ⟨s.left - 1, by simp at hd; omega⟩
    rw [hn] at h
    rw [hn, Nat.add_sub_cancel]
    exact rburn_some R _ _ n (by omega) w h

set_option maxHeartbeats 2000000 in
set_option maxRecDepth 20000 in
theorem rsync (R : Sec.Rl) (s : Sec.St) (w : World) (h : Sec.RHas R s w) (hs : s.Ok) (hd : s.still = false) (hlim : s.loose.length ≤ 1000000000) :
    Calls Tryz.prog 50 #[.pointer (some ⟨R.b, 0, none⟩)] w fun e w' => e = .returned (.int .i64 0) ∧ ∃ v, Sec.RHas { R with v := v } (s.burn.settle (fun _ => 128)) w' ∧ Sec.Mv R.off { R with v := v : Sec.Rl }.off w w' := by
  have HH := Lib.hid h
  have HSS := Lib.hid hs
  have HS : Hid s.burn.Ok := hs.burn
  have HD := Lib.hid hd
  clear h hs hd
  obtain ⟨s1, hs1⟩ : ∃ s1 : Sec.St, s1 = s.burn := ⟨_, rfl⟩
  rw [← hs1]
  rw [← hs1] at HS
  have HS1 := Lib.hid hs1
  have hlim1 : s1.loose.length ≤ 1000000000 := by rw [hs1]; exact hlim
  clear hs1 hlim
  go_enter Tryz.func50, Tryz.ntmps50
  go_wp2_with fail
  refine (rburn R s _ HH.out HSS.out HD.out).mono ?_
  rintro e w1 ⟨rfl, hA, hM⟩
  have H : Hid (Sec.RHas R s1 w1) := by show Sec.RHas R s1 w1; rw [HS1.out]; exact hA
  have HM0 := Lib.hid hM
  clear hA hM HH HSS HD HS1
  go_wp2_with fail
  go_loopw [3] (fun t wr => ∃ i : Nat, i ≤ s1.loose.length ∧ t = .int .i64 i ∧ Sec.RAt R (Sec.chunks (s1.upto (fun _ => 128) i).1 s1.n) s1.loose s1.fz wr ∧ Sec.Mv R.off R.off w wr) (fun t _ => s1.loose.length - (intOf t).toNat)
  case atStart => exact ⟨0, Nat.zero_le _, rfl, H.out, HM0.out⟩
  case round =>
    obtain ⟨i, hi, rfl, hA, hM⟩ := hrel
    have HA := Lib.hid hA
    have HM := Lib.hid hM
    have c1 := hA.c1
    obtain ⟨A1, cp1, hv1⟩ := Sec.own_eq hA.row
    rw [hv1] at c1
    clear hA hM
    by_cases hlt : i < s1.loose.length
    · obtain ⟨g, cap, hv, ca, cb⟩ := HA.out.v_at i hlt
      obtain ⟨rfl, rfl⟩ : A1 = some ⟨g, 0, none⟩ ∧ cp1 = cap := by
        rw [hv1] at hv
        injection hv with e1 e2 e3
        exact ⟨e1, e3⟩
      have hmem : s1.loose[i] ∈ s1.loose := List.getElem_mem hlt
      have HK := Lib.hid (HS.out.at_ _ hmem)
      have HX := Lib.hid (HS.out.len _ hmem)
      have HC := Lib.hid (Sec.chunks_upto HS.out (fun _ => 128) (fun _ => Nat.le_refl _) i hlt)
      have hi0 : (0 : Int) ≤ (i : Int) := by omega
      have hi1 : (i : Int) < (s1.loose.length : Int) := by omega
      obtain ⟨hg1, _⟩ := Sec.St.upto_len HS.out (fun _ => 128) i hi
      have HG := Lib.hid hg1
      clear hv hv1 hmem hg1
      generalize s1.loose[i] = x at ca cb HK HX HC
      obtain ⟨k, x⟩ := x
      simp only [] at ca cb
      have hkn : k < s1.n := HK.out
      have hcs : (Sec.chunk (s1.upto (fun _ => 128) i).1 k).size = 128 := Sec.chunk_size HG.out hkn
      have HKEEP : Hid (∀ (w' : World) (n : Int), Sec.RAt R (Sec.chunks (s1.upto (fun _ => 128) i).1 s1.n) s1.loose s1.fz w' → 128 = Sec.stay n → Calls Tryz.prog 77 #[.pointer (some ⟨R.b, 0, none⟩), .agg #[.int .i64 (k : Int), .string ⟨x.toArray⟩], .int .i64 n] w' fun e w'' => e = .returned (.tuple #[]) ∧ Sec.RAt R (Sec.chunks (s1.upto (fun _ => 128) (i + 1)).1 s1.n) s1.loose s1.fz w'' ∧ Sec.Mv R.off R.off w' w'') := fun w' n hA hn => by
        have hk' : k < (Sec.chunks (s1.upto (fun _ => 128) i).1 s1.n).length := by rw [Sec.chunks_len]; exact hkn
        have hgk : (Sec.chunks (s1.upto (fun _ => 128) i).1 s1.n)[k] = Sec.chunk (s1.upto (fun _ => 128) i).1 k := by
          have := Sec.chunks_at (xs := (s1.upto (fun _ => 128) i).1) hkn
          rw [List.getElem?_eq_getElem hk'] at this
          exact Option.some.inj this
        have hr := rkeep R _ s1.loose s1.fz w' hA k hk' (by rw [hgk]; exact hcs) ⟨x.toArray⟩ (by show x.toArray.size = 128; rw [List.size_toArray]; exact HX.out) n
        rw [hgk, ← hn, ← HC.out] at hr
        exact hr
      go_wp2_with fail
      refine (HKEEP.out wr 128 HA.out Sec.stay_128.symm).mono ?_
      rintro e w2 ⟨rfl, hA2, hM2⟩
      have HA2 := Lib.hid hA2
      have HM2 := Lib.hid (HM.out.trans hM2)
      clear hA2 hM2
      go_wp2_with fail
      go_roundw
      case rel => exact ⟨i + 1, by omega, by go_num, HA2.out, HM2.out⟩
      case measure => simp [intOf]; omega
    · obtain rfl : i = s1.loose.length := by omega
      have f1 := HA.out.fro 1
      clear hv1
      go_wp2_with fail
      go_ret
      obtain ⟨r1, r2⟩ := HA.out.clear
      exact ⟨rfl, _, r1, HM.out.trans r2⟩

set_option maxHeartbeats 400000 in
theorem rsync_down (R : Sec.Rl) (s : Sec.St) (w : World) (h : Sec.RHas R s w) (hd : s.still = true) :
    Calls Tryz.prog 50 #[.pointer (some ⟨R.b, 0, none⟩)] w fun e w' => e = .returned (.int .i64 51) ∧ w = w' := by
  unfold Sec.RHas at h
  rw [Sec.fz_still hd] at h
  have H := Lib.hid h
  clear h hd
  go_enter Tryz.func50, Tryz.ntmps50
  go_wp2_with fail
  refine (rburn_down R _ _ _ H.out).mono ?_
  rintro e w' ⟨rfl, rfl⟩
  go_wp2_with fail
  go_ret
  exact ⟨rfl, rfl⟩

set_option maxHeartbeats 1000000 in
set_option maxRecDepth 20000 in
theorem rsure (R : Sec.Rl) (s : Sec.St) (w : World) (h : Sec.RHas R s w) (hs : s.Ok) :
    Calls Tryz.prog 15 #[.pointer (some ⟨R.b, 0, none⟩)] w fun e w' => e = .returned (.string ⟨s.good.toArray⟩) ∧ w = w' := by
  have hgl := hs.good
  have hn2 := hs.n2
  have hn1 := hs.n1
  unfold Sec.RHas at h
  obtain ⟨g, cap, hv, hc⟩ := h.g_eq (by rw [Sec.chunks_len]; exact hn1)
  have c0 := h.c0
  rw [hv, Sec.chunks_len] at c0
  have HC : Hid (∀ k, k < s.n → w.cell? ⟨g, k, none⟩ = some (.string (Sec.chunk s.good k))) := fun k hk => by
    have hk' : k < (Sec.chunks s.good s.n).length := by rw [Sec.chunks_len]; exact hk
    have h1 := (hc k hk').1
    have h2 := Sec.chunks_at (xs := s.good) hk
    rw [List.getElem?_eq_getElem hk'] at h2
    rw [h1, Option.some.inj h2]
  have HF : Hid (Sec.cat (Sec.chunks s.good s.n) = ⟨s.good.toArray⟩) := by
    show _ = _
    rw [Sec.cat_chunks, List.take_of_length_le (by omega)]
  have HZ : Hid (∀ k, k ≤ s.n → (Sec.cat (Sec.chunks s.good k)).size ≤ k * 128) := fun k hk => by
    have h := Sec.cat_size (Sec.chunks s.good k) (fun x hx => by
      obtain ⟨i, hi, rfl⟩ := List.mem_map.1 hx
      have := List.mem_range.1 hi
      exact Nat.le_of_eq (Sec.chunk_size hgl (by omega)))
    rwa [Sec.chunks_len] at h
  have HS : Hid (∀ k, k < s.n → (Sec.chunk s.good k).size = 128) := fun k hk => Sec.chunk_size hgl hk
  clear h hc hs hgl hv
  go_enter Tryz.func15, Tryz.ntmps15
  go_wp2_with fail
  go_loop [3, 4] (fun a t => ∃ k : Nat, k ≤ s.n ∧ t = .int .i64 k ∧ a = .string (Sec.cat (Sec.chunks s.good k))) (fun _ t => s.n - (intOf t).toNat)
  case atStart => exact ⟨0, Nat.zero_le _, rfl, rfl⟩
  case round =>
    obtain ⟨k, hk, rfl, rfl⟩ := hrel
    by_cases hlt : k < s.n
    · have hc := HC.out k hlt
      have hz := HZ.out k hk
      have hz2 := HS.out k hlt
      have HE : Hid (Sec.cat (Sec.chunks s.good k) ++ Sec.chunk s.good k = Sec.cat (Sec.chunks s.good (k + 1))) := by
        show _ = _
        rw [Sec.chunks_succ, Sec.cat_snoc]
      have hki : (k : Int) < (s.n : Int) := by omega
      have hk0 : (0 : Int) ≤ (k : Int) := by omega
      have hs1 : (Sec.cat (Sec.chunks s.good k)).size ≤ 524288 := by omega
      have hs2 : (Sec.chunk s.good k).size ≤ 128 := by omega
      clear hz hz2
      go_wp2_with fail
      go_round
      case rel => exact ⟨k + 1, by omega, by go_num, by rw [HE.out]⟩
      case measure => simp [intOf]; omega
    · obtain rfl : k = s.n := by omega
      go_wp2_with fail
      go_ret
      exact ⟨by rw [← HF.out]; rfl, rfl⟩

/-- What the first i loose writes leave to be read. -/
theorem Sec.look_step {l : List (Nat × List UInt8)} {i : Nat} (h : i < l.length) (k : Nat) (g : ByteArray) : Sec.look (l.take (i + 1)) k g = if l[i].1 = k then ⟨l[i].2.toArray⟩ else Sec.look (l.take i) k g := by
  rw [List.take_succ_eq_append_getElem h, Sec.look_snoc]

set_option maxHeartbeats 2000000 in
set_option maxRecDepth 20000 in
theorem rread (R : Sec.Rl) (s : Sec.St) (w : World) (h : Sec.RHas R s w) (hs : s.Ok) (hseen : s.Seen) (hd : s.still = false) (k : Nat) (hk : k < s.n) (hlim : s.loose.length ≤ 1000000000) :
    Calls Tryz.prog 54 #[.pointer (some ⟨R.b, 0, none⟩), .int .i64 (k : Int)] w fun e w' => e = .returned (.tuple #[.string (Sec.chunk s.now k), .int .i64 0]) ∧ w = w' := by
  have hn2 := hs.n2
  have hz : ¬ s.fz = 0 := by
    unfold Sec.St.still at hd
    unfold Sec.St.fz
    cases e : s.lit with
    | false => simp
    | true =>
      rw [e] at hd
      simp at hd ⊢
      omega
  unfold Sec.RHas at h
  obtain ⟨g, cap, hv, hc⟩ := h.g_eq (by rw [Sec.chunks_len]; omega)
  have c0 := h.c0
  have c1 := h.c1
  have c2 := h.c2
  rw [hv, Sec.chunks_len] at c0
  have hck : w.cell? ⟨g, k, none⟩ = some (.string (Sec.chunk s.good k)) := by
    have hk' : k < (Sec.chunks s.good s.n).length := by rw [Sec.chunks_len]; exact hk
    have h1 := (hc k hk').1
    have h2 := Sec.chunks_at (xs := s.good) hk
    rw [List.getElem?_eq_getElem hk'] at h2
    rw [h1, Option.some.inj h2]
  have H := Lib.hid h
  have HF := Lib.hid (hseen k hk)
  obtain ⟨A1, cp1, hv1⟩ := Sec.own_eq h.row
  have HV1 := Lib.hid hv1
  rw [hv1] at c1
  have hk0 : (0 : Int) ≤ (k : Int) := by omega
  have hki : (k : Int) < (s.n : Int) := by omega
  have hq : (s.fz == 0) = false := by simpa using hz
  clear h hc hs hseen hd hv hz hv1
  go_enter Tryz.func54, Tryz.ntmps54
  go_wp2_with fail
  go_loop [6, 7] (fun a t => ∃ i : Nat, i ≤ s.loose.length ∧ t = .int .i64 i ∧ a = .string (Sec.look (s.loose.take i) k (Sec.chunk s.good k))) (fun _ t => s.loose.length - (intOf t).toNat)
  case atStart => exact ⟨0, Nat.zero_le _, rfl, rfl⟩
  case round =>
    obtain ⟨i, hi, rfl, rfl⟩ := hrel
    by_cases hlt : i < s.loose.length
    · obtain ⟨g2, cap2, hv, ca, cb⟩ := H.out.v_at i hlt
      obtain ⟨rfl, rfl⟩ : A1 = some ⟨g2, 0, none⟩ ∧ cp1 = cap2 := by
        have e := HV1.out.symm.trans hv
        injection e with e1 e2 e3
        exact ⟨e1, e3⟩
      have HE := Lib.hid (Sec.look_step hlt k (Sec.chunk s.good k))
      have hi0 : (0 : Int) ≤ (i : Int) := by omega
      have hi1 : (i : Int) < (s.loose.length : Int) := by omega
      clear hv
      generalize s.loose[i] = x at ca cb HE
      obtain ⟨j, x⟩ := x
      simp only [] at ca cb
      by_cases e : j = k
      · subst e
        have HE2 := HE.out
        rw [if_pos rfl] at HE2
        have HE3 := Lib.hid HE2
        clear HE2
        go_wp2_with fail
        go_round
        case rel => exact ⟨i + 1, by omega, by go_num, by rw [HE3.out]⟩
        case measure => simp [intOf]; omega
      · have HE2 := HE.out
        rw [if_neg e] at HE2
        have HE3 := Lib.hid HE2
        have hjk : ((j : Int) == (k : Int)) = false := by simpa using (by omega : ¬ (j : Int) = (k : Int))
        clear HE2
        go_wp2_with fail
        go_round
        case rel => exact ⟨i + 1, by omega, by go_num, by rw [HE3.out]⟩
        case measure => simp [intOf]; omega
    · obtain rfl : i = s.loose.length := by omega
      go_wp2_with fail
      go_ret2
      exact ⟨by rw [HF.out]; rfl, rfl⟩
end Go.Proofs.YtdmelkphankfiaaGreat
end

section
namespace Go.Proofs.YtdmelkphankfiaaGreat
open Go.RowKit
attribute [local go_sem ↓] Go.wp_at_zero Go.wp_at_succ

theorem str_info : (Tryz.prog.info? 9).map (fun i => (i.zero, i.size, i.bytes)) = some (some (.string ByteArray.empty), 1, 16) := by kernel_rfl
theorem byte_info1 : (Tryz.prog.info? 5).map (fun i => (i.zero, i.size, i.bytes)) = some (some (.int .u8 0), 1, 1) := by kernel_rfl
theorem rwr_info : (Tryz.prog.info? 134).map (fun i => (i.zero.map (·.cells.size), i.size, i.bytes)) = some (some 2, 2, 24) := by kernel_rfl
def Sec.zB (n : Nat) : ByteArray := ⟨(List.replicate n 0).toArray⟩
theorem Sec.zB_size (n : Nat) : (Sec.zB n).size = n := by
  show (List.replicate n (0 : UInt8)).toArray.size = n
  simp
theorem rd_conv0 (n B : Nat) (w' : World) (h : w'.heap[B]? = some (.cells (madeCells #[.int .u8 0] n) 5 (0, 0))) :
    (convert 57 9 (.slice (some ⟨B, 0, none⟩) n n)).run Tryz.prog w' = .ok (.string (Sec.zB n)) w' := by
  have hr := run_convert_bytes_back (P := Tryz.prog) w' 57 9 5 ⟨B, 0, none⟩ n (List.replicate n 0) Tryz.underlying57 Tryz.underlying5 Tryz.underlying9 (fun j hj => by
    rw [Addr.add_mid, cell_of_row w' _ _ _ _ _ h]
    have hj' : j < n := by simpa using hj
    rw [Array.getElem?_eq_getElem (by simpa [size_madeCells] using hj')]
    simp [madeCells, Nat.mod_one])
  rw [List.length_replicate] at hr
  exact hr

namespace Sec
theorem grown_behind2 {w w2 : World} {o p : Obj} {row : Option Nat} (h : ((w.alloc o).drew.alloc p).grownBy w2 row) : w.grownBy w2 row := by
  have e : ((w.alloc o).drew.alloc p).heap.size = w.heap.size + 2 := by simp
  have hs := h.size
  exact ⟨h.os, h.tape, h.output, by omega, fun i hi hne => (h.block i (by omega) hne).trans ((Below.heap_alloc (w.alloc o).drew _ _ (by simp; omega)).trans (Below.heap_alloc w _ _ hi))⟩
theorem new_block2 {w : World} {r : Option Nat} {g n cap : Nat} (h : r = some g ∨ g = w.heap.size + 1 + 1) : (Value.slice (some ⟨g, 0, none⟩) n cap).ownBlock = r ∨ ∀ i, (Value.slice (some ⟨g, 0, none⟩) n cap).ownBlock = some i → w.heap.size ≤ i := by
  rcases h with h | h
  · exact .inl h.symm
  · refine .inr fun i hi => ?_
    have e : g = i := by simpa [Value.ownBlock] using hi
    omega
theorem pad_cat (t : ByteArray) : t ++ zB (128 - t.size) = ⟨(pad t.data.toList).toArray⟩ := by
  apply ByteArray.ext
  rw [ByteArray.data_append]
  apply Array.ext'
  have hl : t.data.toList.length = t.size := rfl
  simp [pad, zB, hl]
variable {R : Rl} {gs : List ByteArray} {ls : List (Nat × List UInt8)} {fz : Int} {w : World}
/-- The slice of what is loose turns. -/
theorem RAt.row_set (h : RAt R gs ls fz w) {w1 : World} (hg : w.grownBy w1 R.v.ownBlock) (v : Value) (l : List (Nat × List UInt8)) (hown : w1.ownsRow 0 134 2 v l.length (rcels l))
    (hat : v.ownBlock = R.v.ownBlock ∨ ∀ i, v.ownBlock = some i → w.heap.size ≤ i) : RAt { R with v := v } gs l fz (w1.setCell ⟨R.b, 1, none⟩ v) ∧ Mv R.off { R with v := v : Rl }.off w (w1.setCell ⟨R.b, 1, none⟩ v) := by
  have hv : ∀ i, i < w.heap.size → some i ≠ R.v.ownBlock → some i ≠ v.ownBlock := fun i hi hne e => by
    rcases hat with hat | hat
    · exact hne (e.trans hat)
    · have := hat i e.symm
      omega
  have hb : w1.heap[R.b]? = some (.cells #[R.g, R.v, .int .i64 fz] 47 (0, 0)) := (hg.block _ h.ltb (fun e => h.ne2 e.symm)).trans h.ob
  have hg2 := grown_set w1 R.b 1 v
  have hsz := hg.size
  have hvb : v.ownBlock ≠ some R.b := fun e => hv R.b h.ltb (fun e => h.ne2 e.symm) e.symm
  refine ⟨⟨by rw [heap_setCell_same _ _ _ _ _ _ hb]; rfl, ?_, hown.kept hg2 (.inr hvb), h.ne1, hvb, ?_⟩, ⟨hg2.os.trans hg.os, hg2.tape.trans hg.tape, hg2.output.trans hg.output, Nat.le_trans hg.size hg2.size, ?_, fun i hi ho => ⟨ho.1, ho.2.1, hv i hi ho.2.2⟩⟩⟩
  · exact (h.good.kept hg h.ne3).kept hg2 (.inr h.ne1)
  · cases e : R.g.ownBlock with
    | none => exact .inl rfl
    | some i =>
      have hi := (h.good.lt i e).2
      right
      refine hv i hi (fun e2 => ?_)
      rcases h.ne3 with hn | hn
      · rw [hn] at e; cases e
      · exact hn (e.trans e2)
  · intro i hi ho
    exact (hg2.block _ (by omega) (by simpa using ho.1)).trans (hg.block _ hi ho.2.2)
end Sec

set_option maxHeartbeats 4000000 in
set_option maxRecDepth 20000 in
theorem rwrite (R : Sec.Rl) (s : Sec.St) (w : World) (h : Sec.RHas R s w) (hs : s.Ok) (hd : s.still = false) (k : Nat) (hk : k < s.n) (t : ByteArray) (ht : t.size ≤ 128) (hlim : s.loose.length ≤ 1000000000) :
    Calls Tryz.prog 52 #[.pointer (some ⟨R.b, 0, none⟩), .int .i64 (k : Int), .string t] w fun e w' => e = .returned (.int .i64 0) ∧ ∃ v, Sec.RHas { R with v := v } (s.burn.put k (Sec.pad t.data.toList)) w' ∧ Sec.Mv R.off { R with v := v : Sec.Rl }.off w w' := by
  have hn2 := hs.n2
  have h0 := h
  unfold Sec.RHas at h0
  obtain ⟨g, cap, hv, _⟩ := h0.g_eq (by rw [Sec.chunks_len]; omega)
  have c0 := h0.c0
  rw [hv, Sec.chunks_len] at c0
  have H := Lib.hid h
  have HS := Lib.hid hs
  have HD := Lib.hid hd
  have HPAD := Lib.hid (Sec.pad_cat t)
  have hk0 : (0 : Int) ≤ (k : Int) := by omega
  have hki : (k : Int) < (s.n : Int) := by omega
  have dk1 : decide ((k : Int) < 0) = false := by simp
  have dk2 : decide (s.n ≤ k) = false := by simpa using hk
  have dt : decide ((128 : Int) < (t.size : Int)) = false := by simp; omega
  clear h h0 hs hd hv
  go_enter Tryz.func52, Tryz.ntmps52
  go_wp2_with fail
  refine (rburn R s _ H.out HS.out HD.out).mono ?_
  rintro e w1 ⟨rfl, hA, hM⟩
  obtain ⟨s1, hs1⟩ : ∃ s1 : Sec.St, s1 = s.burn := ⟨_, rfl⟩
  have HS1 := Lib.hid hs1
  have hl1 : s1.loose.length ≤ 1000000000 := by rw [hs1]; exact hlim
  have HA : Hid (Sec.RHas R s1 w1) := by show Sec.RHas R s1 w1; rw [hs1]; exact hA
  have HM := Lib.hid hM
  have c1 : w1.cell? ⟨R.b, 1, none⟩ = some R.v := (show Sec.RAt R _ _ _ w1 from HA.out).c1
  have f1 : w1.frozen? ⟨R.b, 1, none⟩ = false := (show Sec.RAt R _ _ _ w1 from HA.out).fro 1
  have hlb : R.b < w1.heap.size := (show Sec.RAt R _ _ _ w1 from HA.out).ltb
  clear hA hM hs1 c0 dk1 dk2 dt H HS HD
  obtain ⟨N, hN⟩ : ∃ N, N = 128 - t.size := ⟨_, rfl⟩
  rw [← hN] at HPAD
  have hsub : IntKind.i64.wrap (128 - (t.size : Int)) = (N : Int) := by rw [IntKind.wrap_i64]; omega
  have hmk := run_make_row' (P := Tryz.prog) 57 5 (.int .u8 0) 1 Tryz.underlying57 byte_info1 rfl .i64 .i64 N (by omega) (by omega)
  have hcv : (convert 57 9 (.slice (some ⟨w1.heap.size, 0, none⟩) N N)).run Tryz.prog (w1.alloc (.cells (madeCells #[.int .u8 0] N) 5)).drew = .ok (.string (Sec.zB N)) (w1.alloc (.cells (madeCells #[.int .u8 0] N) 5)).drew := rd_conv0 N w1.heap.size _ (heap_alloc_new w1 _)
  have hcat := HPAD.out
  have hti : (t.size : Int) ≤ 128 := by omega
  have hzs : (Sec.zB N).size ≤ 128 := by rw [Sec.zB_size]; omega
  have hno : ¬ 9223372036854775807 < t.size + (Sec.zB N).size := by omega
  obtain ⟨i, hi0, hz⟩ := Option.map_eq_some_iff.1 rwr_info
  simp only [Prod.mk.injEq] at hz
  obtain ⟨z, hz1, hz2⟩ := Option.map_eq_some_iff.1 hz.1
  have HZ := Lib.hid hz
  have HZ1 := Lib.hid hz1
  have HZ2 := Lib.hid hz2
  have HI := Lib.hid hi0
  clear hN hz hz1 hz2 hi0
  obtain ⟨x, hx⟩ : ∃ x : List UInt8, x = Sec.pad t.data.toList := ⟨_, rfl⟩
  have HX := Lib.hid hx
  rw [← hx] at hcat
  have hcat : t ++ Sec.zB N = ⟨x.toArray⟩ := hcat
  have hb2 : Below w1.heap.size w1 ((w1.alloc (.cells (madeCells #[.int .u8 0] N) 5)).drew.alloc (.cells #[.int .i64 (k : Int), .string ⟨x.toArray⟩] 134)) := (((Below.refl _ _).alloc (Nat.le_refl _) _).drew).alloc (by simp) _
  have HA2 : Hid (Sec.RAt R (Sec.chunks s1.good s1.n) s1.loose s1.fz ((w1.alloc (.cells (madeCells #[.int .u8 0] N) 5)).drew.alloc (.cells #[.int .i64 (k : Int), .string ⟨x.toArray⟩] 134))) := Sec.RAt.below HA.out hb2
  have HNEWS : Hid (∀ j u, ([.int .i64 (k : Int), .string ⟨x.toArray⟩] : List Value)[j]? = some u → ((w1.alloc (.cells (madeCells #[.int .u8 0] N) 5)).drew.alloc (.cells #[.int .i64 (k : Int), .string ⟨x.toArray⟩] 134)).cell? ((⟨w1.heap.size + 1, 0, none⟩ : Addr).add j) = some u) := fun j u hu => by
    have e : (w1.alloc (.cells (madeCells #[.int .u8 0] N) 5)).drew.heap.size = w1.heap.size + 1 := by simp
    rw [← e]
    exact World.news_of_block (heap_alloc_new _ _) j u (by simpa using hu)
  have cA : (w1.alloc (.cells (madeCells #[.int .u8 0] N) 5)).cell? ⟨R.b, 1, none⟩ = some R.v := by rw [World.cell?_alloc_lt _ _ _ hlb]; exact c1
  have cB : ((w1.alloc (.cells (madeCells #[.int .u8 0] N) 5)).alloc (.cells #[.int .i64 (k : Int), .string ⟨x.toArray⟩] 134)).cell? ⟨R.b, 1, none⟩ = some R.v := HA2.out.c1
  have HC1 := Lib.hid HA2.out.c1
  have HF1 := Lib.hid (HA2.out.fro 1)
  have HNE : Hid (some R.b ≠ R.v.ownBlock) := fun e => HA2.out.ne2 e.symm
  have hlb2 : R.b < ((w1.alloc (.cells (madeCells #[.int .u8 0] N) 5)).drew.alloc (.cells #[.int .i64 (k : Int), .string ⟨x.toArray⟩] 134)).heap.size := HA2.out.ltb
  clear hx hb2
  go_wp2_with fail
  go_region_law ((refine step_append_lies _ (by rfl) _ _ _ (by rfl) 0 134 i z 2 24 Tryz.underlying45 HI.out HZ1.out HZ.out.2.1 HZ.out.2.2 HZ2.out (by omega) R.v s1.loose.length (Sec.rcels s1.loose) (by rfl) HA2.out.row ⟨w1.heap.size + 1, 0, none⟩ 1 1 [.int .i64 (k : Int), .string ⟨x.toArray⟩] (by rfl) (by rfl) HNEWS.out (by simp [Value.oneCell']) (by omega) (by unfold maxLen; omega) (by omega) (by omega) (w1.heap.size + 1 + 1) (by simp) ?_; intro g2 cap2 w2 hown hgrow hat hlt; have cc2 := (hgrow.cell_far ⟨R.b, 1, none⟩ hlb2 HNE.out).trans HC1.out; have ff2 := (hgrow.frozen_far ⟨R.b, 1, none⟩ hlb2 HNE.out).trans HF1.out; have HOWN := Lib.hid hown; have HGROW := Lib.hid hgrow; have HAT := Lib.hid hat; clear hown hgrow hat))
  all_goals
    clear cc2 ff2 hlt
    simp only [Exit.then]
    go_at_K
    go_wp2_with fail
    go_ret
    have hg1 : w1.grownBy w2 R.v.ownBlock := Sec.grown_behind2 (o := .cells (madeCells #[.int .u8 0] N) 5) (p := .cells #[.int .i64 (k : Int), .string ⟨x.toArray⟩] 134) HGROW.out
    obtain ⟨r1, r2⟩ := Sec.RAt.row_set HA.out hg1 (.slice (some ⟨g2, 0, none⟩) (s1.loose.length + 1) cap2) (s1.loose ++ [(k, x)]) (by rw [Sec.rcels_app, List.length_append]; exact HOWN.out) (Sec.new_block2 HAT.out)
    refine ⟨rfl, _, ?_, Sec.Mv.trans HM.out r2⟩
    rw [← HS1.out, ← HX.out]
    exact r1
end Go.Proofs.YtdmelkphankfiaaGreat
end

section
namespace Go.Proofs.YtdmelkphankfiaaGreat
open Go.RowKit
attribute [local go_sem ↓] Go.wp_at_zero Go.wp_at_succ

/-- What a Write answers where the disk stands still. -/
def Sec.St.dc (s : Sec.St) (k : Int) (t : ByteArray) : Int := if 0 ≤ k ∧ k < (s.n : Int) then (if t.size ≤ 128 then 51 else 4) else 50

set_option maxHeartbeats 1000000 in
set_option maxRecDepth 20000 in
theorem rwrite_no (R : Sec.Rl) (s : Sec.St) (w : World) (h : Sec.RHas R s w) (hs : s.Ok) (k : Int) (t : ByteArray) (hno : ¬ (0 ≤ k ∧ k < (s.n : Int) ∧ t.size ≤ 128)) :
    Calls Tryz.prog 52 #[.pointer (some ⟨R.b, 0, none⟩), .int .i64 k, .string t] w fun e w' => e = .returned (.int .i64 (s.wc k t)) ∧ w = w' := by
  have hn2 := hs.n2
  have h0 := h
  unfold Sec.RHas at h0
  obtain ⟨g, cap, hv, _⟩ := h0.g_eq (by rw [Sec.chunks_len]; have := hs.n1; omega)
  have c0 := h0.c0
  rw [hv, Sec.chunks_len] at c0
  clear h h0 hv hs
  by_cases k0 : k < 0
  · have hc : s.wc k t = 50 := by unfold Sec.St.wc; rw [if_neg (by omega)]
    have d1 : decide (k < 0) = true := by simpa using k0
    clear hno k0
    go_enter Tryz.func52, Tryz.ntmps52
    go_wp2_with fail
    go_ret
    exact ⟨by rw [hc]; rfl, rfl⟩
  · have d1 : decide (k < 0) = false := by simpa using k0
    by_cases kn : (s.n : Int) ≤ k
    · have hc : s.wc k t = 50 := by unfold Sec.St.wc; rw [if_neg (by omega)]
      have d2 : decide ((s.n : Int) ≤ k) = true := by simpa using kn
      clear hno k0 kn
      go_enter Tryz.func52, Tryz.ntmps52
      go_wp2_with fail
      go_ret
      exact ⟨by rw [hc]; rfl, rfl⟩
    · have d2 : decide ((s.n : Int) ≤ k) = false := by simpa using kn
      have ht : ¬ t.size ≤ 128 := fun e => hno ⟨by omega, by omega, e⟩
      have hc : s.wc k t = 4 := by unfold Sec.St.wc; rw [if_pos ⟨by omega, by omega⟩, if_neg ht]
      have d3 : decide ((128 : Int) < (t.size : Int)) = true := by simp; omega
      have d4 : decide (128 < t.size) = true := by simp; omega
      clear hno k0 kn ht
      go_enter Tryz.func52, Tryz.ntmps52
      go_wp2_with fail
      go_ret
      exact ⟨by rw [hc]; rfl, rfl⟩

set_option maxHeartbeats 1000000 in
set_option maxRecDepth 20000 in
theorem rwrite_down (R : Sec.Rl) (s : Sec.St) (w : World) (h : Sec.RHas R s w) (hs : s.Ok) (hd : s.still = true) (k : Nat) (hk : k < s.n) (t : ByteArray) (ht : t.size ≤ 128) :
    Calls Tryz.prog 52 #[.pointer (some ⟨R.b, 0, none⟩), .int .i64 (k : Int), .string t] w fun e w' => e = .returned (.int .i64 51) ∧ w = w' := by
  have hn2 := hs.n2
  unfold Sec.RHas at h
  rw [Sec.fz_still hd] at h
  obtain ⟨g, cap, hv, _⟩ := h.g_eq (by rw [Sec.chunks_len]; omega)
  have c0 := h.c0
  rw [hv, Sec.chunks_len] at c0
  have H := Lib.hid h
  have hk0 : (0 : Int) ≤ (k : Int) := by omega
  have hki : (k : Int) < (s.n : Int) := by omega
  have dk1 : decide ((k : Int) < 0) = false := by simp
  have dk2 : decide (s.n ≤ k) = false := by simpa using hk
  have dt : decide ((128 : Int) < (t.size : Int)) = false := by simp; omega
  have dt2 : decide (128 < t.size) = false := by simp; omega
  clear h hd hs hv
  go_enter Tryz.func52, Tryz.ntmps52
  go_wp2_with fail
  refine (rburn_down R _ _ _ H.out).mono ?_
  rintro e w' ⟨rfl, rfl⟩
  go_wp2_with fail
  go_ret
  exact ⟨rfl, rfl⟩

set_option maxHeartbeats 1000000 in
set_option maxRecDepth 20000 in
theorem rread_down (R : Sec.Rl) (s : Sec.St) (w : World) (h : Sec.RHas R s w) (hd : s.still = true) (k : Int) :
    Calls Tryz.prog 54 #[.pointer (some ⟨R.b, 0, none⟩), .int .i64 k] w fun e w' => e = .returned (.tuple #[.string ByteArray.empty, .int .i64 51]) ∧ w = w' := by
  unfold Sec.RHas at h
  rw [Sec.fz_still hd] at h
  have c2 := h.c2
  clear h hd
  go_enter Tryz.func54, Tryz.ntmps54
  go_wp2_with fail
  go_ret2
  exact ⟨rfl, rfl⟩
end Go.Proofs.YtdmelkphankfiaaGreat
end

section
namespace Go.Proofs.YtdmelkphankfiaaGreat
open Go.RowKit
attribute [local go_sem ↓] Go.wp_at_zero Go.wp_at_succ

namespace Sec
theorem chunk_zero (n k : Nat) (h : k < n) : chunk (List.replicate (n * 128) 0) k = zB 128 := by
  unfold chunk zB
  rw [List.drop_replicate, List.take_replicate, show min 128 (n * 128 - k * 128) = 128 by omega]
theorem chunks_zero (n m : Nat) (h : m ≤ n) : chunks (List.replicate (n * 128) 0) m = List.replicate m (zB 128) := by
  induction m with
  | zero => rfl
  | succ m ih => rw [chunks_succ, ih (by omega), chunk_zero n m (by omega), List.replicate_succ']
theorem nil_own (j : Nat) : (Value.slice none 0 0).ownBlock ≠ some j := by
  intro e
  cases e
theorem scels_app (a b : List ByteArray) : scels (a ++ b) = scels a ++ scels b := List.map_append
variable {R : Rl} {gs : List ByteArray} {fz : Int} {w : World}
/-- The slice of what is for good turns. -/
theorem RAt.good_set (h : RAt R gs [] fz w) (hv : R.v = .slice none 0 0) {w1 : World} (hg : w.grownBy w1 R.g.ownBlock) (v : Value) (l : List ByteArray) (hown : w1.ownsRow 0 9 1 v l.length (scels l))
    (hat : v.ownBlock = R.g.ownBlock ∨ ∀ i, v.ownBlock = some i → w.heap.size ≤ i) : RAt { R with g := v } l [] fz (w1.setCell ⟨R.b, 0, none⟩ v) ∧ Mv R.off { R with g := v : Rl }.off w (w1.setCell ⟨R.b, 0, none⟩ v) := by
  have hx : ∀ i, i < w.heap.size → some i ≠ R.g.ownBlock → some i ≠ v.ownBlock := fun i hi hne e => by
    rcases hat with hat | hat
    · exact hne (e.trans hat)
    · have := hat i e.symm
      omega
  have hb : w1.heap[R.b]? = some (.cells #[R.g, R.v, .int .i64 fz] 47 (0, 0)) := (hg.block _ h.ltb (fun e => h.ne1 e.symm)).trans h.ob
  have hg2 := grown_set w1 R.b 0 v
  have hvb : v.ownBlock ≠ some R.b := fun e => hx R.b h.ltb (fun e => h.ne1 e.symm) e.symm
  refine ⟨⟨by rw [heap_setCell_same _ _ _ _ _ _ hb]; rfl, hown.kept hg2 (.inr hvb), ?_, hvb, h.ne2, ?_⟩, ⟨hg2.os.trans hg.os, hg2.tape.trans hg.tape, hg2.output.trans hg.output, Nat.le_trans hg.size hg2.size, ?_, fun i hi ho => ⟨ho.1, hx i hi ho.2.1, ho.2.2⟩⟩⟩
  · show World.ownsRow _ 0 134 2 R.v 0 []
    rw [hv]
    exact World.ownsRow_nil _ _ _ _
  · show v.ownBlock = none ∨ v.ownBlock ≠ R.v.ownBlock
    rw [hv]
    cases e : v.ownBlock with
    | none => exact .inl rfl
    | some i => right; intro e2; cases e2
  · intro i hi ho
    exact (hg2.block _ (Nat.lt_of_lt_of_le hi hg.size) (by simpa using ho.1)).trans (hg.block _ hi ho.2.1)
end Sec

set_option maxHeartbeats 4000000 in
set_option maxRecDepth 20000 in
theorem rnew (n : Nat) (w : World) (h1 : 1 ≤ n) (h2 : n ≤ 4096) :
    Calls Tryz.prog 7 #[.int .i64 (n : Int)] w fun e w' => ∃ R : Sec.Rl, e = .returned (.tuple #[.pointer (some ⟨R.b, 0, none⟩), .int .i64 0]) ∧ Sec.RHas R (Sec.St.fresh n) w' ∧ Below w.heap.size w w' ∧ (∀ i, i < w.heap.size → R.off i) := by
  have hn1 : (1 : Int) ≤ (n : Int) := by omega
  have hn2 : (n : Int) ≤ 4096 := by omega
  have hmk := run_make_row' (P := Tryz.prog) 57 5 (.int .u8 0) 1 Tryz.underlying57 byte_info1 rfl .i64 .i64 128 (by omega) (by omega)
  simp only [show ((128 : Nat) : Int) = 128 from rfl] at hmk
  obtain ⟨i0, hi, hz0, hz1, hz2⟩ := info_parts str_info
  have HI := Lib.hid hi
  have HZ0 := Lib.hid hz0
  have HZ1 := Lib.hid hz1
  have HZ2 := Lib.hid hz2
  clear hi hz0 hz1 hz2
  go_enter Tryz.func7, Tryz.ntmps7
  go_wp2_with fail
  go_loopw [5] (fun t wr => ∃ (i : Nat) (g : Value), i ≤ n ∧ t = .int .i64 i ∧ Hid (Sec.RAt ⟨w.heap.size, g, .slice none 0 0⟩ (List.replicate i (Sec.zB 128)) [] (-1) wr) ∧ Hid (Below w.heap.size w wr) ∧ Hid (∀ j, j < w.heap.size → (⟨w.heap.size, g, .slice none 0 0⟩ : Sec.Rl).off j))
    (fun t _ => n - (intOf t).toNat)
  case atStart =>
    refine ⟨0, .slice none 0 0, Nat.zero_le _, rfl, ?_, (Below.refl _ _).alloc (Nat.le_refl _) _, fun j hj => ⟨Nat.ne_of_lt hj, (Sec.nil_own j).symm, (Sec.nil_own j).symm⟩⟩
    exact ⟨heap_alloc_new _ _, World.ownsRow_nil _ _ _ _, World.ownsRow_nil _ _ _ _, Sec.nil_own _, Sec.nil_own _, .inl rfl⟩
  case round =>
    obtain ⟨i, g, hin, rfl, HA, HB, HO⟩ := hrel
    by_cases hlt : i < n
    · have hii : (i : Int) < (n : Int) := by omega
      have hcv : (convert 57 9 (.slice (some ⟨wr.heap.size, 0, none⟩) 128 128)).run Tryz.prog (wr.alloc (.cells (madeCells #[.int .u8 0] 128) 5)).drew = .ok (.string (Sec.zB 128)) (wr.alloc (.cells (madeCells #[.int .u8 0] 128) 5)).drew := rd_conv0 128 wr.heap.size _ (heap_alloc_new wr _)
      obtain ⟨Z, hZ⟩ : ∃ Z, Z = Sec.zB 128 := ⟨_, rfl⟩
      rw [← hZ] at hcv HA
      have HZ := Lib.hid hZ
      have hb2 : Below wr.heap.size wr ((wr.alloc (.cells (madeCells #[.int .u8 0] 128) 5)).drew.alloc (.cells #[.string Z] 9)) := (((Below.refl _ _).alloc (Nat.le_refl _) _).drew).alloc (by simp) _
      have HA2 : Hid (Sec.RAt ⟨w.heap.size, g, .slice none 0 0⟩ (List.replicate i Z) [] (-1) ((wr.alloc (.cells (madeCells #[.int .u8 0] 128) 5)).drew.alloc (.cells #[.string Z] 9))) := Sec.RAt.below HA.out hb2
      have HNEWS : Hid (∀ j u, ([.string Z] : List Value)[j]? = some u → ((wr.alloc (.cells (madeCells #[.int .u8 0] 128) 5)).drew.alloc (.cells #[.string Z] 9)).cell? ((⟨wr.heap.size + 1, 0, none⟩ : Addr).add j) = some u) := fun j u hu => by
        have e : (wr.alloc (.cells (madeCells #[.int .u8 0] 128) 5)).drew.heap.size = wr.heap.size + 1 := by simp
        rw [← e]
        exact World.news_of_block (heap_alloc_new _ _) j u (by simpa using hu)
      have c0 : wr.cell? ⟨w.heap.size, 0, none⟩ = some g := HA.out.c0
      have f0 : wr.frozen? ⟨w.heap.size, 0, none⟩ = false := HA.out.fro 0
      have hlb : w.heap.size < wr.heap.size := HA.out.ltb
      have cA : (wr.alloc (.cells (madeCells #[.int .u8 0] 128) 5)).cell? ⟨w.heap.size, 0, none⟩ = some g := by rw [World.cell?_alloc_lt _ _ _ hlb]; exact c0
      have cB : ((wr.alloc (.cells (madeCells #[.int .u8 0] 128) 5)).alloc (.cells #[.string Z] 9)).cell? ⟨w.heap.size, 0, none⟩ = some g := HA2.out.c0
      have HC0 := Lib.hid HA2.out.c0
      have HF0 := Lib.hid (HA2.out.fro 0)
      have HNE : Hid (some w.heap.size ≠ g.ownBlock) := fun e => HA2.out.ne1 e.symm
      have hlb2 : w.heap.size < ((wr.alloc (.cells (madeCells #[.int .u8 0] 128) 5)).drew.alloc (.cells #[.string Z] 9)).heap.size := HA2.out.ltb
      have HROW : Hid (((wr.alloc (.cells (madeCells #[.int .u8 0] 128) 5)).drew.alloc (.cells #[.string Z] 9)).ownsRow 0 9 1 g i (Sec.scels (List.replicate i Z))) := by
        have := HA2.out.good
        rw [List.length_replicate] at this
        exact this
      clear hZ hb2
      go_wp2_with fail
      go_region_law ((refine step_append_lies _ (by rfl) _ _ _ (by rfl) 0 9 i0 (.string ByteArray.empty) 1 16 Tryz.underlying38 HI.out HZ0.out HZ1.out HZ2.out (by rfl) (by omega) g i (Sec.scels (List.replicate i Z)) (by rfl) HROW.out ⟨wr.heap.size + 1, 0, none⟩ 1 1 [.string Z] (by rfl) (by rfl) HNEWS.out (by simp [Value.oneCell']) (by omega) (by unfold maxLen; omega) (by omega) (by omega) (wr.heap.size + 1 + 1) (by simp) ?_; intro g2 cap2 w2 hown hgrow hat hlt2; have cc2 := (hgrow.cell_far ⟨w.heap.size, 0, none⟩ hlb2 HNE.out).trans HC0.out; have ff2 := (hgrow.frozen_far ⟨w.heap.size, 0, none⟩ hlb2 HNE.out).trans HF0.out; have HOWN := Lib.hid hown; have HGROW := Lib.hid hgrow; have HAT := Lib.hid hat; clear hown hgrow hat))
      all_goals
        clear cc2 ff2 hlt2
        have hg1 : wr.grownBy w2 g.ownBlock := Sec.grown_behind2 (o := .cells (madeCells #[.int .u8 0] 128) 5) (p := .cells #[.string Z] 9) HGROW.out
        obtain ⟨r1, r2⟩ := Sec.RAt.good_set HA.out rfl hg1 (.slice (some ⟨g2, 0, none⟩) (i + 1) cap2) (List.replicate (i + 1) Z) (by rw [List.length_replicate, List.replicate_succ', Sec.scels_app]; exact HOWN.out) (Sec.new_block2 HAT.out)
        have R1 := Lib.hid r1
        have hO2 : ∀ j, j < w.heap.size → (⟨w.heap.size, .slice (some ⟨g2, 0, none⟩) (i + 1) cap2, .slice none 0 0⟩ : Sec.Rl).off j := fun j hj => r2.keep j (Nat.lt_trans hj hlb) (HO.out j hj)
        have HO2 := Lib.hid hO2
        have hB2 := HB.out.trans (Sec.Mv.below r2 (Nat.le_of_lt hlb) HO.out)
        have HB2 := Lib.hid hB2
        clear hg1 r1 r2 hO2 hB2
        go_wp2_with fail
        go_roundw
        case rel => exact ⟨i + 1, _, by omega, by go_num, by rw [← HZ.out]; exact R1.out, HB2.out, HO2.out⟩
        case measure => simp [intOf]; omega
    · obtain rfl : i = n := by omega
      go_wp2_with fail
      refine bodyPost_ret (v := .tuple #[.pointer (some ⟨w.heap.size, 0, none⟩), .int .i64 0]) (by simp [results, Tryz.results7, go_sem]) rfl ?_
      refine ⟨_, rfl, ?_, HB.out, HO.out⟩
      show Sec.RAt _ (Sec.chunks (List.replicate (i * 128) 0) i) [] (-1) _
      rw [Sec.chunks_zero _ _ (Nat.le_refl _)]
      exact HA.out
end Go.Proofs.YtdmelkphankfiaaGreat
end
