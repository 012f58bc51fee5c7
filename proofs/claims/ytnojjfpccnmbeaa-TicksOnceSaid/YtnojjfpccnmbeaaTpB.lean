/-
  The program's queue in memory; Len, has, Less.
-/
import Derived.Test.YtnojjfpccnmbeaaTpS
import Derived.BigRegion
import Derived.Deep.RegionHeld3
import Derived.Laws.OwnMore
import Derived.Handy
namespace Go.Proofs.Ytnojjfpccnmbeaa
open Go.RowKit

namespace Tk
/-- The queue at Q: a row v of the timers l, a map at B that reads as f, of m entries. -/
structure QRaw (Q B : Nat) (v : Value) (l : List Tm) (f : ByteArray → Option Int) (m : Nat) (w : World) : Prop where
  obj : w.heap[Q]? = some (.cells #[v, .map (some B)] 60 (0, 0))
  row : w.ownsRow 0 42 2 v l.length (tks l)
  mp : MapIs 3 w B f m
  neQ : v.ownBlock ≠ some Q
  neB : v.ownBlock ≠ some B
  QB : Q ≠ B
def QOff (Q B : Nat) (v : Value) (i : Nat) : Prop := i ≠ Q ∧ i ≠ B ∧ some i ≠ v.ownBlock
section
variable {Q B m : Nat} {v : Value} {l : List Tm} {f : ByteArray → Option Int} {w w' : World}
theorem QRaw.c0 (h : QRaw Q B v l f m w) : w.cell? ⟨Q, 0, none⟩ = some v := cell_of_row _ _ 0 _ _ _ h.obj
theorem QRaw.c1 (h : QRaw Q B v l f m w) : w.cell? ⟨Q, 1, none⟩ = some (.map (some B)) := cell_of_row _ _ 1 _ _ _ h.obj
theorem QRaw.below (h : QRaw Q B v l f m w) (hb : Below w.heap.size w w') : QRaw Q B v l f m w' :=
  ⟨(hb.block _ (ltHeap h.obj)).trans h.obj, ownsKeep h.row (fun i hi => hb.block i (h.row.lt i hi).2), h.mp.below hb, h.neQ, h.neB, h.QB⟩
theorem QRaw.form (h : QRaw Q B v l f m w) : ∃ A n, v = .slice A l.length n := by
  rcases h.row.2 with ⟨e, h0⟩ | ⟨g, cap, cur, rfl, _⟩
  · exact ⟨none, 0, by rw [e, h0]⟩
  · exact ⟨_, _, rfl⟩
theorem QRaw.form2 (h : QRaw Q B v l f m w) (hl : 0 < l.length) : ∃ g n, v = .slice (some ⟨g, 0, none⟩) l.length n ∧ l.length ≤ n := by
  rcases h.row.2 with ⟨e, h0⟩ | ⟨g, cap, cur, rfl, _, _, hn, _⟩
  · omega
  · exact ⟨_, _, rfl, hn⟩
theorem QOff.fresh (h : QRaw Q B v l f m w) {i : Nat} (hi : w.heap.size ≤ i) : QOff Q B v i :=
  ⟨fun e => by have := ltHeap h.obj; omega, fun e => by have := h.mp.lt; omega, fun e => by have := (h.row.lt i e.symm).2; omega⟩
end
theorem zero3 : ∀ w, (zeroValue 3).run Try.prog w = .ok (.int .i64 0) w := fun _ => by kernel_rfl
end Tk

theorem qlen {Q B m : Nat} {v : Value} {l : List Tk.Tm} {f : ByteArray → Option Int} {w : World} (h : Tk.QRaw Q B v l f m w) :
    Calls Try.prog 26 #[.pointer (some ⟨Q, 0, none⟩)] w fun e w' => e = .returned (.int .i64 (l.length : Int)) ∧ w = w' := by
  obtain ⟨A, n, rfl⟩ := h.form
  have c0 := h.c0
  clear h
  go_enter Try.func26, Try.ntmps26
  go_wp2_with fail
  go_ret
  exact ⟨rfl, rfl⟩

theorem qhas {Q B m : Nat} {v : Value} {l : List Tk.Tm} {f : ByteArray → Option Int} {w : World} (h : Tk.QRaw Q B v l f m w) (k : ByteArray) (hk : k.size ≤ maxLen) :
    Calls Try.prog 25 #[.pointer (some ⟨Q, 0, none⟩), .string k] w fun e w' => e = .returned (.bool (f k).isSome) ∧ w = w' := by
  have c1 := h.c1
  have HL := Lib.hid (h.mp.look Try.underlying3 Try.underlying56 (Tk.zero3 _) k hk)
  obtain ⟨r, hr⟩ : ∃ r, r = (f k).isSome := ⟨_, rfl⟩
  obtain ⟨d, hd⟩ : ∃ d, d = (f k).getD 0 := ⟨_, rfl⟩
  rw [← hr, ← hd] at HL
  have HR := Lib.hid hr
  clear h hr hd hk
  go_enter Try.func25, Try.ntmps25
  go_wp2_with (at_lookup; refine Tk.wpl_look _ rfl _ _ _ rfl _ _ _ rfl rfl HL.out ?_)
  go_ret
  exact ⟨by rw [← HR.out]; rfl, rfl⟩

theorem tor_at (ca cb : Int) (W : World) : ∀ (W' : World) (c : Nat), W'.heap = (W.alloc (.cells #[.int .i64 ca, .int .i64 cb] 3)).heap → Calls Try.prog 85 #[.slice (some ⟨W.heap.size, 0, none⟩) 2 c] W' fun e w' => e = .returned (.int .i64 (Tk.orR ca cb)) ∧ W' = w' := fun W' c hW => by
  have hb : W'.heap[W.heap.size]? = some (.cells #[.int .i64 ca, .int .i64 cb] 3 (0, 0)) := by rw [hW]; exact heap_alloc_new W _
  exact tor ca cb ⟨W.heap.size, 0, none⟩ c W' (cell_of_row _ _ 0 _ _ _ hb) (cell_of_row _ _ 1 _ _ _ hb)

set_option maxRecDepth 20000 in
set_option maxHeartbeats 2000000 in
theorem qless {Q B m : Nat} {v : Value} {l : List Tk.Tm} {f : ByteArray → Option Int} {w : World} (h : Tk.QRaw Q B v l f m w) (i j : Nat) (hi : i < l.length) (hj : j < l.length) :
    Calls Try.prog 81 #[.pointer (some ⟨Q, 0, none⟩), .int .i64 (i : Int), .int .i64 (j : Int)] w fun e w' => e = .returned (.bool (Tk.lt l[i] l[j])) ∧ Below w.heap.size w w' := by
  obtain ⟨A, n, rfl⟩ := h.form
  have c0 := h.c0
  have hQ := Tk.ltHeap h.obj
  obtain ⟨p, rfl, hpb, hi0, hi1⟩ := Tk.at2 (Tk.own_lies h.row) hi
  obtain ⟨p', e, _, hj0, hj1⟩ := Tk.at2 (Tk.own_lies h.row) hj
  cases e
  have hlt := Tk.or_lt l[i] l[j]
  generalize l[i] = x at hi0 hi1 hlt ⊢
  generalize l[j] = y at hj0 hj1 hlt ⊢
  obtain ⟨x1, x2⟩ := x
  obtain ⟨y1, y2⟩ := y
  simp only [] at hi0 hi1 hj0 hj1 hlt
  have HA : Hid (∀ w, Calls Try.prog 86 #[.int .i64 x2, .int .i64 y2] w fun e w' => e = .returned (.int .i64 (Lib.compareInt x2 y2)) ∧ w = w') := fun w => tcmp x2 y2 w
  have HB : Hid (∀ w, Calls Try.prog 36 #[.string x1, .string y1] w fun e w' => e = .returned (.int .i64 (Lib.compareBytes x1.data.toList y1.data.toList)) ∧ w = w') := fun w => tscmp x1 y1 w
  generalize Lib.compareInt x2 y2 = ca at HA hlt
  generalize Lib.compareBytes x1.data.toList y1.data.toList = cb at HB hlt
  have HLT := Lib.hid hlt
  have i0 : (0 : Int) ≤ (i : Int) := by omega
  have i1 : (i : Int) < l.length := by omega
  have j0 : (0 : Int) ≤ (j : Int) := by omega
  have j1 : (j : Int) < l.length := by omega
  have bi : (p.add (i * 2)).block < w.heap.size := by rw [Lies.add_block]; exact hpb
  have bj : (p.add (j * 2)).block < w.heap.size := by rw [Lies.add_block]; exact hpb
  clear h hlt hi hj
  go_enter Try.func81, Try.ntmps81
  go_wp2_with fail
  go_region
  · obtain ⟨W, hW⟩ : ∃ W, W = ((w.alloc (.cells #[.string x1, .int .i64 x2] 42)).alloc (.cells #[.string y1, .int .i64 y2] 42)).drew := ⟨_, rfl⟩
    have hb1 : W.heap[w.heap.size]? = some (.cells #[.string x1, .int .i64 x2] 42 (0, 0)) := by rw [hW]; exact heap_alloc2_old w _ _
    have hb2 : W.heap[w.heap.size + 1]? = some (.cells #[.string y1, .int .i64 y2] 42 (0, 0)) := by rw [hW]; exact heap_alloc2_new w _ _
    have HB0 : Hid (Below w.heap.size w W) := by rw [hW]; exact (((Below.refl _ _).alloc (Nat.le_refl _) _).alloc (by simp) _).drew
    have hWs : w.heap.size ≤ W.heap.size := HB0.out.size
    have K : W.cell? ⟨w.heap.size, 0, none⟩ = some (.string x1) ∧ W.cell? ⟨w.heap.size, 1, none⟩ = some (.int .i64 x2) ∧ W.cell? ⟨w.heap.size + 1, 0, none⟩ = some (.string y1) ∧ W.cell? ⟨w.heap.size + 1, 1, none⟩ = some (.int .i64 y2) :=
      ⟨cell_of_row _ _ 0 _ _ _ hb1, cell_of_row _ _ 1 _ _ _ hb1, cell_of_row _ _ 0 _ _ _ hb2, cell_of_row _ _ 1 _ _ _ hb2⟩
    have HK := Lib.hid K
    rw [← hW]
    clear hW hb1 hb2 c0 hi0 hi1 hj0 hj1 K
    obtain ⟨K0, K1, K2, K3⟩ := HK.out
    have HO := Lib.hid (tor_at ca cb W (W.alloc (.cells #[.int .i64 ca, .int .i64 cb] 3)).drew 2 rfl)
    have HBE : Hid (Below w.heap.size w (W.alloc (.cells #[.int .i64 ca, .int .i64 cb] 3)).drew) := (HB0.out.alloc hWs _).drew
    go_wp2_with fail
    go_region_held3 (fun w' => w'.cell? ⟨w.heap.size, 0, none⟩ = some (.string x1) ∧ w'.cell? ⟨w.heap.size, 1, none⟩ = some (.int .i64 x2) ∧ w'.cell? ⟨w.heap.size + 1, 0, none⟩ = some (.string y1) ∧ w'.cell? ⟨w.heap.size + 1, 1, none⟩ = some (.int .i64 y2))
      (first | exact HK.out | go_keep)
      (first
      | (go_at_call 86; refine (HA.out _).mono ?_; rintro e w' ⟨rfl, rfl⟩)
      | (go_at_call 36; refine (HB.out _).mono ?_; rintro e w' ⟨rfl, rfl⟩)
      | (go_at_call 85; refine HO.out.mono ?_; rintro e w' ⟨rfl, rfl⟩))
    all_goals
      simp only [Exit.then]
      go_at_K
      go_wp2_with fail
      go_ret
      exact ⟨by rw [HLT.out]; rfl, HBE.out⟩
  · obtain ⟨W, hW⟩ : ∃ W, W = ((w.alloc (.cells #[.string y1, .int .i64 y2] 42)).alloc (.cells #[.string x1, .int .i64 x2] 42)).drew := ⟨_, rfl⟩
    have hb1 : W.heap[w.heap.size]? = some (.cells #[.string y1, .int .i64 y2] 42 (0, 0)) := by rw [hW]; exact heap_alloc2_old w _ _
    have hb2 : W.heap[w.heap.size + 1]? = some (.cells #[.string x1, .int .i64 x2] 42 (0, 0)) := by rw [hW]; exact heap_alloc2_new w _ _
    have HB0 : Hid (Below w.heap.size w W) := by rw [hW]; exact (((Below.refl _ _).alloc (Nat.le_refl _) _).alloc (by simp) _).drew
    have hWs : w.heap.size ≤ W.heap.size := HB0.out.size
    have K : W.cell? ⟨w.heap.size, 0, none⟩ = some (.string y1) ∧ W.cell? ⟨w.heap.size, 1, none⟩ = some (.int .i64 y2) ∧ W.cell? ⟨w.heap.size + 1, 0, none⟩ = some (.string x1) ∧ W.cell? ⟨w.heap.size + 1, 1, none⟩ = some (.int .i64 x2) :=
      ⟨cell_of_row _ _ 0 _ _ _ hb1, cell_of_row _ _ 1 _ _ _ hb1, cell_of_row _ _ 0 _ _ _ hb2, cell_of_row _ _ 1 _ _ _ hb2⟩
    have HK := Lib.hid K
    rw [← hW]
    clear hW hb1 hb2 c0 hi0 hi1 hj0 hj1 K
    obtain ⟨K0, K1, K2, K3⟩ := HK.out
    have HO := Lib.hid (tor_at ca cb W (W.alloc (.cells #[.int .i64 ca, .int .i64 cb] 3)).drew 2 rfl)
    have HBE : Hid (Below w.heap.size w (W.alloc (.cells #[.int .i64 ca, .int .i64 cb] 3)).drew) := (HB0.out.alloc hWs _).drew
    go_wp2_with fail
    go_region_held3 (fun w' => w'.cell? ⟨w.heap.size, 0, none⟩ = some (.string y1) ∧ w'.cell? ⟨w.heap.size, 1, none⟩ = some (.int .i64 y2) ∧ w'.cell? ⟨w.heap.size + 1, 0, none⟩ = some (.string x1) ∧ w'.cell? ⟨w.heap.size + 1, 1, none⟩ = some (.int .i64 x2))
      (first | exact HK.out | go_keep)
      (first
      | (go_at_call 86; refine (HA.out _).mono ?_; rintro e w' ⟨rfl, rfl⟩)
      | (go_at_call 36; refine (HB.out _).mono ?_; rintro e w' ⟨rfl, rfl⟩)
      | (go_at_call 85; refine HO.out.mono ?_; rintro e w' ⟨rfl, rfl⟩))
    all_goals
      simp only [Exit.then]
      go_at_K
      go_wp2_with fail
      go_ret
      exact ⟨by rw [HLT.out]; rfl, HBE.out⟩
end Go.Proofs.Ytnojjfpccnmbeaa
