/-
  Law 9: that a small known run is as it should be.
-/
import Derived.Test.YtfhengihdlojmaaPkF
namespace Go.Proofs.Ytfhengihdlojmaa
open Go.RowKit

namespace Gm
abbrev gA : ByteArray := ⟨#[97]⟩
abbrev gB : ByteArray := ⟨#[98]⟩
abbrev gC : ByteArray := ⟨#[99]⟩
theorem wk1 : sendC 0 gA [1, 2] 0 = 0 ∧ sendN 0 gA [1, 2] 0 = 2 ∧ sendM 0 gA [1, 2] 0 [] = 2 ∧ sendL 0 gA [1, 2] 0 [] = [⟨1, 0, 1, gA⟩, ⟨2, 0, 2, gA⟩] := ⟨by decide, by decide, by decide, rfl⟩
theorem wk2 : dblC 1 [⟨1, 0, 1, gA⟩, ⟨2, 0, 2, gA⟩] = 0 ∧ dblN 1 2 [⟨1, 0, 1, gA⟩, ⟨2, 0, 2, gA⟩] = 3 ∧ dblM 1 2 [⟨1, 0, 1, gA⟩, ⟨2, 0, 2, gA⟩] = 3 ∧ dblL 1 2 [⟨1, 0, 1, gA⟩, ⟨2, 0, 2, gA⟩] = [⟨1, 0, 1, gA⟩, ⟨2, 0, 2, gA⟩, ⟨3, 0, 1, gA⟩] := ⟨by decide, by decide, by decide, rfl⟩
theorem wk3 : dropAll [1, 9] [⟨1, 0, 1, gA⟩, ⟨2, 0, 2, gA⟩, ⟨3, 0, 1, gA⟩] = [⟨2, 0, 2, gA⟩, ⟨3, 0, 1, gA⟩] := rfl
theorem wk4 : takeE 3 [] [⟨2, 0, 2, gA⟩, ⟨3, 0, 1, gA⟩] = .returned (.tuple #[.agg #[.int .u64 3, .int .i64 0, .int .i64 1, .string gA], .int .i64 0]) ∧ takeL 3 [] [⟨2, 0, 2, gA⟩, ⟨3, 0, 1, gA⟩] = [⟨2, 0, 2, gA⟩] := ⟨rfl, rfl⟩
theorem wk5 : takeE 3 [] [⟨2, 0, 2, gA⟩] = .returned (.tuple #[.agg #[.int .u64 0, .int .i64 0, .int .i64 0, .string ⟨#[]⟩], .int .i64 5]) ∧ takeL 3 [] [⟨2, 0, 2, gA⟩] = [⟨2, 0, 2, gA⟩] := ⟨rfl, rfl⟩
theorem wk6 : cutC 0 1 = 0 ∧ cutL 0 1 [] = [(0, 1)] := ⟨by decide, by decide⟩
theorem wk7 : sendM 0 gB [1] 3 [⟨2, 0, 2, gA⟩] = 4 ∧ sendL 0 gB [1] 3 [⟨2, 0, 2, gA⟩] = [⟨2, 0, 2, gA⟩, ⟨4, 0, 1, gB⟩] := ⟨by decide, rfl⟩
theorem wk8 : sendM 1 gC [0] 4 [⟨2, 0, 2, gA⟩, ⟨4, 0, 1, gB⟩] = 5 ∧ sendL 1 gC [0] 4 [⟨2, 0, 2, gA⟩, ⟨4, 0, 1, gB⟩] = [⟨2, 0, 2, gA⟩, ⟨4, 0, 1, gB⟩, ⟨5, 1, 0, gC⟩] := ⟨by decide, rfl⟩
theorem wk9 : (ids [⟨2, 0, 2, gA⟩, ⟨4, 0, 1, gB⟩, ⟨5, 1, 0, gC⟩]).filter (fun x => !stopF [(0, 1)] [⟨2, 0, 2, gA⟩, ⟨4, 0, 1, gB⟩, ⟨5, 1, 0, gC⟩] x) = [2, 5] := rfl
end Gm

set_option maxRecDepth 20000 in
set_option maxHeartbeats 4000000 in
theorem alive9_any (w : World) : Calls Try.prog 5 #[] w fun e w' => e = .returned (.bool true) ∧ Below w.heap.size w w' := by
  have HNW := Lib.hid (glw_new w)
  go_enter Try.func5, Try.ntmps5
  go_wp2_with fail
  refine HNW.out.mono ?_
  rintro e w1 ⟨R, B, C, rfl, h1⟩
  -- Send(0, a, 1, 2)
  obtain ⟨V, hV⟩ : ∃ V, V = w1.alloc (.cells #[.int .i64 1, .int .i64 2] 3) := ⟨_, rfl⟩
  have hbV : Below w1.heap.size w1 V := by rw [hV]; exact (Below.refl _ _).alloc (Nat.le_refl _) _
  have HC := Lib.hid (glw_send (h1.below hbV) (by omega) 0 Gm.gA [1, 2] (some ⟨w1.heap.size, 0, none⟩) 2 (by rw [hV]; exact Gm.lies_two w1 1 2 _) (fun p hp => by obtain rfl := Option.some.inj hp; exact h1.p.fresh (Nat.le_refl _)) (by simp))
  simp only [List.length_nil] at HC
  rw [Gm.wk1.1, Gm.wk1.2.1, Gm.wk1.2.2.1, Gm.wk1.2.2.2] at HC
  clear h1 hbV
  go_wp2_with fail
  rw [← hV]
  clear hV
  refine HC.out.mono ?_
  rintro e w2 ⟨rfl, h2, _⟩
  -- Double(1)
  have HC2 := Lib.hid (glw_double h2 (by omega) 1 (by omega) (by omega))
  rw [Gm.wk2.1, Gm.wk2.2.1, Gm.wk2.2.2.1, Gm.wk2.2.2.2] at HC2
  clear h2 HC
  go_wp2_with fail
  refine HC2.out.mono ?_
  rintro e w3 ⟨rfl, h3, _⟩
  -- Drop(1, 9)
  obtain ⟨V3, hV3⟩ : ∃ V, V = w3.alloc (.cells #[.int .u64 1, .int .u64 9] 28) := ⟨_, rfl⟩
  have hbV3 : Below w3.heap.size w3 V3 := by rw [hV3]; exact (Below.refl _ _).alloc (Nat.le_refl _) _
  have HC3 := Lib.hid (glw_drop (h3.below hbV3) [1, 9] (some ⟨w3.heap.size, 0, none⟩) 2 (by rw [hV3]; exact Gm.lies_twoU w3 1 9 _) (fun p hp => by obtain rfl := Option.some.inj hp; exact h3.p.fresh (Nat.le_refl _)) (by simp) (fun x hx => by
    simp only [List.mem_cons, List.not_mem_nil, or_false] at hx
    rcases hx with rfl | rfl <;> omega))
  rw [Gm.wk3] at HC3
  simp only [List.length_cons, List.length_nil] at HC3
  clear h3 hbV3 HC2
  go_wp2_with fail
  rw [← hV3]
  clear hV3
  refine HC3.out.mono ?_
  rintro e w4 ⟨rfl, h4, _⟩
  -- Take(3)
  have HC4 := Lib.hid (glw_take h4 3 (by omega) (by omega))
  rw [Gm.wk4.1, Gm.wk4.2] at HC4
  clear h4 HC3
  go_wp2_with fail
  refine HC4.out.mono ?_
  rintro e w5 ⟨rfl, h5, _⟩
  -- Take(3)
  obtain ⟨V5, hV5⟩ : ∃ V, V = w5.alloc (.cells #[.int .u64 3, .int .i64 0, .int .i64 1, .string Gm.gA] 41) := ⟨_, rfl⟩
  have hbV5 : Below w5.heap.size w5 V5 := by rw [hV5]; exact (Below.refl _ _).alloc (Nat.le_refl _) _
  have hr5 : V5.heap[w5.heap.size]? = some (.cells #[.int .u64 3, .int .i64 0, .int .i64 1, .string Gm.gA] 41 (0, 0)) := by rw [hV5]; exact heap_alloc_new w5 _
  have hof := h5.p.fresh (Nat.le_refl w5.heap.size)
  have HC5 := Lib.hid (glw_take (h5.below hbV5) 3 (by omega) (by omega))
  rw [Gm.wk5.1, Gm.wk5.2] at HC5
  have HR5 := Lib.hid (And.intro hr5 hof)
  clear h5 hbV5 hr5 hof HC4
  go_wp2_with fail
  rw [← hV5]
  clear hV5
  refine HC5.out.mono ?_
  rintro e w6 ⟨rfl, h6, m6⟩
  have hr6 := (m6.block _ (Gm.ltHeap HR5.out.1) HR5.out.2).trans HR5.out.1
  -- Cut(0, 1)
  obtain ⟨V6, hV6⟩ : ∃ V, V = w6.alloc (.cells #[.int .u64 0, .int .i64 0, .int .i64 0, .string ⟨#[]⟩] 41) := ⟨_, rfl⟩
  have hbV6 : Below w6.heap.size w6 V6 := by rw [hV6]; exact (Below.refl _ _).alloc (Nat.le_refl _) _
  have HC6 := Lib.hid (glw_cut (h6.below hbV6) (by simp) 0 1)
  rw [Gm.wk6.1, Gm.wk6.2] at HC6
  have HR6 := Lib.hid (And.intro ((hbV6.block _ (Gm.ltHeap hr6)).trans hr6) HR5.out.2)
  clear h6 hbV6 hr6 m6 HC5 HR5
  go_wp2_with fail
  rw [← hV6]
  clear hV6
  refine HC6.out.mono ?_
  rintro e w7 ⟨rfl, h7, m7⟩
  have hr7 := (m7.block _ (Gm.ltHeap HR6.out.1) HR6.out.2).trans HR6.out.1
  -- Send(0, b, 1)
  obtain ⟨V7, hV7⟩ : ∃ V, V = w7.alloc (.cells #[.int .i64 1] 3) := ⟨_, rfl⟩
  have hbV7 : Below w7.heap.size w7 V7 := by rw [hV7]; exact (Below.refl _ _).alloc (Nat.le_refl _) _
  have HC7 := Lib.hid (glw_send (h7.below hbV7) (by omega) 0 Gm.gB [1] (some ⟨w7.heap.size, 0, none⟩) 1 (by rw [hV7]; exact Gm.lies_one w7 1 _) (fun p hp => by obtain rfl := Option.some.inj hp; exact h7.p.fresh (Nat.le_refl _)) (by simp))
  rw [Gm.wk7.1, Gm.wk7.2] at HC7
  have HR7 := Lib.hid (And.intro ((hbV7.block _ (Gm.ltHeap hr7)).trans hr7) HR6.out.2)
  clear h7 hbV7 hr7 m7 HC6 HR6
  go_wp2_with fail
  rw [← hV7]
  clear hV7
  refine HC7.out.mono ?_
  rintro e w8 ⟨rfl, h8, m8⟩
  have hr8 := (m8.block _ (Gm.ltHeap HR7.out.1) HR7.out.2).trans HR7.out.1
  -- Send(1, c, 0)
  obtain ⟨V8, hV8⟩ : ∃ V, V = w8.alloc (.cells #[.int .i64 0] 3) := ⟨_, rfl⟩
  have hbV8 : Below w8.heap.size w8 V8 := by rw [hV8]; exact (Below.refl _ _).alloc (Nat.le_refl _) _
  have HC8 := Lib.hid (glw_send (h8.below hbV8) (by omega) 1 Gm.gC [0] (some ⟨w8.heap.size, 0, none⟩) 1 (by rw [hV8]; exact Gm.lies_one w8 0 _) (fun p hp => by obtain rfl := Option.some.inj hp; exact h8.p.fresh (Nat.le_refl _)) (by simp))
  rw [Gm.wk8.1, Gm.wk8.2] at HC8
  have HR8 := Lib.hid (And.intro ((hbV8.block _ (Gm.ltHeap hr8)).trans hr8) HR7.out.2)
  clear h8 hbV8 hr8 m8 HC7 HR7
  go_wp2_with fail
  rw [← hV8]
  clear hV8
  refine HC8.out.mono ?_
  rintro e w9 ⟨rfl, h9, m9⟩
  have hr9 := (m9.block _ (Gm.ltHeap HR8.out.1) HR8.out.2).trans HR8.out.1
  -- Ready
  have HC9 := Lib.hid (glw_ready h9 (by omega) (updq_small _ (by simp)))
  rw [Gm.wk9] at HC9
  have HR9 := Lib.hid (And.intro hr9 h9.bel)
  clear h9 hr9 m9 HC8 HR8
  go_wp2_with fail
  refine HC9.out.mono ?_
  rintro e w10 ⟨v, rfl, hrow, hb10⟩
  have hbb : Below w.heap.size w w10 := HR9.out.2.trans (hb10.mono HR9.out.2.size)
  have hr10 := (hb10.block _ (Gm.ltHeap HR9.out.1)).trans HR9.out.1
  obtain ⟨A, c, rfl⟩ := Gm.own_form hrow
  have hli : Lies w10 w10.heap.size A (Gm.ucells [2, 5]) := fun hp => by
    rcases hrow.2 with ⟨e, h0⟩ | ⟨g, cap, cur, e1, hg, hh, _⟩
    · simp at h0
    · obtain rfl : A = some ⟨g, 0, none⟩ := by injection e1
      exact ⟨⟨g, 0, none⟩, rfl, (hrow.lt g rfl).2, fun j u hu => hrow.cells (g := g) rfl j u hu⟩
  obtain ⟨p, rfl, _, hp0⟩ := hli.at_ (k := 0) rfl
  obtain ⟨p', e', _, hp1⟩ := hli.at_ (k := 1) rfl
  obtain rfl := Option.some.inj e'
  replace hp0 : w10.cell? p = some (.int .u64 2) := hp0
  replace hp1 : w10.cell? ⟨p.block, p.off + 1, none⟩ = some (.int .u64 5) := hp1
  have x0 : w10.cell? ⟨w5.heap.size, 0, none⟩ = some (.int .u64 3) := cell_of_row _ _ 0 _ _ _ hr10
  have x1 : w10.cell? ⟨w5.heap.size, 1, none⟩ = some (.int .i64 0) := cell_of_row _ _ 1 _ _ _ hr10
  have x2 : w10.cell? ⟨w5.heap.size, 2, none⟩ = some (.int .i64 1) := cell_of_row _ _ 2 _ _ _ hr10
  have x3 : w10.cell? ⟨w5.heap.size, 3, none⟩ = some (.string Gm.gA) := cell_of_row _ _ 3 _ _ _ hr10
  have HE := Lib.hid hbb
  clear hbb hr10 hrow hb10 hli HR9 HC9
  go_wp2_with fail
  go_ret
  exact ⟨rfl, HE.out⟩
end Go.Proofs.Ytfhengihdlojmaa
