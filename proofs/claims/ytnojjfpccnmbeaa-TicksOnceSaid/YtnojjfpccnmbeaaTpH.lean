/-
  The program's queue: Push; container/heap's Push, Fix, Remove at it.
-/
import Derived.Test.YtnojjfpccnmbeaaTpG
import Derived.StillTailTactics
namespace Go.Proofs.Ytnojjfpccnmbeaa
open Go.RowKit

set_option maxRecDepth 20000 in
set_option maxHeartbeats 4000000 in
theorem qpush {Q B : Nat} {v : Value} {l : List Tk.Tm} {w : World} (h : Tk.QTm Q B v l w) (hl : l.length ≤ 99990) (x : Tk.Tm) (hno : ∀ y ∈ l, y.1 ≠ x.1) (hxk : x.1.size ≤ 64) :
    Calls Try.prog 83 #[.pointer (some ⟨Q, 0, none⟩), .iface 42 (Tk.tmV x)] w fun e w' => e = .returned (.tuple #[]) ∧ ∃ v', Tk.QTm Q B v' (l ++ [x]) w' ∧ Tk.Mvt (Tk.QOff Q B v) (Tk.QOff Q B v') w w' := by
  obtain ⟨f, h1, hix⟩ := h.raw
  obtain ⟨A, n, rfl⟩ := h1.form
  obtain ⟨x1, x2⟩ := x
  simp only [] at hno hxk
  have c0 := h1.c0
  have hQ := Tk.ltHeap h1.obj
  have fq := frozen_of_row _ _ 0 _ _ h1.obj
  obtain ⟨i0, hi0, hz0, hz1, hz2⟩ := info_parts Tk.tm_info
  have HROW := Lib.hid h1.row
  have HEND : Hid (∀ (g cap : Nat) (w3 : World), w3.ownsRow 0 42 2 (.slice (some ⟨g, 0, none⟩) (l.length + 1) cap) (l.length + 1) (Tk.tks l ++ [Value.string ⟨#[]⟩, Value.int .i64 0]) →
      (w.alloc (.cells #[.string ⟨#[]⟩, .int .i64 0] 42)).grownBy w3 (Value.slice A l.length n).ownBlock → ((Value.slice A l.length n).ownBlock = some g ∨ g = w.heap.size + 1) →
      w3.cell? ⟨Q, 0, none⟩ = some (.slice A l.length n) ∧ w3.frozen? ⟨Q, 0, none⟩ = false ∧
      Tk.QRaw Q B (.slice (some ⟨g, 0, none⟩) (l.length + 1) cap) (l ++ [(⟨#[]⟩, 0)]) f l.length (w3.setCell ⟨Q, 0, none⟩ (.slice (some ⟨g, 0, none⟩) (l.length + 1) cap)) ∧
      Tk.Mvt (Tk.QOff Q B (.slice A l.length n)) (Tk.QOff Q B (.slice (some ⟨g, 0, none⟩) (l.length + 1) cap)) w (w3.setCell ⟨Q, 0, none⟩ (.slice (some ⟨g, 0, none⟩) (l.length + 1) cap))) := fun g cap w3 hown hg hat => by
    have hk : ∀ j, j < w.heap.size → some j ≠ (Value.slice A l.length n).ownBlock → w3.heap[j]? = w.heap[j]? := fun j hj hne => (hg.block j (by simp; omega) hne).trans (Below.heap_alloc _ _ _ hj)
    have hB := h1.mp.lt
    have hgQ : g ≠ Q := by
      rcases hat with h0 | h0
      · exact fun e => h1.neQ (by rw [h0, e])
      · omega
    have hgB : g ≠ B := by
      rcases hat with h0 | h0
      · exact fun e => h1.neB (by rw [h0, e])
      · omega
    have ho : w3.heap[Q]? = some (.cells #[.slice A l.length n, .map (some B)] 60 (0, 0)) := (hk Q hQ (fun e => h1.neQ e.symm)).trans h1.obj
    have hs : ∀ j, j ≠ Q → (w3.setCell ⟨Q, 0, none⟩ (.slice (some ⟨g, 0, none⟩) (l.length + 1) cap)).heap[j]? = w3.heap[j]? := fun j hj => Below.heap_setCell _ _ _ _ hj
    refine ⟨cell_of_row _ _ 0 _ _ _ ho, frozen_of_row _ _ 0 _ _ ho, ⟨?_, ?_, h1.mp.of_block ((hs B (fun e => h1.QB e.symm)).trans (hk B hB (fun e => h1.neB e.symm))), ?_, ?_, h1.QB⟩, ?_⟩
    · rw [heap_setCell_same _ _ _ _ _ _ ho]; rfl
    · rw [List.length_append]
      have := Tk.ownsKeep hown (w' := w3.setCell ⟨Q, 0, none⟩ (.slice (some ⟨g, 0, none⟩) (l.length + 1) cap)) (fun j hj => hs j (fun e => hgQ (by injection hj with hj; exact hj.trans e)))
      rw [Tk.tks_snoc]
      exact this
    · exact fun e => hgQ (by injection e)
    · exact fun e => hgB (by injection e)
    · refine ⟨hg.os, hg.tape, hg.output, Nat.le_trans (Nat.le_trans (by simp) hg.size) (by simp [World.setCell]), fun j hj ho2 => (hs j ho2.1).trans (hk j hj ho2.2.2), fun j hj ho2 => ⟨ho2.1, ho2.2.1, fun e => ?_⟩⟩
      have ej : j = g := by injection e
      rcases hat with h0 | h0
      · exact ho2.2.2 (by rw [h0, ej])
      · omega
  have HPUT : Hid (∀ (v' : Value) W, Tk.QRaw Q B v' (l ++ [(⟨#[]⟩, 0)]) f l.length W → Calls Try.prog 87 #[.pointer (some ⟨Q, 0, none⟩), .int .i64 (l.length : Int), .agg #[.string x1, .int .i64 x2]] W fun e w' => e = .returned (.tuple #[]) ∧
      Tk.QTm Q B v' (l ++ [(x1, x2)]) w' ∧ Tk.Mvt (Tk.QOff Q B v') (Tk.QOff Q B v') W w') := fun v' W hW => by
    refine (qput hW (by omega) l.length (by simp) (by simp; omega) x1 x2 (by unfold maxLen; omega)).mono ?_
    rintro e w' ⟨he, hq, hm⟩
    have hset : (l ++ [((⟨#[]⟩ : ByteArray), (0 : Int))]).set l.length (x1, x2) = l ++ [(x1, x2)] := by
      rw [List.set_append_right _ _ (Nat.le_refl _)]
      simp
    have hno2 : (f x1).isSome = false := by
      rw [hix.some_iff]
      cases e : Tk.has x1 l with
      | false => rfl
      | true =>
        obtain ⟨y, hy, hk⟩ := Tk.has_iff.1 e
        exact absurd hk (hno y hy)
    have hput : Tk.mput f x1 l.length = (l ++ [(x1, x2)]).length := by
      unfold Tk.mput
      rw [hno2]
      simp
    rw [hset, hput] at hq
    refine ⟨he, ⟨⟨_, hq, hix.push hno⟩, ?_, fun y hy => ?_⟩, hm⟩
    · refine List.pairwise_append.2 ⟨h.dist, List.pairwise_singleton .., fun y hy z hz => ?_⟩
      rw [List.mem_singleton.1 hz]
      exact hno y hy
    · rcases List.mem_append.1 hy with hy | hy
      · exact h.keys y hy
      · rw [List.mem_singleton.1 hy]; exact hxk
  have hbuild : ∀ w, (Instr.build 42 #[]).run Try.prog w = .ok (.agg #[.string ⟨#[]⟩, .int .i64 0]) w := fun _ => by kernel_rfl
  clear h h1 hix hno hxk
  unfold Tk.tmV
  simp only []
  go_enter Try.func83, Try.ntmps83
  go_wp2_with (at_builtin; refine wpList_append_lies _ rfl _ _ 28 rfl 0 42 i0 (.agg #[.string ⟨#[]⟩, .int .i64 0]) 2 24 Try.underlying28 hi0 hz0 hz1 hz2 rfl (by decide) _ _ _ rfl (HROW.out.alloc _) ⟨w.heap.size, 0, none⟩ 1 1 [.string ⟨#[]⟩, .int .i64 0] rfl rfl (Tk.cellTwoTm w (.string ⟨#[]⟩) (.int .i64 0) 42) (by simp [Value.oneCell']) (by omega) (by unfold maxLen; omega) (by omega) (Nat.zero_le _) (w.heap.size + 1) (by simp) ?_)
  intro g cap w3 hown hg hat hlt3
  obtain ⟨cq, fq3, hq3, hm3⟩ := HEND.out g cap w3 hown hg hat
  have HQ3 := Lib.hid hq3
  have HM3 := Lib.hid hm3
  clear hown hg hat hlt3 hq3 hm3 c0 fq hi0 hz0 hz1 hz2
  obtain ⟨W, hW⟩ : ∃ W, W = w3.setCell ⟨Q, 0, none⟩ (.slice (some ⟨g, 0, none⟩) (l.length + 1) cap) := ⟨_, rfl⟩
  rw [← hW] at HQ3 HM3
  go_wp2_with fail
  rw [← hW]
  clear hW cq fq3
  obtain ⟨m1, hm1⟩ : ∃ m1, m1 = l.length + 1 := ⟨_, rfl⟩
  have him : (m1 : Int) - 1 = (l.length : Int) := by omega
  have him9 : (m1 : Int) ≤ 99999 := by omega
  have HLEN : Hid (∀ W', W'.heap = W.heap → Calls Try.prog 26 #[.pointer (some ⟨Q, 0, none⟩)] W' fun e w' => e = .returned (.int .i64 (m1 : Int)) ∧ W' = w') := fun W' hb => by
    obtain ⟨A', n', e⟩ := HQ3.out.form
    have c0 : W'.cell? ⟨Q, 0, none⟩ = some (.slice (some ⟨g, 0, none⟩) (l.length + 1) cap) := (World.cell?_of_block (by rw [hb])).trans HQ3.out.c0
    rw [← hm1] at c0
    clear hm1 e
    go_enter Try.func26, Try.ntmps26
    go_wp2_with fail
    go_ret
    exact ⟨rfl, rfl⟩
  have HP : Hid (Calls Try.prog 87 #[.pointer (some ⟨Q, 0, none⟩), .int .i64 (l.length : Int), .agg #[.string x1, .int .i64 x2]] W.drew fun e w' => e = .returned (.tuple #[]) ∧ w'.os = W.os ∧
      Hid (∃ v', Tk.QTm Q B v' (l ++ [(x1, x2)]) w' ∧ Tk.Mvt (Tk.QOff Q B (.slice A l.length n)) (Tk.QOff Q B v') w w')) := by
    refine (HPUT.out _ (W.drew) (HQ3.out.below (below_drewN (Below.refl _ _) 1))).mono ?_
    rintro e w5 ⟨he, hq5, hm5⟩
    exact ⟨he, hm5.os, ⟨_, hq5, (HM3.out.trans (.of_below (below_drewN (Below.refl _ _) 1))).trans hm5⟩⟩
  have HLEN2 : Hid (Calls Try.prog 26 #[.pointer (some ⟨Q, 0, none⟩)] W.drew fun e w' => e = .returned (.int .i64 (m1 : Int)) ∧ w' = W.drew) := (HLEN.out W.drew rfl).mono fun _ _ h => ⟨h.1, h.2.symm⟩
  have hta : ∀ w, (Instr.typeAssert (.iface 42 (.agg #[.string x1, .int .i64 x2])) 20 42 false).run Try.prog w = .ok (.agg #[.string x1, .int .i64 x2]) w := fun _ => by kernel_rfl
  clear HPUT HEND HROW hm1 HLEN HQ3 HM3
  refine wp_region_still_tail 10 (by kernel_rfl) (by kernel_rfl) ?_
  simp only [List.take_succ_cons, List.take_zero, List.drop_succ_cons, List.drop_zero]
  still_step
  still_step
  still_step
  still_step
  still_step
  still_step
  still_call HLEN2.out
  still_step
  still_step
  still_step
  refine wpStill_nil ?_
  go_wp2_with fail
  refine HP.out.mono ?_
  rintro e w5 ⟨rfl, hos2, HE5⟩
  go_wp2_with fail
  go_end0
  exact ⟨rfl, HE5.out⟩
end Go.Proofs.Ytnojjfpccnmbeaa
