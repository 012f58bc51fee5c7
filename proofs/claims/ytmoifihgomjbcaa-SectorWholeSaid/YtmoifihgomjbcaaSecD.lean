/-
  Contracts of sector's put and Write.
-/
import Derived.Test.YtmoifihgomjbcaaSecC
namespace Go.Proofs.Ytmoifihgomjbcaa
open Go.RowKit
attribute [local go_sem ↓] Go.wp_at_zero Go.wp_at_succ

theorem Sec.grown_behind {w w2 : World} {o : Obj} {row : Option Nat} (h : (w.drew.alloc o).grownBy w2 row) : w.grownBy w2 row := by
  have e : (w.drew.alloc o).heap.size = w.heap.size + 1 := by simp
  have hs := h.size
  exact ⟨h.os, h.tape, h.output, by omega, fun i hi hne => (h.block i (by omega) hne).trans (Below.heap_alloc w.drew _ _ hi)⟩
theorem Sec.new_block {w : World} {r : Option Nat} {g n cap : Nat} (h : r = some g ∨ g = w.heap.size + 1) : (Value.slice (some ⟨g, 0, none⟩) n cap).ownBlock = r ∨ ∀ i, (Value.slice (some ⟨g, 0, none⟩) n cap).ownBlock = some i → w.heap.size ≤ i := by
  rcases h with h | h
  · exact .inl h.symm
  · refine .inr fun i hi => ?_
    have e : g = i := by simpa [Value.ownBlock] using hi
    omega
theorem Sec.range_keep {w w' : World} {b o : Nat} {cs : List Value} (h : w.rangeAt b o cs) (he : w'.heap[b]? = w.heap[b]?) : w'.rangeAt b o cs := fun j v hv => (World.cell?_of_block he).trans (h j v hv)

set_option maxHeartbeats 2000000 in
set_option maxRecDepth 100000 in
theorem sec_put (D : Sec.Bl) (s : Sec.St) (w : World) (h : Sec.At D s w) (hs : s.Ok) (k : Nat) (hk : k < s.n) (x : List UInt8) (hx : x.length = 128) (hlim : s.loose.length ≤ 1000000000) :
    Calls Try.prog 23 #[.pointer (some ⟨D.b, 0, none⟩), .int .i64 (k : Int), .agg (Sec.cel x).toArray] w fun e w' => e = .returned (.tuple #[]) ∧ Sec.Behind D (s.put k x) w w' := by
  have H := Lib.hid h
  have HS := Lib.hid hs
  have HX := Lib.hid hx
  have hn2 := hs.n2
  have hk0 : (0 : Int) ≤ (k : Int) := Int.natCast_nonneg _
  have hk1 : (k : Int) < (s.n : Int) := by omega
  have hu := Try.underlying57
  have hl : (Sec.cel x).length = 128 := by rw [Sec.cel_len, hx]
  have hi : (Try.prog.info? 57).map (·.size) = some (Sec.cel x).length := by rw [sec_size, hl]
  have h1 : ∀ v ∈ Sec.cel x, v.oneCell' = true := Sec.cel_one x
  have hne2 := h.ne2
  have hlb := h.ltb
  have hlm := h.ltm
  have q1 : (w.alloc (.cells (Sec.cel x).toArray 57)).drew.cell? ⟨D.b, 1, none⟩ = some (.slice (some ⟨D.m, 0, none⟩) s.n s.n) := by rw [World.cell?_drew, World.cell?_alloc_lt _ _ _ hlb]; exact h.c1
  have q2 : (w.alloc (.cells (Sec.cel x).toArray 57)).drew.rangeAt w.heap.size 0 (Sec.cel x) := by
    rw [World.rangeAt_drew]
    have := Sec.range_of_row (heap_alloc_new w (.cells (Sec.cel x).toArray 57)) 0 128
    rwa [List.drop_zero, List.take_of_length_le (by omega)] at this
  have q3 : (w.alloc (.cells (Sec.cel x).toArray 57)).drew.there D.m (k * 128) 128 := (World.there_drew ..).2 (World.there_alloc (h.there_now hs hk) _)
  have HROW0 : Hid (∀ k, D.v.ownBlock = some k → D.lo ≤ k ∧ k < w.heap.size) := h.row.lt
  clear h hs hx
  go_enter Try.func23, Try.ntmps23
  go_wp2
  go_region_held3 (fun w' => w'.cell? ⟨D.b, 1, none⟩ = some (.slice (some ⟨D.m, 0, none⟩) s.n s.n) ∧ w'.rangeAt w.heap.size 0 (Sec.cel x) ∧ w'.there D.m (k * 128) 128)
    ((first | exact ⟨q1, q2, q3⟩ | exact ⟨(World.cell?_setCells_out _ _ _ _ _ (fun e => absurd e hne2)).trans q1, World.rangeAt_setCells_apart q2 D.m _ _ (.inl (by omega)), World.there_setCells q3 _ _ _⟩)) (fail)
  have A0 : Sec.At D s (w.alloc (.cells (Sec.cel x).toArray 57)).drew ∧ Sec.Moves D D w (w.alloc (.cells (Sec.cel x).toArray 57)).drew :=
    have hb : Below w.heap.size w (w.alloc (.cells (Sec.cel x).toArray 57)).drew := ((Below.refl _ _).alloc (Nat.le_refl _) _).drew
    ⟨H.out.below hb, .of_below hb⟩
  have A1 := A0.1.now_set (Sec.grown_setCells D.m (Sec.cel x) (k * 128) _) (Sec.spl s.now (k * 128) x) (by
    rw [Sec.heap_setCells _ _ _ _ _ _ A0.1.now (by rw [hl, Sec.cel_len, HS.out.now]; omega), Sec.cel_spl])
  have R1 : ((w.alloc (.cells (Sec.cel x).toArray 57)).drew.setCells D.m (k * 128) (Sec.cel x)).rangeAt w.heap.size 0 (Sec.cel x) := World.rangeAt_setCells_apart q2 D.m _ _ (.inl (by omega))
  have A2 : Sec.At D { s with now := Sec.spl s.now (k * 128) x } ((w.alloc (.cells (Sec.cel x).toArray 57)).drew.setCells D.m (k * 128) (Sec.cel x)) ∧ Sec.Moves D D w ((w.alloc (.cells (Sec.cel x).toArray 57)).drew.setCells D.m (k * 128) (Sec.cel x)) := ⟨A1.1, A0.2.trans A1.2⟩
  have Z1 : w.heap.size < ((w.alloc (.cells (Sec.cel x).toArray 57)).drew.setCells D.m (k * 128) (Sec.cel x)).heap.size := by
    have := A1.2.size
    have e : (w.alloc (.cells (Sec.cel x).toArray 57)).drew.heap.size = w.heap.size + 1 := by simp
    omega
  clear A0 A1 q1 q2 q3 H
  revert R1 A2 Z1
  generalize (w.alloc (.cells (Sec.cel x).toArray 57)).drew.setCells D.m (k * 128) (Sec.cel x) = w1
  intro R1 A2 Z1
  obtain ⟨A1, M1⟩ := A2
  have hbs := sec_buildSlice k x HX.out
  obtain ⟨i, hi0, hz⟩ := Option.map_eq_some_iff.1 sec_wzero
  simp only [Prod.mk.injEq] at hz
  obtain ⟨z, hz1, hz2⟩ := Option.map_eq_some_iff.1 hz.1
  have HZ := Lib.hid hz
  have HZ1 := Lib.hid hz1
  have HZ2 := Lib.hid hz2
  have HI := Lib.hid hi0
  have HA := Lib.hid A1
  have HM := Lib.hid M1
  have c2 := A1.c2
  have hlb1 := A1.ltb
  have hsz : w.heap.size ≤ w1.heap.size := by omega
  clear hz hz1 hz2 hi0 A1 M1
  have hwl : (Sec.wcell (k, x)).length = 1 * 129 := by rw [Sec.wcell_len]; show x.length + 1 = _; rw [HX.out]
  have HW := Lib.hid hwl
  have hz0 := sec_wzeros
  have hz1 := Sec.wzeros_ne
  have hz2 : Sec.wzeros.size = 129 := Sec.wzeros_size
  have hz4 : ∀ a : Array Value, a.size = 129 → List.foldl (fun (cs : Array Value) (x : Value × Nat) => cs.setIfInBounds x.snd x.fst) a (Sec.wcell (k, x)).zipIdx = (Sec.wcell (k, x)).toArray := Sec.wfold_all _ 129 (by rw [hwl])
  have hz3 := Sec.wfold k x HX.out
  go_wp2
  have HROW : Hid ((w1.drew.alloc (.cells (Sec.wcell (k, x)).toArray 65)).ownsRow D.lo 65 129 D.v s.loose.length (Sec.wcels s.loose)) :=
    (HA.out.below (((Below.refl _ _).drew).alloc (Nat.le_refl _) _)).row
  have HNEWS : Hid (∀ j u, (Sec.wcell (k, x))[j]? = some u → (w1.drew.alloc (.cells (Sec.wcell (k, x)).toArray 65)).cell? ((⟨w1.heap.size, 0, none⟩ : Addr).add j) = some u) := fun j u hu =>
    World.news_of_block (heap_alloc_new w1.drew (.cells (Sec.wcell (k, x)).toArray 65)) j u (by simpa using hu)
  have HONE := Lib.hid (Sec.wcell_one (k, x))
  have hlo : D.lo ≤ w1.heap.size + 1 := by have := HA.out.lo1; omega
  have HC2 : Hid ((w1.drew.alloc (.cells (Sec.wcell (k, x)).toArray 65)).cell? ⟨D.b, 2, none⟩ = some D.v) := (HA.out.below (((Below.refl _ _).drew).alloc (Nat.le_refl _) _)).c2
  have HF2 : Hid ((w1.drew.alloc (.cells (Sec.wcell (k, x)).toArray 65)).frozen? ⟨D.b, 2, none⟩ = false) := (HA.out.below (((Below.refl _ _).drew).alloc (Nat.le_refl _) _)).fro 2
  have HN4 : Hid (some D.b ≠ D.v.ownBlock) := fun e => HA.out.ne4 e.symm
  have hlb2 : D.b < (w1.drew.alloc (.cells (Sec.wcell (k, x)).toArray 65)).heap.size := by simp; omega
  have hcA : (w1.alloc (.cells (Sec.wcell (k, x)).toArray 65)).cell? ⟨D.b, 2, none⟩ = some D.v := HC2.out
  clear hbs
  have RA : (w1.drew.alloc (.cells (Sec.wcell (k, x)).toArray 65)).rangeAt w.heap.size 0 (Sec.cel x) := World.rangeAt_alloc ((World.rangeAt_drew ..).2 R1) _
  have HZW : Hid (w.heap.size < (w1.drew.alloc (.cells (Sec.wcell (k, x)).toArray 65)).heap.size) := by show _ < _; simp; omega
  have HNW : Hid (some w.heap.size ≠ D.v.ownBlock) := fun e => by
    have := (HROW0.out w.heap.size e.symm).2
    omega
  refine wp_region_held_drew (S := fun w' => w'.rangeAt w.heap.size 0 (Sec.cel x)) (by kernel_rfl) R1 (fun hS => ?_)
  refine wpAnyH_take (i := 0) (v := .pointer (some ⟨D.b, 0, none⟩)) rfl (by kernel_rfl) (by kernel_rfl) (by kernel_rfl) (fun _ _ _ h => h) (Or.inl ⟨by rfl, fun w _ => by go_simp⟩) hS ?_
  simp only [Act.put, List.setIfInBounds_toArray]
  refine wpAnyH_take (i := 1) (v := .pointer (some ⟨D.b, 0, none⟩)) rfl (by kernel_rfl) (by kernel_rfl) (by kernel_rfl) (fun _ _ _ h => h) (Or.inl ⟨by rfl, fun w _ => by go_simp⟩) hS ?_
  simp only [Act.put]
  refine wpAnyH_take (i := 2) (v := .pointer (some ⟨D.b, 0, none⟩)) rfl (by kernel_rfl) (by kernel_rfl) (by kernel_rfl) (fun _ _ _ h => h) (Or.inl ⟨by rfl, fun w _ => by go_simp⟩) hS ?_
  simp only [Act.put]
  refine wpAnyH_take (i := 3) (v := .pointer (some ⟨D.b, 2, none⟩)) rfl (by kernel_rfl) (by kernel_rfl) (by kernel_rfl) (fun _ _ _ h => h) (Or.inl ⟨by rfl, fun w _ => by go_simp⟩) hS ?_
  simp only [Act.put]
  refine wpAnyH_take (i := 5) (v := .int .i64 (k : Int)) rfl (by kernel_rfl) (by kernel_rfl) (by kernel_rfl) (fun _ _ _ h => h) (Or.inl ⟨by rfl, fun w _ => by go_simp⟩) hS ?_
  simp only [Act.put]
  refine wpAnyH_take (i := 6) (v := .agg (Sec.cel x).toArray) rfl (by kernel_rfl) (by kernel_rfl) (by kernel_rfl) (fun _ _ _ h => h) (yieldsIf_load_mid (by rfl) _ _ rfl w.heap.size 0 rfl (Sec.cel x) _ (fun _ h => h) hu rfl hi) hS ?_
  simp only [Act.put]
  refine wpAnyH_take (i := 7) (v := .agg (Sec.wcell (k, x)).toArray) rfl (by kernel_rfl) (by kernel_rfl) (by kernel_rfl) (fun _ _ _ h => h) (Or.inl ⟨by rfl, fun w _ => by go_simp⟩) hS ?_
  simp only [Act.put]
  clear hu hi h1 hS
  refine wpAnyH_ready (rs := [4, 8]) (by kernel_rfl) (by simp) ?_
  refine AllReadyH.cons rfl (fun K hK => ?_) (AllReadyH.cons rfl (fun K hK => ?_) AllReadyH.nil)
  all_goals
    go_simp
    first
      | (refine hK.out _ _ R1 (fun hS => ?_)
         clear hK K hS
         refine wpAnyH_ready (rs := [8]) (by kernel_rfl) (by simp) ?_
         refine AllReadyH.cons rfl (fun K hK => ?_) AllReadyH.nil
         go_simp
         refine hK.out _ _ RA (fun hS => ?_)
         clear hK K hS)
      | (refine hK.out _ _ RA (fun hS => ?_)
         clear hK K hS
         refine wpAnyH_ready (rs := [4]) (by kernel_rfl) (by simp) ?_
         refine AllReadyH.cons rfl (fun K hK => ?_) AllReadyH.nil
         go_simp
         refine hK.out _ _ RA (fun hS => ?_)
         clear hK K hS)
    refine wpAnyH_ready (rs := [9]) (by kernel_rfl) (by simp) ?_
    refine AllReadyH.cons rfl (fun K hK => ?_) AllReadyH.nil
    refine step_append_lies _ (by rfl) _ _ _ (by rfl) D.lo 65 i z 129 136 Try.underlying47 HI.out HZ1.out HZ.out.2.1 HZ.out.2.2 HZ2.out (by omega) D.v s.loose.length (Sec.wcels s.loose) (by rfl) HROW.out ⟨w1.heap.size, 0, none⟩ 1 1 (Sec.wcell (k, x)) (by rfl) HW.out HNEWS.out HONE.out (by omega) (by unfold maxLen; omega) (by omega) (by simpa using hlo) (w1.heap.size + 1) (by simp) ?_ 
    intro g cap w2 hown hgrow hat hlt
    have cc2 := (hgrow.cell_far ⟨D.b, 2, none⟩ hlb2 HN4.out).trans HC2.out
    have ff2 := (hgrow.frozen_far ⟨D.b, 2, none⟩ hlb2 HN4.out).trans HF2.out
    have HOWN := Lib.hid hown
    have HGROW := Lib.hid hgrow
    have HAT := Lib.hid hat
    have R2 := Sec.range_keep RA (hgrow.block _ HZW.out HNW.out)
    clear hown hgrow hat
    refine hK.out _ _ R2 (fun hS => ?_)
    clear hK K hS
    refine wpAnyH_ready (rs := [10]) (by kernel_rfl) (by simp) ?_
    refine AllReadyH.cons rfl (fun K hK => ?_) AllReadyH.nil
    go_simp
    refine hK.out _ _ R2 (fun hS => ?_)
    clear hK K hS
    refine wpAnyH_ready (rs := [11]) (by kernel_rfl) (by simp) ?_
    refine AllReadyH.cons rfl (fun K hK => ?_) AllReadyH.nil
    go_simp
    refine hK.out _ _ R2 (fun hS => ?_)
    clear hK K hS
    refine wpAnyH_ready (rs := [12]) (by kernel_rfl) (by simp) ?_
    refine AllReadyH.cons rfl (fun K hK => ?_) AllReadyH.nil
    go_simp
    refine hK.out _ _ (Sec.range_keep R2 (Below.heap_setCell _ _ _ _ (Nat.ne_of_gt hlb))) (fun hS => ?_)
    clear hK K hS
    refine wpAnyH_done (by kernel_rfl) ?_ _
    clear cc2 ff2 R2 hlt
    go_end0
    have hg1 : w1.grownBy w2 D.v.ownBlock := Sec.grown_behind HGROW.out
    obtain ⟨r1, r2⟩ := HA.out.row_set hg1 (.slice (some ⟨g, 0, none⟩) (s.loose.length + 1) cap) (s.loose ++ [(k, x)]) (by rw [Sec.wcels_app, List.length_append]; simpa [Sec.wcels] using HOWN.out) (Sec.new_block HAT.out)
    exact ⟨rfl, _, r1, HM.out.trans r2⟩
end Go.Proofs.Ytmoifihgomjbcaa
