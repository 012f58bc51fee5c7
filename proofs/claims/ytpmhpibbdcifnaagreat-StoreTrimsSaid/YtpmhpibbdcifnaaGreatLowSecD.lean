/-
  Contracts of sector's put and Write.
  Contracts of sector's Write.
  The contract of sector's settle.
-/
import Derived.Test.YtpmhpibbdcifnaaGreatLowSecA
section
namespace Go.Proofs.YtpmhpibbdcifnaaGreat
open Go.RowKit
attribute [local go_sem ↓] Go.wp_at_zero Go.wp_at_succ

theorem Sec.grown_behind {w w2 : World} {o : Obj} {row : Option Nat} (h : (w.drew.alloc o).grownBy w2 row) : w.grownBy w2 row := by
  have e : (w.drew.alloc o).heap.size = w.heap.size + 1 := by simp
  have hs := h.size
  exact ⟨h.os, h.tape, h.output, by omega, fun i hi hne => (h.block i (by omega) hne).trans (Below.heap_alloc w.drew _ _ hi)⟩
theorem Sec.new_block {w : World} {r : Option Nat} {g n cap : Nat} (h : r = some g ∨ g = w.heap.size + 1) : (Value.slice (some ⟨g, 0, none⟩) n cap).ownBlock = r ∨ ∀ i, (Value.slice (some ⟨g, 0, none⟩) n cap).ownBlock = some i → w.heap.size ≤ i := by
  rcases h with h | h
  · exact .inl h.symm
  · refine .inr fun i hi => ?_
    have e : g = i := by simpa [Value.ownBlock] using hi
    omega
theorem Sec.range_keep {w w' : World} {b o : Nat} {cs : List Value} (h : w.rangeAt b o cs) (he : w'.heap[b]? = w.heap[b]?) : w'.rangeAt b o cs := fun j v hv => (World.cell?_of_block he).trans (h j v hv)

set_option maxHeartbeats 2000000 in
set_option maxRecDepth 100000 in
theorem sec_put (D : Sec.Bl) (s : Sec.St) (w : World) (h : Sec.At D s w) (hs : s.Ok) (k : Nat) (hk : k < s.n) (x : List UInt8) (hx : x.length = 128) (hlim : s.loose.length ≤ 1000000000) :
    Calls Tryz.prog 101 #[.pointer (some ⟨D.b, 0, none⟩), .int .i64 (k : Int), .agg (Sec.cel x).toArray] w fun e w' => e = .returned (.tuple #[]) ∧ Sec.Behind D (s.put k x) w w' := by
  have H := Lib.hid h
  have HS := Lib.hid hs
  have HX := Lib.hid hx
  have hn2 := hs.n2
  have hk0 : (0 : Int) ≤ (k : Int) := Int.natCast_nonneg _
  have hk1 : (k : Int) < (s.n : Int) := by omega
  have hu := Tryz.underlying91
  have hl : (Sec.cel x).length = 128 := by rw [Sec.cel_len, hx]
  have hi : (Tryz.prog.info? 91).map (·.size) = some (Sec.cel x).length := by rw [sec_size, hl]
  have h1 : ∀ v ∈ Sec.cel x, v.oneCell' = true := Sec.cel_one x
  have hne2 := h.ne2
  have hlb := h.ltb
  have hlm := h.ltm
  have q1 : (w.alloc (.cells (Sec.cel x).toArray 91)).drew.cell? ⟨D.b, 1, none⟩ = some (.slice (some ⟨D.m, 0, none⟩) s.n s.n) := by rw [World.cell?_drew, World.cell?_alloc_lt _ _ _ hlb]; exact h.c1
  have q2 : (w.alloc (.cells (Sec.cel x).toArray 91)).drew.rangeAt w.heap.size 0 (Sec.cel x) := by
    rw [World.rangeAt_drew]
    have := Sec.range_of_row (heap_alloc_new w (.cells (Sec.cel x).toArray 91)) 0 128
    rwa [List.drop_zero, List.take_of_length_le (by omega)] at this
  have q3 : (w.alloc (.cells (Sec.cel x).toArray 91)).drew.there D.m (k * 128) 128 := (World.there_drew ..).2 (World.there_alloc (h.there_now hs hk) _)
  have HROW0 : Hid (∀ k, D.v.ownBlock = some k → D.lo ≤ k ∧ k < w.heap.size) := h.row.lt
  clear h hs hx
  go_enter Tryz.func101, Tryz.ntmps101
  go_wp2
  go_region_held3 (fun w' => w'.cell? ⟨D.b, 1, none⟩ = some (.slice (some ⟨D.m, 0, none⟩) s.n s.n) ∧ w'.rangeAt w.heap.size 0 (Sec.cel x) ∧ w'.there D.m (k * 128) 128)
    ((first | exact ⟨q1, q2, q3⟩ | exact ⟨(World.cell?_setCells_out _ _ _ _ _ (fun e => absurd e hne2)).trans q1, World.rangeAt_setCells_apart q2 D.m _ _ (.inl (by omega)), World.there_setCells q3 _ _ _⟩)) (fail)
  have A0 : Sec.At D s (w.alloc (.cells (Sec.cel x).toArray 91)).drew ∧ Sec.Moves D D w (w.alloc (.cells (Sec.cel x).toArray 91)).drew :=
    have hb : Below w.heap.size w (w.alloc (.cells (Sec.cel x).toArray 91)).drew := ((Below.refl _ _).alloc (Nat.le_refl _) _).drew
    ⟨H.out.below hb, .of_below hb⟩
  have A1 := A0.1.now_set (Sec.grown_setCells D.m (Sec.cel x) (k * 128) _) (Sec.spl s.now (k * 128) x) (by
    rw [Sec.heap_setCells _ _ _ _ _ _ A0.1.now (by rw [hl, Sec.cel_len, HS.out.now]; omega), Sec.cel_spl])
  have R1 : ((w.alloc (.cells (Sec.cel x).toArray 91)).drew.setCells D.m (k * 128) (Sec.cel x)).rangeAt w.heap.size 0 (Sec.cel x) := World.rangeAt_setCells_apart q2 D.m _ _ (.inl (by omega))
  have A2 : Sec.At D { s with now := Sec.spl s.now (k * 128) x } ((w.alloc (.cells (Sec.cel x).toArray 91)).drew.setCells D.m (k * 128) (Sec.cel x)) ∧ Sec.Moves D D w ((w.alloc (.cells (Sec.cel x).toArray 91)).drew.setCells D.m (k * 128) (Sec.cel x)) := ⟨A1.1, A0.2.trans A1.2⟩
  have Z1 : w.heap.size < ((w.alloc (.cells (Sec.cel x).toArray 91)).drew.setCells D.m (k * 128) (Sec.cel x)).heap.size := by
    have := A1.2.size
    have e : (w.alloc (.cells (Sec.cel x).toArray 91)).drew.heap.size = w.heap.size + 1 := by simp
    omega
  clear A0 A1 q1 q2 q3 H
  revert R1 A2 Z1
  generalize (w.alloc (.cells (Sec.cel x).toArray 91)).drew.setCells D.m (k * 128) (Sec.cel x) = w1
  intro R1 A2 Z1
  obtain ⟨A1, M1⟩ := A2
  have hbs := sec_buildSlice k x HX.out
  obtain ⟨i, hi0, hz⟩ := Option.map_eq_some_iff.1 sec_wzero
  simp only [Prod.mk.injEq] at hz
  obtain ⟨z, hz1, hz2⟩ := Option.map_eq_some_iff.1 hz.1
  have HZ := Lib.hid hz
  have HZ1 := Lib.hid hz1
  have HZ2 := Lib.hid hz2
  have HI := Lib.hid hi0
  have HA := Lib.hid A1
  have HM := Lib.hid M1
  have c2 := A1.c2
  have hlb1 := A1.ltb
  have hsz : w.heap.size ≤ w1.heap.size := by omega
  clear hz hz1 hz2 hi0 A1 M1
  have hwl : (Sec.wcell (k, x)).length = 1 * 129 := by rw [Sec.wcell_len]; show x.length + 1 = _; rw [HX.out]
  have HW := Lib.hid hwl
  have hz0 := sec_wzeros
  have hz1 := Sec.wzeros_ne
  have hz2 : Sec.wzeros.size = 129 := Sec.wzeros_size
  have hz4 : ∀ a : Array Value, a.size = 129 → List.foldl (fun (cs : Array Value) (x : Value × Nat) => cs.setIfInBounds x.snd x.fst) a (Sec.wcell (k, x)).zipIdx = (Sec.wcell (k, x)).toArray := Sec.wfold_all _ 129 (by rw [hwl])
  have hz3 := Sec.wfold k x HX.out
  go_wp2
  have HROW : Hid ((w1.drew.alloc (.cells (Sec.wcell (k, x)).toArray 93)).ownsRow D.lo 93 129 D.v s.loose.length (Sec.wcels s.loose)) :=
    (HA.out.below (((Below.refl _ _).drew).alloc (Nat.le_refl _) _)).row
  have HNEWS : Hid (∀ j u, (Sec.wcell (k, x))[j]? = some u → (w1.drew.alloc (.cells (Sec.wcell (k, x)).toArray 93)).cell? ((⟨w1.heap.size, 0, none⟩ : Addr).add j) = some u) := fun j u hu =>
    World.news_of_block (heap_alloc_new w1.drew (.cells (Sec.wcell (k, x)).toArray 93)) j u (by simpa using hu)
  have HONE := Lib.hid (Sec.wcell_one (k, x))
  have hlo : D.lo ≤ w1.heap.size + 1 := by have := HA.out.lo1; omega
  have HC2 : Hid ((w1.drew.alloc (.cells (Sec.wcell (k, x)).toArray 93)).cell? ⟨D.b, 2, none⟩ = some D.v) := (HA.out.below (((Below.refl _ _).drew).alloc (Nat.le_refl _) _)).c2
  have HF2 : Hid ((w1.drew.alloc (.cells (Sec.wcell (k, x)).toArray 93)).frozen? ⟨D.b, 2, none⟩ = false) := (HA.out.below (((Below.refl _ _).drew).alloc (Nat.le_refl _) _)).fro 2
  have HN4 : Hid (some D.b ≠ D.v.ownBlock) := fun e => HA.out.ne4 e.symm
  have hlb2 : D.b < (w1.drew.alloc (.cells (Sec.wcell (k, x)).toArray 93)).heap.size := by simp; omega
  have hcA : (w1.alloc (.cells (Sec.wcell (k, x)).toArray 93)).cell? ⟨D.b, 2, none⟩ = some D.v := HC2.out
  clear hbs
  have RA : (w1.drew.alloc (.cells (Sec.wcell (k, x)).toArray 93)).rangeAt w.heap.size 0 (Sec.cel x) := World.rangeAt_alloc ((World.rangeAt_drew ..).2 R1) _
  have HZW : Hid (w.heap.size < (w1.drew.alloc (.cells (Sec.wcell (k, x)).toArray 93)).heap.size) := by show _ < _; simp; omega
  have HNW : Hid (some w.heap.size ≠ D.v.ownBlock) := fun e => by
    have := (HROW0.out w.heap.size e.symm).2
    omega
  refine wp_region_held_drew (S := fun w' => w'.rangeAt w.heap.size 0 (Sec.cel x)) (by kernel_rfl) R1 (fun hS => ?_)
  refine wpAnyH_take (i := 0) (v := .pointer (some ⟨D.b, 0, none⟩)) rfl (by kernel_rfl) (by kernel_rfl) (by kernel_rfl) (fun _ _ _ h => h) (Or.inl ⟨by rfl, fun w _ => by go_simp⟩) hS ?_
  simp only [Act.put, List.setIfInBounds_toArray]
  refine wpAnyH_take (i := 1) (v := .pointer (some ⟨D.b, 0, none⟩)) rfl (by kernel_rfl) (by kernel_rfl) (by kernel_rfl) (fun _ _ _ h => h) (Or.inl ⟨by rfl, fun w _ => by go_simp⟩) hS ?_
  simp only [Act.put]
  refine wpAnyH_take (i := 2) (v := .pointer (some ⟨D.b, 0, none⟩)) rfl (by kernel_rfl) (by kernel_rfl) (by kernel_rfl) (fun _ _ _ h => h) (Or.inl ⟨by rfl, fun w _ => by go_simp⟩) hS ?_
  simp only [Act.put]
  refine wpAnyH_take (i := 3) (v := .pointer (some ⟨D.b, 2, none⟩)) rfl (by kernel_rfl) (by kernel_rfl) (by kernel_rfl) (fun _ _ _ h => h) (Or.inl ⟨by rfl, fun w _ => by go_simp⟩) hS ?_
  simp only [Act.put]
  refine wpAnyH_take (i := 5) (v := .int .i64 (k : Int)) rfl (by kernel_rfl) (by kernel_rfl) (by kernel_rfl) (fun _ _ _ h => h) (Or.inl ⟨by rfl, fun w _ => by go_simp⟩) hS ?_
  simp only [Act.put]
  refine wpAnyH_take (i := 6) (v := .agg (Sec.cel x).toArray) rfl (by kernel_rfl) (by kernel_rfl) (by kernel_rfl) (fun _ _ _ h => h) (yieldsIf_load_mid (by rfl) _ _ rfl w.heap.size 0 rfl (Sec.cel x) _ (fun _ h => h) hu rfl hi) hS ?_
  simp only [Act.put]
  refine wpAnyH_take (i := 7) (v := .agg (Sec.wcell (k, x)).toArray) rfl (by kernel_rfl) (by kernel_rfl) (by kernel_rfl) (fun _ _ _ h => h) (Or.inl ⟨by rfl, fun w _ => by go_simp⟩) hS ?_
  simp only [Act.put]
  clear hu hi h1 hS
  refine wpAnyH_ready (rs := [4, 8]) (by kernel_rfl) (by simp) ?_
  refine AllReadyH.cons rfl (fun K hK => ?_) (AllReadyH.cons rfl (fun K hK => ?_) AllReadyH.nil)
  all_goals
    go_simp
    first
      | (refine hK.out _ _ R1 (fun hS => ?_)
         clear hK K hS
         refine wpAnyH_ready (rs := [8]) (by kernel_rfl) (by simp) ?_
         refine AllReadyH.cons rfl (fun K hK => ?_) AllReadyH.nil
         go_simp
         refine hK.out _ _ RA (fun hS => ?_)
         clear hK K hS)
      | (refine hK.out _ _ RA (fun hS => ?_)
         clear hK K hS
         refine wpAnyH_ready (rs := [4]) (by kernel_rfl) (by simp) ?_
         refine AllReadyH.cons rfl (fun K hK => ?_) AllReadyH.nil
         go_simp
         refine hK.out _ _ RA (fun hS => ?_)
         clear hK K hS)
    refine wpAnyH_ready (rs := [9]) (by kernel_rfl) (by simp) ?_
    refine AllReadyH.cons rfl (fun K hK => ?_) AllReadyH.nil
    refine step_append_lies _ (by rfl) _ _ _ (by rfl) D.lo 93 i z 129 136 Tryz.underlying63 HI.out HZ1.out HZ.out.2.1 HZ.out.2.2 HZ2.out (by omega) D.v s.loose.length (Sec.wcels s.loose) (by rfl) HROW.out ⟨w1.heap.size, 0, none⟩ 1 1 (Sec.wcell (k, x)) (by rfl) HW.out HNEWS.out HONE.out (by omega) (by unfold maxLen; omega) (by omega) (by simpa using hlo) (w1.heap.size + 1) (by simp) ?_ 
    intro g cap w2 hown hgrow hat hlt
    have cc2 := (hgrow.cell_far ⟨D.b, 2, none⟩ hlb2 HN4.out).trans HC2.out
    have ff2 := (hgrow.frozen_far ⟨D.b, 2, none⟩ hlb2 HN4.out).trans HF2.out
    have HOWN := Lib.hid hown
    have HGROW := Lib.hid hgrow
    have HAT := Lib.hid hat
    have R2 := Sec.range_keep RA (hgrow.block _ HZW.out HNW.out)
    clear hown hgrow hat
    refine hK.out _ _ R2 (fun hS => ?_)
    clear hK K hS
    refine wpAnyH_ready (rs := [10]) (by kernel_rfl) (by simp) ?_
    refine AllReadyH.cons rfl (fun K hK => ?_) AllReadyH.nil
    go_simp
    refine hK.out _ _ R2 (fun hS => ?_)
    clear hK K hS
    refine wpAnyH_ready (rs := [11]) (by kernel_rfl) (by simp) ?_
    refine AllReadyH.cons rfl (fun K hK => ?_) AllReadyH.nil
    go_simp
    refine hK.out _ _ R2 (fun hS => ?_)
    clear hK K hS
    refine wpAnyH_ready (rs := [12]) (by kernel_rfl) (by simp) ?_
    refine AllReadyH.cons rfl (fun K hK => ?_) AllReadyH.nil
    go_simp
    refine hK.out _ _ (Sec.range_keep R2 (Below.heap_setCell _ _ _ _ (Nat.ne_of_gt hlb))) (fun hS => ?_)
    clear hK K hS
    refine wpAnyH_done (by kernel_rfl) ?_ _
    clear cc2 ff2 R2 hlt
    go_end0
    have hg1 : w1.grownBy w2 D.v.ownBlock := Sec.grown_behind HGROW.out
    obtain ⟨r1, r2⟩ := HA.out.row_set hg1 (.slice (some ⟨g, 0, none⟩) (s.loose.length + 1) cap) (s.loose ++ [(k, x)]) (by rw [Sec.wcels_app, List.length_append]; simpa [Sec.wcels] using HOWN.out) (Sec.new_block HAT.out)
    exact ⟨rfl, _, r1, HM.out.trans r2⟩
end Go.Proofs.YtpmhpibbdcifnaaGreat
end

section
namespace Go.Proofs.YtpmhpibbdcifnaaGreat
open Go.RowKit
attribute [local go_sem ↓] Go.wp_at_zero Go.wp_at_succ

/-- Write: done. -/
def Sec.Done (c : Int) (D : Sec.Bl) (s : Sec.St) (w : World) (e : Ending) (w' : World) : Prop := e = .returned (.int .i64 c) ∧ Sec.Behind D s w w'
theorem Sec.Done.same {c : Int} {D : Sec.Bl} {s : Sec.St} {w : World} (h : Sec.At D s w) : Sec.Done c D s w (.returned (.int .i64 c)) w := ⟨rfl, D, h, .refl _ _⟩

set_option maxHeartbeats 1000000 in
theorem sec_write_range (D : Sec.Bl) (s : Sec.St) (w : World) (h : Sec.At D s w) (hs : s.Ok) (k : Int) (t : ByteArray) (hk : k < 0 ∨ (s.n : Int) ≤ k) :
    Calls Tryz.prog 89 #[D.ptr, .int .i64 k, .string t] w fun e w' => e = .returned (.int .i64 50) ∧ w = w' := by
  have H := Lib.hid h
  have HS := Lib.hid hs
  have HK := Lib.hid hk
  clear h hs hk
  have e : D.ptr = .pointer (some ⟨D.b, 0, none⟩) := rfl
  rw [e]
  clear e
  go_enter Tryz.func89, Tryz.ntmps89
  go_wp2_with fail
  refine (sec_is D s _ H.out HS.out).mono ?_
  rintro e w' ⟨rfl, rfl⟩
  go_wp2_with fail
  refine (sec_has_no D s _ H.out k HK.out).mono ?_
  rintro e w' ⟨rfl, rfl⟩
  go_wp2_with fail
  go_ret
  exact ⟨rfl, rfl⟩

set_option maxHeartbeats 1000000 in
theorem sec_write_long (D : Sec.Bl) (s : Sec.St) (w : World) (h : Sec.At D s w) (hs : s.Ok) (k : Nat) (t : ByteArray) (hk : k < s.n) (ht : 128 < t.size) :
    Calls Tryz.prog 89 #[D.ptr, .int .i64 (k : Int), .string t] w fun e w' => e = .returned (.int .i64 4) ∧ w = w' := by
  have H := Lib.hid h
  have HS := Lib.hid hs
  have hd : decide ((128 : Int) < (t.size : Int)) = true := by simp; omega
  clear h hs ht
  have e : D.ptr = .pointer (some ⟨D.b, 0, none⟩) := rfl
  rw [e]
  clear e
  go_enter Tryz.func89, Tryz.ntmps89
  go_wp2_with fail
  refine (sec_is D s _ H.out HS.out).mono ?_
  rintro e w' ⟨rfl, rfl⟩
  go_wp2_with fail
  refine (sec_has_yes D s _ H.out k hk).mono ?_
  rintro e w' ⟨rfl, rfl⟩
  go_wp2_with fail
  go_ret
  exact ⟨rfl, rfl⟩

set_option maxHeartbeats 1000000 in
theorem sec_write_down (D : Sec.Bl) (s : Sec.St) (w : World) (h : Sec.At D s w) (hs : s.Ok) (k : Nat) (t : ByteArray) (hk : k < s.n) (ht : t.size ≤ 128) (hd : s.still = true) :
    Calls Tryz.prog 89 #[D.ptr, .int .i64 (k : Int), .string t] w fun e w' => e = .returned (.int .i64 51) ∧ w = w' := by
  have H := Lib.hid h
  have HS := Lib.hid hs
  have HD := Lib.hid hd
  have hd : decide ((128 : Int) < (t.size : Int)) = false := by simp; omega
  clear h hs ht
  have e : D.ptr = .pointer (some ⟨D.b, 0, none⟩) := rfl
  rw [e]
  clear e
  go_enter Tryz.func89, Tryz.ntmps89
  go_wp2_with fail
  refine (sec_is D s _ H.out HS.out).mono ?_
  rintro e w' ⟨rfl, rfl⟩
  go_wp2_with fail
  refine (sec_has_yes D s _ H.out k hk).mono ?_
  rintro e w' ⟨rfl, rfl⟩
  go_wp2_with fail
  refine (sec_still D s _ H.out true HD.out).mono ?_
  rintro e w' ⟨rfl, rfl⟩
  go_wp2_with fail
  go_ret
  exact ⟨rfl, rfl⟩

set_option maxHeartbeats 2000000 in
set_option maxRecDepth 20000 in
theorem sec_write_ok (D : Sec.Bl) (s : Sec.St) (w : World) (h : Sec.At D s w) (hs : s.Ok) (k : Nat) (t : ByteArray) (hk : k < s.n) (ht : t.size ≤ 128) (hd : s.still = false) (hlim : s.loose.length ≤ 1000000000) :
    Calls Tryz.prog 89 #[D.ptr, .int .i64 (k : Int), .string t] w (Sec.Done 0 D (s.burn.put k (Sec.pad t.data.toList)) w) := by
  have H := Lib.hid h
  have HS := Lib.hid hs
  have HD := Lib.hid hd
  have HT := Lib.hid ht
  have hd : decide ((128 : Int) < (t.size : Int)) = false := by simp; omega
  clear h hs ht
  have e : D.ptr = .pointer (some ⟨D.b, 0, none⟩) := rfl
  rw [e]
  clear e
  go_enter Tryz.func89, Tryz.ntmps89
  go_wp2_with fail
  refine (sec_is D s _ H.out HS.out).mono ?_
  rintro e w' ⟨rfl, rfl⟩
  go_wp2_with fail
  refine (sec_has_yes D s _ H.out k hk).mono ?_
  rintro e w' ⟨rfl, rfl⟩
  go_wp2_with fail
  refine (sec_still D s _ H.out false HD.out).mono ?_
  rintro e w' ⟨rfl, rfl⟩
  go_wp2_with fail
  refine (sec_burn D s _ H.out HS.out HD.out).mono ?_
  rintro e w1 ⟨rfl, hA1, hM1⟩
  have HA := Lib.hid hA1
  have HM := Lib.hid hM1
  clear hA1 hM1
  go_wp2_with fail
  have HPL : Hid ((Sec.pad t.data.toList).length = 128) := Sec.pad_len HT.out
  go_region_held3 (fun w' => w'.os = w1.os) ((first | rfl | assumption | exact hos2))
    (first
      | (go_at_call 102; refine (sec_padded t _ HT.out).mono ?_; rintro e w2 ⟨rfl, hb2⟩; have hos : w2.os = w1.os := hb2.os; have HB := Lib.hid hb2; clear hb2)
      | (go_at_call 101; refine (sec_put D s.burn _ (HA.out.drew.below HB.out) HS.out.burn k hk _ HPL.out hlim).mono ?_; rintro e w3 ⟨rfl, hQ⟩; have hos2 : w3.os = w1.os := (Exists.elim hQ fun _ h => h.2.os).trans hos; have HQ := Lib.hid hQ; clear hQ))
  all_goals
    go_wp2
    go_ret
    obtain ⟨D', q1, q2⟩ := HQ.out
    exact ⟨rfl, D', q1, (HM.out.trans (.of_below ((Below.refl _ _).drew.trans HB.out))).trans q2⟩
end Go.Proofs.YtpmhpibbdcifnaaGreat
end

section
namespace Go.Proofs.YtpmhpibbdcifnaaGreat
open Go.RowKit
attribute [local go_sem ↓] Go.wp_at_zero Go.wp_at_succ

namespace Sec
variable {D : Bl} {s : St} {w w' : World}
/-- Where the loose writes lie. -/
theorem At.row_at (h : At D s w) (hs : ∀ x ∈ s.loose, x.2.length = 128) (i : Nat) (hi : i < s.loose.length) :
    ∃ L c, D.v = .slice (some ⟨L, 0, none⟩) s.loose.length c ∧ w.rangeAt L (i * 129) (wcell s.loose[i]) := by
  rcases h.row.2 with ⟨_, h0⟩ | ⟨g, cap, cur, hv, _, hg, _, _, hcs, htake⟩
  · omega
  · refine ⟨g, cap, hv, fun j v hj => ?_⟩
    have hjl : j < (wcell s.loose[i]).length := (List.getElem?_eq_some_iff.1 hj).1
    rw [wcell_len, hs _ (List.getElem_mem hi)] at hjl
    rw [cell_of_row w g _ _ _ _ hg, ← hj, ← wcels_at s.loose hs i hi j hjl, ← htake, List.getElem?_take, if_pos (by omega)]
    simp
theorem part_ok {m : Nat → Nat} (hs : s.Ok) (i : Nat) (hi : i ≤ s.loose.length) : (s.part m i).good.length = s.n * 128 ∧ (s.part m i).now.length = s.n * 128 := St.upto_len hs m i hi
theorem setRow_grown (w : World) (g : Nat) (cs : Array Value) : w.grownBy (w.setRow g cs) (some g) :=
  ⟨rfl, rfl, rfl, by simp, fun k _ hk => setRow_other w g k cs (fun e => hk (by simp [e]))⟩
/-- A block of the call's own that is written whole. -/
theorem below_own (w : World) (a : Obj) (cs : Array Value) : Below w.heap.size w ((w.alloc a).setRow w.heap.size cs) := below_setRow ((Below.refl _ _).alloc (Nat.le_refl _) _) (Nat.le_refl _) _
end Sec

set_option maxHeartbeats 4000000 in
set_option maxRecDepth 100000 in
theorem sec_settle (g : Nat) (caps : Array Value) (m : Nat → Nat) (D : Sec.Bl) (s : Sec.St) (w : World) (h : Sec.At D s w) (hs : s.Ok) (hm : ∀ i, m i ≤ 128)
    (hlim : s.loose.length ≤ 1000000000)
    (eg : ∀ (args : Array Value) (w : World), (callFunc g args).run Tryz.prog w = .ok (.enter g args) w)
    (hc : ∀ (i : Nat) (w' : World), i < s.loose.length → Sec.Moves D D w w' → Calls Tryz.prog g (#[.int .i64 (i : Int)] ++ caps) w' fun e w'' => e = .returned (.int .i64 (m i : Int)) ∧ w' = w'') :
    Calls Tryz.prog 28 #[.pointer (some ⟨D.b, 0, none⟩), .func (.func g) #[] caps] w fun e w' => e = .returned (.tuple #[]) ∧ Sec.Behind D (s.settle m) w w' := by
  obtain ⟨A, c, hv⟩ := h.v_eq
  have c2 := h.c2
  rw [hv] at c2
  have H := Lib.hid h
  have HS := Lib.hid hs
  have HM := Lib.hid hm
  have HG := Lib.hid eg
  have HC := Lib.hid hc
  have HV := Lib.hid hv
  clear h hs hm eg hc hv
  go_enter Tryz.func28, Tryz.ntmps28
  go_wp2
  clear c2
  go_loopw [11] (fun t wr => ∃ i : Nat, i ≤ s.loose.length ∧ t = .int .i64 i ∧ Sec.At D (s.part m i) wr ∧ Sec.Moves D D w wr) (fun t _ => s.loose.length - (intOf t).toNat)
  case atStart => exact ⟨0, Nat.zero_le _, rfl, H.out, .refl _ _⟩
  case round =>
    obtain ⟨i, hi, rfl, hA, hMv⟩ := hrel
    have HA := Lib.hid hA
    have HMV := Lib.hid hMv
    clear hA hMv
    by_cases hlt : i < s.loose.length
    · obtain ⟨L, c', hv', hrange⟩ := HA.out.row_at HS.out.len i hlt
      obtain ⟨rfl, rfl⟩ : A = some ⟨L, 0, none⟩ ∧ c = c' := by
        have e := HV.out.symm.trans hv'
        injection e with e1 e2 e3
        exact ⟨e1, e3⟩
      have hmem : s.loose[i] ∈ s.loose := List.getElem_mem hlt
      have HK := Lib.hid (HS.out.at_ _ hmem)
      have HX := Lib.hid (HS.out.len _ hmem)
      have HE : Hid (s.loose.getD i (0, []) = s.loose[i]) := (Sec.St.getD_mem hlt).1
      have hrange' : wr.rangeAt L (i * 129) (Sec.wcell s.loose[i]) := hrange
      clear hv' hrange hmem
      generalize s.loose[i] = x at HK HX HE hrange'
      obtain ⟨k, x⟩ := x
      have hz0 := sec_wzeros
      have hz1 := Sec.wzeros_ne
      have hl : (Sec.wcell (k, x)).length = 129 := by rw [Sec.wcell_len]; show x.length + 1 = _; rw [HX.out]
      have hiw : (Tryz.prog.info? 93).map (·.size) = some (Sec.wcell (k, x)).length := by
        obtain ⟨i, hi, hz⟩ := Option.map_eq_some_iff.1 sec_wzero
        simp only [Prod.mk.injEq] at hz
        rw [hi, hl, ← hz.2.1]; rfl
      have HIW := Lib.hid hiw
      have HR := Lib.hid hrange'
      have HL := Lib.hid hl
      have HONE : Hid ((Sec.wcell (k, x)).toArray.all (·.oneCell') = true) := all_oneCell_toArray (Sec.wcell_one _)
      have hi0 : (0 : Int) ≤ (i : Int) := by omega
      have hi1 : (i : Int) < (s.loose.length : Int) := by omega
      clear hiw hrange' hl
      go_wp2_with (first
        | refine wpList_load_mid rfl 93 (.tmp 14) rfl L (i * 129) rfl (Sec.wcell (k, x)) _ HR.out Tryz.underlying93 rfl HIW.out ?_
        | refine wpList_store_row rfl 93 (.tmp 5) (.tmp 15) rfl wr.heap.size (Sec.wcell (k, x)).toArray rfl rfl 93 Sec.wzeros (heap_alloc_new wr _) (by rw [HIW.out]; simp) (by rw [Sec.wzeros_size]; simp [HL.out]) HONE.out ?_)
      clear hz0 hz1
      have HA2 : Hid (Sec.At D (s.part m i) ((wr.alloc (.cells Sec.wzeros 93)).setRow wr.heap.size (Sec.wcell (k, x)).toArray)) := HA.out.below (Sec.below_own _ _ _)
      have HM2 : Hid (Sec.Moves D D w ((wr.alloc (.cells Sec.wzeros 93)).setRow wr.heap.size (Sec.wcell (k, x)).toArray)) := HMV.out.trans (.of_below (Sec.below_own _ _ _))
      have HT : Hid (((wr.alloc (.cells Sec.wzeros 93)).setRow wr.heap.size (Sec.wcell (k, x)).toArray).heap[wr.heap.size]? = some (.cells (Sec.wcell (k, x)).toArray 93 (0, 0))) := setRow_heap _ _ _ _ _ _ (heap_alloc_new wr _)
      have hT1 : D.b < wr.heap.size := HA.out.ltb
      have hT2 : D.s < wr.heap.size := HA.out.lts
      have hT3 : D.m < wr.heap.size := HA.out.ltm
      clear HA HMV HR HIW HONE
      revert HA2 HM2 HT hT1 hT2 hT3
      generalize (wr.alloc (.cells Sec.wzeros 93)).setRow wr.heap.size (Sec.wcell (k, x)).toArray = w2
      generalize wr.heap.size = T
      intro HA2 HM2 HT hT1 hT2 hT3
      have ne1 : D.b ≠ D.s := HA2.out.ne1
      have ne2 : D.b ≠ D.m := HA2.out.ne2
      have ne3 : D.s ≠ D.m := HA2.out.ne3
      have c0 : w2.drew.cell? ⟨D.b, 0, none⟩ = some (.slice (some ⟨D.s, 0, none⟩) s.n s.n) := HA2.out.drew.c0
      have ct : w2.drew.cell? ⟨T, 0, none⟩ = some (.int .i64 (k : Int)) := by rw [cell_of_row w2.drew T 0 _ _ _ HT.out]; rfl
      have hk0 : (0 : Int) ≤ (k : Int) := by omega
      have hkn : k < s.n := HK.out
      have hk1 : (k : Int) < (s.n : Int) := by omega
      have hxl : x.length = 128 := HX.out
      have hTs : T ≠ D.s := by omega
      have hTm : T ≠ D.m := by omega
      have HP := Lib.hid (Sec.part_ok (m := m) HS.out i hi)
      have hm0 : (0 : Int) ≤ (m i : Int) := by omega
      have hm1 : (m i : Int) ≤ 128 := by have := HM.out i; omega
      have hsl1 : ∀ w : World, (Instr.sliceAt 91 (.pointer (some ⟨D.s, k * 128, none⟩)) none (some (.int .i64 (m i : Int))) none).run Tryz.prog w = .ok (.slice (some ⟨D.s, k * 128, none⟩) (m i) 128) w := sec_slice_h D.s (k * 128) (m i) (HM.out i)
      have hsl2 : ∀ w : World, (Instr.sliceAt 91 (.pointer (some ⟨T, 1, none⟩)) none none none).run Tryz.prog w = .ok (.slice (some ⟨T, 1, none⟩) 128 128) w := sec_slice ⟨T, 1, none⟩
      have hcl : (Sec.cel (x.take (m i))).length = m i := by
        have := HM.out i
        rw [Sec.cel_len, List.length_take, hxl]; omega
      have hth : w2.drew.there D.s (k * 128) 128 := HA2.out.drew.there_good HP.out.1 hkn
      have hcopy : ∀ ty, (Builtin.copy_ #[94, 94] ty #[.slice (some ⟨D.s, k * 128, none⟩) (m i) 128, .slice (some ⟨T, 1, none⟩) 128 128]).run Tryz.prog w2.drew = .ok (goInt (m i)) (w2.drew.setCells D.s (k * 128) (Sec.cel (x.take (m i)))) := fun ty => by
        have h128 := HM.out i
        have hr := run_copy_cells (P := Tryz.prog) w2.drew 94 94 ty 5 D.s (k * 128) (m i) 128 ⟨T, 1, none⟩ 128 128 (Sec.cel (x.take (m i))) Tryz.underlying94 byte_size
          (by rw [hcl]; exact (Nat.min_eq_right h128).symm)
          (fun j v hv => by
            have hj : j < (Sec.cel (x.take (m i))).length := (List.getElem?_eq_some_iff.1 hv).1
            rw [hcl] at hj
            rw [Addr.add_mid, cell_of_row w2.drew T _ _ _ _ HT.out, Nat.add_comm 1 j]
            rw [← Sec.cel_take, List.getElem?_take, if_pos hj] at hv
            simpa [Sec.wcell] using hv)
          (fun j hj => (hth j (by omega)).1) (fun j hj => (hth j (by omega)).2) (Sec.cel_one _)
        rw [hr, hcl]
      have hcopy := hcopy 3
      have eg := HG.out
      have HCL := Lib.hid hcl
      clear hth hcl
      go_region_held3 (fun w' => w'.cell? ⟨D.b, 0, none⟩ = some (.slice (some ⟨D.s, 0, none⟩) s.n s.n) ∧ w'.cell? ⟨T, 0, none⟩ = some (.int .i64 (k : Int)))
        ((first | exact ⟨c0, ct⟩ | exact ⟨(World.cell?_setCells_out _ _ _ _ _ (fun e => absurd e ne1)).trans c0, (World.cell?_setCells_out _ _ _ _ _ (fun e => absurd e hTs)).trans ct⟩))
        (first
          | (refine (HC.out i _ hlt (HM2.out.trans (.of_below (Below.refl _ _).drew))).mono ?_; rintro e w' ⟨rfl, rfl⟩))
      clear hcopy hsl1 hsl2 eg c0 ct
      go_wp2
      have hfit : k * 128 + (x.take (m i)).length ≤ (s.part m i).good.length := by
        rw [HP.out.1, List.length_take, hxl]; omega
      have hA3 := HA2.out.drew.good_set (Sec.grown_setCells D.s (Sec.cel (x.take (m i))) (k * 128) _) (Sec.spl (s.part m i).good (k * 128) (x.take (m i))) (by
        rw [Sec.heap_setCells _ _ _ _ _ _ HA2.out.drew.good (by rw [Sec.cel_len, Sec.cel_len]; exact hfit), Sec.cel_spl])
      have HA3 := Lib.hid hA3.1
      have HM3 : Hid (Sec.Moves D D w (w2.drew.setCells D.s (k * 128) (Sec.cel (x.take (m i))))) := (HM2.out.trans (.of_below (Below.refl _ _).drew)).trans hA3.2
      have HT3 : Hid ((w2.drew.setCells D.s (k * 128) (Sec.cel (x.take (m i)))).heap[T]? = some (.cells (Sec.wcell (k, x)).toArray 93 (0, 0))) :=
        ((Sec.grown_setCells D.s (Sec.cel (x.take (m i))) (k * 128) w2.drew).block T (Sec.lt_of_heap HT.out) (by simpa using hTs)).trans HT.out
      clear hA3 HA2 HM2 HT hfit
      have hgl : Hid ((Sec.spl (s.part m i).good (k * 128) (x.take (m i))).length = s.n * 128) := by
        show _ = _
        rw [Sec.spl_len (by rw [HP.out.1, List.length_take, hxl]; omega), HP.out.1]
      revert HA3 HM3 HT3
      generalize w2.drew.setCells D.s (k * 128) (Sec.cel (x.take (m i))) = w3
      intro HA3 HM3 HT3
      have hgl' : (Sec.spl (s.part m i).good (k * 128) (x.take (m i))).length = s.n * 128 := hgl.out
      have hu := Tryz.underlying91
      have hl : (Sec.cel (((Sec.spl (s.part m i).good (k * 128) (x.take (m i))).drop (k * 128)).take 128)).length = 128 := by
        rw [Sec.cel_len, List.length_take, List.length_drop, hgl']; omega
      have hinf : (Tryz.prog.info? 91).map (·.size) = some (Sec.cel (((Sec.spl (s.part m i).good (k * 128) (x.take (m i))).drop (k * 128)).take 128)).length := by rw [sec_size, hl]
      have h1 : ∀ v ∈ Sec.cel (((Sec.spl (s.part m i).good (k * 128) (x.take (m i))).drop (k * 128)).take 128), v.oneCell' = true := Sec.cel_one _
      have q0 : w3.drew.cell? ⟨D.b, 0, none⟩ = some (.slice (some ⟨D.s, 0, none⟩) s.n s.n) := HA3.out.drew.c0
      have q1 : w3.drew.cell? ⟨D.b, 1, none⟩ = some (.slice (some ⟨D.m, 0, none⟩) s.n s.n) := HA3.out.drew.c1
      have q2 : w3.drew.cell? ⟨T, 0, none⟩ = some (.int .i64 (k : Int)) := by rw [cell_of_row w3.drew T 0 _ _ _ HT3.out]; rfl
      have q3 : w3.drew.rangeAt D.s (k * 128) (Sec.cel (((Sec.spl (s.part m i).good (k * 128) (x.take (m i))).drop (k * 128)).take 128)) := Sec.range_of_row HA3.out.drew.good (k * 128) 128
      have q4 : w3.drew.there D.m (k * 128) 128 := fun j hj => by
        have hn := HP.out.2
        rw [cell_of_row w3.drew D.m _ _ _ _ HA3.out.drew.now, frozen_of_row w3.drew D.m _ _ _ HA3.out.drew.now]
        refine ⟨?_, rfl⟩
        rw [Array.getElem?_eq_getElem (by simp only [List.size_toArray, Sec.cel_len]; omega)]
        rfl
      clear hgl'
      have HL3 := Lib.hid hl
      go_region_held3 (fun w' => w'.cell? ⟨D.b, 0, none⟩ = some (.slice (some ⟨D.s, 0, none⟩) s.n s.n) ∧ w'.cell? ⟨D.b, 1, none⟩ = some (.slice (some ⟨D.m, 0, none⟩) s.n s.n) ∧ w'.cell? ⟨T, 0, none⟩ = some (.int .i64 (k : Int)) ∧ w'.rangeAt D.s (k * 128) (Sec.cel (((Sec.spl (s.part m i).good (k * 128) (x.take (m i))).drop (k * 128)).take 128)) ∧ w'.there D.m (k * 128) 128)
        ((first | exact ⟨q0, q1, q2, q3, q4⟩ | exact ⟨(World.cell?_setCells_out _ _ _ _ _ (fun e => absurd e ne2)).trans q0, (World.cell?_setCells_out _ _ _ _ _ (fun e => absurd e ne2)).trans q1, (World.cell?_setCells_out _ _ _ _ _ (fun e => absurd e hTm)).trans q2, World.rangeAt_setCells_apart q3 D.m _ _ (.inl ne3), World.there_setCells q4 _ _ _⟩))
        (fail)
      clear q0 q1 q2 q3 q4 h1 hinf hl hu
      go_wp2
      have hA4 := HA3.out.drew.now_set (Sec.grown_setCells D.m (Sec.cel (((Sec.spl (s.part m i).good (k * 128) (x.take (m i))).drop (k * 128)).take 128)) (k * 128) _) (Sec.spl (s.part m i).now (k * 128) (((Sec.spl (s.part m i).good (k * 128) (x.take (m i))).drop (k * 128)).take 128)) (by
        have hn := HP.out.2
        rw [Sec.heap_setCells _ _ _ _ _ _ HA3.out.drew.now (by rw [HL3.out, Sec.cel_len]; simp only; omega), Sec.cel_spl])
      go_roundw
      case rel =>
        refine ⟨i + 1, by omega, by go_num, ?_, (HM3.out.trans (.of_below (Below.refl _ _).drew)).trans hA4.2⟩
        have e : s.part m (i + 1) = { s.part m i with good := Sec.spl (s.part m i).good (k * 128) (x.take (m i)), now := Sec.spl (s.part m i).now (k * 128) (((Sec.spl (s.part m i).good (k * 128) (x.take (m i))).drop (k * 128)).take 128) } := by
          unfold Sec.St.part
          show _ = _
          rw [show s.upto m (i + 1) = Sec.St.one (s.upto m i) (s.loose.getD i (0, [])) (m i) from rfl, HE.out]
          rfl
        rw [e]
        exact hA4.1
      case measure => simp [intOf]; omega
    · obtain rfl : i = s.loose.length := by omega
      have c0 := HA.out.c2
      have f0 := HA.out.fro 2
      go_wp2
      go_end0
      obtain ⟨r1, r2⟩ := HA.out.row_set (w1 := wr) ⟨rfl, rfl, rfl, Nat.le_refl _, fun _ _ _ => rfl⟩ (.slice none 0 0) [] (World.ownsRow_nil _ _ _ _) (.inr fun i hi => by simp [Value.ownBlock] at hi)
      exact ⟨rfl, _, r1, HMV.out.trans r2⟩
end Go.Proofs.YtpmhpibbdcifnaaGreat
end
