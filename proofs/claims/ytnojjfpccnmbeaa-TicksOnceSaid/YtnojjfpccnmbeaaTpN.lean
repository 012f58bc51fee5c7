/-
  The program's timers: Tick.
-/
import Derived.Test.YtnojjfpccnmbeaaTpM
namespace Go.Proofs.Ytnojjfpccnmbeaa
open Go.RowKit

namespace Tk
theorem Mid.rest_perm {c : Int} {l out r r' : List Tm} (h : Mid c l out r) (hp : r'.Perm r) : Mid c l out r' :=
  ⟨(hp.append_left out).trans h.perm, h.row, h.told, fun x hx y hy => h.over x hx y (hp.subset hy)⟩
theorem row_cap {w : World} {base n c : Nat} {T : TypeId} {ad : Addr} {xs : List Value} (h : w.ownsRow base T 2 (.slice (some ad) n c) n xs) : n ≤ c := by
  rcases h.2 with ⟨e, _⟩ | ⟨g, cap, cur, e, _, _, hn, _⟩
  · cases e
  · injection e with _ _ e3
    omega
/-- What the program's Tick comes to. -/
def PTicked (T Q B : Nat) (v : Value) (c b : Int) (l : List Tm) (w : World) (e : Ending) (w' : World) : Prop :=
  (tickC c b ≠ 0 ∧ e = .returned (.tuple #[.slice none 0 0, .int .i64 (tickC c b)]) ∧ w' = w) ∨
  (tickC c b = 0 ∧ ∃ (A : Option Addr) (n : Nat) (out rest : List Tm) (v' : Value), e = .returned (.tuple #[.slice A out.length n, .int .i64 0]) ∧ Due (c + b) l out rest ∧ PTm T Q B v' (c + b) rest w' ∧ Mvt (POff T Q B v) (POff T Q B v') w w' ∧
    Lies w' w'.heap.size A (tks out) ∧ ∀ ad, A = some ad → w.heap.size ≤ ad.block ∧ POff T Q B v' ad.block ∧ out.length ≤ n)
end Tk

set_option maxRecDepth 20000 in
set_option maxHeartbeats 4000000 in
theorem tktick {T Q B : Nat} {v : Value} {c : Int} {l : List Tk.Tm} {w : World} (h : Tk.PTm T Q B v c l w) (hl : l.length ≤ 99990) (hc0 : 0 ≤ c) (hc1 : c ≤ 17592186044416) (b : Int) :
    Calls Try.prog 16 #[.pointer (some ⟨T, 0, none⟩), .int .i64 b] w (Tk.PTicked T Q B v c b l w) := by
  have HIS := Lib.hid (tkis h)
  by_cases hb : b < 0 ∨ 17592186044416 < b
  · have HT : Hid (Tk.tickC c b = 2) := by show _ = _; unfold Tk.tickC; rw [if_pos hb]
    clear h
    by_cases h1 : b < 0
    · have d1 : decide (b < 0) = true := by simpa using h1
      clear hb
      go_enter Try.func16, Try.ntmps16
      go_wp2_with (go_at_call 24; refine HIS.out.mono ?_; rintro e w2 ⟨rfl, rfl⟩)
      refine bodyPost_ret (v := .tuple #[.slice none 0 0, .int .i64 2]) (by simp [results, Try.results16, go_sem]) rfl ?_
      exact .inl ⟨by rw [HT.out]; omega, by rw [HT.out], rfl⟩
    · have d1 : decide (b < 0) = false := by simpa using h1
      have d2 : decide (17592186044416 < b) = true := by simp; omega
      clear hb
      go_enter Try.func16, Try.ntmps16
      go_wp2_with (go_at_call 24; refine HIS.out.mono ?_; rintro e w2 ⟨rfl, rfl⟩)
      refine bodyPost_ret (v := .tuple #[.slice none 0 0, .int .i64 2]) (by simp [results, Try.results16, go_sem]) rfl ?_
      exact .inl ⟨by rw [HT.out]; omega, by rw [HT.out], rfl⟩
  have d1 : decide (b < 0) = false := by simp; omega
  have d2 : decide (17592186044416 < b) = false := by simp; omega
  have c0 := h.c0
  have hw1 : IntKind.i64.wrap (17592186044416 - c) = 17592186044416 - c := by rw [IntKind.wrap_i64]; omega
  by_cases hov : 17592186044416 - b < c
  · have HT : Hid (Tk.tickC c b = 9) := by show _ = _; unfold Tk.tickC; rw [if_neg hb, if_pos hov]
    have d3 : decide (17592186044416 - c < b) = true := by simp; omega
    clear h hb hov
    go_enter Try.func16, Try.ntmps16
    go_wp2_with (go_at_call 24; refine HIS.out.mono ?_; rintro e w2 ⟨rfl, rfl⟩)
    refine bodyPost_ret (v := .tuple #[.slice none 0 0, .int .i64 9]) (by simp [results, Try.results16, go_sem]) rfl ?_
    exact .inl ⟨by rw [HT.out]; omega, by rw [HT.out], rfl⟩
  have HT : Hid (Tk.tickC c b = 0) := by show _ = _; unfold Tk.tickC; rw [if_neg hb, if_neg hov]
  have d3 : decide (17592186044416 - c < b) = false := by simp; omega
  obtain ⟨C, hC⟩ : ∃ C, C = c + b := ⟨_, rfl⟩
  have f0 := frozen_of_row _ _ 0 _ _ h.obj
  have hTl := Tk.ltHeap h.obj
  obtain ⟨W, hW⟩ : ∃ W, W = w.setCell ⟨T, 0, none⟩ (.int .i64 C) := ⟨_, rfl⟩
  have hk : ∀ j, j ≠ T → W.heap[j]? = w.heap[j]? := fun j hj => by rw [hW]; exact Below.heap_setCell _ _ _ _ hj
  have h1 : Tk.PTm T Q B v C l W := by
    obtain ⟨f, r1, r2⟩ := h.q.raw
    refine ⟨by rw [hW, heap_setCell_same _ _ _ _ _ _ h.obj]; rfl, ⟨⟨f, ⟨(hk _ (fun e => h.nT.1 e.symm)).trans r1.obj, Tk.ownsKeep r1.row (fun j hj => hk j (fun e => h.nT.2.2 (by rw [← e]; exact hj.symm))), r1.mp.of_block (hk _ (fun e => h.nT.2.1 e.symm)), r1.neQ, r1.neB, r1.QB⟩, r2⟩, h.q.dist, h.q.keys⟩, h.hp, h.nT⟩
  have hm1 : Tk.Mvt (Tk.POff T Q B v) (Tk.POff T Q B v) w W := ⟨by rw [hW]; rfl, by rw [hW]; rfl, by rw [hW]; rfl, by rw [hW]; simp [World.setCell], fun j _ ho => hk j ho.1, fun _ _ h => h⟩
  have H1 := Lib.hid h1
  have HM1 := Lib.hid hm1
  have HCE := Lib.hid hC
  have HLOW : Hid (T < w.heap.size ∧ Q < w.heap.size ∧ B < w.heap.size) := ⟨hTl, h.q.ltQ, h.q.ltB⟩
  obtain ⟨i0, hi0, hz0, hz1, hz2⟩ := info_parts Tk.tm_info
  have hw3 : wrap64 (c + b) = C := by rw [hC]; unfold wrap64; omega
  clear h h1 hm1 hb hov hTl hc0 hc1 hC hk
  go_enter Try.func16, Try.ntmps16
  go_wp2_with (go_at_call 24; refine HIS.out.mono ?_; rintro e w2 ⟨rfl, rfl⟩)
  rw [← hW]
  clear hW c0 f0 hw3 hw1
  go_loopw [6] (fun O wr => ∃ (A2 : Option Addr) (c2 : Nat) (out rest : List Tk.Tm) (v' : Value), O = .slice A2 out.length c2 ∧ Hid (Tk.PTm T Q B v' C rest wr) ∧ Hid (wr.ownsRow w.heap.size 42 2 (.slice A2 out.length c2) out.length (Tk.tks out)) ∧
      Hid (Tk.Mvt (Tk.POff T Q B v) (Tk.POff T Q B v') w wr) ∧ Hid (Tk.Mid C l out rest) ∧ Hid (∀ g, (Value.slice A2 out.length c2).ownBlock = some g → Tk.POff T Q B v' g)) (fun O _ => l.length - Tk.lenOf O)
  case atStart => exact ⟨none, 0, [], l, v, rfl, H1.out, World.ownsRow_nil _ _ _ _, HM1.out, Tk.Mid.start C l, fun g hg => by simp [Value.ownBlock] at hg⟩
  case round =>
    obtain ⟨A2, c2, out, rest, v', rfl, HP, HROW, HM, HMID, HOFF⟩ := hrel
    have hll := HMID.out.len
    have hc0 := HP.out.c0
    have hc1 := HP.out.c1
    have hbd : Below wr.heap.size wr wr.drew := below_drewN (Below.refl _ _) 1
    have HPD := Lib.hid (HP.out.below hbd)
    have HDUE := Lib.hid (qdue HPD.out.q C)
    have HFIN : Hid (Tk.Due C l out rest → Tk.PTicked T Q B v c b l w (.returned (.tuple #[.slice A2 out.length c2, .int .i64 0])) wr.drew) := fun hdue => by
      refine .inr ⟨HT.out, A2, c2, out, rest, v', rfl, ?_, ?_, HM.out.trans (.of_below hbd), (Lies.below (Tk.own_lies HROW.out) hbd).mono hbd.size, fun ad had => ?_⟩
      · rw [← HCE.out]; exact hdue
      · rw [← HCE.out]; exact HPD.out
      · exact ⟨(HROW.out.lt ad.block (by rw [had]; rfl)).1, HOFF.out ad.block (by rw [had]; rfl), Tk.row_cap (had ▸ HROW.out)⟩
    cases rest with
    | nil =>
      have HDU : Hid (Tk.Due C l out []) := HMID.out.due (by simp)
      have HDUE2 : Hid (Calls Try.prog 31 #[.pointer (some ⟨Q, 0, none⟩), .int .i64 C] wr.drew fun e w' => e = .returned (.bool false) ∧ w' = wr.drew) := HDUE.out.mono fun _ _ h => ⟨h.1, h.2.symm⟩
      clear hll hbd
      go_wp2_with fail
      refine wp_region_still_lit (by kernel_rfl) (by kernel_rfl) ?_
      repeat still_step
      still_call HDUE2.out
      refine wpStill_nil ?_
      go_wp2_with fail
      refine bodyPost_ret (v := .tuple #[.slice A2 out.length c2, .int .i64 0]) (by simp [results, Try.results16, go_sem]) rfl ?_
      exact HFIN.out HDU.out
    | cons x rest =>
      have hfirst := HP.out.first
      by_cases hle : x.2 ≤ C
      · have dle : decide (x.2 ≤ C) = true := by simpa using hle
        have HDUE2 : Hid (Calls Try.prog 31 #[.pointer (some ⟨Q, 0, none⟩), .int .i64 C] wr.drew fun e w' => e = .returned (.bool true) ∧ w' = wr.drew) := HDUE.out.mono fun _ _ h => ⟨by rw [h.1]; simp only [List.getElem?_cons_zero]; rw [dle], h.2.symm⟩
        have HMN := Lib.hid (HMID.out.next (i := 0) (by simp) hfirst hle)
        have HTAKE : Hid (Calls Try.prog 30 #[.pointer (some ⟨Q, 0, none⟩), .int .i64 0] wr.drew fun e w' => e = .returned (.agg #[.string x.1, .int .i64 x.2]) ∧ Hid (∃ v2 l2, Tk.PTm T Q B v2 C l2 w' ∧ Tk.Mvt (Tk.POff T Q B v') (Tk.POff T Q B v2) wr.drew w' ∧ l2.Perm rest)) := by
          refine (qtake HPD.out.q HPD.out.hp (by omega) 0 x rfl).mono ?_
          rintro e w' ⟨he, v2, l2, q1, q2, q3, q4⟩
          obtain ⟨p1, p2⟩ := HPD.out.moved q1 q4 q2
          exact ⟨he, v2, l2, p1, p2, q3⟩
        obtain ⟨x1, x2⟩ := x
        simp only [] at HTAKE
        have hlen9 : out.length ≤ 99990 := by omega
        have HBD := Lib.hid hbd
        clear hfirst hle dle hll hbd HDUE
        go_wp2_with fail
        refine wp_region_still_lit (by kernel_rfl) (by kernel_rfl) ?_
        repeat still_step
        still_call HDUE2.out
        refine wpStill_nil ?_
        go_wp2_with fail
        refine HTAKE.out.mono ?_
        rintro e w2 ⟨rfl, HE⟩
        obtain ⟨v2, l2, hP2, hM2, hp2⟩ := HE.out
        have hrow2 : w2.ownsRow w.heap.size 42 2 (.slice A2 out.length c2) out.length (Tk.tks out) := Tk.ownsKeep HROW.out (fun g hg => (hM2.block g (HROW.out.lt g hg).2 (HOFF.out g hg)).trans rfl)
        have hoff2 : ∀ g, (Value.slice A2 out.length c2).ownBlock = some g → Tk.POff T Q B v2 g := fun g hg => hM2.keep g (HROW.out.lt g hg).2 (HOFF.out g hg)
        have hM2' : Tk.Mvt (Tk.POff T Q B v) (Tk.POff T Q B v2) w w2 := (HM.out.trans (.of_below HBD.out)).trans hM2
        have hws2 := hM2'.size
        have HROW2 := Lib.hid hrow2
        have HP2 := Lib.hid hP2
        have HM2 := Lib.hid hM2'
        have HOFF2 := Lib.hid hoff2
        have HPERM := Lib.hid hp2
        clear hP2 hM2 hp2 hrow2 hoff2 hM2' HE hc0 hc1
        go_wp2_with (at_builtin; refine wpList_append_lies _ rfl _ _ 28 rfl w.heap.size 42 i0 (.agg #[.string ⟨#[]⟩, .int .i64 0]) 2 24 Try.underlying28 hi0 hz0 hz1 hz2 rfl (by decide) _ _ _ rfl (HROW2.out.alloc _) ⟨w2.heap.size, 0, none⟩ 1 1 [.string x1, .int .i64 x2] rfl rfl (Tk.cellTwoTm w2 (.string x1) (.int .i64 x2) 42) (by simp [Value.oneCell']) (by omega) (by unfold maxLen; omega) (by omega) (by simp; omega) (w2.heap.size + 1) (by simp) ?_)
        intro g' cap' w3 hown' hgrow hg' hlt3
        have hkeep : ∀ g, g < w2.heap.size → some g ≠ (Value.slice A2 out.length c2).ownBlock → w3.heap[g]? = w2.heap[g]? := fun g hg hne => by
          rw [hgrow.block g (by simp; omega) hne]
          exact Below.heap_alloc w2 _ _ hg
        have hoffg : Tk.POff T Q B v2 g' := by
          rcases hg' with h | h
          · exact HOFF2.out g' h
          · exact HP2.out.fresh (by omega)
        have hbase : ∀ g, (Value.slice A2 out.length c2).ownBlock = some g → w.heap.size ≤ g := fun g hg => (HROW2.out.lt g hg).1
        have hlow := HLOW.out
        have hP3 : Tk.PTm T Q B v2 C l2 w3 := by
          have hp := HP2.out
          obtain ⟨f, r1, r2⟩ := hp.q.raw
          have hTs := Tk.ltHeap hp.obj
          refine ⟨(hkeep T hTs (fun e => by have := hbase T e.symm; omega)).trans hp.obj, ⟨⟨f, ⟨(hkeep Q (Tk.ltHeap r1.obj) (fun e => by have := hbase Q e.symm; omega)).trans r1.obj, Tk.ownsKeep r1.row (fun j hj => hkeep j (r1.row.lt j hj).2 (fun e => (HOFF2.out j e.symm).2.2.2 hj.symm)), r1.mp.of_block (hkeep B r1.mp.lt (fun e => by have := hbase B e.symm; omega)), r1.neQ, r1.neB, r1.QB⟩, r2⟩, hp.q.dist, hp.q.keys⟩, hp.hp, hp.nT⟩
        have hM3 : Tk.Mvt (Tk.POff T Q B v) (Tk.POff T Q B v2) w w3 := by
          have m := HM2.out
          have hs3 : w2.heap.size ≤ w3.heap.size := Nat.le_trans (by simp) hgrow.size
          exact ⟨by rw [hgrow.os]; exact m.os, by rw [hgrow.tape]; exact m.tape, by rw [hgrow.output]; exact m.output, by omega, fun g hg ho => (hkeep g (by omega) (fun e => by have := hbase g e.symm; omega)).trans (m.block g hg ho), m.keep⟩
        have hr3 : w3.ownsRow w.heap.size 42 2 (.slice (some ⟨g', 0, none⟩) (out ++ [(x1, x2)]).length cap') (out ++ [(x1, x2)]).length (Tk.tks (out ++ [(x1, x2)])) := by
          rw [Tk.tks_snoc, List.length_append]
          exact hown'
        have hMD3 : Tk.Mid C l (out ++ [(x1, x2)]) l2 := HMN.out.rest_perm HPERM.out
        have hll3 := hMD3.len
        have HP3 := Lib.hid hP3
        have HM3 := Lib.hid hM3
        have HR3 := Lib.hid hr3
        have HMD3 := Lib.hid hMD3
        have HOG : Hid (∀ n cap g, (Value.slice (some ⟨g', 0, none⟩) n cap).ownBlock = some g → Tk.POff T Q B v2 g) := fun n cap g hg => by
          have e : g' = g := by injection hg
          rw [← e]
          exact hoffg
        clear hown' hgrow hg' hlt3 hkeep hoffg hbase hlow hP3 hM3 hr3 hMD3
        go_wp2_with fail
        go_roundw
        case rel => exact ⟨some ⟨g', 0, none⟩, cap', out ++ [(x1, x2)], l2, v2, by simp, HP3.out, HR3.out, HM3.out, HMD3.out, HOG.out _ _⟩
        case measure => simp [Tk.lenOf] at hll3 ⊢; omega
      · have dle : decide (x.2 ≤ C) = false := by simpa using hle
        have HDUE2 : Hid (Calls Try.prog 31 #[.pointer (some ⟨Q, 0, none⟩), .int .i64 C] wr.drew fun e w' => e = .returned (.bool false) ∧ w' = wr.drew) := HDUE.out.mono fun _ _ h => ⟨by rw [h.1]; simp only [List.getElem?_cons_zero]; rw [dle], h.2.symm⟩
        have HDU : Hid (Tk.Due C l out (x :: rest)) := HMID.out.due (hfirst.all (by omega))
        clear hfirst hle dle hll hbd HDUE
        go_wp2_with fail
        refine wp_region_still_lit (by kernel_rfl) (by kernel_rfl) ?_
        repeat still_step
        still_call HDUE2.out
        refine wpStill_nil ?_
        go_wp2_with fail
        refine bodyPost_ret (v := .tuple #[.slice A2 out.length c2, .int .i64 0]) (by simp [results, Try.results16, go_sem]) rfl ?_
        exact HFIN.out HDU.out
end Go.Proofs.Ytnojjfpccnmbeaa
