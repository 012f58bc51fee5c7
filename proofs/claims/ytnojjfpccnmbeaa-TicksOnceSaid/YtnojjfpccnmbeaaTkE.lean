/-
  The document's timers: Tick.
-/
import Derived.Test.YtnojjfpccnmbeaaTkD
namespace Go.Proofs.Ytnojjfpccnmbeaa
open Go.RowKit

namespace Tk
def tickC (c b : Int) : Int := if b < 0 ∨ 17592186044416 < b then 2 else if 17592186044416 - b < c then 9 else 0
def lenOf : Value → Nat
  | .slice _ n _ => n
  | _ => 0
/-- In the midst of a Tick. -/
structure Mid (c : Int) (l out rest : List Tm) : Prop where
  perm : (out ++ rest).Perm l
  row : out.Pairwise fun a b => lt b a = false
  told : ∀ x ∈ out, x.2 ≤ c
  over : ∀ x ∈ out, ∀ y ∈ rest, lt y x = false
theorem Mid.start (c : Int) (l : List Tm) : Mid c l [] l := ⟨List.Perm.refl _, .nil, fun x hx => by simp at hx, fun x hx => by simp at hx⟩
theorem erase_perm : ∀ {l : List Tm} {i : Nat} (h : i < l.length), (l[i] :: l.eraseIdx i).Perm l := by
  intro l
  induction l with
  | nil => intro i h; simp at h
  | cons x l ih =>
    intro i h
    cases i with
    | zero => exact List.Perm.refl _
    | succ i => exact (List.Perm.swap x _ _).trans (List.Perm.cons x (ih (by simpa using h)))
theorem Mid.next {c : Int} {l out rest : List Tm} (h : Mid c l out rest) {i : Nat} (hi : i < rest.length) (hf : First rest rest[i]) (hc : (rest[i]).2 ≤ c) : Mid c l (out ++ [rest[i]]) (rest.eraseIdx i) := by
  have hp := erase_perm hi
  refine ⟨?_, List.pairwise_append.2 ⟨h.row, List.pairwise_singleton .., fun x hx y hy => ?_⟩, fun x hx => ?_, fun x hx y hy => ?_⟩
  · rw [List.append_assoc]
    exact (List.Perm.append_left out hp).trans h.perm
  · rw [List.mem_singleton.1 hy]
    exact h.over x hx _ (List.getElem_mem hi)
  · rcases List.mem_append.1 hx with hx | hx
    · exact h.told x hx
    · rw [List.mem_singleton.1 hx]; exact hc
  · have hy2 : y ∈ rest := hp.subset (List.mem_cons_of_mem _ hy)
    rcases List.mem_append.1 hx with hx | hx
    · exact h.over x hx y hy2
    · rw [List.mem_singleton.1 hx]; exact hf.2 y hy2
theorem Mid.due {c : Int} {l out rest : List Tm} (h : Mid c l out rest) (hr : ∀ y ∈ rest, c < y.2) : Due c l out rest := ⟨h.perm, h.row, h.told, hr⟩
theorem First.all {l : List Tm} {x : Tm} {c : Int} (h : First l x) (hc : c < x.2) : ∀ y ∈ l, c < y.2 := fun y hy => by
  rcases (lt_not _ _).1 (h.2 y hy) with h1 | ⟨h1, _⟩ <;> omega
theorem Mid.len {c : Int} {l out rest : List Tm} (h : Mid c l out rest) : out.length + rest.length = l.length := by
  have := h.perm.length_eq
  rwa [List.length_append] at this
/-- What a Tick comes to. -/
def Ticked (R : Nat) (v : Value) (c b : Int) (l : List Tm) (w : World) (e : Ending) (w' : World) : Prop :=
  (tickC c b ≠ 0 ∧ e = .returned (.tuple #[.slice none 0 0, .int .i64 (tickC c b)]) ∧ w' = w) ∨
  (tickC c b = 0 ∧ ∃ (A : Option Addr) (n : Nat) (out rest : List Tm) (v' : Value), e = .returned (.tuple #[.slice A out.length n, .int .i64 0]) ∧ Due (c + b) l out rest ∧ DTm R v' (c + b) rest w' ∧ Mvt (DOff R v) (DOff R v') w w' ∧
    Lies w' w'.heap.size A (tks out) ∧ ∀ ad, A = some ad → w.heap.size ≤ ad.block)
end Tk

set_option maxRecDepth 20000 in
set_option maxHeartbeats 4000000 in
theorem rTick {R : Nat} {v : Value} {c : Int} {l : List Tk.Tm} {w : World} (h : Tk.DTm R v c l w) (hl : l.length ≤ 100000) (hc0 : 0 ≤ c) (hc1 : c ≤ 17592186044416) (b : Int) :
    Calls Try.prog 17 #[.pointer (some ⟨R, 0, none⟩), .int .i64 b] w (Tk.Ticked R v c b l w) := by
  by_cases hb : b < 0 ∨ 17592186044416 < b
  · have HT : Hid (Tk.tickC c b = 2) := by show _ = _; unfold Tk.tickC; rw [if_pos hb]
    clear h
    by_cases h1 : b < 0
    · have d1 : decide (b < 0) = true := by simpa using h1
      clear hb
      go_enter Try.func17, Try.ntmps17
      go_wp2_with fail
      refine bodyPost_ret (v := .tuple #[.slice none 0 0, .int .i64 2]) (by simp [results, Try.results17, go_sem]) rfl ?_
      exact .inl ⟨by rw [HT.out]; omega, by rw [HT.out], rfl⟩
    · have d1 : decide (b < 0) = false := by simpa using h1
      have d2 : decide (17592186044416 < b) = true := by simp; omega
      clear hb
      go_enter Try.func17, Try.ntmps17
      go_wp2_with fail
      refine bodyPost_ret (v := .tuple #[.slice none 0 0, .int .i64 2]) (by simp [results, Try.results17, go_sem]) rfl ?_
      exact .inl ⟨by rw [HT.out]; omega, by rw [HT.out], rfl⟩
  have d1 : decide (b < 0) = false := by simp; omega
  have d2 : decide (17592186044416 < b) = false := by simp; omega
  have c0 := h.c0
  have hw1 : IntKind.i64.wrap (17592186044416 - b) = 17592186044416 - b := by rw [IntKind.wrap_i64]; omega
  by_cases hov : 17592186044416 - b < c
  · have HT : Hid (Tk.tickC c b = 9) := by show _ = _; unfold Tk.tickC; rw [if_neg hb, if_pos hov]
    have d3 : decide (17592186044416 - b < c) = true := by simpa using hov
    clear h hb hov
    go_enter Try.func17, Try.ntmps17
    go_wp2_with fail
    refine bodyPost_ret (v := .tuple #[.slice none 0 0, .int .i64 9]) (by simp [results, Try.results17, go_sem]) rfl ?_
    exact .inl ⟨by rw [HT.out]; omega, by rw [HT.out], rfl⟩
  have HT : Hid (Tk.tickC c b = 0) := by show _ = _; unfold Tk.tickC; rw [if_neg hb, if_neg hov]
  have d3 : decide (17592186044416 - b < c) = false := by simpa using hov
  have hw2 : IntKind.i64.wrap (c + b) = c + b := by rw [IntKind.wrap_i64]; omega
  obtain ⟨C, hC⟩ : ∃ C, C = c + b := ⟨_, rfl⟩
  have f0 := frozen_of_row _ _ 0 _ _ h.obj
  have hRl := Tk.ltHeap h.obj
  have h1 : Tk.DTm R v C l (w.setCell ⟨R, 0, none⟩ (.int .i64 C)) := by
    refine ⟨by rw [heap_setCell_same _ _ _ _ _ _ h.obj]; rfl, Tk.ownsKeep h.row (fun g hg => Below.heap_setCell _ _ _ _ (by intro e; exact h.ne (by rw [hg]; exact congrArg some e))), h.ne⟩
  have hm1 : Tk.Mvt (Tk.DOff R v) (Tk.DOff R v) w (w.setCell ⟨R, 0, none⟩ (.int .i64 C)) :=
    ⟨rfl, rfl, rfl, by simp [World.setCell], fun g _ ho => Below.heap_setCell _ _ _ _ (by intro e; exact ho.1 e), fun _ _ h => h⟩
  obtain ⟨W, hW⟩ : ∃ W, W = w.setCell ⟨R, 0, none⟩ (.int .i64 C) := ⟨_, rfl⟩
  rw [← hW] at h1 hm1
  have H1 := Lib.hid h1
  have HM1 := Lib.hid hm1
  have HCE := Lib.hid hC
  have HR := Lib.hid hRl
  obtain ⟨i0, hi0, hz0, hz1, hz2⟩ := info_parts Tk.tm_info
  have hw3 : wrap64 (c + b) = C := by rw [hC]; unfold wrap64; omega
  clear h h1 hm1 hb hov hRl hc0 hc1 hC hw2
  go_enter Try.func17, Try.ntmps17
  go_wp2_with fail
  rw [← hW]
  clear hW c0 f0 hw3
  refine (rnext H1.out hl).mono ?_
  rintro e w1 ⟨⟨r, rfl, hr⟩, hb1⟩
  have HN1 := Lib.hid hr
  have HD1 := Lib.hid (H1.out.below hb1)
  have HMM1 : Hid (Tk.Mvt (Tk.DOff R v) (Tk.DOff R v) w w1) := HM1.out.trans (.of_below hb1)
  clear hr hb1
  go_wp2_with fail
  go_loopw [6, 7] (fun O k wr => ∃ (A2 : Option Addr) (c2 : Nat) (out rest : List Tk.Tm) (v' : Value) (r : Int), O = .slice A2 out.length c2 ∧ k = .int .i64 r ∧ Hid (Tk.Nxt rest r) ∧ Hid (Tk.DTm R v' C rest wr) ∧ Hid (wr.ownsRow w.heap.size 42 2 (.slice A2 out.length c2) out.length (Tk.tks out)) ∧
      Hid (Tk.Mvt (Tk.DOff R v) (Tk.DOff R v') w wr) ∧ Hid (Tk.Mid C l out rest) ∧ Hid (v'.ownBlock = none ∨ v'.ownBlock ≠ (Value.slice A2 out.length c2).ownBlock)) (fun O _ _ => l.length - Tk.lenOf O)
  case atStart => exact ⟨none, 0, [], l, v, r, rfl, rfl, HN1.out, HD1.out, World.ownsRow_nil _ _ _ _, HMM1.out, Tk.Mid.start C l, by
    show _ ∨ _
    cases hv : v.ownBlock with
    | none => exact .inl rfl
    | some g => exact .inr (by simp [Value.ownBlock])⟩
  case round =>
    obtain ⟨A2, c2, out, rest, v', r, rfl, rfl, HN, HD, HROW, HM, HMID, HNE⟩ := hrel
    obtain ⟨A', n', rfl⟩ := HD.out.form
    have hll := HMID.out.len
    have hc0 := HD.out.c0
    have hc1 := HD.out.c1
    have HFIN : Hid (Tk.Due C l out rest → ∀ n, Tk.Ticked R v c b l w (.returned (.tuple #[.slice A2 out.length c2, .int .i64 0])) (wr.drewN n)) := fun hdue n => by
      have hb : Below wr.heap.size wr (wr.drewN n) := below_drewN (Below.refl _ _) n
      refine .inr ⟨HT.out, A2, c2, out, rest, _, rfl, ?_, ?_, HM.out.trans (.of_below hb), (Lies.below (Tk.own_lies HROW.out) hb).mono hb.size, fun ad had => ?_⟩
      · rw [← HCE.out]; exact hdue
      · rw [← HCE.out]; exact HD.out.below hb
      · exact (HROW.out.lt ad.block (by rw [had]; rfl)).1
    rcases HN.out with ⟨rfl, hr0⟩ | ⟨i, hi, rfl, hf⟩
    · have HDUE : Hid (Tk.Due C l out rest) := HMID.out.due (by rw [hr0]; simp)
      clear hr0
      go_wp2_with fail
      go_quiet (fail)
      go_wp2_with fail
      refine bodyPost_ret (v := .tuple #[.slice A2 out.length c2, .int .i64 0]) (by simp [results, Try.results17, go_sem]) rfl ?_
      exact HFIN.out HDUE.out _
    · have k0 : (0 : Int) ≤ (i : Int) := by omega
      have k1 : (i : Int) < rest.length := by omega
      have kd : decide ((0 : Int) ≤ (i : Int)) = true := by simp
      have HNX2 : Hid ((rest[i]).2 ≤ C → Tk.Mid C l (out ++ [rest[i]]) (rest.eraseIdx i)) := fun hc => HMID.out.next hi hf hc
      have HALL : Hid (C < (rest[i]).2 → Tk.Due C l out rest) := fun hc => HMID.out.due (hf.all hc)
      obtain ⟨p, rfl, hpb, hp0, hp1⟩ := Tk.at2 (Tk.own_lies HD.out.row) hi
      have HWO := Lib.hid hi
      generalize rest[i] = x at hp0 hp1 HNX2 HALL
      obtain ⟨x1, x2⟩ := x
      simp only [] at hp0 hp1
      clear hf
      by_cases hle : x2 ≤ C
      · have dle : decide (x2 ≤ C) = true := by simpa using hle
        have HMD2 := Lib.hid (HNX2.out hle)
        have hws := HM.out.size
        have HROWQ : Hid (∀ n, (wr.drewN n).ownsRow w.heap.size 42 2 (.slice A2 out.length c2) out.length (Tk.tks out)) := fun n => Tk.ownsKeep HROW.out (fun _ _ => rfl)
        clear HALL HNX2 hle hi
        go_wp2_with fail
        go_quiet (fail)
        go_wp2_with (at_builtin; refine wpList_append_lies _ rfl _ _ 28 rfl w.heap.size 42 i0 (.agg #[.string ⟨#[]⟩, .int .i64 0]) 2 24 Try.underlying28 hi0 hz0 hz1 hz2 rfl (by decide) _ _ _ rfl ((HROWQ.out _).alloc _) ⟨wr.heap.size, 0, none⟩ 1 1 [.string x1, .int .i64 x2] rfl rfl (Tk.cellTwoTm (wr.drewN _) (.string x1) (.int .i64 x2) 42) (by simp [Value.oneCell']) (by omega) (by unfold maxLen; omega) (by omega) (by simp; omega) (wr.heap.size + 1) (by simp) ?_)
        intro g' cap' w3 hown' hgrow hg' hlt3
        have hRl := HR.out
        have hA2 : ∀ g, (Value.slice A2 out.length c2).ownBlock = some g → w.heap.size ≤ g ∧ g < wr.heap.size := fun g hg => HROW.out.lt g hg
        have hkeep : ∀ g, g < wr.heap.size → some g ≠ (Value.slice A2 out.length c2).ownBlock → w3.heap[g]? = wr.heap[g]? := fun g hg hne => by
          rw [hgrow.block g (by simp; omega) hne]
          exact Below.heap_alloc (wr.drewN _) _ _ hg
        have hg1 := (hown'.lt g' rfl).1
        have hsz3 : wr.heap.size ≤ w3.heap.size := Nat.le_trans (by simp) hgrow.size
        have hpq : p.block < wr.heap.size := hpb
        have hrest : (Value.slice (some p) rest.length n').ownBlock = some p.block := rfl
        have hnep : some p.block ≠ (Value.slice A2 out.length c2).ownBlock := by
          rcases HNE.out with h | h
          · rw [hrest] at h; cases h
          · rw [hrest] at h; exact h
        have hgp : g' ≠ p.block := by
          rcases hg' with h | h
          · intro e; exact hnep (by rw [← e]; exact h.symm)
          · omega
        have hD3 : Tk.DTm R (.slice (some p) rest.length n') C rest w3 := by
          refine ⟨(hkeep R (by omega) (fun e => by have := (hA2 R e.symm).1; omega)).trans HD.out.obj, Tk.ownsKeep HD.out.row (fun g hg => ?_), HD.out.ne⟩
          obtain rfl : p.block = g := by rw [hrest] at hg; exact Option.some.inj hg
          exact hkeep _ hpq hnep
        have hM3 : Tk.Mvt (Tk.DOff R v) (Tk.DOff R (.slice (some p) rest.length n')) w w3 :=
          ⟨by rw [hgrow.os]; exact HM.out.os, by rw [hgrow.tape]; exact HM.out.tape, by rw [hgrow.output]; exact HM.out.output, by omega, fun g hg ho => (hkeep g (by omega) (fun e => by have := (hA2 g e.symm).1; omega)).trans (HM.out.block g hg ho), HM.out.keep⟩
        have hr3 : w3.ownsRow w.heap.size 42 2 (.slice (some ⟨g', 0, none⟩) (out ++ [(x1, x2)]).length cap') (out ++ [(x1, x2)]).length (Tk.tks (out ++ [(x1, x2)])) := by
          rw [Tk.tks_snoc, List.length_append]
          exact hown'
        have HR3 := Lib.hid hr3
        have HD3 := Lib.hid hD3
        have HM3 := Lib.hid hM3
        have HGP := Lib.hid (And.intro hgp (And.intro hlt3 hg1))
        clear hown' hgrow hg' hlt3 hA2 hkeep hg1 hsz3 hpq hrest hnep hgp hD3 hM3 hr3 hc0 hc1
        go_wp2_with fail
        refine (rwithout HD3.out (by omega) (i : Int) i (.inl rfl)).mono ?_
        rintro e w4 ⟨rfl, v4, hD4, hM4, hrow4⟩
        have HD4 := Lib.hid hD4
        have HM4 := Lib.hid hM4
        have HB4 : Hid (∀ g, v4.ownBlock = some g → w3.heap.size ≤ g) := fun g hg => (hrow4.lt g hg).1
        clear hD4 hM4 hrow4
        have hel : (rest.eraseIdx i).length ≤ 100000 := by have := List.length_eraseIdx_le rest i; omega
        go_wp2_with fail
        refine (rnext HD4.out hel).mono ?_
        rintro e w5 ⟨⟨r5, rfl, hr5⟩, hb5⟩
        have HN5 := Lib.hid hr5
        have HB5 := Lib.hid hb5
        clear hr5 hb5 hel
        go_wp2_with fail
        go_roundw
        case rel =>
          have hD5 := HD4.out.below HB5.out
          have hoff : Tk.DOff R (.slice (some p) rest.length n') g' := ⟨by have := HGP.out.2.2; omega, fun e => HGP.out.1 (by injection e)⟩
          refine ⟨some ⟨g', 0, none⟩, cap', out ++ [(x1, x2)], rest.eraseIdx i, v4, r5, by simp, rfl, HN5.out, hD5, ?_, (HM3.out.trans HM4.out).trans (.of_below HB5.out), HMD2.out, ?_⟩
          · refine Tk.ownsKeep HR3.out (fun g hg => ?_)
            obtain rfl : g' = g := by injection hg
            rw [HB5.out.block _ (Nat.lt_of_lt_of_le HGP.out.2.1 HM4.out.size)]
            exact HM4.out.block _ HGP.out.2.1 hoff
          · show _ ∨ _
            cases hv : v4.ownBlock with
            | none => exact .inl rfl
            | some g =>
              refine .inr fun e => ?_
              have h1 := HB4.out g hv
              have h2 : g = g' := by injection e
              have := HGP.out.2.1
              omega
        case measure => simp [Tk.lenOf]; omega
      · have dle : decide (x2 ≤ C) = false := by simpa using hle
        have HDUE := Lib.hid (HALL.out (by omega))
        clear HALL HNX2 hle hi
        go_wp2_with fail
        go_quiet (fail)
        go_wp2_with fail
        refine bodyPost_ret (v := .tuple #[.slice A2 out.length c2, .int .i64 0]) (by simp [results, Try.results17, go_sem]) rfl ?_
        exact HFIN.out HDUE.out _
end Go.Proofs.Ytnojjfpccnmbeaa
