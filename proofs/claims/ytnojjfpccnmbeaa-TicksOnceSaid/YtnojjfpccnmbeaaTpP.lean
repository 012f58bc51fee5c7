/-
  The contract of the program's All; no timers.
-/
import Derived.Test.YtnojjfpccnmbeaaTpO
namespace Go.Proofs.Ytnojjfpccnmbeaa
open Go.RowKit

set_option maxRecDepth 20000 in
set_option maxHeartbeats 4000000 in
theorem tkall {T Q B : Nat} {v : Value} {c : Int} {l : List Tk.Tm} {w : World} (h : Tk.PTm T Q B v c l w) (hl : l.length ≤ 99990) :
    Calls Try.prog 22 #[.pointer (some ⟨T, 0, none⟩)] w fun e w' => ∃ (A : Option Addr) (n : Nat) (out : List Tk.Tm), e = .returned (.slice A out.length n) ∧ out.Perm l ∧ out.Pairwise Tk.kl ∧ Lies w' w'.heap.size A (Tk.tks out) ∧ Below w.heap.size w w' := by
  have HIS := Lib.hid (tkis h)
  have hc1 := h.c1
  obtain ⟨f, h1, _⟩ := h.q.raw
  obtain ⟨A, n, rfl⟩ := h1.form
  have hq0 := h1.c0
  have HLI := Lib.hid (Tk.own_lies h1.row)
  have HK := Lib.hid h.keys
  have HD := Lib.hid h.dist
  obtain ⟨i0, hi0, hz0, hz1, hz2⟩ := info_parts Tk.tm_info
  clear h h1
  go_enter Try.func22, Try.ntmps22
  go_wp2_with (go_at_call 24; refine HIS.out.mono ?_; rintro e w2 ⟨rfl, rfl⟩)
  go_loopw [3, 18] (fun O i wr => ∃ (A2 : Option Addr) (c2 j : Nat), O = .slice A2 j c2 ∧ i = .int .i64 j ∧ j ≤ l.length ∧ Hid (wr.ownsRow w.heap.size 42 2 (.slice A2 j c2) j (Tk.tks (l.take j))) ∧ Hid (Below w.heap.size w wr)) (fun _ i _ => l.length - (intOf i).toNat)
  case atStart => exact ⟨none, 0, 0, rfl, rfl, Nat.zero_le _, World.ownsRow_nil _ _ _ _, Below.refl _ _⟩
  case round =>
    obtain ⟨A2, c2, j, rfl, rfl, hj, HROW, HB⟩ := hrel
    by_cases hlt : j < l.length
    · have k0 : (0 : Int) ≤ (j : Int) := by omega
      have k1 : (j : Int) < l.length := by omega
      obtain ⟨p, rfl, hpb, hp0, hp1⟩ := Tk.at2 (HLI.out.below HB.out) hlt
      have HTK : Hid (Tk.tks (l.take (j + 1)) = Tk.tks (l.take j) ++ [Value.string (l[j]).1, Value.int .i64 (l[j]).2]) := by show _ = _; rw [List.take_succ_eq_append_getElem hlt, Tk.tks_snoc]
      have HTO : Hid (∀ W, Calls Try.prog 33 #[.agg #[.string (l[j]).1, .int .i64 (l[j]).2]] W fun e w' => e = .returned (.agg #[.string (l[j]).1, .int .i64 (l[j]).2]) ∧ Below W.heap.size W w') := fun W => tktold l[j] (HK.out _ (List.getElem_mem hlt)) W
      generalize l[j] = x at hp0 hp1 HTK HTO
      obtain ⟨x1, x2⟩ := x
      simp only [] at hp0 hp1 HTK HTO
      have hws := HB.out.size
      have HB1 : Hid (Below w.heap.size w (wr.alloc (.cells #[.string x1, .int .i64 x2] 42))) := HB.out.alloc hws _
      have hj9 : j ≤ 99990 := by omega
      clear hlt
      go_wp2_with fail
      refine (HTO.out _).mono ?_
      rintro e w2 ⟨rfl, hb2⟩
      have hs1 : w.heap.size ≤ (wr.alloc (.cells #[.string x1, .int .i64 x2] 42)).heap.size := by simp; omega
      have HB2 : Hid (Below w.heap.size w w2) := HB1.out.trans (hb2.mono hs1)
      have hrow2 : w2.ownsRow w.heap.size 42 2 (.slice A2 j c2) j (Tk.tks (l.take j)) := Tk.ownsKeep (HROW.out.alloc (.cells #[.string x1, .int .i64 x2] 42)) (fun g hg => hb2.block g ((HROW.out.alloc (.cells #[.string x1, .int .i64 x2] 42)).lt g hg).2)
      have HROW2 := Lib.hid hrow2
      have hws2 := HB2.out.size
      clear hb2 hs1 hrow2 hp0 hp1
      go_wp2_with (at_builtin; refine wpList_append_own _ rfl _ _ 28 rfl w.heap.size 42 i0 (.agg #[.string ⟨#[]⟩, .int .i64 0]) 2 24 Try.underlying28 hi0 hz0 hz1 hz2 rfl (by decide) _ _ _ rfl (HROW2.out.alloc _) ⟨w2.heap.size, 0, none⟩ 1 1 [.string x1, .int .i64 x2] rfl rfl (Tk.cellTwoTm w2 (.string x1) (.int .i64 x2) 42) (by simp [Value.oneCell']) (by unfold maxLen; omega) (by omega) (by simp; omega) ?_)
      intro v' w3 hown' hgrow _
      obtain ⟨g', cap', rfl⟩ := ownsRow_succ hown'
      have hlt2 := fun k => (HROW2.out.lt k)
      have hb3 : Below w.heap.size w w3 := (HB2.out.alloc (by omega) _).grown hgrow (by simp; omega) (fun k hk => (hlt2 k hk).1)
      have HB3 := Lib.hid hb3
      rw [← HTK.out] at hown'
      have HR3 := Lib.hid hown'
      clear hown' hgrow hlt2 hb3
      go_wp2_with fail
      go_roundw
      case rel => exact ⟨some ⟨g', 0, none⟩, cap', j + 1, rfl, by go_num, by omega, HR3.out, HB3.out⟩
      case measure => simp [intOf]; omega
    · have k1 : ¬ ((j : Int) < l.length) := by omega
      have hjl : j = l.length := by omega
      have hrow : wr.ownsRow w.heap.size 42 2 (.slice A2 l.length c2) l.length (Tk.tks l) := by
        have := HROW.out
        rwa [List.take_of_length_le (by omega), hjl] at this
      have HS := Lib.hid (tksort hrow (by omega) HD.out HB.out.size)
      rw [← hjl] at HS
      have HJ := Lib.hid hjl
      clear hrow hjl HLI HROW
      go_wp2_with fail
      refine HS.out.mono ?_
      rintro e w3 ⟨rfl, out, e1, e2, e3, e4, e5⟩
      have HE : Hid (∃ (A : Option Addr) (n : Nat) (out : List Tk.Tm), Ending.returned (.slice A2 (j : Nat) c2) = .returned (.slice A out.length n) ∧ out.Perm l ∧ out.Pairwise Tk.kl ∧ Lies w3 w3.heap.size A (Tk.tks out) ∧ Below w.heap.size w w3) := ⟨A2, c2, out, by rw [e1, HJ.out], e2, e3, e4, HB.out.trans e5⟩
      clear e1 e2 e3 e4 e5
      go_wp2_with fail
      go_ret
      exact HE.out
end Go.Proofs.Ytnojjfpccnmbeaa
