/-
  The document's Input (layer 11).
-/
import Derived.Test.YtndgafjnifkghaaDoorChJ
namespace Go.Proofs.YtndgafjnifkghaaDoor
open Go.RowKit

set_option maxHeartbeats 1000000 in
set_option maxRecDepth 20000 in
theorem rInput11 (A : Option Addr) (c : Nat) (l : List Cd.Fm) (w : World) (hR : ∀ m ∈ l, m.f.Rng) (hn : l.length ≤ maxLen) (hP : Cd.Prog w w.heap.size A l) (A2 : Option Addr) (n c2 : Nat) (_hn2 : n ≤ maxLen) :
    Calls Tryd.prog 9 #[.agg #[.slice A l.length c], .slice A2 n c2] w fun e w' => e = .returned (.int .i64 (Ck.inp (Cd.fns l) n : Int)) ∧ Below w.heap.size w w' := by
  unfold maxLen at _hn2
  obtain ⟨W, hW⟩ : ∃ W, W = w.alloc (.cells #[.slice A l.length c] 24) := ⟨_, rfl⟩
  have hb : Below w.heap.size w W := by rw [hW]; exact Cd.fn1 _ _ _
  have hX : Cd.PBlk W w.heap.size (.slice A l.length c) := by show W.heap[_]? = _; rw [hW]; exact heap_alloc_new w _
  have HB := Lib.hid hb
  have HX := Lib.hid hX
  have p0 := hX.c0
  have HP := Lib.hid ((hP.below hb).mono hb.size)
  have HC := Lib.hid (rMay11 A c l W hR hn HP.out)
  have HIN : Hid (Ck.inp (Cd.fns l) n = if (Ck.chk (Cd.fns l)).1 = 0 then (if ((Cd.fns l)[0]?.getD default).args = (n : Int) then 0 else 114) else (Ck.chk (Cd.fns l)).1) := rfl
  have HPS : Hid ((Ck.chk (Cd.fns l)).1 = 0 → 0 < l.length) := fun h => by rw [← Cd.fns_len l]; exact (Ck.chk_some h).1
  generalize Ck.inp (Cd.fns l) n = r at HIN ⊢
  generalize Ck.chk (Cd.fns l) = x at HC HIN HPS
  obtain ⟨e, i, k⟩ := x
  dsimp only at HC HIN HPS
  clear hb hX hP hR hn
  go_enter Tryd.func9, Tryd.ntmps9
  go_upto_region 1 with fail
  rw [← hW]
  clear hW
  obtain ⟨X, hXe⟩ : ∃ X, X = w.heap.size := ⟨_, rfl⟩
  rw [← hXe] at HX p0 ⊢
  clear hXe
  go_wp2_with fail
  refine HC.out.mono ?_
  rintro e2 w2 ⟨rfl, hb2⟩
  have H2 := Lib.hid hb2
  have p0 := (HX.out.of_block (hb2.block _ HX.out.lt)).c0
  clear hb2 HC
  by_cases he : e = 0
  · subst he
    have hl0 := HPS.out rfl
    have HR2 : Hid (r = if ((Cd.fns l)[0]?.getD default).args = (n : Int) then 0 else 114) := HIN.out.trans (if_pos rfl)
    obtain ⟨ad, rfl, -, d0, -, -⟩ := Cd.fn_at ((HP.out.below H2.out).mono H2.out.size).fs hl0
    have ea : ((Cd.fns l)[0]?.getD default).args = l[0].f.args := by unfold Cd.fns; rw [List.getElem?_map, List.getElem?_eq_getElem hl0]; rfl
    have i1 : (0 : Int) < (l.length : Int) := by omega
    have HR3 : Hid (r = if l[0].f.args = (n : Int) then 0 else 114) := by have := HR2.out; rwa [ea] at this
    have d0' : w2.cell? ad = some (.int .i64 l[0].f.args) := d0
    generalize l[0].f.args = a at d0 d0' HR3
    clear HR2 ea HIN HPS hl0
    by_cases ha : a = (n : Int)
    · have HE : Hid (r = 0) := HR3.out.trans (if_pos ha)
      have hab : ((n : Int) != a) = false := by simp; omega
      clear ha HR3
      go_wp2_with fail
      go_ret
      exact ⟨by rw [HE.out]; rfl, HB.out.trans (H2.out.mono HB.out.size)⟩
    · have HE : Hid (r = 114) := HR3.out.trans (if_neg ha)
      have hab : ((n : Int) != a) = true := by simp; omega
      clear ha HR3
      go_wp2_with fail
      go_ret
      exact ⟨by rw [HE.out]; rfl, HB.out.trans (H2.out.mono HB.out.size)⟩
  · have HE : Hid (r = e) := HIN.out.trans (if_neg he)
    have hei : ((e : Int) == 0) = false := by rw [beq_eq_false_iff_ne]; omega
    clear he HIN HPS
    go_wp2_with fail
    go_ret
    exact ⟨by rw [HE.out]; rfl, HB.out.trans (H2.out.mono HB.out.size)⟩
end Go.Proofs.YtndgafjnifkghaaDoor
