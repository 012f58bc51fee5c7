/-
  Layer 13: the contract of the tree's reckon.
-/
import Derived.Test.YtepnofklmdofmaaGreatDoorLowEvA
import Derived.Test.YtepnofklmdofmaaGreatDoorLowCdN
namespace Go.Proofs.YtepnofklmdofmaaGreatDoor
open Go.RowKit

namespace Ev
def plE (s : St) (o : Cd.OpV) : Int := if (plain s o).isSome then 0 else 131
def plS (s : St) (o : Cd.OpV) : St := (plain s o).getD s
/-- A plain op was done. -/
def PlainP (K : Nat → Prop) (X T R : Nat) (fs mk v u : Value) (hd ds : List Dm) (t : Tsk) (A : Option Addr) (c : Nat) (s : St) (o : Cd.OpV) (w : World) (e : Ending) (w' : World) : Prop :=
  e = .returned (.int .i64 (plE s o)) ∧ NowE K X T R fs mk v u hd ds t A c (plS s o) w' ∧ Gm.Mvg (NOff X T R v u) (NOff X T R v u) w w'
theorem rgAt_nat {l : List Int} {d : Nat} (h : d < l.length) : rgAt l (d : Int) = l[d] := by
  unfold rgAt
  rw [Int.toNat_natCast, List.getElem?_eq_getElem h]
  rfl
theorem plain_calc {s : St} {o : Cd.OpV} (h2 : 2 ≤ o.k) (h9 : o.k ≤ 9) : plain s o = (calcV o.k (rgAt s.regs o.a) (if o.k = 2 then 0 else rgAt s.regs o.b)).map fun x => { s with regs := s.regs.set o.d.toNat x } := by
  unfold plain
  rw [if_neg (by omega), if_neg (by omega), if_neg (by omega)]
theorem calcV_none {k : Nat} {a b : Int} (h : (k = 6 ∨ k = 7) ∧ b = 0) : calcV k a b = none := by
  obtain ⟨h | h, rfl⟩ := h <;> subst h <;> simp [calcV]
theorem calcV_some {k : Nat} {a b : Int} (h3 : 3 ≤ k) (h9 : k ≤ 9) (h : ¬ ((k = 6 ∨ k = 7) ∧ b = 0)) : ∃ x, calcV k a b = some x := by
  obtain rfl | rfl | rfl | rfl | rfl | rfl | rfl : k = 3 ∨ k = 4 ∨ k = 5 ∨ k = 6 ∨ k = 7 ∨ k = 8 ∨ k = 9 := by omega
  all_goals
    unfold calcV
    simp only [Nat.reduceEqDiff, if_true, if_false]
    first
      | exact ⟨_, rfl⟩
      | (rw [if_neg (by intro e; exact h ⟨by simp, e⟩)]; exact ⟨_, rfl⟩)
theorem call_fno {k : Nat} (h3 : 3 ≤ k) (h9 : k ≤ 9) (args : Array Value) (U : World) : Sem.run Tryz.prog (callFunc (fno k) args) U = .ok (.enter (fno k) args) U := by
  obtain rfl | rfl | rfl | rfl | rfl | rfl | rfl : k = 3 ∨ k = 4 ∨ k = 5 ∨ k = 6 ∨ k = 7 ∨ k = 8 ∨ k = 9 := by omega
  all_goals kernel_rfl
theorem fn_zero (w : World) : (zeroValue 158).run Tryz.prog w = .ok .nilFunc w := by kernel_rfl
theorem Env.look {l : List Cd.Fm} {P : Option Addr} {M : Nat} {off : Nat → Prop} {w : World} (h : Env l P M (mF 7) off w) {k : Nat} (h3 : 3 ≤ k) (h9 : k ≤ 9) :
    (Instr.lookup 127 (.map (some M)) (.int .u8 (k : Int)) false).run Tryz.prog w = .ok (.func (.func (fno k)) #[] #[]) w := by
  have := h.map.look1 Gm.key8 Tryz.underlying127 (fn_zero w) (Gm.isKey8 (a := (k : Int)) (by omega) (by omega))
  rw [mF_in h3 (by omega)] at this
  exact this
theorem Env.drew {l : List Cd.Fm} {P : Option Addr} {M : Nat} {F : Value → Option Value} {off : Nat → Prop} {w : World} (h : Env l P M F off w) : Env l P M F off w.drew := h.mv (mvg_drew (Gm.Mvg.refl _ _))
end Ev

set_option maxHeartbeats 2000000 in
set_option maxRecDepth 20000 in
theorem ereckon {K : Nat → Prop} {X T R : Nat} {fs v u : Value} {hd ds : List Ev.Dm} {t : Ev.Tsk} {A : Option Addr} {c : Nat} {s : Ev.St} {w : World} {l : List Cd.Fm} {P : Option Addr} {M : Nat} (h : Ev.NowE K X T R fs (.map (some M)) v u hd ds t A c s w)
    (hE : Ev.Env l P M (Ev.mF 7) (Ev.NOff X T R v u) w) (k : Nat) (d a b : Nat) (n : Int) (h3 : 3 ≤ k) (h9 : k ≤ 9) (hd' : d < s.regs.length) (ha' : a < s.regs.length) (hb' : b < s.regs.length) (_h16 : s.regs.length ≤ 16) :
    Calls Tryz.prog 129 #[.pointer (some ⟨X, 0, none⟩), .pointer (some ⟨T, 0, none⟩), .agg #[.int .u8 (k : Int), .int .i64 (d : Int), .int .i64 (a : Int), .int .i64 (b : Int), .int .i64 n]] w
      (Ev.PlainP K X T R fs (.map (some M)) v u hd ds t A c s ⟨k, d, a, b, n⟩ w) := by
  obtain ⟨V, hV⟩ : ∃ V, V = w.alloc (.cells #[.int .u8 (k : Int), .int .i64 (d : Int), .int .i64 (a : Int), .int .i64 (b : Int), .int .i64 n] 72) := ⟨_, rfl⟩
  have hbV : Below w.heap.size w V := by rw [hV]; exact Cd.fn1 _ _ _
  have hZ : Cd.OB V w.heap.size ⟨k, d, a, b, n⟩ := by show V.heap[_]? = _; rw [hV]; exact heap_alloc_new w _
  have HN := Lib.hid (h.below hbV)
  have HM := Lib.hid (Gm.Mvg.of_below (off := Ev.NOff X T R v u) hbV)
  have HE := Lib.hid (hE.mv HM.out)
  have HPC : Hid (Ev.plain s ⟨k, d, a, b, n⟩ = (Ev.calcV k s.regs[a] s.regs[b]).map fun x => { s with regs := s.regs.set d x }) := by
    show _ = _
    rw [Ev.plain_calc (by show 2 ≤ k; omega) h9]
    simp only []
    rw [if_neg (by omega), Ev.rgAt_nat ha', Ev.rgAt_nat hb', Int.toNat_natCast]
  have HRA := Lib.hid (HN.out.tk.reg ha')
  have HRB := Lib.hid (HN.out.tk.reg hb')
  have HRD := Lib.hid (HN.out.tk.reg hd')
  have d1 : (d : Int) < (s.regs.length : Int) := by omega
  have a1 : (a : Int) < (s.regs.length : Int) := by omega
  have b1 : (b : Int) < (s.regs.length : Int) := by omega
  have d0 : (0 : Int) ≤ (d : Int) := by omega
  have a0 : (0 : Int) ≤ (a : Int) := by omega
  have b0 : (0 : Int) ≤ (b : Int) := by omega
  generalize s.regs[d] = xd at HRD
  generalize s.regs[a] = xa at HRA HPC
  generalize s.regs[b] = xb at HRB HPC
  have r0 := HRA.out
  have r1 := HRB.out
  have r2 := HRD.out
  have rf := HN.out.tk.rfro d
  have t4 : V.cell? ⟨T, 4, none⟩ = some (.slice (some ⟨R, 0, none⟩) s.regs.length s.regs.length) := HN.out.tk.cell 4
  have x1 := HN.out.tr.x1
  have c0 := hZ.c0
  have c1 := hZ.c1
  have c2 := hZ.c2
  have c3 := hZ.c3
  have HNE : Hid (T ≠ R ∧ X ≠ R ∧ w.heap.size ≠ R) := ⟨fun e => HN.out.tk.ne e.symm, fun e => HN.out.o2.1 e.symm, fun e => by have := h.tk.ltR; omega⟩
  have HK3 := Lib.hid h3
  have HK9 := Lib.hid h9
  clear h hE hd' ha' hb' hbV hZ HRA HRB HRD h3 h9
  go_enter Tryz.func129, Tryz.ntmps129
  go_upto_region 1 with fail
  rw [← hV]
  clear hV
  generalize w.heap.size = Z at c0 c1 c2 c3 HNE ⊢
  simp only [] at c0 c1 c2 c3
  go_region
  have HD := Lib.hid (fun U => edivides k U)
  have hl2 := HE.out.drew.drew.look HK3.out HK9.out
  by_cases hb0 : (k = 6 ∨ k = 7) ∧ xb = 0
  · obtain ⟨hk, rfl⟩ := hb0
    have HPN := Lib.hid (Ev.calcV_none (k := k) (a := xa) (b := 0) ⟨hk, rfl⟩)
    rw [show (decide (k = 6) || decide (k = 7)) = true by rcases hk with h | h <;> simp [h]] at HD
    clear hk
    go_wp2_with fail
    refine (HD.out _).mono ?_
    rintro e w1 ⟨rfl, rfl⟩
    go_wp2_with fail
    go_ret
    have e1 := HPC.out
    rw [HPN.out] at e1
    refine ⟨by unfold Ev.plE; rw [e1]; rfl, ?_, Ev.mvg_drew HM.out⟩
    unfold Ev.plS
    rw [e1]
    exact HN.out.drew
  · obtain ⟨x, hx⟩ := Ev.calcV_some (a := xa) HK3.out HK9.out hb0
    have HC : Hid (∀ U, Calls Tryz.prog (Ev.fno k) #[.int .i64 xa, .int .i64 xb] U fun e w' => e = .returned (.int .i64 x) ∧ U = w') := fun U => (ecalc k HK3.out HK9.out xa xb (fun h e => hb0 ⟨h, e⟩) U).mono fun e w' ⟨y, h1, h2, h3⟩ => by
      rw [hx] at h1
      cases h1
      exact ⟨h2, h3⟩
    have HX := Lib.hid hx
    have hcf : ∀ U, Sem.run Tryz.prog (callFunc (Ev.fno k) #[.int .i64 xa, .int .i64 xb]) U = .ok (.enter (Ev.fno k) #[.int .i64 xa, .int .i64 xb]) U := fun U => Ev.call_fno HK3.out HK9.out _ U
    clear hx
    have HFIN : Hid (Ev.PlainP K X T R fs (.map (some M)) v u hd ds t A c s ⟨k, d, a, b, n⟩ w (.returned (.int .i64 0)) (V.setCell ⟨R, d, none⟩ (.int .i64 x)).drew.drew) := by
      have e1 := HPC.out
      rw [HX.out] at e1
      obtain ⟨g1, g2⟩ := HN.out.setR d x
      refine ⟨by unfold Ev.plE; rw [e1]; rfl, ?_, Ev.mvg_drew (Ev.mvg_drew (HM.out.trans g2))⟩
      unfold Ev.plS
      rw [e1]
      exact g1.drew.drew
    have S1H : Hid ((V.setCell ⟨R, d, none⟩ (.int .i64 x)).drew.drew.cell? ⟨T, 4, none⟩ = some (.slice (some ⟨R, 0, none⟩) s.regs.length s.regs.length) ∧ (V.setCell ⟨R, d, none⟩ (.int .i64 x)).drew.drew.cell? ⟨X, 1, none⟩ = some (.map (some M)) ∧ (V.setCell ⟨R, d, none⟩ (.int .i64 x)).drew.drew.cell? ⟨Z, 0, none⟩ = some (.int .u8 (k : Int)) ∧ (V.setCell ⟨R, d, none⟩ (.int .i64 x)).drew.drew.cell? ⟨Z, 1, none⟩ = some (.int .i64 (d : Int))) := by
      have hk : ∀ (q : Nat) j, q ≠ R → (V.setCell ⟨R, d, none⟩ (.int .i64 x)).drew.drew.cell? ⟨q, j, none⟩ = V.cell? ⟨q, j, none⟩ := fun q j hq => World.cell?_of_block (w := V) (Below.heap_setCell _ _ _ _ hq)
      exact ⟨(hk _ _ HNE.out.1).trans t4, (hk _ _ HNE.out.2.1).trans x1, (hk _ _ HNE.out.2.2).trans c0, (hk _ _ HNE.out.2.2).trans c1⟩
    by_cases h0 : xb = 0
    · subst h0
      rw [show (decide (k = 6) || decide (k = 7)) = false by simp; omega] at HD
      clear hb0
      go_wp2_with fail
      refine (HD.out _).mono ?_
      rintro e w1 ⟨rfl, rfl⟩
      go_wp2_with fail
      have S1 : (V.setCell ⟨R, d, none⟩ (.int .i64 x)).drew.drew.cell? ⟨T, 4, none⟩ = some (.slice (some ⟨R, 0, none⟩) s.regs.length s.regs.length) ∧ (V.setCell ⟨R, d, none⟩ (.int .i64 x)).drew.drew.cell? ⟨X, 1, none⟩ = some (.map (some M)) ∧ (V.setCell ⟨R, d, none⟩ (.int .i64 x)).drew.drew.cell? ⟨Z, 0, none⟩ = some (.int .u8 (k : Int)) ∧ (V.setCell ⟨R, d, none⟩ (.int .i64 x)).drew.drew.cell? ⟨Z, 1, none⟩ = some (.int .i64 (d : Int)) := S1H.out
      go_region_held3 (fun w' => w'.cell? ⟨T, 4, none⟩ = some (.slice (some ⟨R, 0, none⟩) s.regs.length s.regs.length) ∧ w'.cell? ⟨X, 1, none⟩ = some (.map (some M)) ∧ w'.cell? ⟨Z, 0, none⟩ = some (.int .u8 (k : Int)) ∧ w'.cell? ⟨Z, 1, none⟩ = some (.int .i64 (d : Int)))
        (first | exact ⟨t4, x1, c0, c1⟩ | exact S1)
        (first
          | (refine (HC.out _).mono ?_; rintro e w' ⟨rfl, rfl⟩))
      clear S1
      go_wp2_with fail
      go_ret
      exact HFIN.out
    · have e0 : (xb == 0) = false := by simpa using h0
      clear hb0 HD h0
      go_wp2_with fail
      have S1 : (V.setCell ⟨R, d, none⟩ (.int .i64 x)).drew.drew.cell? ⟨T, 4, none⟩ = some (.slice (some ⟨R, 0, none⟩) s.regs.length s.regs.length) ∧ (V.setCell ⟨R, d, none⟩ (.int .i64 x)).drew.drew.cell? ⟨X, 1, none⟩ = some (.map (some M)) ∧ (V.setCell ⟨R, d, none⟩ (.int .i64 x)).drew.drew.cell? ⟨Z, 0, none⟩ = some (.int .u8 (k : Int)) ∧ (V.setCell ⟨R, d, none⟩ (.int .i64 x)).drew.drew.cell? ⟨Z, 1, none⟩ = some (.int .i64 (d : Int)) := S1H.out
      go_region_held3 (fun w' => w'.cell? ⟨T, 4, none⟩ = some (.slice (some ⟨R, 0, none⟩) s.regs.length s.regs.length) ∧ w'.cell? ⟨X, 1, none⟩ = some (.map (some M)) ∧ w'.cell? ⟨Z, 0, none⟩ = some (.int .u8 (k : Int)) ∧ w'.cell? ⟨Z, 1, none⟩ = some (.int .i64 (d : Int)))
        (first | exact ⟨t4, x1, c0, c1⟩ | exact S1)
        (first
          | (refine (HC.out _).mono ?_; rintro e w' ⟨rfl, rfl⟩))
      clear S1
      go_wp2_with fail
      go_ret
      exact HFIN.out
end Go.Proofs.YtepnofklmdofmaaGreatDoor
