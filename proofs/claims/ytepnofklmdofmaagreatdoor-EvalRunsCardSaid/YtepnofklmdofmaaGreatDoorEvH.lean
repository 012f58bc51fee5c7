/-
  Layer 13: the contract of the tree's do, given that of run.
-/
import Derived.Test.YtepnofklmdofmaaGreatDoorEvG
namespace Go.Proofs.YtepnofklmdofmaaGreatDoor
open Go.RowKit

set_option maxHeartbeats 4000000 in
set_option maxRecDepth 20000 in
theorem edo {K : Nat → Prop} {X T R : Nat} {v u : Value} {hd ds : List Ev.Dm} {t : Ev.Tsk} {A : Option Addr} {c : Nat} {s : Ev.St} {w : World} {l : List Cd.Fm} {P : Option Addr} {cp M N : Nat}
    (h : Ev.NowE K X T R (.slice P l.length cp) (.map (some M)) v u hd ds t A c s w) (hE : Ev.Env l P M (Ev.mF 7) (Ev.NOff X T R v u) w) (hg : ∀ f ∈ Cd.fns l, Ev.GoodF (Cd.fns l) f) (hpath : Br.may t.path = true) (hr : (s.regs.length : Int) = (Ev.fnOf (Cd.fns l) t).regs)
    (o : Cd.OpV) (g : Ev.GoodO (Cd.fns l) (Ev.fnOf (Cd.fns l) t) o) (hreg : s.regs.length ≤ 16) (hkids : s.kids ≤ 16) (hwts : s.wts.length ≤ s.kids) (hwr : ∀ x ∈ s.wts, 0 ≤ x.1 ∧ x.1 < (s.regs.length : Int)) (hleft : s.left ≤ 65536) (hlen : hd.length + s.done.length + s.left + 1 ≤ 70000)
    (hC : Ev.RunC l P cp M N) (hN : s.left / 2 < N) :
    Calls Tryz.prog 102 #[.pointer (some ⟨X, 0, none⟩), .pointer (some ⟨T, 0, none⟩), .agg #[.int .u8 (o.k : Int), .int .i64 o.d, .int .i64 o.a, .int .i64 o.b, .int .i64 o.n]] w
      (Ev.DoP K X T R (.slice P l.length cp) (.map (some M)) v u hd t A c (Ev.actE t s o) (Ev.actS (Cd.fns l) t s o) w) := by
  obtain ⟨k, od, oa, ob, n⟩ := o
  have g0 := g
  obtain ⟨hk, ⟨d, a, b, e1, e2, e3, d16, a16, b16⟩, gd, ga, gb, gt, gf⟩ := g
  simp only [] at hk e1 e2 e3 gd ga gb gt gf
  subst e1 e2 e3
  rw [← hr] at gd ga gb
  obtain ⟨V, hV⟩ : ∃ V, V = w.alloc (.cells #[.int .u8 (k : Int), .int .i64 (d : Int), .int .i64 (a : Int), .int .i64 (b : Int), .int .i64 n] 72) := ⟨_, rfl⟩
  have hbV : Below w.heap.size w V := by rw [hV]; exact Cd.fn1 _ _ _
  have HZ : Hid (Cd.OB V w.heap.size ⟨k, d, a, b, n⟩) := by show V.heap[_]? = _; rw [hV]; exact heap_alloc_new w _
  have HN := Lib.hid (h.below hbV)
  have HM := Lib.hid (Gm.Mvg.of_below (off := Ev.NOff X T R v u) hbV)
  have HE := Lib.hid (hE.mv HM.out)
  have z0 := HZ.out.c0
  have z1 := HZ.out.c1
  have z2 := HZ.out.c2
  have z3 := HZ.out.c3
  have z4 := HZ.out.c4
  simp only [] at z0 z1 z2 z3 z4
  have t4 : V.cell? ⟨T, 4, none⟩ = some (.slice (some ⟨R, 0, none⟩) s.regs.length s.regs.length) := HN.out.tk.cell 4
  have t5 : V.cell? ⟨T, 5, none⟩ = some (.int .i64 (s.at_ : Int)) := HN.out.tk.cell 5
  have tf5 := HN.out.tk.fro 5
  have d0 : (0 : Int) ≤ (d : Int) := by omega
  have a0 : (0 : Int) ≤ (a : Int) := by omega
  have HWS : Hid (∀ fs mk FE FS e w', FE = Ev.actE t s ⟨k, d, a, b, n⟩ → FS = Ev.actS (Cd.fns l) t s ⟨k, d, a, b, n⟩ → Ev.DoP K X T R fs mk v u hd t A c FE FS V e w' → Ev.DoP K X T R fs mk v u hd t A c (Ev.actE t s ⟨k, d, a, b, n⟩) (Ev.actS (Cd.fns l) t s ⟨k, d, a, b, n⟩) w e w') := fun fs mk FE FS e w' h1 h2 ⟨q1, sx, v', u', ds', q2, q3, q4, q5, q6⟩ => by
    subst h1 h2
    exact ⟨q1, sx, v', u', ds', q2, q3, q4, q5, HM.out.trans q6⟩
  have HPL : Hid (k ≠ 12 → k ≠ 13 → k ≠ 14 → ∀ S2 U, Ev.plain s ⟨k, d, a, b, n⟩ = some S2 → Ev.NowE K X T R (.slice P l.length cp) (.map (some M)) v u hd ds t A c S2 U → Gm.Mvg (Ev.NOff X T R v u) (Ev.NOff X T R v u) V U → S2.kids = s.kids → S2.done = s.done →
      Ev.DoP K X T R (.slice P l.length cp) (.map (some M)) v u hd t A c (Ev.actE t s ⟨k, d, a, b, n⟩) (Ev.actS (Cd.fns l) t s ⟨k, d, a, b, n⟩) w (.returned (.int .i64 0)) U) := fun n1 n2 n3 S2 U hp hn hm _ _ => by
    have e1 : Ev.actE t s ⟨k, d, a, b, n⟩ = 0 := by
      unfold Ev.actE
      rw [if_neg n1, if_neg (by simp only []; omega)]
      unfold Ev.plE
      rw [hp]
      rfl
    have e2 : Ev.actS (Cd.fns l) t s ⟨k, d, a, b, n⟩ = S2 := by
      unfold Ev.actS
      rw [if_neg n1, if_neg (by simp only []; omega)]
      unfold Ev.plS
      rw [hp]
      rfl
    rw [e1, e2]
    exact ⟨rfl, S2, v, u, ds, hn, fun _ => rfl, rfl, rfl, HM.out.trans hm⟩
  have HG := Lib.hid hg
  have HGO := Lib.hid g0
  have HR := Lib.hid hr
  have HPA := Lib.hid hpath
  have HLE := Lib.hid hlen
  have HC := Lib.hid hC
  have HNN := Lib.hid hN
  have HBO : Hid (s.kids ≤ 16 ∧ s.left ≤ 65536 ∧ s.wts.length ≤ s.kids ∧ s.regs.length ≤ 16) := ⟨hkids, hleft, hwts, hreg⟩
  have HWR := Lib.hid hwr
  have HGD : Hid (Cd.hD k = true → (d : Int) < (s.regs.length : Int)) := gd
  have HGA : Hid (Cd.hA k = true → k ≠ 12 → (a : Int) < (s.regs.length : Int)) := ga
  have HGB : Hid (Cd.hB k = true → (b : Int) < (s.regs.length : Int)) := gb
  have HGT : Hid (k = 10 ∨ k = 11 → ∃ m : Nat, n = (m : Int)) := fun e => by
    obtain ⟨m, hm, _⟩ := gt e
    exact ⟨m, hm⟩
  have HGF : Hid (k = 12 → ∃ m : Nat, n = (m : Int)) := fun e => by
    obtain ⟨m, hm, _⟩ := gf e
    exact ⟨m, hm⟩
  clear h hE hg hpath hr g0 hreg hkids hwts hwr hleft hlen hC hN hbV d16 a16 b16 gd ga gb gt gf
  obtain ⟨FE, hFE⟩ : ∃ x, x = Ev.actE t s ⟨k, d, a, b, n⟩ := ⟨_, rfl⟩
  obtain ⟨FS, hFS⟩ : ∃ x, x = Ev.actS (Cd.fns l) t s ⟨k, d, a, b, n⟩ := ⟨_, rfl⟩
  rw [← hFE, ← hFS] at HWS HPL ⊢
  have HFE := Lib.hid hFE
  have HFS := Lib.hid hFS
  clear hFE hFS
  go_enter Tryz.func102, Tryz.ntmps102
  go_upto_region 1 with fail
  rw [← hV]
  clear hV
  generalize w.heap.size = Z at HZ z0 z1 z2 z3 z4 ⊢
  have hcase : k = 1 ∨ k = 2 ∨ (3 ≤ k ∧ k ≤ 9) ∨ k = 10 ∨ k = 11 ∨ k = 12 ∨ (k = 13 ∨ k = 14) := by omega
  clear hk
  rcases hcase with rfl | rfl | hk39 | rfl | rfl | rfl | hk1314
  · have d1 := HGD.out rfl
    have hd : d < s.regs.length := by omega
    have rd := HN.out.tk.reg hd
    have rf := HN.out.tk.rfro d
    obtain ⟨q1, q2⟩ := HN.out.setR d n
    have HF := Lib.hid (HPL.out (by decide) (by decide) (by decide) { s with regs := s.regs.set d n } ((V.setCell ⟨R, d, none⟩ (.int .i64 n)).drew) (by unfold Ev.plain; simp) q1.drew (Ev.mvg_drew q2) rfl rfl)
    generalize s.regs[d] = old at rd
    clear q1 q2 hd HGD HGA HGB HGT HGF HPL HWS
    go_wp2_with fail
    go_region
    go_wp2_with fail
    go_ret
    exact HF.out
  · have d1 := HGD.out rfl
    have a1 := HGA.out rfl (by decide)
    have hd : d < s.regs.length := by omega
    have ha : a < s.regs.length := by omega
    have rd := HN.out.tk.reg hd
    have ra := HN.out.tk.reg ha
    have rf := HN.out.tk.rfro d
    obtain ⟨q1, q2⟩ := HN.out.setR d s.regs[a]
    have HF := Lib.hid (HPL.out (by decide) (by decide) (by decide) { s with regs := s.regs.set d s.regs[a] } ((V.setCell ⟨R, d, none⟩ (.int .i64 s.regs[a])).drew) (by
      rw [Ev.plain_calc (show 2 ≤ 2 by decide) (show 2 ≤ 9 by decide)]
      simp only []
      rw [Ev.rgAt_nat ha]
      unfold Ev.calcV
      simp) q1.drew (Ev.mvg_drew q2) rfl rfl)
    clear q1 q2 HGD HGA HGB HGT HGF HPL HWS
    generalize s.regs[d] = old at rd
    generalize s.regs[a] = new at ra HF
    clear hd ha
    go_wp2_with fail
    go_region
    go_wp2_with fail
    go_ret
    exact HF.out
  · have e1 : ((k : Int) == 1) = false := by rw [beq_eq_false_iff_ne]; omega
    have e2 : ((k : Int) == 2) = false := by rw [beq_eq_false_iff_ne]; omega
    have e10 : ((k : Int) == 10) = false := by rw [beq_eq_false_iff_ne]; omega
    have e11 : ((k : Int) == 11) = false := by rw [beq_eq_false_iff_ne]; omega
    have e12 : ((k : Int) == 12) = false := by rw [beq_eq_false_iff_ne]; omega
    have e13 : ((k : Int) == 13) = false := by rw [beq_eq_false_iff_ne]; omega
    have e14 : ((k : Int) == 14) = false := by rw [beq_eq_false_iff_ne]; omega
    have hD : Cd.hD k = true := by unfold Cd.hD; simp; omega
    have hA : Cd.hA k = true := by unfold Cd.hA; simp; omega
    have hB : Cd.hB k = true := by unfold Cd.hB; simp; omega
    have hd1 := HGD.out hD
    have ha1 := HGA.out hA (by omega)
    have hb1 := HGB.out hB
    have HRK := Lib.hid (ereckon HN.out HE.out k d a b n hk39.1 hk39.2 (by omega) (by omega) (by omega) HBO.out.2.2.2)
    have HF : Hid (∀ e w', Ev.PlainP K X T R (.slice P l.length cp) (.map (some M)) v u hd ds t A c s ⟨k, d, a, b, n⟩ V e w' → Ev.DoP K X T R (.slice P l.length cp) (.map (some M)) v u hd t A c FE FS w e w') := fun e w' ⟨q1, q2, q3⟩ => by
      have f1 : FE = Ev.plE s ⟨k, d, a, b, n⟩ := by rw [HFE.out]; unfold Ev.actE; rw [if_neg (by simp only []; omega), if_neg (by simp only []; omega)]
      have f2 : FS = Ev.plS s ⟨k, d, a, b, n⟩ := by rw [HFS.out]; unfold Ev.actS; rw [if_neg (by simp only []; omega), if_neg (by simp only []; omega)]
      exact HWS.out _ _ FE FS e w' rfl rfl ⟨by rw [q1, f1], _, _, _, _, q2, fun _ => f2.symm, by rw [f2], by rw [f2], q3⟩
    clear hD hA hB hd1 ha1 hb1 HGD HGA HGB HGT HGF HPL HWS hk39
    go_wp2_with fail
    refine HRK.out.mono ?_
    rintro e w' ⟨rfl, h2, h3⟩
    have HQ := Lib.hid (HF.out _ _ ⟨rfl, h2, h3⟩)
    clear h2 h3
    go_wp2_with fail
    go_ret
    exact HQ.out
  · obtain ⟨m, rfl⟩ := HGT.out (.inl rfl)
    obtain ⟨q1, q2⟩ := HN.out.setT { s with at_ := m } 5 (.int .i64 (m : Int)) rfl rfl rfl rfl
    have HF := Lib.hid (HPL.out (by decide) (by decide) (by decide) { s with at_ := m } (V.setCell ⟨T, 5, none⟩ (.int .i64 (m : Int))) (by unfold Ev.plain; simp) q1 q2 rfl rfl)
    clear q1 q2 HGD HGA HGB HGT HGF HPL HWS
    go_wp2_with fail
    go_ret
    exact HF.out
  · obtain ⟨m, rfl⟩ := HGT.out (.inr rfl)
    have a1 := HGA.out rfl (by decide)
    have ha : a < s.regs.length := by omega
    have ra := HN.out.tk.reg ha
    have HPQ : Hid (Ev.plain s ⟨11, d, a, b, m⟩ = some (if s.regs[a] ≠ 0 then { s with at_ := m } else s)) := by
      show _ = _
      unfold Ev.plain
      simp only []
      rw [if_neg (by decide), if_neg (by decide), if_pos trivial, Ev.rgAt_nat ha, Int.toNat_natCast]
    generalize s.regs[a] = x at ra HPQ
    clear ha
    by_cases hx : x = 0
    · subst hx
      have HF := Lib.hid (HPL.out (by decide) (by decide) (by decide) s V.drew (by rw [HPQ.out]; rfl) HN.out.drew (Ev.mvg_drew (Gm.Mvg.refl _ _)) rfl rfl)
      clear HPQ HGD HGA HGB HGT HGF HPL HWS
      go_wp2_with fail
      go_region
      go_wp2_with fail
      go_ret
      exact HF.out
    · have b1 : (x == 0) = false := by simpa using hx
      have b2 : (x != 0) = true := by simpa using hx
      obtain ⟨q1, q2⟩ := HN.out.drew.setT { s with at_ := m } 5 (.int .i64 (m : Int)) rfl rfl rfl rfl
      have HF := Lib.hid (HPL.out (by decide) (by decide) (by decide) { s with at_ := m } (V.drew.setCell ⟨T, 5, none⟩ (.int .i64 (m : Int))) (by rw [HPQ.out, if_pos hx]) q1 ((Ev.mvg_drew (Gm.Mvg.refl _ _)).trans q2) rfl rfl)
      clear q1 q2 HPQ HGD HGA HGB HGT HGF HPL HWS hx
      go_wp2_with fail
      go_region
      go_wp2_with fail
      go_ret
      exact HF.out
  · obtain ⟨m, rfl⟩ := HGF.out rfl
    have HFK := Lib.hid (efork HN.out HE.out HG.out HPA.out HR.out 12 d a b m HGO.out rfl HBO.out.2.2.2 HBO.out.1 HBO.out.2.2.1 HBO.out.2.1 HLE.out HC.out HNN.out)
    have HF : Hid (∀ e w', Ev.DoP K X T R (.slice P l.length cp) (.map (some M)) v u hd t A c (Ev.forkE t s) (if Ev.forkE t s = 0 then Ev.forkS (Cd.fns l) t s ⟨12, d, a, b, m⟩ else s) V e w' → Ev.DoP K X T R (.slice P l.length cp) (.map (some M)) v u hd t A c FE FS w e w') := fun e w' hq => by
      refine HWS.out _ _ _ _ e w' ?_ ?_ hq
      · rw [HFE.out]; unfold Ev.actE; rw [if_pos rfl]
      · rw [HFS.out]; unfold Ev.actS; rw [if_pos rfl]
    clear HGD HGA HGB HGT HGF HPL HWS
    go_wp2_with fail
    refine HFK.out.mono ?_
    rintro e w' ⟨rfl, h2⟩
    have HQ := Lib.hid (HF.out _ _ ⟨rfl, h2⟩)
    clear h2
    go_wp2_with fail
    go_ret
    exact HQ.out
  · have HJ := Lib.hid (ejoin HN.out (by have := HBO.out; omega) HWR.out)
    have HF : Hid (∀ e w', Ev.JoinP K X T R (.slice P l.length cp) (.map (some M)) v u hd ds t A c s V e w' → Ev.DoP K X T R (.slice P l.length cp) (.map (some M)) v u hd t A c FE FS w e w') := fun e w' ⟨q1, s', u', q2, q3, q4, q5, q6⟩ => by
      have f1 : FE = Ev.kidsE s.wts := by rw [HFE.out]; unfold Ev.actE; rw [if_neg (by simp only []; omega), if_pos hk1314]
      have f2 : FS = Ev.joinS s := by rw [HFS.out]; unfold Ev.actS; rw [if_neg (by simp only []; omega), if_pos hk1314]
      exact HWS.out _ _ FE FS e w' rfl rfl ⟨by rw [q1, f1], s', _, u', _, q2, fun h0 => by rw [f2]; exact q3 (by rw [← f1]; exact h0), by rw [f2]; exact q4, by rw [f2]; exact q5, q6⟩
    clear HGD HGA HGB HGT HGF HPL HWS
    rcases hk1314 with rfl | rfl
    all_goals
      go_wp2_with fail
      refine HJ.out.mono ?_
      rintro e w' ⟨rfl, h2⟩
      have HQ := Lib.hid (HF.out _ _ ⟨rfl, h2⟩)
      clear h2
      go_wp2_with fail
      go_ret
      exact HQ.out
end Go.Proofs.YtepnofklmdofmaaGreatDoor
