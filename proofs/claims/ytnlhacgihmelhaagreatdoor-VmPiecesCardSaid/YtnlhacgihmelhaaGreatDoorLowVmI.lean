/-
  Layer 14: the contract of reckon.
  Layer 14: the contract of do.
-/
import Derived.Test.YtnlhacgihmelhaaGreatDoorVmH
section
namespace Go.Proofs.YtnlhacgihmelhaaGreatDoor
open Go.RowKit

namespace Vm
open Cd Ev
theorem fun_under : ∃ a b c, Tryz.prog.underlying 239 = some (.func a b c) := ⟨#[], #[2], false, by kernel_rfl⟩
theorem run_equalIn_fun (d : Nat) (w : World) (f : Fn) (g cs : Array Value) : (Op.equalIn (d + 1) 239 (.func f g cs) .nilFunc).run Tryz.prog w = .ok false w := by
  obtain ⟨a, b, c, h⟩ := fun_under
  simp [Op.equalIn, run_underlying h]
theorem run_equalIn_nofun (d : Nat) (w : World) : (Op.equalIn (d + 1) 239 .nilFunc .nilFunc).run Tryz.prog w = .ok true w := by
  obtain ⟨a, b, c, h⟩ := fun_under
  simp [Op.equalIn, run_underlying h]
theorem eql_fun (w : World) (f : Fn) (g cs : Array Value) : (binOp .eql 239 (.func f g cs) .nilFunc).run Tryz.prog w = .ok (.bool false) w := by
  have h : (Op.equal 239 (.func f g cs) .nilFunc).run Tryz.prog w = .ok false w := run_equalIn_fun 9999 w f g cs
  simp only [binOp]
  simp [h]
theorem eql_nofun (w : World) : (binOp .eql 239 .nilFunc .nilFunc).run Tryz.prog w = .ok (.bool true) w := by
  have h : (Op.equal 239 .nilFunc .nilFunc).run Tryz.prog w = .ok true w := run_equalIn_nofun 9999 w
  simp only [binOp]
  simp [h]
theorem call_mkf {k : Nat} (h1 : 1 ≤ k) (h9 : k ≤ 9) (args : Array Value) (U : World) : Sem.run Tryz.prog (callFunc (mkf k) args) U = .ok (.enter (mkf k) args) U := by
  obtain rfl | rfl | rfl | rfl | rfl | rfl | rfl | rfl | rfl : k = 1 ∨ k = 2 ∨ k = 3 ∨ k = 4 ∨ k = 5 ∨ k = 6 ∨ k = 7 ∨ k = 8 ∨ k = 9 := by omega
  all_goals kernel_rfl
end Vm

set_option maxHeartbeats 1000000 in
set_option maxRecDepth 20000 in
theorem vreckon {K : Nat → Prop} {b : Vm.Bk} {p : List Cd.FnV} {t : Ev.Tsk} {o : Cd.OpV} {s : Vm.Fs} {w : World} (h : Vm.Hf K b p t s w) (h1 : 1 ≤ o.k) (h9 : o.k ≤ 9) (hd0 : 0 ≤ o.d) (hd1 : o.d < (s.regs.length : Int)) (ha0 : 0 ≤ o.a) (ha1 : o.a < (s.regs.length : Int)) (hc0 : 0 ≤ o.b) (hc1 : o.b < (s.regs.length : Int)) :
    Calls Tryz.prog 117 #[.pointer (some ⟨b.F, 0, none⟩), .agg #[.int .u8 (o.k : Int), .int .i64 o.d, .int .i64 o.a, .int .i64 o.b, .int .i64 o.n]] w (Vm.OutP K b p t (Vm.plainF o s) w) := by
  obtain ⟨k, d, a, c, n⟩ := o
  simp only [] at h1 h9 hd0 hd1 ha0 ha1 hc0 hc1 ⊢
  obtain ⟨d, rfl⟩ := Int.eq_ofNat_of_zero_le hd0
  obtain ⟨a, rfl⟩ := Int.eq_ofNat_of_zero_le ha0
  obtain ⟨c, rfl⟩ := Int.eq_ofNat_of_zero_le hc0
  have hdl : d < s.regs.length := by omega
  have hal : a < s.regs.length := by omega
  have hcl : c < s.regs.length := by omega
  have heq := Vm.plainF_eq (o := ⟨k, d, a, c, n⟩) (s := s) h1 h9
  simp only [] at heq
  rw [Ev.rgAt_nat hal, Ev.rgAt_nat hcl, Int.toNat_natCast] at heq
  obtain ⟨V, hV⟩ : ∃ V, V = w.alloc (.cells #[.int .u8 (k : Int), .int .i64 (d : Int), .int .i64 (a : Int), .int .i64 (c : Int), .int .i64 n] 72) := ⟨_, rfl⟩
  obtain ⟨W, hW⟩ : ∃ W, W = V.alloc (.cells #[.int .u8 0, .string ⟨#[]⟩, .int .i64 0, .slice none 0 0, .int .i64 0, .int .i64 0, .int .i64 0] 59) := ⟨_, rfl⟩
  have hb1 : Below w.heap.size w V := by rw [hV]; exact Cd.fn1 _ _ _
  have hs1 : V.heap.size = w.heap.size + 1 := by rw [hV]; simp
  have hb2 : Below V.heap.size V W := by rw [hW]; exact Cd.fn1 _ _ _
  have hb : Below w.heap.size w W := hb1.trans (hb2.mono hb1.size)
  have hZ : Vm.ZB V.heap.size W := ⟨by rw [hW]; exact heap_alloc_new V _⟩
  have hO : W.heap[w.heap.size]? = some (.cells #[.int .u8 (k : Int), .int .i64 (d : Int), .int .i64 (a : Int), .int .i64 (c : Int), .int .i64 n] 72 (0, 0)) := (hb2.block _ (by omega)).trans (by rw [hV]; exact heap_alloc_new w _)
  have hN : Vm.Hf (fun i => K i ∧ i ≠ V.heap.size) b p t s W := by rw [hW]; exact (h.below hb1).at_new _
  have HMK := Lib.hid (vmaker hN k a c d n h1 h9 hal hcl)
  have HEQ := Lib.hid heq
  have HZ := Lib.hid hZ
  have HOB := Lib.hid hO
  have HB := Lib.hid hb
  have HN := Lib.hid hN
  have HKF := Lib.hid h.fresh
  have HKO := Lib.hid (h.fr.lt V.heap.size hb1.size)
  have HKO2 := Lib.hid (h.fr.lt w.heap.size (Nat.le_refl _))
  have HI : Hid ((Tryz.prog.info? 59).map (·.size) = some 7) := Vm.stp_size
  have HYS : Hid (w.heap.size ≤ V.heap.size) := hb1.size
  have H19 := Lib.hid (And.intro h1 h9)
  have HDL := Lib.hid hdl
  have o0 : W.cell? ⟨w.heap.size, 0, none⟩ = some (.int .u8 (k : Int)) := cell_of_row _ _ 0 _ _ _ hO
  have o1 : W.cell? ⟨w.heap.size, 1, none⟩ = some (.int .i64 (d : Int)) := cell_of_row _ _ 1 _ _ _ hO
  have o2 : W.cell? ⟨w.heap.size, 2, none⟩ = some (.int .i64 (a : Int)) := cell_of_row _ _ 2 _ _ _ hO
  have o3 : W.cell? ⟨w.heap.size, 3, none⟩ = some (.int .i64 (c : Int)) := cell_of_row _ _ 3 _ _ _ hO
  have o4 : W.cell? ⟨w.heap.size, 4, none⟩ = some (.int .i64 n) := cell_of_row _ _ 4 _ _ _ hO
  have d0 : (0 : Int) ≤ (d : Int) := by omega
  have d1 : (d : Int) < (s.regs.length : Int) := by omega
  generalize s.regs[a] = xa at HMK HEQ heq
  generalize s.regs[c] = xc at HMK HEQ heq
  clear hb1 hb2 hb hZ hO hN h h1 h9 hd0 hd1 ha0 ha1 hc0 hc1 hdl hal hcl heq
  go_enter Tryz.func117, Tryz.ntmps117
  go_upto_region 1 with fail
  rw [← hV, ← hs1, ← hW]
  clear hV hW hs1
  obtain ⟨Y, hYe⟩ : ∃ Y, Y = V.heap.size := ⟨_, rfl⟩
  rw [← hYe] at HZ HKO HN HYS ⊢
  clear hYe
  obtain ⟨Z, hZe⟩ : ∃ Z, Z = w.heap.size := ⟨_, rfl⟩
  rw [← hZe] at HOB HKO2 o0 o1 o2 o3 o4 ⊢
  clear hZe
  go_wp2_with fail
  refine HMK.out.mono ?_
  rintro e w2 ⟨hb2, hcase⟩
  have HN2 := Lib.hid (HN.out.below hb2)
  have HM2 : Hid (Gm.Mvg (Vm.KOff b) (Vm.KOff b) W w2) := Gm.Mvg.of_below hb2
  have hO2 := (hb2.block Z (Cd.ltH HOB.out)).trans HOB.out
  have z1 : w2.cell? ⟨Z, 1, none⟩ = some (.int .i64 (d : Int)) := cell_of_row _ _ 1 _ _ _ hO2
  clear hb2 HMK hO2 o0 o1 o2 o3 o4
  rcases hcase with ⟨hv, rfl⟩ | ⟨x, O, A, B, hv, rfl, hcl⟩
  · have HJ : Hid (Vm.plainF ⟨k, d, a, c, n⟩ s = Vm.endW s ⟨0, 131⟩) := by
      show _ = _
      rw [HEQ.out, hv]
    have HFL := Lib.hid (vfail HN2.out 131)
    have hen := Vm.eql_nofun
    clear hv z1
    go_wp2_with fail
    refine HFL.out.mono ?_
    rintro e w4 ⟨b', kk, pa, fn, A, n', c', fu, va, er, rfl, hoo⟩
    have hZ4 := HZ.out.mv (HM2.out.trans hoo.out.2.2.1) HKO.out
    have HRW := Lib.hid (hZ4.ret (.int .u8 kk) (.string pa) (.int .i64 fn) (.slice A n' c') (.int .i64 fu) (.int .i64 va) (.int .i64 er))
    have HFIN : Hid (Vm.OutP K b p t (Vm.plainF ⟨k, d, a, c, n⟩ s) w (.returned (.agg #[.int .u8 kk, .string pa, .int .i64 fn, .slice A n' c', .int .i64 fu, .int .i64 va, .int .i64 er])) (Vm.set7 w4 Y (.int .u8 kk) (.string pa) (.int .i64 fn) (.slice A n' c') (.int .i64 fu) (.int .i64 va) (.int .i64 er))) := by
      show Vm.OutP _ _ _ _ _ _ _ _
      rw [HJ.out]
      exact Vm.OutP.ret HKF.out HYS.out ((Gm.Mvg.of_below HB.out).trans HM2.out) hoo.out _ _ _ _ _ _ _
    obtain ⟨⟨y0, y1, y2, y3, y4, y5, y6⟩, yf0, yf1, yf2, yf3, yf4, yf5, yf6⟩ := hZ4.all
    clear hZ4 HFL
    go_wp2_with fail
    refine bodyPost_ret (v := .agg #[.int .u8 kk, .string pa, .int .i64 fn, .slice A n' c', .int .i64 fu, .int .i64 va, .int .i64 er]) (results_cell_row Tryz.results117 _ _ Y 59 #[.int .u8 kk, .string pa, .int .i64 fn, .slice A n' c', .int .i64 fu, .int .i64 va, .int .i64 er] (0, 0) _ rfl HRW.out Tryz.underlying59 rfl HI.out) rfl ?_
    exact HFIN.out
  · have HJ : Hid (Vm.plainF ⟨k, d, a, c, n⟩ s = (.more, { s with regs := s.regs.set d x })) := by
      show _ = _
      rw [HEQ.out, hv]
    have HC : Hid (∀ U, Below w2.heap.size w2 U → Calls Tryz.prog (Vm.mkf k) (Vm.mkc k O A B) U fun e w' => e = .returned (.int .i64 x) ∧ U = w') := fun U hU => vmade k H19.out.1 H19.out.2 O A B xa xc n x hv U (Ev.cell_below hU hcl.out.1) (Ev.cell_below hU hcl.out.2.1) (Ev.cell_below hU hcl.out.2.2)
    have hcf : ∀ U, Sem.run Tryz.prog (callFunc (Vm.mkf k) (Vm.mkc k O A B)) U = .ok (.enter (Vm.mkf k) (Vm.mkc k O A B)) U := fun U => Vm.call_mkf H19.out.1 H19.out.2 _ U
    obtain ⟨n3, m3⟩ := HN2.out.setR d x
    have t6 : w2.cell? ⟨b.F, 6, none⟩ = some (.slice (some ⟨b.R, 0, none⟩) s.regs.length s.regs.length) := HN2.out.fr.cell 6
    have rd := HN2.out.fr.reg HDL.out
    have rf := HN2.out.fr.rfro d
    generalize s.regs[d] = old at rd
    obtain ⟨W3, hW3⟩ : ∃ X, X = (w2.setCell ⟨b.R, d, none⟩ (.int .i64 x)).drew := ⟨_, rfl⟩
    have n3 := n3.drew
    have m3 := Ev.mvg_drew m3
    rw [← hW3] at n3 m3
    have HN3 := Lib.hid n3
    have HM3 := Lib.hid (HM2.out.trans m3)
    have S1H : Hid ((w2.setCell ⟨b.R, d, none⟩ (.int .i64 x)).drew.cell? ⟨b.F, 6, none⟩ = some (.slice (some ⟨b.R, 0, none⟩) s.regs.length s.regs.length) ∧ (w2.setCell ⟨b.R, d, none⟩ (.int .i64 x)).drew.cell? ⟨Z, 1, none⟩ = some (.int .i64 (d : Int))) := by
      have hk : ∀ (q : Nat) j, q ≠ b.R → (w2.setCell ⟨b.R, d, none⟩ (.int .i64 x)).drew.cell? ⟨q, j, none⟩ = w2.cell? ⟨q, j, none⟩ := fun q j hq => World.cell?_of_block (w := w2) (Below.heap_setCell _ _ _ _ hq)
      exact ⟨(hk _ _ (fun e => HN2.out.fr.ne e.symm)).trans t6, (hk _ _ HKO2.out.2.1).trans z1⟩
    have hef := Vm.eql_fun
    clear hv n3 m3 hcl
    go_wp2_with fail
    have S1 : (w2.setCell ⟨b.R, d, none⟩ (.int .i64 x)).drew.cell? ⟨b.F, 6, none⟩ = some (.slice (some ⟨b.R, 0, none⟩) s.regs.length s.regs.length) ∧ (w2.setCell ⟨b.R, d, none⟩ (.int .i64 x)).drew.cell? ⟨Z, 1, none⟩ = some (.int .i64 (d : Int)) := S1H.out
    go_region_held3 (fun w' => w'.cell? ⟨b.F, 6, none⟩ = some (.slice (some ⟨b.R, 0, none⟩) s.regs.length s.regs.length) ∧ w'.cell? ⟨Z, 1, none⟩ = some (.int .i64 (d : Int)))
      (first | exact ⟨t6, z1⟩ | exact S1)
      (first
        | (with_reducible refine (HC.out _ (by first | exact Below.refl _ _ | exact (Below.refl _ _).drew)).mono ?_
           rintro e w' ⟨rfl, rfl⟩))
    rw [← hW3]
    clear hW3 S1 S1H t6 z1 rd rf hcf HC hef d0 d1
    go_wp2_with fail
    refine (vmore _).mono ?_
    rintro e w7 ⟨rfl, hb7⟩
    have hZ7 := (HZ.out.mv HM3.out HKO.out).below hb7
    have HRW := Lib.hid (hZ7.ret (.int .u8 1) (.string ⟨#[]⟩) (.int .i64 0) (.slice none 0 0) (.int .i64 0) (.int .i64 0) (.int .i64 0))
    have HFIN : Hid (Vm.OutP K b p t (Vm.plainF ⟨k, d, a, c, n⟩ s) w (.returned (.agg #[.int .u8 1, .string ⟨#[]⟩, .int .i64 0, .slice none 0 0, .int .i64 0, .int .i64 0, .int .i64 0])) (Vm.set7 w7 Y (.int .u8 1) (.string ⟨#[]⟩) (.int .i64 0) (.slice none 0 0) (.int .i64 0) (.int .i64 0) (.int .i64 0))) := by
      show Vm.OutP _ _ _ _ _ _ _ _
      rw [HJ.out]
      exact Vm.OutP.ret (x := (.more, { s with regs := s.regs.set d x })) HKF.out HYS.out ((Gm.Mvg.of_below HB.out).trans HM3.out) ⟨rfl, HN3.out.below hb7, Gm.Mvg.of_below hb7, rfl, Vm.LOk.nil _ _ _⟩ _ _ _ _ _ _ _
    obtain ⟨⟨y0, y1, y2, y3, y4, y5, y6⟩, yf0, yf1, yf2, yf3, yf4, yf5, yf6⟩ := hZ7.all
    clear hZ7 hb7
    go_wp2_with fail
    refine bodyPost_ret (v := .agg #[.int .u8 1, .string ⟨#[]⟩, .int .i64 0, .slice none 0 0, .int .i64 0, .int .i64 0, .int .i64 0]) (results_cell_row Tryz.results117 _ _ Y 59 #[.int .u8 1, .string ⟨#[]⟩, .int .i64 0, .slice none 0 0, .int .i64 0, .int .i64 0, .int .i64 0] (0, 0) _ rfl HRW.out Tryz.underlying59 rfl HI.out) rfl ?_
    exact HFIN.out
end Go.Proofs.YtnlhacgihmelhaaGreatDoor
end

section
namespace Go.Proofs.YtnlhacgihmelhaaGreatDoor
open Go.RowKit

namespace Vm
open Cd Ev
/-- What an op has not is 0. -/
structure GoodZ (o : OpV) : Prop where
  one : o.k = 1 → o.a = 0 ∧ o.b = 0
  two : o.k = 2 → o.b = 0
theorem zero_of {o : OpV} (h : o.ok = true) : GoodZ o := by
  unfold OpV.ok at h
  simp only [Bool.and_eq_true, decide_eq_true_eq] at h
  obtain ⟨-, ⟨⟨h1, h2⟩, h3⟩, h4⟩ := h
  refine ⟨fun e => ⟨?_, ?_⟩, fun e => ?_⟩
  · have : hA o.k = false := by rw [e]; rfl
    unfold OpV.bare OpV.less at h2
    simpa [this] using h2
  · have : hB o.k = false := by rw [e]; rfl
    unfold OpV.bare OpV.less at h3
    simpa [this] using h3
  · have : hB o.k = false := by rw [e]; rfl
    unfold OpV.bare OpV.less at h3
    simpa [this] using h3
/-- A program that has no fault, and a task of it. -/
structure PE (p : List FnV) (t : Tsk) : Prop where
  tok : TOk p t
  good : ∀ f ∈ p, GoodF p f
  zero : ∀ f ∈ p, ∀ o ∈ f.ops, GoodZ o
  len : p.length ≤ 100000
theorem pe_of {p : List FnV} {t : Tsk} (h : (Ck.chk p).1 = 0) (ht : TOk p t) : PE p t := by
  have h1 := Ck.chk_some h
  have hp := h1.2
  unfold pok at hp
  rw [Bool.and_eq_true, decide_eq_true_eq, List.all_eq_true] at hp
  refine ⟨ht, good_of h, fun f hf o ho => ?_, by omega⟩
  obtain ⟨-, -, -, hops⟩ := FnV.ok_parts (hp.2 f hf)
  exact zero_of (hops o ho)
theorem doF_go {p : List FnV} {t : Tsk} {o : OpV} {s : Fs} (h : o.k = 10) : doF p t o s = (.more, { s with at_ := o.n.toNat }) := by
  unfold doF plainF plain
  rw [if_neg (by omega), if_neg (by omega), if_neg (by omega), if_pos h]
  rfl
theorem doF_if {p : List FnV} {t : Tsk} {o : OpV} {s : Fs} (h : o.k = 11) : doF p t o s = (.more, if rgAt s.regs o.a ≠ 0 then { s with at_ := o.n.toNat } else s) := by
  have hp : plain (stx s) o = some (if rgAt (stx s).regs o.a ≠ 0 then { stx s with at_ := o.n.toNat } else stx s) := by
    unfold plain
    rw [if_neg (by omega), if_neg (by omega), if_pos h]
  unfold doF plainF
  rw [if_neg (by omega), if_neg (by omega), hp]
  by_cases hx : rgAt s.regs o.a ≠ 0
  · rw [if_pos hx, if_pos (show rgAt (stx s).regs o.a ≠ 0 from hx)]
    rfl
  · rw [if_neg hx, if_neg (show ¬ rgAt (stx s).regs o.a ≠ 0 from hx)]
    rfl
theorem doF_fork {p : List FnV} {t : Tsk} {o : OpV} {s : Fs} (h : o.k = 12) : doF p t o s = fork p t o s := by
  unfold doF
  rw [if_pos h]
theorem doF_join {p : List FnV} {t : Tsk} {o : OpV} {s : Fs} (h : o.k = 13 ∨ o.k = 14) : doF p t o s = join o s := by
  unfold doF
  rw [if_neg (by omega), if_pos h]
theorem doF_plain {p : List FnV} {t : Tsk} {o : OpV} {s : Fs} (h1 : 1 ≤ o.k) (h9 : o.k ≤ 9) : doF p t o s = plainF o s := by
  unfold doF
  rw [if_neg (by omega), if_neg (by omega)]
end Vm

set_option maxHeartbeats 2000000 in
set_option maxRecDepth 20000 in
theorem vdo {K : Nat → Prop} {b : Vm.Bk} {p : List Cd.FnV} {t : Ev.Tsk} {o : Cd.OpV} {s : Vm.Fs} {w : World} (h : Vm.Hf K b p t s w) (hp : Vm.POk p t o s) (hg : Ev.GoodO p (Ev.fnOf p t) o) (hz : Vm.GoodZ o) (he : Vm.PE p t) (hr : s.regs.length ≤ 16) :
    Calls Tryz.prog 99 #[.pointer (some ⟨b.F, 0, none⟩), .agg #[.int .u8 (o.k : Int), .int .i64 o.d, .int .i64 o.a, .int .i64 o.b, .int .i64 o.n]] w (Vm.OutP K b p t (Vm.doF p t o s) w) := by
  obtain ⟨V, hV⟩ : ∃ V, V = w.alloc (.cells #[.int .u8 (o.k : Int), .int .i64 o.d, .int .i64 o.a, .int .i64 o.b, .int .i64 o.n] 72) := ⟨_, rfl⟩
  obtain ⟨W, hW⟩ : ∃ W, W = V.alloc (.cells #[.int .u8 0, .string ⟨#[]⟩, .int .i64 0, .slice none 0 0, .int .i64 0, .int .i64 0, .int .i64 0] 59) := ⟨_, rfl⟩
  have hb1 : Below w.heap.size w V := by rw [hV]; exact Cd.fn1 _ _ _
  have hs1 : V.heap.size = w.heap.size + 1 := by rw [hV]; simp
  have hb2 : Below V.heap.size V W := by rw [hW]; exact Cd.fn1 _ _ _
  have hb : Below w.heap.size w W := hb1.trans (hb2.mono hb1.size)
  have hZ : Vm.ZB V.heap.size W := ⟨by rw [hW]; exact heap_alloc_new V _⟩
  have hO : W.heap[w.heap.size]? = some (.cells #[.int .u8 (o.k : Int), .int .i64 o.d, .int .i64 o.a, .int .i64 o.b, .int .i64 o.n] 72 (0, 0)) := (hb2.block _ (by omega)).trans (by rw [hV]; exact heap_alloc_new w _)
  have hN : Vm.Hf (fun i => K i ∧ i ≠ V.heap.size) b p t s W := by rw [hW]; exact (h.below hb1).at_new _
  have HZ := Lib.hid hZ
  have HB := Lib.hid hb
  have HN := Lib.hid hN
  have HKF := Lib.hid h.fresh
  have HKO := Lib.hid (h.fr.lt V.heap.size hb1.size)
  have HI : Hid ((Tryz.prog.info? 59).map (·.size) = some 7) := Vm.stp_size
  have HYS : Hid (w.heap.size ≤ V.heap.size) := hb1.size
  have HP := Lib.hid hp
  have HG := Lib.hid hg
  have HGZ := Lib.hid hz
  have HE := Lib.hid he
  have HR := Lib.hid hr
  have o0 : W.cell? ⟨w.heap.size, 0, none⟩ = some (.int .u8 (o.k : Int)) := cell_of_row _ _ 0 _ _ _ hO
  have o1 : W.cell? ⟨w.heap.size, 1, none⟩ = some (.int .i64 o.d) := cell_of_row _ _ 1 _ _ _ hO
  have o2 : W.cell? ⟨w.heap.size, 2, none⟩ = some (.int .i64 o.a) := cell_of_row _ _ 2 _ _ _ hO
  have o3 : W.cell? ⟨w.heap.size, 3, none⟩ = some (.int .i64 o.b) := cell_of_row _ _ 3 _ _ _ hO
  have o4 : W.cell? ⟨w.heap.size, 4, none⟩ = some (.int .i64 o.n) := cell_of_row _ _ 4 _ _ _ hO
  have hk := hg.k
  clear hb1 hb2 hb hZ hO hN h hp hg hz he hr
  go_enter Tryz.func99, Tryz.ntmps99
  go_upto_region 1 with fail
  rw [← hV, ← hs1, ← hW]
  clear hV hW hs1
  obtain ⟨Y, hYe⟩ : ∃ Y, Y = V.heap.size := ⟨_, rfl⟩
  rw [← hYe] at HZ HKO HN HYS ⊢
  clear hYe
  obtain ⟨Z, hZe⟩ : ∃ Z, Z = w.heap.size := ⟨_, rfl⟩
  rw [← hZe] at o0 o1 o2 o3 o4 ⊢
  clear hZe
  by_cases h10 : o.k = 10
  · have k10 : (o.k : Int) = 10 := by omega
    obtain ⟨nn, hnn, -⟩ := HG.out.tgt (.inl h10)
    have HEQ : Hid (Vm.doF p t o s = (.more, { s with at_ := nn })) := by
      show _ = _
      rw [Vm.doF_go h10, hnn, Int.toNat_natCast]
    rw [k10] at o0
    rw [hnn] at o4
    have c7 : W.cell? ⟨b.F, 7, none⟩ = some (.int .i64 (s.at_ : Int)) := HN.out.fr.cell 7
    have f7 := HN.out.fr.fro 7
    obtain ⟨n3, m3⟩ := HN.out.setF { s with at_ := nn } 7 (.int .i64 (nn : Int)) rfl rfl rfl
    have HN3 := Lib.hid n3
    have HM3 := Lib.hid m3
    clear h10 k10 hnn n3 m3 hk
    go_wp2_with fail
    refine (vmore _).mono ?_
    rintro e w7 ⟨rfl, hb7⟩
    have hZ7 := (HZ.out.mv HM3.out HKO.out).below hb7
    have HRW := Lib.hid (hZ7.ret (.int .u8 1) (.string ⟨#[]⟩) (.int .i64 0) (.slice none 0 0) (.int .i64 0) (.int .i64 0) (.int .i64 0))
    have HFIN : Hid (Vm.OutP K b p t (Vm.doF p t o s) w (.returned (.agg #[.int .u8 1, .string ⟨#[]⟩, .int .i64 0, .slice none 0 0, .int .i64 0, .int .i64 0, .int .i64 0])) (Vm.set7 w7 Y (.int .u8 1) (.string ⟨#[]⟩) (.int .i64 0) (.slice none 0 0) (.int .i64 0) (.int .i64 0) (.int .i64 0))) := by
      show Vm.OutP _ _ _ _ _ _ _ _
      rw [HEQ.out]
      exact Vm.OutP.ret (x := (.more, { s with at_ := nn })) HKF.out HYS.out ((Gm.Mvg.of_below HB.out).trans HM3.out) ⟨rfl, HN3.out.below hb7, Gm.Mvg.of_below hb7, rfl, Vm.LOk.nil _ _ _⟩ _ _ _ _ _ _ _
    obtain ⟨⟨y0, y1, y2, y3, y4, y5, y6⟩, yf0, yf1, yf2, yf3, yf4, yf5, yf6⟩ := hZ7.all
    clear hZ7 hb7
    go_wp2_with fail
    refine bodyPost_ret (v := .agg #[.int .u8 1, .string ⟨#[]⟩, .int .i64 0, .slice none 0 0, .int .i64 0, .int .i64 0, .int .i64 0]) (results_cell_row Tryz.results99 _ _ Y 59 #[.int .u8 1, .string ⟨#[]⟩, .int .i64 0, .slice none 0 0, .int .i64 0, .int .i64 0, .int .i64 0] (0, 0) _ rfl HRW.out Tryz.underlying59 rfl HI.out) rfl ?_
    exact HFIN.out
  · by_cases h11 : o.k = 11
    · have k11 : (o.k : Int) = 11 := by omega
      obtain ⟨nn, hnn, -⟩ := HG.out.tgt (.inr h11)
      obtain ⟨d', a, b', ea, eb, ec, -⟩ := HG.out.nat
      have ha1 := HG.out.a (by rw [h11]; rfl) (by omega)
      have hal : a < s.regs.length := by have := HP.out.regs; omega
      have hEQ := Vm.doF_if (p := p) (t := t) (s := s) h11
      rw [eb, Ev.rgAt_nat hal, hnn, Int.toNat_natCast] at hEQ
      rw [k11] at o0
      rw [hnn] at o4
      rw [eb] at o2
      have t6 : W.cell? ⟨b.F, 6, none⟩ = some (.slice (some ⟨b.R, 0, none⟩) s.regs.length s.regs.length) := HN.out.fr.cell 6
      have ra := HN.out.fr.reg hal
      have a0 : (0 : Int) ≤ (a : Int) := by omega
      have a1 : (a : Int) < (s.regs.length : Int) := by omega
      generalize s.regs[a] = x at ra hEQ
      have HEQ := Lib.hid hEQ
      clear h10 h11 k11 hnn ea eb ec ha1 hal hEQ hk
      by_cases hx : x = 0
      · have e0 : (x != 0) = false := by simpa using hx
        have HEQ2 : Hid (Vm.doF p t o s = (.more, s)) := by
          show _ = _
          rw [HEQ.out, if_neg (by simpa using hx)]
        have HN3 := Lib.hid HN.out.drew
        have HM3 : Hid (Gm.Mvg (Vm.KOff b) (Vm.KOff b) W W.drew) := Ev.mvg_drew (Gm.Mvg.refl _ _)
        clear hx HEQ
        go_upto_region 6 with fail
        go_region
        go_wp2_with fail
        refine (vmore _).mono ?_
        rintro e w7 ⟨rfl, hb7⟩
        have hZ7 := (HZ.out.mv HM3.out HKO.out).below hb7
        have HRW := Lib.hid (hZ7.ret (.int .u8 1) (.string ⟨#[]⟩) (.int .i64 0) (.slice none 0 0) (.int .i64 0) (.int .i64 0) (.int .i64 0))
        have HFIN : Hid (Vm.OutP K b p t (Vm.doF p t o s) w (.returned (.agg #[.int .u8 1, .string ⟨#[]⟩, .int .i64 0, .slice none 0 0, .int .i64 0, .int .i64 0, .int .i64 0])) (Vm.set7 w7 Y (.int .u8 1) (.string ⟨#[]⟩) (.int .i64 0) (.slice none 0 0) (.int .i64 0) (.int .i64 0) (.int .i64 0))) := by
          show Vm.OutP _ _ _ _ _ _ _ _
          rw [HEQ2.out]
          exact Vm.OutP.ret (x := (.more, s)) HKF.out HYS.out ((Gm.Mvg.of_below HB.out).trans HM3.out) ⟨rfl, HN3.out.below hb7, Gm.Mvg.of_below hb7, rfl, Vm.LOk.nil _ _ _⟩ _ _ _ _ _ _ _
        obtain ⟨⟨y0, y1, y2, y3, y4, y5, y6⟩, yf0, yf1, yf2, yf3, yf4, yf5, yf6⟩ := hZ7.all
        clear hZ7 hb7
        go_wp2_with fail
        refine bodyPost_ret (v := .agg #[.int .u8 1, .string ⟨#[]⟩, .int .i64 0, .slice none 0 0, .int .i64 0, .int .i64 0, .int .i64 0]) (results_cell_row Tryz.results99 _ _ Y 59 #[.int .u8 1, .string ⟨#[]⟩, .int .i64 0, .slice none 0 0, .int .i64 0, .int .i64 0, .int .i64 0] (0, 0) _ rfl HRW.out Tryz.underlying59 rfl HI.out) rfl ?_
        exact HFIN.out
      · have e0 : (x != 0) = true := by simpa using hx
        have HEQ2 : Hid (Vm.doF p t o s = (.more, { s with at_ := nn })) := by
          show _ = _
          rw [HEQ.out, if_pos hx]
        have c7 : W.cell? ⟨b.F, 7, none⟩ = some (.int .i64 (s.at_ : Int)) := HN.out.fr.cell 7
        have f7 := HN.out.fr.fro 7
        obtain ⟨n3, m3⟩ := HN.out.setF { s with at_ := nn } 7 (.int .i64 (nn : Int)) rfl rfl rfl
        have HN3 := Lib.hid n3.drew
        have HM3 := Lib.hid (Ev.mvg_drew m3)
        clear hx HEQ n3 m3
        go_upto_region 6 with fail
        go_region
        go_wp2_with fail
        refine (vmore _).mono ?_
        rintro e w7 ⟨rfl, hb7⟩
        have hZ7 := (HZ.out.mv HM3.out HKO.out).below hb7
        have HRW := Lib.hid (hZ7.ret (.int .u8 1) (.string ⟨#[]⟩) (.int .i64 0) (.slice none 0 0) (.int .i64 0) (.int .i64 0) (.int .i64 0))
        have HFIN : Hid (Vm.OutP K b p t (Vm.doF p t o s) w (.returned (.agg #[.int .u8 1, .string ⟨#[]⟩, .int .i64 0, .slice none 0 0, .int .i64 0, .int .i64 0, .int .i64 0])) (Vm.set7 w7 Y (.int .u8 1) (.string ⟨#[]⟩) (.int .i64 0) (.slice none 0 0) (.int .i64 0) (.int .i64 0) (.int .i64 0))) := by
          show Vm.OutP _ _ _ _ _ _ _ _
          rw [HEQ2.out]
          exact Vm.OutP.ret (x := (.more, { s with at_ := nn })) HKF.out HYS.out ((Gm.Mvg.of_below HB.out).trans HM3.out) ⟨rfl, HN3.out.below hb7, Gm.Mvg.of_below hb7, rfl, Vm.LOk.nil _ _ _⟩ _ _ _ _ _ _ _
        obtain ⟨⟨y0, y1, y2, y3, y4, y5, y6⟩, yf0, yf1, yf2, yf3, yf4, yf5, yf6⟩ := hZ7.all
        clear hZ7 hb7
        go_wp2_with fail
        refine bodyPost_ret (v := .agg #[.int .u8 1, .string ⟨#[]⟩, .int .i64 0, .slice none 0 0, .int .i64 0, .int .i64 0, .int .i64 0]) (results_cell_row Tryz.results99 _ _ Y 59 #[.int .u8 1, .string ⟨#[]⟩, .int .i64 0, .slice none 0 0, .int .i64 0, .int .i64 0, .int .i64 0] (0, 0) _ rfl HRW.out Tryz.underlying59 rfl HI.out) rfl ?_
        exact HFIN.out
    · by_cases h12 : o.k = 12
      · have k12 : (o.k : Int) = 12 := by omega
        have HEQ := Lib.hid (Vm.doF_fork (p := p) (t := t) (s := s) h12)
        have HCA := Lib.hid (vfork HN.out HP.out h12 HG.out HR.out HE.out.good HE.out.tok.path HE.out.len)
        rw [k12] at o0 HCA ⊢
        clear h10 h11 h12 k12 hk
        go_wp2_with fail
        refine HCA.out.mono ?_
        rintro e w4 ⟨b', kk, pa, fn, A, n', c', fu, va, er, rfl, hoo⟩
        have hZ4 := HZ.out.mv hoo.out.2.2.1 HKO.out
        have HRW := Lib.hid (hZ4.ret (.int .u8 kk) (.string pa) (.int .i64 fn) (.slice A n' c') (.int .i64 fu) (.int .i64 va) (.int .i64 er))
        have HFIN : Hid (Vm.OutP K b p t (Vm.doF p t o s) w (.returned (.agg #[.int .u8 kk, .string pa, .int .i64 fn, .slice A n' c', .int .i64 fu, .int .i64 va, .int .i64 er])) (Vm.set7 w4 Y (.int .u8 kk) (.string pa) (.int .i64 fn) (.slice A n' c') (.int .i64 fu) (.int .i64 va) (.int .i64 er))) := by
          show Vm.OutP _ _ _ _ _ _ _ _
          rw [HEQ.out]
          exact Vm.OutP.ret HKF.out HYS.out (Gm.Mvg.of_below HB.out) hoo.out _ _ _ _ _ _ _
        obtain ⟨⟨y0, y1, y2, y3, y4, y5, y6⟩, yf0, yf1, yf2, yf3, yf4, yf5, yf6⟩ := hZ4.all
        clear hZ4 HCA
        go_wp2_with fail
        refine bodyPost_ret (v := .agg #[.int .u8 kk, .string pa, .int .i64 fn, .slice A n' c', .int .i64 fu, .int .i64 va, .int .i64 er]) (results_cell_row Tryz.results99 _ _ Y 59 #[.int .u8 kk, .string pa, .int .i64 fn, .slice A n' c', .int .i64 fu, .int .i64 va, .int .i64 er] (0, 0) _ rfl HRW.out Tryz.underlying59 rfl HI.out) rfl ?_
        exact HFIN.out
      · by_cases h13 : o.k = 13 ∨ o.k = 14
        · have HEQ := Lib.hid (Vm.doF_join (p := p) (t := t) (s := s) h13)
          have HCA := Lib.hid (vjoin HN.out HP.out h13 HG.out HR.out (HE.out.good _ HE.out.tok.mem).len)
          rcases h13 with h13 | h13
          · have k13 : (o.k : Int) = 13 := by omega
            rw [k13] at o0 ⊢
            clear h10 h11 h12 h13 k13 hk
            go_wp2_with fail
            refine HCA.out.mono ?_
            rintro e w4 ⟨b', kk, pa, fn, A, n', c', fu, va, er, rfl, hoo⟩
            have hZ4 := HZ.out.mv hoo.out.2.2.1 HKO.out
            have HRW := Lib.hid (hZ4.ret (.int .u8 kk) (.string pa) (.int .i64 fn) (.slice A n' c') (.int .i64 fu) (.int .i64 va) (.int .i64 er))
            have HFIN : Hid (Vm.OutP K b p t (Vm.doF p t o s) w (.returned (.agg #[.int .u8 kk, .string pa, .int .i64 fn, .slice A n' c', .int .i64 fu, .int .i64 va, .int .i64 er])) (Vm.set7 w4 Y (.int .u8 kk) (.string pa) (.int .i64 fn) (.slice A n' c') (.int .i64 fu) (.int .i64 va) (.int .i64 er))) := by
              show Vm.OutP _ _ _ _ _ _ _ _
              rw [HEQ.out]
              exact Vm.OutP.ret HKF.out HYS.out (Gm.Mvg.of_below HB.out) hoo.out _ _ _ _ _ _ _
            obtain ⟨⟨y0, y1, y2, y3, y4, y5, y6⟩, yf0, yf1, yf2, yf3, yf4, yf5, yf6⟩ := hZ4.all
            clear hZ4 HCA
            go_wp2_with fail
            refine bodyPost_ret (v := .agg #[.int .u8 kk, .string pa, .int .i64 fn, .slice A n' c', .int .i64 fu, .int .i64 va, .int .i64 er]) (results_cell_row Tryz.results99 _ _ Y 59 #[.int .u8 kk, .string pa, .int .i64 fn, .slice A n' c', .int .i64 fu, .int .i64 va, .int .i64 er] (0, 0) _ rfl HRW.out Tryz.underlying59 rfl HI.out) rfl ?_
            exact HFIN.out
          · have k13 : (o.k : Int) = 14 := by omega
            rw [k13] at o0 ⊢
            clear h10 h11 h12 h13 k13 hk
            go_wp2_with fail
            refine HCA.out.mono ?_
            rintro e w4 ⟨b', kk, pa, fn, A, n', c', fu, va, er, rfl, hoo⟩
            have hZ4 := HZ.out.mv hoo.out.2.2.1 HKO.out
            have HRW := Lib.hid (hZ4.ret (.int .u8 kk) (.string pa) (.int .i64 fn) (.slice A n' c') (.int .i64 fu) (.int .i64 va) (.int .i64 er))
            have HFIN : Hid (Vm.OutP K b p t (Vm.doF p t o s) w (.returned (.agg #[.int .u8 kk, .string pa, .int .i64 fn, .slice A n' c', .int .i64 fu, .int .i64 va, .int .i64 er])) (Vm.set7 w4 Y (.int .u8 kk) (.string pa) (.int .i64 fn) (.slice A n' c') (.int .i64 fu) (.int .i64 va) (.int .i64 er))) := by
              show Vm.OutP _ _ _ _ _ _ _ _
              rw [HEQ.out]
              exact Vm.OutP.ret HKF.out HYS.out (Gm.Mvg.of_below HB.out) hoo.out _ _ _ _ _ _ _
            obtain ⟨⟨y0, y1, y2, y3, y4, y5, y6⟩, yf0, yf1, yf2, yf3, yf4, yf5, yf6⟩ := hZ4.all
            clear hZ4 HCA
            go_wp2_with fail
            refine bodyPost_ret (v := .agg #[.int .u8 kk, .string pa, .int .i64 fn, .slice A n' c', .int .i64 fu, .int .i64 va, .int .i64 er]) (results_cell_row Tryz.results99 _ _ Y 59 #[.int .u8 kk, .string pa, .int .i64 fn, .slice A n' c', .int .i64 fu, .int .i64 va, .int .i64 er] (0, 0) _ rfl HRW.out Tryz.underlying59 rfl HI.out) rfl ?_
            exact HFIN.out
        · have h9 : o.k ≤ 9 := by omega
          have HEQ := Lib.hid (Vm.doF_plain (p := p) (t := t) (s := s) hk.1 h9)
          obtain ⟨d', a, b', ea, eb, ec, -⟩ := HG.out.nat
          have hrr := HP.out.regs
          have hd1 : o.d < (s.regs.length : Int) := by rw [hrr]; exact HG.out.d (by unfold Cd.hD; simp; omega)
          have ha1 : o.a < (s.regs.length : Int) := by
            by_cases e1 : o.k = 1
            · rw [(HGZ.out.one e1).1]; omega
            · rw [hrr]; exact HG.out.a (by unfold Cd.hA; simp; omega) (by omega)
          have hc1 : o.b < (s.regs.length : Int) := by
            by_cases e1 : o.k = 1
            · rw [(HGZ.out.one e1).2]; omega
            · by_cases e2 : o.k = 2
              · rw [HGZ.out.two e2]; omega
              · rw [hrr]; exact HG.out.b (by unfold Cd.hB; simp; omega)
          have HCA := Lib.hid (vreckon HN.out hk.1 h9 (by omega) hd1 (by omega) ha1 (by omega) hc1)
          have e10 : ((o.k : Int) == 10) = false := by rw [beq_eq_false_iff_ne]; omega
          have e11 : ((o.k : Int) == 11) = false := by rw [beq_eq_false_iff_ne]; omega
          have e12 : ((o.k : Int) == 12) = false := by rw [beq_eq_false_iff_ne]; omega
          have e13 : ((o.k : Int) == 13) = false := by rw [beq_eq_false_iff_ne]; omega
          have e14 : ((o.k : Int) == 14) = false := by rw [beq_eq_false_iff_ne]; omega
          clear h10 h11 h12 h13 hk h9 ea eb ec hd1 ha1 hc1 hrr
          go_wp2_with fail
          refine HCA.out.mono ?_
          rintro e w4 ⟨b', kk, pa, fn, A, n', c', fu, va, er, rfl, hoo⟩
          have hZ4 := HZ.out.mv hoo.out.2.2.1 HKO.out
          have HRW := Lib.hid (hZ4.ret (.int .u8 kk) (.string pa) (.int .i64 fn) (.slice A n' c') (.int .i64 fu) (.int .i64 va) (.int .i64 er))
          have HFIN : Hid (Vm.OutP K b p t (Vm.doF p t o s) w (.returned (.agg #[.int .u8 kk, .string pa, .int .i64 fn, .slice A n' c', .int .i64 fu, .int .i64 va, .int .i64 er])) (Vm.set7 w4 Y (.int .u8 kk) (.string pa) (.int .i64 fn) (.slice A n' c') (.int .i64 fu) (.int .i64 va) (.int .i64 er))) := by
            show Vm.OutP _ _ _ _ _ _ _ _
            rw [HEQ.out]
            exact Vm.OutP.ret HKF.out HYS.out (Gm.Mvg.of_below HB.out) hoo.out _ _ _ _ _ _ _
          obtain ⟨⟨y0, y1, y2, y3, y4, y5, y6⟩, yf0, yf1, yf2, yf3, yf4, yf5, yf6⟩ := hZ4.all
          clear hZ4 HCA
          go_wp2_with fail
          refine bodyPost_ret (v := .agg #[.int .u8 kk, .string pa, .int .i64 fn, .slice A n' c', .int .i64 fu, .int .i64 va, .int .i64 er]) (results_cell_row Tryz.results99 _ _ Y 59 #[.int .u8 kk, .string pa, .int .i64 fn, .slice A n' c', .int .i64 fu, .int .i64 va, .int .i64 er] (0, 0) _ rfl HRW.out Tryz.underlying59 rfl HI.out) rfl ?_
          exact HFIN.out
end Go.Proofs.YtnlhacgihmelhaaGreatDoor
end
