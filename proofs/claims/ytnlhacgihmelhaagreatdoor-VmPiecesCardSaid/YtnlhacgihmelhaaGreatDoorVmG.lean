/-
  Layer 14: the contracts of from and fork.
-/
import Derived.Test.YtnlhacgihmelhaaGreatDoorLowVmE
import Derived.Test.YtnlhacgihmelhaaGreatDoorLowBr
import Derived.BigQuiet
namespace Go.Proofs.YtnlhacgihmelhaaGreatDoor
open Go.RowKit

set_option maxHeartbeats 1000000 in
set_option maxRecDepth 20000 in
theorem vfrom {K : Nat → Prop} {b : Vm.Bk} {p : List Cd.FnV} {t : Ev.Tsk} {s : Vm.Fs} {w : World} (h : Vm.Hf K b p t s w) (a n : Nat) (ha : n = 0 ∨ a + n ≤ s.regs.length) (hl : s.regs.length ≤ 16) (ha16 : a ≤ 16) :
    Calls Tryz.prog 141 #[.pointer (some ⟨b.F, 0, none⟩), .int .i64 (a : Int), .int .i64 (n : Int)] w (Ev.ArgsP (Ev.regsOf s.regs a n) w) := by
  have H := Lib.hid h
  have HA := Lib.hid ha
  have HN : Hid (n ≤ 16) := by show n ≤ 16; omega
  have hls : Hid (s.regs.length ≤ 16) := hl
  clear h ha hl
  go_enter Tryz.func141, Tryz.ntmps141
  go_wp2_with fail
  go_loopw [7, 10] (fun s7 s10 wr => ∃ (k : Nat) (A2 : Option Addr) (c2 : Nat), k ≤ n ∧ s7 = .slice A2 k c2 ∧ s10 = .int .i64 k ∧ Hid (wr.ownsRow w.heap.size 2 1 (.slice A2 k c2) k (icells (Ev.regsOf s.regs a k)) ∧ Below w.heap.size w wr)) (fun _ s10 _ => n - (intOf s10).toNat)
  case atStart => exact ⟨0, none, 0, Nat.zero_le _, rfl, rfl, ⟨by unfold Ev.regsOf icells; simp, .inl ⟨rfl, rfl⟩⟩, Below.refl _ _⟩
  case round =>
    obtain ⟨k, A2, c2, hk, rfl, rfl, HK⟩ := hrel
    by_cases hlt : k < n
    · have k0 : (0 : Int) ≤ (k : Int) := by omega
      have k1 : (k : Int) < (n : Int) := by omega
      have hak : a + k < s.regs.length := by rcases HA.out with h | h <;> omega
      have HT := H.out.fr.below HK.out.2
      have t4 : wr.cell? ⟨b.F, 6, none⟩ = some (.slice (some ⟨b.R, 0, none⟩) s.regs.length s.regs.length) := HT.cell 6
      have r0 : wr.cell? ⟨b.R, a + k, none⟩ = some (.int .i64 s.regs[a + k]) := HT.reg hak
      have HS := Lib.hid (Ev.regsOf_succ hak)
      have i0 : (0 : Int) ≤ (a : Int) + (k : Int) := by omega
      have i1 : (a : Int) + (k : Int) < (s.regs.length : Int) := by omega
      have i2 : (a : Int) + (k : Int) ≤ 9223372036854775807 := by have := hls.out; omega
      generalize s.regs[a + k] = x at r0 HS
      clear hlt HT
      have hk100 : k ≤ 100000 := by have := HN.out; omega
      have hbs : w.heap.size ≤ wr.heap.size := HK.out.2.size
      go_wp2_with (refine Cd.at_app rfl ?_; refine Ev.lpush HK.out.1 rfl _ _ rfl rfl rfl x (by first | with_reducible rfl | rfl) hk100 hbs ?_; intro g cap w6 hown hgr)
      have HNEW : Hid (w6.ownsRow w.heap.size 2 1 (.slice (some ⟨g, 0, none⟩) (k + 1) cap) (k + 1) (icells (Ev.regsOf s.regs a (k + 1))) ∧ Below w.heap.size w w6) := by
        refine ⟨?_, ?_⟩
        · rw [HS.out, Ev.icells_snoc]
          exact hown
        · have hb := HK.out.2.trans ((Cd.fn1 wr #[.int .i64 x] 2).mono HK.out.2.size)
          exact hb.grown hgr hb.size (fun q hq => (HK.out.1.lt q hq).1)
      clear hown hgr hbs
      go_wp2_with fail
      go_roundw
      case rel => exact ⟨k + 1, some ⟨g, 0, none⟩, cap, by omega, rfl, by go_num, HNEW.out⟩
      case measure => simp [intOf]; omega
    · have k1 : ¬ (k : Int) < (n : Int) := by omega
      obtain rfl : k = n := by omega
      clear hlt
      go_wp2_with fail
      go_ret
      have hlen : (Ev.regsOf s.regs a k).length = k := by
        rcases HA.out with rfl | h
        · unfold Ev.regsOf; simp
        · exact Ev.regsOf_len h
      refine ⟨A2, c2, by rw [hlen]; rfl, Cd.rowLies HK.out.1, fun _ p hp => ?_, HK.out.2⟩
      subst hp
      exact (HK.out.1.lt p.block rfl).1

namespace Vm
open Cd Ev
theorem kid_info : (Tryz.prog.info? 124).map (fun i => (i.zero, i.size, i.bytes)) = some (some (.agg #[.int .i64 0, .int .i64 0, .int .i64 0, .bool false]), 4, 32) := by kernel_rfl
/-- append(l, k) of a child, at a step of a region that draws. -/
theorem kpush_step {ops : Array Oper} {oo : Oper} {a : Act} {U : World} {K : Act → World → Prop} {Q : Exit → Act → World → Prop} {E : Prop} {T1 : TypeId} {n b : Nat} {v : Value} {xs : List Value}
    (hrow : U.ownsRow 0 124 4 v n xs) (hgd : oo.guard = none) (s x : Operand)
    (hop : oo.op = .call { callee := .builtin .append, args := #[s, x], argTypes := #[120, 120] }) (hs : a.eval s = v) (hx : a.eval x = .slice (some ⟨b, 0, none⟩) 1 1) (m : Kd)
    (hb : U.heap[b]? = some (.cells #[.int .i64 m.r.val, .int .i64 m.r.err, .int .i64 m.reg, .bool m.given] T1 (0, 0))) (hn : n ≤ 100000)
    (h : ∀ g cap w', w'.ownsRow 0 124 4 (.slice (some ⟨g, 0, none⟩) (n + 1) cap) (n + 1) (xs ++ kc1 m) → U.grownBy w' v.ownBlock → (v.ownBlock = some g ∨ g = U.heap.size) → K (a.put oo.dst (.slice (some ⟨g, 0, none⟩) (n + 1) cap)) w') :
    if Region.wanted oo (yielded ops a.tmps) = true then Oper.wp Tryz.prog oo a U K Q else E := by
  obtain ⟨i, hi, hz⟩ := Option.map_eq_some_iff.1 kid_info
  simp only [Prod.mk.injEq] at hz
  obtain ⟨z1, z2, z3⟩ := hz
  refine step_append_lies _ hgd s x 120 hop 0 124 i (.agg #[.int .i64 0, .int .i64 0, .int .i64 0, .bool false]) 4 32 Tryz.underlying120 hi z1 z2 z3 rfl (by decide) v n xs hs hrow ⟨b, 0, none⟩ 1 1 (kc1 m) hx rfl
    (fun j u hu => World.news_of_block hb j u hu) (by unfold kc1; simp [Value.oneCell']) (by decide) (by unfold maxLen; omega) (by omega) (Nat.zero_le _) U.heap.size rfl ?_
  intro g cap w' h1 h2 h3 _
  exact h g cap w' h1 h2 h3
/-- A child was appended. -/
theorem Hf.pushK {K : Nat → Prop} {b : Bk} {p : List FnV} {t : Tsk} {s : Fs} {w w' : World} (h : Hf K b p t s w) {g cap : Nat} {x : Kd}
    (hown : w'.ownsRow 0 124 4 (.slice (some ⟨g, 0, none⟩) (s.kids.length + 1) cap) (s.kids.length + 1) (kcells s.kids ++ kc1 x)) (hgr : w.grownBy w' b.u.ownBlock) (hg : b.u.ownBlock = some g ∨ w.heap.size ≤ g) :
    Hf K { b with u := .slice (some ⟨g, 0, none⟩) (s.kids.length + 1) cap } p t { s with kids := s.kids ++ [x] } (w'.setCell ⟨b.F, 9, none⟩ (.slice (some ⟨g, 0, none⟩) (s.kids.length + 1) cap)) ∧
    Gm.Mvg (KOff b) (KOff { b with u := .slice (some ⟨g, 0, none⟩) (s.kids.length + 1) cap }) w (w'.setCell ⟨b.F, 9, none⟩ (.slice (some ⟨g, 0, none⟩) (s.kids.length + 1) cap)) := by
  have hFl := h.fr.ltF
  have hRl := h.fr.ltR
  have hk : ∀ i, i ≠ b.F → (w'.setCell ⟨b.F, 9, none⟩ (.slice (some ⟨g, 0, none⟩) (s.kids.length + 1) cap)).heap[i]? = w'.heap[i]? := fun i hi => Below.heap_setCell _ _ _ _ hi
  have hF : w'.heap[b.F]? = some (.cells (fcs b p t s) 122 (0, 0)) := (hgr.block b.F hFl (fun e => h.fr.nu e.symm)).trans h.fr.obj
  have hgF : g ≠ b.F := fun e => by
    rcases hg with hg | hg
    · exact h.fr.nu (by rw [hg, e])
    · omega
  have hgR : g ≠ b.R := fun e => by
    rcases hg with hg | hg
    · exact h.fr.nr (by rw [hg, e])
    · omega
  have hKg : K g := by
    rcases hg with hg | hg
    · exact h.o3 g hg
    · exact h.fresh g hg
  have hblk : ∀ i, i < w.heap.size → some i ≠ b.u.ownBlock → i ≠ b.F → (w'.setCell ⟨b.F, 9, none⟩ (.slice (some ⟨g, 0, none⟩) (s.kids.length + 1) cap)).heap[i]? = w.heap[i]? := fun i h1 h2 h3 => (hk i h3).trans (hgr.block i h1 h2)
  have mv : Gm.Mvg (KOff b) (KOff { b with u := .slice (some ⟨g, 0, none⟩) (s.kids.length + 1) cap }) w (w'.setCell ⟨b.F, 9, none⟩ (.slice (some ⟨g, 0, none⟩) (s.kids.length + 1) cap)) := by
    refine ⟨hgr.os, hgr.tape, hgr.output, Nat.le_trans hgr.size (by simp [World.setCell]), fun i hi ho => hblk i hi ho.2.2 ho.1, fun i hi ho => ⟨ho.1, ho.2.1, fun e => ?_⟩⟩
    have : some i = some g := e
    injection this with this
    subst this
    rcases hg with hg | hg
    · exact ho.2.2 hg.symm
    · omega
  have m2 : Gm.Mvg (fun i => KOff b i ∧ K i) (fun i => KOff { b with u := .slice (some ⟨g, 0, none⟩) (s.kids.length + 1) cap } i ∧ K i) w (w'.setCell ⟨b.F, 9, none⟩ (.slice (some ⟨g, 0, none⟩) (s.kids.length + 1) cap)) := ⟨mv.os, mv.tape, mv.output, mv.size, fun i hi ho => mv.block i hi ho.1, fun i hi ho => ⟨mv.keep i hi ho.1, ho.2⟩⟩
  refine ⟨⟨⟨?_, ?_, ?_, h.fr.ne, ?_, ?_⟩, h.o1, h.o2, fun q hq => ?_, h.args.mv m2, h.ops.mv m2, h.takes.mv m2, fun i hi => h.fresh i (Nat.le_trans mv.size hi)⟩, mv⟩
  · show (w'.setCell ⟨b.F, 9, none⟩ _).heap[b.F]? = _
    rw [heap_setCell_same _ _ _ _ _ _ hF]
    rfl
  · show (w'.setCell ⟨b.F, 9, none⟩ _).heap[b.R]? = _
    rw [hblk b.R hRl (fun e => h.fr.nr e.symm) h.fr.ne]
    exact h.fr.regs
  · show World.ownsRow _ _ _ _ _ (s.kids ++ [x]).length _
    rw [List.length_append, kcells_app]
    refine Gm.ownsKeep (xs := kcells s.kids ++ kcells [x]) ?_ (fun i hi => hk i (fun e => hgF ?_))
    · exact hown
    · have : some g = some i := hi
      injection this with this
      omega
  · intro e
    have : some g = some b.F := e
    injection this with this
    exact hgF this
  · intro e
    have : some g = some b.R := e
    injection this with this
    exact hgR this
  · have : some g = some q := hq
    injection this with this
    subst this
    exact hKg
end Vm

set_option maxHeartbeats 1000000 in
set_option maxRecDepth 20000 in
theorem vfork {K : Nat → Prop} {b : Vm.Bk} {p : List Cd.FnV} {t : Ev.Tsk} {o : Cd.OpV} {s : Vm.Fs} {w : World} (h : Vm.Hf K b p t s w) (hp : Vm.POk p t o s) (ho : o.k = 12) (hg : Ev.GoodO p (Ev.fnOf p t) o) (hr : s.regs.length ≤ 16) (hpg : ∀ f ∈ p, Ev.GoodF p f) (hpa : Br.may t.path = true) (hpl : p.length ≤ 100000) :
    Calls Tryz.prog 116 #[.pointer (some ⟨b.F, 0, none⟩), .agg #[.int .u8 (o.k : Int), .int .i64 o.d, .int .i64 o.a, .int .i64 o.b, .int .i64 o.n]] w (Vm.OutP K b p t (Vm.fork p t o s) w) := by
  obtain ⟨V, hV⟩ : ∃ V, V = w.alloc (.cells #[.int .u8 (o.k : Int), .int .i64 o.d, .int .i64 o.a, .int .i64 o.b, .int .i64 o.n] 72) := ⟨_, rfl⟩
  obtain ⟨W, hW⟩ : ∃ W, W = V.alloc (.cells #[.int .u8 0, .string ⟨#[]⟩, .int .i64 0, .slice none 0 0, .int .i64 0, .int .i64 0, .int .i64 0] 59) := ⟨_, rfl⟩
  have hb1 : Below w.heap.size w V := by rw [hV]; exact Cd.fn1 _ _ _
  have hs1 : V.heap.size = w.heap.size + 1 := by rw [hV]; simp
  have hb2 : Below V.heap.size V W := by rw [hW]; exact Cd.fn1 _ _ _
  have hb : Below w.heap.size w W := hb1.trans (hb2.mono hb1.size)
  have hZ : Vm.ZB V.heap.size W := ⟨by rw [hW]; exact heap_alloc_new V _⟩
  have hO : W.heap[w.heap.size]? = some (.cells #[.int .u8 (o.k : Int), .int .i64 o.d, .int .i64 o.a, .int .i64 o.b, .int .i64 o.n] 72 (0, 0)) := (hb2.block _ (by omega)).trans (by rw [hV]; exact heap_alloc_new w _)
  have hN : Vm.Hf (fun i => K i ∧ i ≠ V.heap.size) b p t s W := by rw [hW]; exact (h.below hb1).at_new _
  have HZ := Lib.hid hZ
  have HOB := Lib.hid hO
  have HB := Lib.hid hb
  have HN := Lib.hid hN
  have HKF := Lib.hid h.fresh
  have HKO := Lib.hid (h.fr.lt V.heap.size hb1.size)
  have HKO2 := Lib.hid (h.fr.lt w.heap.size (Nat.le_refl _))
  have HI : Hid ((Tryz.prog.info? 59).map (·.size) = some 7) := Vm.stp_size
  have HP := Lib.hid hp
  have HO := Lib.hid ho
  have HG := Lib.hid hg
  have HR := Lib.hid hr
  have HPL := Lib.hid hpl
  have HYS : Hid (w.heap.size ≤ V.heap.size) := hb1.size
  obtain ⟨U, cu, hu⟩ := Ev.own_slice h.fr.row
  have HU := Lib.hid hu
  have hk16 := hp.kids
  have c0 : W.cell? ⟨b.F, 0, none⟩ = some (.string t.path) := hN.fr.cell 0
  have c9 : W.cell? ⟨b.F, 9, none⟩ = some (.slice U s.kids.length cu) := by rw [← hu]; exact hN.fr.cell 9
  have hZO : Hid (w.heap.size ≠ V.heap.size) := by show _ ≠ _; omega
  have HPZ : Hid (t.path.size ≤ 12) := Br.may_size hpa
  clear hb1 hb2 hb hZ hO hN h hp ho hg hr hpl hu hpa
  go_enter Tryz.func116, Tryz.ntmps116
  go_upto_region 1 with fail
  rw [← hV, ← hs1, ← hW]
  clear hV hW hs1
  obtain ⟨Y, hYe⟩ : ∃ Y, Y = V.heap.size := ⟨_, rfl⟩
  rw [← hYe] at HZ HKO HN HYS hZO ⊢
  clear hYe
  obtain ⟨Z, hZe⟩ : ∃ Z, Z = w.heap.size := ⟨_, rfl⟩
  rw [← hZe] at HOB HKO2 hZO ⊢
  have HZE := Lib.hid hZe
  clear hZe
  by_cases h16 : 16 ≤ s.kids.length
  · have e16 : ((s.kids.length : Int) == 16) = true := by rw [beq_iff_eq]; omega
    have HJ : Hid (Vm.fork p t o s = Vm.endW s ⟨0, 132⟩) := by show _ = _; unfold Vm.fork; rw [if_pos h16]
    have HFL := Lib.hid (vfail HN.out 132)
    clear h16 hk16
    go_wp2_with fail
    refine HFL.out.mono ?_
    rintro e w4 ⟨b', kk, pa, fn, A, n, c, fu, va, er, rfl, hoo⟩
    have hZ4 := HZ.out.mv hoo.out.2.2.1 HKO.out
    have HRW := Lib.hid (hZ4.ret (.int .u8 kk) (.string pa) (.int .i64 fn) (.slice A n c) (.int .i64 fu) (.int .i64 va) (.int .i64 er))
    have HFIN : Hid (Vm.OutP K b p t (Vm.fork p t o s) w (.returned (.agg #[.int .u8 kk, .string pa, .int .i64 fn, .slice A n c, .int .i64 fu, .int .i64 va, .int .i64 er])) (Vm.set7 w4 Y (.int .u8 kk) (.string pa) (.int .i64 fn) (.slice A n c) (.int .i64 fu) (.int .i64 va) (.int .i64 er))) := by
      show Vm.OutP _ _ _ _ _ _ _ _
      rw [HJ.out]
      exact Vm.OutP.ret HKF.out HYS.out (Gm.Mvg.of_below HB.out) hoo.out _ _ _ _ _ _ _
    obtain ⟨⟨y0, y1, y2, y3, y4, y5, y6⟩, yf0, yf1, yf2, yf3, yf4, yf5, yf6⟩ := hZ4.all
    clear hZ4 HFL c0 c9
    go_wp2_with fail
    refine bodyPost_ret (v := .agg #[.int .u8 kk, .string pa, .int .i64 fn, .slice A n c, .int .i64 fu, .int .i64 va, .int .i64 er]) (results_cell_row Tryz.results116 _ _ Y 59 #[.int .u8 kk, .string pa, .int .i64 fn, .slice A n c, .int .i64 fu, .int .i64 va, .int .i64 er] (0, 0) _ rfl HRW.out Tryz.underlying59 rfl HI.out) rfl ?_
    exact HFIN.out
  · have e16 : ((s.kids.length : Int) == 16) = false := by rw [beq_eq_false_iff_ne]; omega
    have hkw : IntKind.i64.wrap ((s.kids.length : Int) + 1) = (s.kids.length : Int) + 1 := by rw [IntKind.wrap_i64]; omega
    obtain ⟨kn, hkn⟩ : ∃ kn : Int, kn = (s.kids.length : Int) + 1 := ⟨_, rfl⟩
    have HKN := Lib.hid hkn
    replace hkw : IntKind.i64.wrap ((s.kids.length : Int) + 1) = kn := by rw [hkw, hkn]
    have HKID := Lib.hid (fun W => bKid t.path kn W (by have := HPZ.out; omega) (by omega))
    have H16 := Lib.hid h16
    clear h16 hk16 hkn
    go_upto_region 3 with fail
    go_region_held3 (fun w' => w'.cell? ⟨b.F, 0, none⟩ = some (.string t.path) ∧ w'.cell? ⟨b.F, 9, none⟩ = some (.slice U s.kids.length cu))
      (first | exact ⟨c0, c9⟩ | exact S2)
      (first
        | (with_reducible refine (HKID.out _).mono ?_
           rintro e w2 ⟨rfl, hb2⟩
           have S2 : w2.cell? ⟨b.F, 0, none⟩ = some (.string t.path) ∧ w2.cell? ⟨b.F, 9, none⟩ = some (.slice U s.kids.length cu) := ⟨Ev.cell_below (w := W.drew) hb2 c0, Ev.cell_below (w := W.drew) hb2 c9⟩))
    have hb2' : Below W.heap.size W w2 := (Below.refl _ _).drew.trans hb2
    have HN2 := Lib.hid (HN.out.below hb2')
    have HM2 : Hid (Gm.Mvg (Vm.KOff b) (Vm.KOff b) W w2) := Gm.Mvg.of_below hb2'
    have hO2 := (hb2'.block Z (Cd.ltH HOB.out)).trans HOB.out
    have HO2 := Lib.hid hO2
    clear hb2 hb2' HKID HN hO2 S2
    cases hko : Br.kidOk t.path kn with
    | false =>
      have HJ : Hid (Vm.fork p t o s = Vm.endW s ⟨0, 133⟩) := by
        show _ = _
        unfold Vm.fork
        rw [if_neg H16.out, if_pos (by rw [← HKN.out]; exact hko)]
      have HFL := Lib.hid (vfail HN2.out 133)
      clear hko c0 c9 hkw e16
      go_wp2_with fail
      refine HFL.out.mono ?_
      rintro e w4 ⟨b', kk, pa, fn, A, n, c, fu, va, er, rfl, hoo⟩
      have hZ4 := HZ.out.mv (HM2.out.trans hoo.out.2.2.1) HKO.out
      have HRW := Lib.hid (hZ4.ret (.int .u8 kk) (.string pa) (.int .i64 fn) (.slice A n c) (.int .i64 fu) (.int .i64 va) (.int .i64 er))
      have HFIN : Hid (Vm.OutP K b p t (Vm.fork p t o s) w (.returned (.agg #[.int .u8 kk, .string pa, .int .i64 fn, .slice A n c, .int .i64 fu, .int .i64 va, .int .i64 er])) (Vm.set7 w4 Y (.int .u8 kk) (.string pa) (.int .i64 fn) (.slice A n c) (.int .i64 fu) (.int .i64 va) (.int .i64 er))) := by
        show Vm.OutP _ _ _ _ _ _ _ _
        rw [HJ.out]
        exact Vm.OutP.ret HKF.out HYS.out ((Gm.Mvg.of_below HB.out).trans HM2.out) hoo.out _ _ _ _ _ _ _
      obtain ⟨⟨y0, y1, y2, y3, y4, y5, y6⟩, yf0, yf1, yf2, yf3, yf4, yf5, yf6⟩ := hZ4.all
      clear hZ4 HFL
      go_wp2_with fail
      refine bodyPost_ret (v := .agg #[.int .u8 kk, .string pa, .int .i64 fn, .slice A n c, .int .i64 fu, .int .i64 va, .int .i64 er]) (results_cell_row Tryz.results116 _ _ Y 59 #[.int .u8 kk, .string pa, .int .i64 fn, .slice A n c, .int .i64 fu, .int .i64 va, .int .i64 er] (0, 0) _ rfl HRW.out Tryz.underlying59 rfl HI.out) rfl ?_
      exact HFIN.out
    | true =>
      obtain ⟨n', hn', hnl, harg⟩ := HG.out.fork HO.out
      obtain ⟨an, han, hanr⟩ := (hpg _ (List.getElem_mem hnl)).args
      have hargN : Ck.argN p o = (an : Int) := by
        unfold Ck.argN
        rw [hn', Int.toNat_natCast, List.getElem?_eq_getElem hnl]
        exact han
      obtain ⟨dn, a, bn, e1, e2, e3, -, ha16, -⟩ := HG.out.nat
      have haa : an = 0 ∨ a + an ≤ s.regs.length := by
        have h1 := HP.out.regs
        rw [hargN, e2] at harg
        omega
      obtain ⟨F, hF⟩ : ∃ F, F = s.left / 2 := ⟨_, rfl⟩
      obtain ⟨L2, hL2⟩ : ∃ L2, L2 = s.left - F := ⟨_, rfl⟩
      have hq : (s.left : Int) / 2 = (F : Int) := by omega
      have hq2 : (s.left : Int) - (F : Int) = (L2 : Int) := by omega
      have hF9 : (F : Int) ≤ 9223372036854775807 := by have := HP.out.left; omega
      have hL9 : (L2 : Int) ≤ 9223372036854775807 := by have := HP.out.left; omega
      have HJ : Hid (Vm.fork p t o s = (.fork ⟨Br.kidT t.path kn, (n' : Int), Ev.regsOf s.regs a an, F⟩, { s with left := L2, kids := s.kids ++ [⟨(dn : Int), ⟨0, 0⟩, false⟩] })) := by
        show _ = _
        unfold Vm.fork Vm.kidT Ev.regsOf
        rw [if_neg H16.out, if_neg (by rw [← HKN.out, hko]; decide), ← HKN.out, hargN, hn', e1, e2, hL2, hF]
        simp only [Int.toNat_natCast]
      rw [e1, e2, hn'] at HO2 HOB
      have z4 : w2.cell? ⟨Z, 4, none⟩ = some (.int .i64 (n' : Int)) := cell_of_row _ _ 4 _ _ _ HO2.out
      have c8 : w2.cell? ⟨b.F, 8, none⟩ = some (.int .i64 (s.left : Int)) := HN2.out.fr.cell 8
      have HF := Lib.hid hF
      have HL2 := Lib.hid hL2
      have HAN := Lib.hid han
      have HN16 : Hid (an ≤ 16 ∧ n' < p.length) := ⟨by obtain ⟨rn, h1, h2⟩ := (hpg _ (List.getElem_mem hnl)).regs; omega, hnl⟩
      have HTK : Hid ((p.map Cd.FnV.args)[n']? = some (an : Int)) := by show _ = _; rw [List.getElem?_map, List.getElem?_eq_getElem hnl, ← han]; rfl
      clear hko c0 c9 hkw e16 hn' harg hanr hargN e1 e2 e3 hF hL2 HAN han hnl hpg
      go_upto_region 6 with fail
      go_region
      have n2 := HN2.out
      have f8 := n2.fr.fro 8
      obtain ⟨n3, m3⟩ := n2.setF { s with left := L2 } 8 (.int .i64 (L2 : Int)) rfl rfl rfl
      obtain ⟨W3, hW3⟩ : ∃ X, X = (w2.setCell ⟨b.F, 8, none⟩ (.int .i64 (L2 : Int))).drew := ⟨_, rfl⟩
      have n3 := n3.drew
      have m3 := Ev.mvg_drew m3
      rw [← hW3] at n3 m3
      have HN3 := Lib.hid n3
      have HM3 := Lib.hid (HM2.out.trans m3)
      have hO3 := (m3.block Z (Cd.ltH HO2.out) HKO2.out).trans HO2.out
      have HO3 := Lib.hid hO3
      clear n2 n3 m3 z4 hO3
      go_upto_region 8 with fail
      rw [← hW3]
      clear hW3 c8 f8 hq hq2
      have c9 : W3.cell? ⟨b.F, 9, none⟩ = some (.slice U s.kids.length cu) := by rw [← HU.out]; exact HN3.out.fr.cell 9
      have z1 : W3.cell? ⟨Z, 1, none⟩ = some (.int .i64 (dn : Int)) := cell_of_row _ _ 1 _ _ _ HO3.out
      have HUU : Hid (Vm.Hf (fun i => K i ∧ i ≠ Y) b p t { s with left := L2 } (W3.alloc (.cells #[.int .i64 0, .int .i64 0, .int .i64 (dn : Int), .bool false] 124)).drew) := (HN3.out.below (Cd.fn1 _ _ _)).drew
      have hrowU : (W3.alloc (.cells #[.int .i64 0, .int .i64 0, .int .i64 (dn : Int), .bool false] 124)).drew.ownsRow 0 124 4 (.slice U s.kids.length cu) s.kids.length (Vm.kcells s.kids) := by rw [← HU.out]; exact HUU.out.fr.row
      have HROW := Lib.hid hrowU
      have HBL : Hid ((W3.alloc (.cells #[.int .i64 0, .int .i64 0, .int .i64 (dn : Int), .bool false] 124)).drew.heap[W3.heap.size]? = some (.cells #[.int .i64 0, .int .i64 0, .int .i64 (dn : Int), .bool false] 124 (0, 0))) := heap_alloc_new W3 _
      have HMU : Hid (Gm.Mvg (Vm.KOff b) (Vm.KOff b) W (W3.alloc (.cells #[.int .i64 0, .int .i64 0, .int .i64 (dn : Int), .bool false] 124)).drew) := HM3.out.trans (Gm.Mvg.of_below (Cd.fn1 _ _ _).drew)
      have hw100 : s.kids.length ≤ 100000 := by have := HP.out.kids; omega
      have e9 : (W3.alloc (.cells #[.int .i64 0, .int .i64 0, .int .i64 (dn : Int), .bool false] 124)).cell? ⟨b.F, 9, none⟩ = some (.slice U s.kids.length cu) := Ev.cell_alloc _ c9
      have z1a : (W3.alloc (.cells #[.int .i64 0, .int .i64 0, .int .i64 (dn : Int), .bool false] 124)).cell? ⟨Z, 1, none⟩ = some (.int .i64 (dn : Int)) := Ev.cell_alloc _ z1
      clear hrowU
      go_cut [] (fun wx => ∃ b7 : Vm.Bk, Hid (b7.F = b.F ∧ Vm.Hf (fun i => K i ∧ i ≠ Y) b7 p t { s with left := L2, kids := s.kids ++ [⟨(dn : Int), ⟨0, 0⟩, false⟩] } wx ∧ Gm.Mvg (Vm.KOff b) (Vm.KOff b7) W wx))
      case first =>
        go_upto_region 8 with fail
        go_region_law (first
          | (refine Vm.kpush_step (U := (W3.alloc (.cells #[.int .i64 0, .int .i64 0, .int .i64 (dn : Int), .bool false] 124)).drew) HROW.out (by rfl) _ _ (by rfl) (by rfl) (by rfl) ⟨(dn : Int), ⟨0, 0⟩, false⟩ HBL.out hw100 ?_
             intro g cap w6 hown hgr hg
             have c96 : w6.cell? ⟨b.F, 9, none⟩ = some (.slice U s.kids.length cu) := (World.cell?_of_block (w := (W3.alloc (.cells #[.int .i64 0, .int .i64 0, .int .i64 (dn : Int), .bool false] 124)).drew) (hgr.block b.F HUU.out.fr.ltF (fun e => HUU.out.fr.nu (by rw [HU.out, e])))).trans e9
             have f96 : w6.frozen? ⟨b.F, 9, none⟩ = false := (World.frozen?_of_block (w := (W3.alloc (.cells #[.int .i64 0, .int .i64 0, .int .i64 (dn : Int), .bool false] 124)).drew) (hgr.block b.F HUU.out.fr.ltF (fun e => HUU.out.fr.nu (by rw [HU.out, e])))).trans (HUU.out.fr.fro 9)))
        all_goals
          go_wp2_with fail
          go_meet
          case rel =>
            have hq := HUU.out.pushK (g := g) (cap := cap) (x := ⟨(dn : Int), ⟨0, 0⟩, false⟩) hown (by rw [HU.out]; exact hgr) (by rw [HU.out]; rcases hg with h | h; exact .inl h; exact .inr (by rw [h]; exact Nat.le_refl _))
            exact ⟨{ b with u := .slice (some ⟨g, 0, none⟩) (s.kids.length + 1) cap }, rfl, hq.1, HMU.out.trans hq.2⟩
      case rest =>
        rename World => w7
        obtain ⟨b7, H7⟩ := hcut
        clear HUU HROW HBL HMU e9 z1a c9 z1 hw100
        have HO7 := Lib.hid ((H7.out.2.2.block Z (Cd.ltH HOB.out) HKO2.out).trans HOB.out)
        have z2 : w7.cell? ⟨Z, 2, none⟩ = some (.int .i64 (a : Int)) := cell_of_row _ _ 2 _ _ _ HO7.out
        have f5 : w7.cell? ⟨b.F, 5, none⟩ = some (.slice b7.TA p.length b7.tc) := by rw [← H7.out.1]; exact H7.out.2.1.fr.cell 5
        have hnp := HN16.out.2
        obtain ⟨ad, hTA, hadl, hc⟩ := H7.out.2.1.takes.li (by unfold icells; rw [List.length_map, List.length_map]; omega)
        have tk : w7.cell? (ad.add n') = some (.int .i64 (an : Int)) := hc n' _ (by unfold icells; rw [List.getElem?_map, HTK.out]; rfl)
        have hpe : p ≠ [] := fun e => by rw [e] at hnp; simp at hnp
        have hadY : ad.block ≠ Y := (H7.out.2.1.takes.off (fun e => hpe (by cases p with | nil => rfl | cons => simp [icells] at e)) ad hTA).2.2
        rw [hTA] at f5
        have t0 : (0 : Int) ≤ (n' : Int) := by omega
        have t1 : (n' : Int) < (p.length : Int) := by omega
        have HFR := Lib.hid (vfrom H7.out.2.1.drew a an haa HR.out ha16)
        have S9 : w7.cell? ⟨Z, 2, none⟩ = some (.int .i64 (a : Int)) ∧ w7.cell? ⟨b.F, 5, none⟩ = some (.slice (some ad) p.length b7.tc) ∧ w7.cell? (ad.add n') = some (.int .i64 (an : Int)) := ⟨z2, f5, tk⟩
        have HZ7 := Lib.hid (HZ.out.mv H7.out.2.2 HKO.out)
        have HAY : Hid ((ad.add n').block ≠ Y ∧ b.F ≠ Y ∧ Z ≠ Y) := ⟨by rw [Lies.add_block]; exact hadY, fun e => HKO.out.1 e.symm, hZO.out⟩
        obtain ⟨KT, hKT⟩ : ∃ x, x = Br.kidT t.path kn := ⟨_, rfl⟩
        rw [← hKT] at HJ ⊢
        obtain ⟨rgs, hrgs⟩ : ∃ x, x = Ev.regsOf s.regs a an := ⟨_, rfl⟩
        have HFR2 : Hid (Calls Tryz.prog 141 #[.pointer (some ⟨b.F, 0, none⟩), .int .i64 (a : Int), .int .i64 (an : Int)] w7.drew (Ev.ArgsP rgs w7.drew)) := by
          have := HFR.out
          rw [H7.out.1, ← hrgs] at this
          exact this
        rw [← hrgs] at HJ
        clear z2 f5 tk hc hadl hadY hTA hKT hrgs haa HFR hnp hpe
        go_upto_region 9 with fail
        go_region_held3 (fun w' => w'.cell? ⟨Z, 2, none⟩ = some (.int .i64 (a : Int)) ∧ w'.cell? ⟨b.F, 5, none⟩ = some (.slice (some ad) p.length b7.tc) ∧ w'.cell? (ad.add n') = some (.int .i64 (an : Int)))
          (first | with_reducible assumption | with_reducible exact S9 | exact S9)
          (first
            | (with_reducible refine HFR2.out.mono ?_
               rintro e w8 ⟨A2, c2, rfl, ha1, ha2, ha3⟩
               have S9b : w8.cell? ⟨Z, 2, none⟩ = some (.int .i64 (a : Int)) ∧ w8.cell? ⟨b.F, 5, none⟩ = some (.slice (some ad) p.length b7.tc) ∧ w8.cell? (ad.add n') = some (.int .i64 (an : Int)) := Ev.cell3_below (w := w7.drew) ha3 S9
               have hZ8 := (HZ7.out.below (Below.refl _ _).drew).below ha3
               have S9c : (((((((w8.setCell ⟨Y, 0, none⟩ (.int .u8 2)).setCell ⟨Y, 1, none⟩ (.string KT)).setCell ⟨Y, 2, none⟩ (.int .i64 (n' : Int))).setCell ⟨Y, 3, none⟩ (.slice A2 rgs.length c2)).setCell ⟨Y, 4, none⟩ (.int .i64 (F : Int))).setCell ⟨Y, 5, none⟩ (.int .i64 0)).setCell ⟨Y, 6, none⟩ (.int .i64 0)).cell? ⟨Z, 2, none⟩ = some (.int .i64 (a : Int)) ∧ (((((((w8.setCell ⟨Y, 0, none⟩ (.int .u8 2)).setCell ⟨Y, 1, none⟩ (.string KT)).setCell ⟨Y, 2, none⟩ (.int .i64 (n' : Int))).setCell ⟨Y, 3, none⟩ (.slice A2 rgs.length c2)).setCell ⟨Y, 4, none⟩ (.int .i64 (F : Int))).setCell ⟨Y, 5, none⟩ (.int .i64 0)).setCell ⟨Y, 6, none⟩ (.int .i64 0)).cell? ⟨b.F, 5, none⟩ = some (.slice (some ad) p.length b7.tc) ∧ (((((((w8.setCell ⟨Y, 0, none⟩ (.int .u8 2)).setCell ⟨Y, 1, none⟩ (.string KT)).setCell ⟨Y, 2, none⟩ (.int .i64 (n' : Int))).setCell ⟨Y, 3, none⟩ (.slice A2 rgs.length c2)).setCell ⟨Y, 4, none⟩ (.int .i64 (F : Int))).setCell ⟨Y, 5, none⟩ (.int .i64 0)).setCell ⟨Y, 6, none⟩ (.int .i64 0)).cell? (ad.add n') = some (.int .i64 (an : Int)) := ⟨(World.cell?_of_block (w := w8) (Vm.set7_other _ _ _ _ _ _ _ HAY.out.2.2)).trans S9b.1, (World.cell?_of_block (w := w8) (Vm.set7_other _ _ _ _ _ _ _ HAY.out.2.1)).trans S9b.2.1, (World.cell?_of_block (w := w8) (Vm.set7_other _ _ _ _ _ _ _ HAY.out.1)).trans S9b.2.2⟩
               obtain ⟨⟨y0, y1, y2, y3, y4, y5, y6⟩, yf0, yf1, yf2, yf3, yf4, yf5, yf6⟩ := hZ8.all))
        have hb8 : Below w7.heap.size w7 w8 := (Below.refl _ _).drew.trans ha3
        have HRW := Lib.hid (hZ8.ret (.int .u8 2) (.string KT) (.int .i64 (n' : Int)) (.slice A2 rgs.length c2) (.int .i64 (F : Int)) (.int .i64 0) (.int .i64 0))
        have HFIN : Hid (Vm.OutP K b p t (Vm.fork p t o s) w (.returned (.agg #[.int .u8 2, .string KT, .int .i64 (n' : Int), .slice A2 rgs.length c2, .int .i64 (F : Int), .int .i64 0, .int .i64 0])) (Vm.set7 w8 Y (.int .u8 2) (.string KT) (.int .i64 (n' : Int)) (.slice A2 rgs.length c2) (.int .i64 (F : Int)) (.int .i64 0) (.int .i64 0))) := by
          show Vm.OutP _ _ _ _ _ _ _ _
          rw [HJ.out]
          have hn8 := H7.out.2.1.below hb8
          have hm8 := H7.out.2.2.trans (Gm.Mvg.of_below (off := Vm.KOff b7) hb8)
          refine Vm.OutP.ret (x := (.fork ⟨KT, (n' : Int), rgs, F⟩, { s with left := L2, kids := s.kids ++ [⟨(dn : Int), ⟨0, 0⟩, false⟩] })) HKF.out HYS.out (Gm.Mvg.of_below HB.out) ⟨rfl, hn8, hm8, H7.out.1, ⟨ha1, fun hn p hp => ?_⟩⟩ _ _ _ _ _ _ _
          have h1 : w7.heap.size ≤ p.block := ha2 (Ev.icells_ne hn) p hp
          have h2 := H7.out.2.2.size
          have h3 := HZ.out.lt
          have h4 := HB.out.size
          exact ⟨⟨H7.out.2.1.fr.lt _ h1, HKF.out _ (by omega), by omega⟩, by omega⟩
        clear hb8 ha1 ha2 ha3 hZ8 S9 S9b S9c
        go_wp2_with fail
        refine bodyPost_ret (v := .agg #[.int .u8 2, .string KT, .int .i64 (n' : Int), .slice A2 rgs.length c2, .int .i64 (F : Int), .int .i64 0, .int .i64 0]) (results_cell_row Tryz.results116 _ _ Y 59 #[.int .u8 2, .string KT, .int .i64 (n' : Int), .slice A2 rgs.length c2, .int .i64 (F : Int), .int .i64 0, .int .i64 0] (0, 0) _ rfl HRW.out Tryz.underlying59 rfl HI.out) rfl ?_
        exact HFIN.out
end Go.Proofs.YtnlhacgihmelhaaGreatDoor
