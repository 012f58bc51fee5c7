/-
  Contracts of slices.EqualFunc of functions, code.Same.
-/
import Derived.Test.YtndgafjnifkghaaCdS
namespace Go.Proofs.Ytndgafjnifkghaa
open Go.RowKit

set_option maxHeartbeats 800000 in
set_option maxRecDepth 20000 in
theorem cequalFunc (l r : List Cd.Fm) (hl : ∀ m ∈ l, m.f.Rng) (hr : ∀ m ∈ r, m.f.Rng) (A A2 : Option Addr) (c c2 : Nat) (w : World) (pl : Cd.Prog w w.heap.size A l) (pr : Cd.Prog w w.heap.size A2 r) (nl : l.length ≤ maxLen) :
    Calls Try.prog 38 #[.slice A l.length c, .slice A2 r.length c2, .func (.func 39) #[] #[]] w fun e w' => e = .returned (.bool (Cd.eqFs (Cd.fns l) (Cd.fns r))) ∧ Below w.heap.size w w' := by
  unfold maxLen at nl
  have HPL := Lib.hid pl
  have HPR := Lib.hid pr
  have HL := Lib.hid hl
  have HR := Lib.hid hr
  clear pl pr hl hr
  by_cases hn : l.length = r.length
  · have hne : ((l.length : Int) != r.length) = false := by simp; omega
    go_enter Try.func38, Try.ntmps38
    go_wp2_with fail
    go_loopw [17] (fun s17 wr => ∃ k : Nat, k ≤ l.length ∧ s17 = .int .i64 k ∧ Hid (∀ j (h1 : j < l.length) (h2 : j < r.length), j < k → Cd.eqF l[j].f r[j].f = true) ∧ Hid (Below w.heap.size w wr)) (fun s17 _ => l.length - (intOf s17).toNat)
    case atStart => exact ⟨0, Nat.zero_le _, rfl, (show Hid _ from fun j _ _ h => by omega), Below.refl _ _⟩
    case round =>
      obtain ⟨k, hk, rfl, HK, HB⟩ := hrel
      by_cases hlt : k < l.length
      · have hlt2 : k < r.length := by omega
        have hPL := HPL.out.below HB.out
        have hPR := HPR.out.below HB.out
        obtain ⟨ad, rfl, hadb, c0, c1, c2'⟩ := Cd.fn_at hPL.fs hlt
        obtain ⟨ad2, rfl, hadb2, d0, d1, d2⟩ := Cd.fn_at hPR.fs hlt2
        have k0 : (0 : Int) ≤ (k : Int) := by omega
        have k1 : (k : Int) < l.length := by omega
        have k2 : (k : Int) < r.length := by omega
        have hml := List.getElem_mem hlt
        have hmr := List.getElem_mem hlt2
        have HLI := Lib.hid ((hPL.os _ hml).mono HB.out.size)
        have HRI := Lib.hid ((hPR.os _ hmr).mono HB.out.size)
        have HRL := Lib.hid (HL.out _ hml)
        have HRR := Lib.hid (HR.out _ hmr)
        have HK2 : Hid (Cd.eqF l[k].f r[k].f = true → ∀ j (h1 : j < l.length) (h2 : j < r.length), j < k + 1 → Cd.eqF l[j].f r[j].f = true) := fun he j h1 h2 hj => by
          rcases Nat.lt_succ_iff_lt_or_eq.1 hj with h | rfl
          · exact HK.out j h1 h2 h
          · exact he
        have HK3 : Hid (Cd.eqF l[k].f r[k].f = false → Cd.eqFs (Cd.fns l) (Cd.fns r) = false) := fun he => by
          by_cases hq : Cd.eqFs (Cd.fns l) (Cd.fns r) = true
          · have e : Cd.fns l = Cd.fns r := Cd.eqFs_iff.1 hq
            have e2 : (Cd.fns l)[k]? = (Cd.fns r)[k]? := by rw [e]
            unfold Cd.fns at e2
            rw [List.getElem?_map, List.getElem?_map, List.getElem?_eq_getElem hlt, List.getElem?_eq_getElem hlt2] at e2
            simp only [Option.map_some, Option.some.injEq] at e2
            rw [e2, Cd.eqF_iff.2 rfl] at he
            cases he
          · simpa using hq
        have hws := HB.out.size
        clear hPL hPR hml hmr hadb hne hn
        generalize hq : Cd.eqF l[k].f r[k].f = q at HK2 HK3
        have HQ := Lib.hid hq
        clear hq
        generalize l[k] = m at c0 c1 c2' HLI HRL HQ
        generalize r[k] = p at d0 d1 d2 HRI HRR HQ
        clear hlt hlt2
        obtain ⟨V, hV⟩ : ∃ V, V = wr.alloc (.cells #[.int .i64 m.f.args, .int .i64 m.f.regs, .slice m.A m.f.ops.length m.c] 41) := ⟨_, rfl⟩
        have hVs : V.heap.size = wr.heap.size + 1 := by rw [hV]; simp
        have hbV : Below wr.heap.size wr V := by rw [hV]; exact Cd.fn1 _ _ _
        have hF : V.heap[wr.heap.size]? = some (.cells #[.int .i64 m.f.args, .int .i64 m.f.regs, .slice m.A m.f.ops.length m.c] 41 (0, 0)) := by rw [hV]; exact heap_alloc_new wr _
        obtain ⟨W, hW⟩ : ∃ W, W = V.alloc (.cells #[.int .i64 p.f.args, .int .i64 p.f.regs, .slice p.A p.f.ops.length p.c] 41) := ⟨_, rfl⟩
        have hbW : Below V.heap.size V W := by rw [hW]; exact Cd.fn1 _ _ _
        have hF2 := (hbW.block _ (Cd.ltH hF)).trans hF
        have hG : W.heap[wr.heap.size + 1]? = some (.cells #[.int .i64 p.f.args, .int .i64 p.f.regs, .slice p.A p.f.ops.length p.c] 41 (0, 0)) := by rw [← hVs, hW]; exact heap_alloc_new V _
        have hbb : Below wr.heap.size wr W := hbV.trans (hbW.mono hbV.size)
        have d0' : V.cell? (ad2.add (k * 3)) = some (.int .i64 p.f.args) := (hbV.cell (by rw [Lies.add_block]; omega)).trans d0
        have d1' : V.cell? ⟨(ad2.add (k * 3)).block, (ad2.add (k * 3)).off + 1, none⟩ = some (.int .i64 p.f.regs) := (hbV.cell (by show (ad2.add (k * 3)).block < _; rw [Lies.add_block]; omega)).trans d1
        have d2' : V.cell? ⟨(ad2.add (k * 3)).block, (ad2.add (k * 3)).off + 2, none⟩ = some (.slice p.A p.f.ops.length p.c) := (hbV.cell (by show (ad2.add (k * 3)).block < _; rw [Lies.add_block]; omega)).trans d2
        have f0 : W.cell? ⟨wr.heap.size, 0, none⟩ = some (.int .i64 m.f.args) := cell_of_row _ _ 0 _ _ _ hF2
        have f1 : W.cell? ⟨wr.heap.size, 1, none⟩ = some (.int .i64 m.f.regs) := cell_of_row _ _ 1 _ _ _ hF2
        have f2 : W.cell? ⟨wr.heap.size, 2, none⟩ = some (.slice m.A m.f.ops.length m.c) := cell_of_row _ _ 2 _ _ _ hF2
        have g0 : W.cell? ⟨wr.heap.size + 1, 0, none⟩ = some (.int .i64 p.f.args) := cell_of_row _ _ 0 _ _ _ hG
        have g1 : W.cell? ⟨wr.heap.size + 1, 1, none⟩ = some (.int .i64 p.f.regs) := cell_of_row _ _ 1 _ _ _ hG
        have g2 : W.cell? ⟨wr.heap.size + 1, 2, none⟩ = some (.slice p.A p.f.ops.length p.c) := cell_of_row _ _ 2 _ _ _ hG
        have HSM := Lib.hid (csame m p HRL.out HRR.out W ((HLI.out.below hbb).mono hbb.size) ((HRI.out.below hbb).mono hbb.size))
        have HBW := Lib.hid (HB.out.trans (hbb.mono HB.out.size))
        rw [HQ.out] at HSM
        have HVS := Lib.hid hVs
        clear hbV hF hbW hF2 hG hbb hVs
        go_upto_region 6 with fail
        rw [← hV]
        clear hV c0 c1 c2' d0 d1 d2
        go_upto_region 7 with fail
        rw [HVS.out, ← hW]
        clear hW d0' d1' d2'
        cases q with
        | true =>
          have HK4 := Lib.hid (HK2.out rfl)
          clear HK2 HK3
          go_wp2_with fail
          refine HSM.out.mono ?_
          rintro e w2 ⟨rfl, hb2⟩
          have HB2 : Hid (Below w.heap.size w w2) := HBW.out.trans (hb2.mono HBW.out.size)
          clear hb2
          go_wp2_with fail
          go_roundw
          case rel => exact ⟨k + 1, by omega, by go_num, HK4.out, HB2.out⟩
          case measure => simp [intOf]; omega
        | false =>
          have HK4 := Lib.hid (HK3.out rfl)
          clear HK2 HK3
          go_wp2_with fail
          refine HSM.out.mono ?_
          rintro e w2 ⟨rfl, hb2⟩
          have HB2 : Hid (Below w.heap.size w w2) := HBW.out.trans (hb2.mono HBW.out.size)
          clear hb2
          go_wp2_with fail
          go_ret
          exact ⟨by rw [HK4.out]; rfl, HB2.out⟩
      · have k1 : ¬ ((k : Int) < l.length) := by omega
        have HE : Hid (Cd.eqFs (Cd.fns l) (Cd.fns r) = true) := by
          refine Cd.eqFs_iff.2 (List.ext_getElem? fun i => ?_)
          unfold Cd.fns
          rw [List.getElem?_map, List.getElem?_map]
          by_cases h1 : i < l.length
          · have h2 : i < r.length := by omega
            rw [List.getElem?_eq_getElem h1, List.getElem?_eq_getElem h2]
            have := Cd.eqF_iff.1 (HK.out i h1 h2 (by omega))
            simp only [Option.map_some, this]
          · rw [List.getElem?_eq_none (by omega), List.getElem?_eq_none (by omega)]
        go_wp2_with fail
        go_ret
        exact ⟨by rw [HE.out]; rfl, HB.out⟩
  · have hne : ((l.length : Int) != r.length) = true := by simp; omega
    have HE : Hid (Cd.eqFs (Cd.fns l) (Cd.fns r) = false) := by
      show _ = _
      by_cases hq : Cd.eqFs (Cd.fns l) (Cd.fns r) = true
      · exact absurd (by have := congrArg List.length (Cd.eqFs_iff.1 hq); rwa [Cd.fns_len, Cd.fns_len] at this) hn
      · simpa using hq
    clear hn
    go_enter Try.func38, Try.ntmps38
    go_wp2_with fail
    go_ret
    exact ⟨by rw [HE.out]; rfl, Below.refl _ _⟩

set_option maxHeartbeats 600000 in
set_option maxRecDepth 20000 in
theorem cSame (l r : List Cd.Fm) (hl : ∀ m ∈ l, m.f.Rng) (hr : ∀ m ∈ r, m.f.Rng) (A A2 : Option Addr) (c c2 : Nat) (w : World) (pl : Cd.Prog w w.heap.size A l) (pr : Cd.Prog w w.heap.size A2 r) (nl : l.length ≤ maxLen) :
    Calls Try.prog 20 #[.agg #[.slice A l.length c], .agg #[.slice A2 r.length c2]] w fun e w' => e = .returned (.bool (Cd.eqFs (Cd.fns l) (Cd.fns r))) ∧ Below w.heap.size w w' := by
  obtain ⟨V, hV⟩ : ∃ V, V = w.alloc (.cells #[.slice A l.length c] 24) := ⟨_, rfl⟩
  have hVs : V.heap.size = w.heap.size + 1 := by rw [hV]; simp
  obtain ⟨W, hW⟩ : ∃ W, W = V.alloc (.cells #[.slice A2 r.length c2] 24) := ⟨_, rfl⟩
  have hb1 : Below w.heap.size w V := by rw [hV]; exact Cd.fn1 _ _ _
  have hb2 : Below V.heap.size V W := by rw [hW]; exact Cd.fn1 _ _ _
  have hb : Below w.heap.size w W := hb1.trans (hb2.mono hb1.size)
  have hF : W.heap[w.heap.size]? = some (.cells #[.slice A l.length c] 24 (0, 0)) := by
    rw [hb2.block _ (by rw [hVs]; omega), hV]
    exact heap_alloc_new w _
  have hG : W.heap[w.heap.size + 1]? = some (.cells #[.slice A2 r.length c2] 24 (0, 0)) := by
    rw [← hVs, hW]
    exact heap_alloc_new V _
  have HB := Lib.hid hb
  have HEQ := Lib.hid (cequalFunc l r hl hr A A2 c c2 W ((pl.below hb).mono hb.size) ((pr.below hb).mono hb.size) nl)
  have f0 : W.cell? ⟨w.heap.size, 0, none⟩ = some (.slice A l.length c) := cell_of_row _ _ 0 _ _ _ hF
  have g0 : W.cell? ⟨w.heap.size + 1, 0, none⟩ = some (.slice A2 r.length c2) := cell_of_row _ _ 0 _ _ _ hG
  clear hb1 hb2 hb hF hG hl hr pl pr hVs nl
  go_enter Try.func20, Try.ntmps20
  go_upto_region 1 with fail
  rw [← hV, ← hW]
  clear hW hV
  go_wp2_with fail
  refine HEQ.out.mono ?_
  rintro e w2 ⟨rfl, hb2⟩
  have HB2 : Hid (Below w.heap.size w w2) := HB.out.trans (hb2.mono HB.out.size)
  clear hb2
  go_wp2_with fail
  go_ret
  exact ⟨rfl, HB2.out⟩
end Go.Proofs.Ytndgafjnifkghaa
