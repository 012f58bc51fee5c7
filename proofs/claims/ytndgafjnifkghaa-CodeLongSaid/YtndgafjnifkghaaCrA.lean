/-
  The contract of the document's Same (layer 10).
-/
import Derived.Test.YtndgafjnifkghaaCdT
import Derived.Test.YtndgafjnifkghaaLowCdN
namespace Go.Proofs.Ytndgafjnifkghaa
open Go.RowKit

namespace Cd
theorem two_new10 (w : World) (a b : Array Value) (T : TypeId) : ((w.alloc (.cells a T)).alloc (.cells b T)).drew.heap[w.heap.size]? = some (.cells a T (0, 0)) ∧ ((w.alloc (.cells a T)).alloc (.cells b T)).drew.heap[w.heap.size + 1]? = some (.cells b T (0, 0)) ∧ Below w.heap.size w ((w.alloc (.cells a T)).alloc (.cells b T)).drew := by
  have hs : (w.alloc (.cells a T)).heap.size = w.heap.size + 1 := by simp
  have h1 := fn1 w a T
  have h2 := fn1 (w.alloc (.cells a T)) b T
  refine ⟨?_, ?_, (h1.trans (h2.mono h1.size)).drew⟩
  · show ((w.alloc (.cells a T)).alloc (.cells b T)).heap[w.heap.size]? = _
    rw [h2.block _ (by omega)]
    exact heap_alloc_new w _
  · show ((w.alloc (.cells a T)).alloc (.cells b T)).heap[w.heap.size + 1]? = _
    rw [← hs]
    exact heap_alloc_new _ _
theorem FB.c0 {w : World} {F : Nat} {a b : Int} {v : Value} (h : FB w F a b v) : w.cell? ⟨F, 0, none⟩ = some (.int .i64 a) := cell_of_row _ _ 0 _ _ _ h
theorem FB.c1 {w : World} {F : Nat} {a b : Int} {v : Value} (h : FB w F a b v) : w.cell? ⟨F, 1, none⟩ = some (.int .i64 b) := cell_of_row _ _ 1 _ _ _ h
theorem neq_fs {l r : List Fm} {k : Nat} (hlt : k < l.length) (hlt2 : k < r.length) (he : eqF l[k].f r[k].f = false) : eqFs (fns l) (fns r) = false := by
  by_cases hq : eqFs (fns l) (fns r) = true
  · have e : fns l = fns r := eqFs_iff.1 hq
    have e2 : (fns l)[k]? = (fns r)[k]? := by rw [e]
    unfold fns at e2
    rw [List.getElem?_map, List.getElem?_map, List.getElem?_eq_getElem hlt, List.getElem?_eq_getElem hlt2] at e2
    simp only [Option.map_some, Option.some.injEq] at e2
    rw [e2, eqF_iff.2 rfl] at he
    cases he
  · simpa using hq
theorem neq_os {l r : List OpV} {k : Nat} (h1 : k < l.length) (h2 : k < r.length) (he : eqO l[k] r[k] = false) : eqOs l r = false := by
  by_cases hq : eqOs l r = true
  · have e : l = r := eqOs_iff.1 hq
    subst e
    rw [eqO_iff.2 rfl] at he
    cases he
  · simpa using hq
theorem neq_len {l r : List OpV} (h : l.length ≠ r.length) : eqOs l r = false := by
  by_cases hq : eqOs l r = true
  · exact absurd (by rw [eqOs_iff.1 hq]) h
  · simpa using hq
end Cd

set_option maxHeartbeats 1500000 in
set_option maxRecDepth 20000 in
theorem rSame10 (l r : List Cd.Fm) (hl : ∀ m ∈ l, m.f.Rng) (hr : ∀ m ∈ r, m.f.Rng) (A A2 : Option Addr) (c c2 : Nat) (w : World) (pl : Cd.Prog w w.heap.size A l) (pr : Cd.Prog w w.heap.size A2 r) (nl : l.length ≤ maxLen) :
    Calls Try.prog 17 #[.agg #[.slice A l.length c], .agg #[.slice A2 r.length c2]] w fun e w' => e = .returned (.bool (Cd.eqFs (Cd.fns l) (Cd.fns r))) ∧ Below w.heap.size w w' := by
  unfold maxLen at nl
  obtain ⟨V, hV⟩ : ∃ V, V = w.alloc (.cells #[.slice A l.length c] 24) := ⟨_, rfl⟩
  have hVs : V.heap.size = w.heap.size + 1 := by rw [hV]; simp
  obtain ⟨W, hW⟩ : ∃ W, W = V.alloc (.cells #[.slice A2 r.length c2] 24) := ⟨_, rfl⟩
  have hb1 : Below w.heap.size w V := by rw [hV]; exact Cd.fn1 _ _ _
  have hb2 : Below V.heap.size V W := by rw [hW]; exact Cd.fn1 _ _ _
  have hb : Below w.heap.size w W := hb1.trans (hb2.mono hb1.size)
  have HF : Hid (W.heap[w.heap.size]? = some (.cells #[.slice A l.length c] 24 (0, 0))) := by
    show _ = _
    rw [hb2.block _ (by rw [hVs]; omega), hV]
    exact heap_alloc_new w _
  have HG : Hid (W.heap[w.heap.size + 1]? = some (.cells #[.slice A2 r.length c2] 24 (0, 0))) := by
    show _ = _
    rw [← hVs, hW]
    exact heap_alloc_new V _
  have HB := Lib.hid hb
  have HPL := Lib.hid pl
  have HPR := Lib.hid pr
  have HL := Lib.hid hl
  have HR := Lib.hid hr
  clear hb1 hb2 hb pl pr hl hr
  go_enter Try.func17, Try.ntmps17
  go_upto_region 1 with fail
  rw [← hV, ← hW]
  clear hV hW hVs
  obtain ⟨X, hX⟩ : ∃ X, X = w.heap.size := ⟨_, rfl⟩
  rw [← hX] at HF HG ⊢
  have HXE := Lib.hid hX
  clear hX
  have f0 : W.cell? ⟨X, 0, none⟩ = some (.slice A l.length c) := cell_of_row _ _ 0 _ _ _ HF.out
  have g0 : W.cell? ⟨X + 1, 0, none⟩ = some (.slice A2 r.length c2) := cell_of_row _ _ 0 _ _ _ HG.out
  by_cases hn : l.length = r.length
  · have hne : ((l.length : Int) != r.length) = false := by simp; omega
    have HN := Lib.hid hn
    go_wp2_with fail
    clear f0 g0
    go_loopw [5] (fun s5 wr => ∃ k : Nat, k ≤ l.length ∧ s5 = .int .i64 k ∧ Hid (∀ j (h1 : j < l.length) (h2 : j < r.length), j < k → Cd.eqF l[j].f r[j].f = true) ∧ Hid (Below W.heap.size W wr)) (fun s5 _ => l.length - (intOf s5).toNat)
    case atStart => exact ⟨0, Nat.zero_le _, rfl, (show Hid _ from fun j _ _ h => by omega), Below.refl _ _⟩
    case round =>
      obtain ⟨k, hk, rfl, HK, HBW⟩ := hrel
      have f0 : wr.cell? ⟨X, 0, none⟩ = some (.slice A l.length c) := cell_of_row _ _ 0 _ _ _ ((HBW.out.block _ (Cd.ltH HF.out)).trans HF.out)
      have g0 : wr.cell? ⟨X + 1, 0, none⟩ = some (.slice A2 r.length c2) := cell_of_row _ _ 0 _ _ _ ((HBW.out.block _ (Cd.ltH HG.out)).trans HG.out)
      have hXlt : X < wr.heap.size := Nat.lt_of_lt_of_le (Cd.ltH HF.out) HBW.out.size
      have hX1lt : X + 1 < wr.heap.size := Nat.lt_of_lt_of_le (Cd.ltH HG.out) HBW.out.size
      have hbw : Below w.heap.size w wr := HB.out.trans (HBW.out.mono HB.out.size)
      by_cases hlt : k < l.length
      · have hlt2 : k < r.length := by omega
        obtain ⟨ad, rfl, hadb, c0, c1, c2'⟩ := Cd.fn_at (HPL.out.below hbw).fs hlt
        obtain ⟨ad2, rfl, hadb2, d0, d1, d2⟩ := Cd.fn_at (HPR.out.below hbw).fs hlt2
        have k0 : (0 : Int) ≤ (k : Int) := by omega
        have k1 : (k : Int) < l.length := by omega
        have k2 : (k : Int) < r.length := by omega
        have HK2 : Hid (Cd.eqF l[k].f r[k].f = true → ∀ j (h1 : j < l.length) (h2 : j < r.length), j < k + 1 → Cd.eqF l[j].f r[j].f = true) := fun he j h1 h2 hj => by
          rcases Nat.lt_succ_iff_lt_or_eq.1 hj with h | rfl
          · exact HK.out j h1 h2 h
          · exact he
        have HK3 : Hid (Cd.eqF l[k].f r[k].f = false → Cd.eqFs (Cd.fns l) (Cd.fns r) = false) := fun he => Cd.neq_fs hlt hlt2 he
        have HLI := Lib.hid (HPL.out.os _ (List.getElem_mem hlt))
        have HRI := Lib.hid (HPR.out.os _ (List.getElem_mem hlt2))
        have hml := (HL.out _ (List.getElem_mem hlt)).len
        have hmr := (HR.out _ (List.getElem_mem hlt2)).len
        unfold maxLen at hml hmr
        generalize l[k] = m at c0 c1 c2' HK2 HK3 HLI hml
        generalize r[k] = p at d0 d1 d2 HK2 HK3 HRI hmr
        have HBW0 := Lib.hid hbw
        have b1 : (ad.add (k * 3)).block < wr.heap.size := by rw [Lies.add_block]; have := hbw.size; omega
        have b2 : (ad2.add (k * 3)).block < wr.heap.size := by rw [Lies.add_block]; have := hbw.size; omega
        clear hadb hadb2 hlt hlt2 hn hbw
        go_upto_region 6 with fail
        go_cut [6, 7] (fun s6 s7 wx => ∃ F G : Nat, s6 = .pointer (some ⟨F, 0, none⟩) ∧ s7 = .pointer (some ⟨G, 0, none⟩) ∧ Hid (Cd.FB wx F m.f.args m.f.regs (.slice m.A m.f.ops.length m.c) ∧ Cd.FB wx G p.f.args p.f.regs (.slice p.A p.f.ops.length p.c) ∧ Below wr.heap.size wr wx))
        case first =>
          go_region
          all_goals
            go_wp2_with fail
            go_meet
            case rel =>
              first
                | (have h := Cd.two_new10 wr #[.int .i64 p.f.args, .int .i64 p.f.regs, .slice p.A p.f.ops.length p.c] #[.int .i64 m.f.args, .int .i64 m.f.regs, .slice m.A m.f.ops.length m.c] 41
                   exact ⟨_, _, rfl, rfl, h.2.1, h.1, h.2.2⟩)
                | (have h := Cd.two_new10 wr #[.int .i64 m.f.args, .int .i64 m.f.regs, .slice m.A m.f.ops.length m.c] #[.int .i64 p.f.args, .int .i64 p.f.regs, .slice p.A p.f.ops.length p.c] 41
                   exact ⟨_, _, rfl, rfl, h.1, h.2.1, h.2.2⟩)
        case rest =>
          rename World => wx
          obtain ⟨F, G, rfl, rfl, HX⟩ := hcut
          clear f0 g0 hXlt hX1lt b1 b2 c0 c1 c2' d0 d1 d2
          have x0 := HX.out.1.c0
          have x1 := HX.out.1.c1
          have x2 := HX.out.1.c2
          have y0 := HX.out.2.1.c0
          have y1 := HX.out.2.1.c1
          have y2 := HX.out.2.1.c2
          have HBX : Hid (Below w.heap.size w _) := HBW0.out.trans (HX.out.2.2.mono HBW0.out.size)
          have HBWX : Hid (Below W.heap.size W _) := HBW.out.trans (HX.out.2.2.mono HBW.out.size)
          by_cases ha : m.f.args = p.f.args
          · have ea : (m.f.args != p.f.args) = false := by simpa using ha
            by_cases hb : m.f.regs = p.f.regs
            · have eb : (m.f.regs != p.f.regs) = false := by simpa using hb
              have HE : Hid (Cd.eqF m.f p.f = Cd.eqOs m.f.ops p.f.ops) := by show _ = _; unfold Cd.eqF; rw [decide_eq_true ha, decide_eq_true hb]; rfl
              by_cases hc : m.f.ops.length = p.f.ops.length
              · have ec : ((m.f.ops.length : Int) != p.f.ops.length) = false := by simp; omega
                have HLL := Lib.hid hc
                clear ha hb hc
                go_wp2_with fail
                clear x0 x1 x2 y0 y1 y2 ea eb ec
                go_loopw [8] (fun s8 wy => ∃ j : Nat, j ≤ m.f.ops.length ∧ s8 = .int .i64 j ∧ Hid (∀ i (h1 : i < m.f.ops.length) (h2 : i < p.f.ops.length), i < j → Cd.eqO m.f.ops[i] p.f.ops[i] = true) ∧ Hid (Below wx.heap.size wx wy)) (fun s8 _ => m.f.ops.length - (intOf s8).toNat)
                case atStart => exact ⟨0, Nat.zero_le _, rfl, (show Hid _ from fun i _ _ h => by omega), Below.refl _ _⟩
                case round =>
                  rename World => wy
                  obtain ⟨j, hj, rfl, HJ, HBY⟩ := hrel
                  have x2 := (HX.out.1.of_block (HBY.out.block F HX.out.1.lt)).c2
                  have y2 := (HX.out.2.1.of_block (HBY.out.block G HX.out.2.1.lt)).c2
                  have hby : Below w.heap.size w wy := HBX.out.trans (HBY.out.mono HBX.out.size)
                  by_cases hjt : j < m.f.ops.length
                  · have hjt2 : j < p.f.ops.length := by have := HLL.out; omega
                    obtain ⟨adm, hAm, hadm, c0, c1, c2', c3, c4⟩ := Cd.op_at (HLI.out.below hby) hjt
                    obtain ⟨adp, hAp, hadp, d0, d1, d2, d3, d4⟩ := Cd.op_at (HRI.out.below hby) hjt2
                    rw [hAm] at x2
                    rw [hAp] at y2
                    have j0 : (0 : Int) ≤ (j : Int) := by omega
                    have j1 : (j : Int) < m.f.ops.length := by omega
                    have j2 : (j : Int) < p.f.ops.length := by omega
                    have HQ := Cd.run_neqOp m.f.ops[j] p.f.ops[j]
                    have HJ2 : Hid (Cd.eqO m.f.ops[j] p.f.ops[j] = true → ∀ i (h1 : i < m.f.ops.length) (h2 : i < p.f.ops.length), i < j + 1 → Cd.eqO m.f.ops[i] p.f.ops[i] = true) := fun he i h1 h2 hi => by
                      rcases Nat.lt_succ_iff_lt_or_eq.1 hi with h | rfl
                      · exact HJ.out i h1 h2 h
                      · exact he
                    have HJ3 : Hid (Cd.eqO m.f.ops[j] p.f.ops[j] = false → Cd.eqFs (Cd.fns l) (Cd.fns r) = false) := fun he => HK3.out (by rw [HE.out]; exact Cd.neq_os hjt hjt2 he)
                    have HBD : Hid (Below wx.heap.size wx wy.drew ∧ Below w.heap.size w wy.drew) := ⟨HBY.out.drew, hby.drew⟩
                    generalize Cd.eqO m.f.ops[j] p.f.ops[j] = q at HQ HJ2 HJ3
                    generalize m.f.ops[j] = x at c0 c1 c2' c3 c4 HQ
                    generalize p.f.ops[j] = y at d0 d1 d2 d3 d4 HQ
                    clear hadm hadp hjt hjt2 hAm hAp hby
                    cases q with
                    | true =>
                      have HJ4 := Lib.hid (HJ2.out rfl)
                      clear HJ2 HJ3
                      go_upto_region 12 with fail
                      go_region
                      all_goals
                        go_wp2_with fail
                        go_roundw
                        case rel => exact ⟨j + 1, by omega, by go_num, HJ4.out, HBD.out.1⟩
                        case measure => simp [intOf]; omega
                    | false =>
                      have HJ4 := Lib.hid (HJ3.out rfl)
                      clear HJ2 HJ3
                      go_upto_region 12 with fail
                      go_region
                      all_goals
                        go_wp2_with fail
                        go_ret
                        exact ⟨by rw [HJ4.out]; rfl, HBD.out.2⟩
                  · have j1 : ¬ ((j : Int) < m.f.ops.length) := by omega
                    have HJ4 := Lib.hid (HK2.out (by rw [HE.out]; exact Cd.eqOs_iff.2 (Cd.eqOs_take HLL.out (fun i hi h1 h2 => HJ.out i h1 h2 (by omega)))))
                    have HBZ := Lib.hid (HBWX.out.trans (HBY.out.mono HBWX.out.size))
                    clear hby HK2 HK3
                    go_wp2_with fail
                    go_roundw
                    case rel => exact ⟨k + 1, by omega, by go_num, HJ4.out, HBZ.out⟩
                    case measure => simp [intOf]; omega
              · have ec : ((m.f.ops.length : Int) != p.f.ops.length) = true := by simp; omega
                have HE2 := Lib.hid (HK3.out (by rw [HE.out]; exact Cd.neq_len hc))
                clear ha hb hc HK2 HK3
                go_wp2_with fail
                go_ret
                exact ⟨by rw [HE2.out]; rfl, HBX.out⟩
            · have eb : (m.f.regs != p.f.regs) = true := by simpa using hb
              have HE2 := Lib.hid (HK3.out (by unfold Cd.eqF; rw [decide_eq_false hb]; simp))
              clear ha hb HK2 HK3
              go_wp2_with fail
              go_ret
              exact ⟨by rw [HE2.out]; rfl, HBX.out⟩
          · have ea : (m.f.args != p.f.args) = true := by simpa using ha
            have HE2 := Lib.hid (HK3.out (by unfold Cd.eqF; rw [decide_eq_false ha]; rfl))
            clear ha HK2 HK3
            go_wp2_with fail
            go_ret
            exact ⟨by rw [HE2.out]; rfl, HBX.out⟩
      · have k1 : ¬ ((k : Int) < l.length) := by omega
        have HE : Hid (Cd.eqFs (Cd.fns l) (Cd.fns r) = true) := by
          refine Cd.eqFs_iff.2 (List.ext_getElem? fun i => ?_)
          unfold Cd.fns
          rw [List.getElem?_map, List.getElem?_map]
          by_cases h1 : i < l.length
          · have h2 : i < r.length := by omega
            rw [List.getElem?_eq_getElem h1, List.getElem?_eq_getElem h2]
            have := Cd.eqF_iff.1 (HK.out i h1 h2 (by omega))
            simp only [Option.map_some, this]
          · rw [List.getElem?_eq_none (by omega), List.getElem?_eq_none (by omega)]
        have HBZ := Lib.hid hbw
        clear hbw
        go_wp2_with fail
        go_ret
        exact ⟨by rw [HE.out]; rfl, HBZ.out⟩
  · have hne : ((l.length : Int) != r.length) = true := by simp; omega
    have HE : Hid (Cd.eqFs (Cd.fns l) (Cd.fns r) = false) := by
      show _ = _
      by_cases hq : Cd.eqFs (Cd.fns l) (Cd.fns r) = true
      · exact absurd (by have := congrArg List.length (Cd.eqFs_iff.1 hq); rwa [Cd.fns_len, Cd.fns_len] at this) hn
      · simpa using hq
    clear hn
    go_wp2_with fail
    go_ret
    exact ⟨by rw [HE.out]; rfl, HB.out⟩
end Go.Proofs.Ytndgafjnifkghaa
