/-
  slices.DeleteFunc with Ready's test; Ready.
-/
import Derived.Test.YtfhengihdlojmaaPkD
namespace Go.Proofs.Ytfhengihdlojmaa
open Go.RowKit Go.Shelf

namespace Us
theorem Row.clear {w0 : World} {B : Nat} {rest : List Value} : ∀ (m i : Nat) (d : Array Int) (W : World), i + m ≤ d.size → Row w0 B rest d W →
    ∃ d', Row w0 B rest d' (W.setCells B i (List.replicate m (.int .u64 0))) ∧ d'.size = d.size ∧ ∀ t, t < i → d'[t]! = d[t]! := by
  intro m
  induction m with
  | zero => intro i d W _ h; exact ⟨d, h, rfl, fun _ _ => rfl⟩
  | succ m ih =>
    intro i d W hi h
    have h1 := h.set (p := ⟨B, 0, none⟩) rfl (i := i) (by omega) 0
    rw [addB] at h1
    obtain ⟨d', h2, h3, h4⟩ := ih (i + 1) (d.setIfInBounds i 0) _ (by simp; omega) h1
    refine ⟨d', h2, by rw [h3]; simp, fun t ht => ?_⟩
    rw [h4 t (by omega), Sort.getElem!_set_other _ _ _ _ (by omega)]
theorem Row.cut {w0 W : World} {B : Nat} {rest : List Value} {d : Array Int} (h : Row w0 B rest d W) (k : Nat) : Row w0 B ((d.toList.drop k).map (Value.int .u64) ++ rest) (d.toList.take k).toArray W := by
  refine ⟨?_, h.mv⟩
  rw [h.row]
  congr 2
  apply Array.ext'
  simp only
  rw [← List.append_assoc, ← List.map_append, List.take_append_drop]
end Us

namespace Gm
theorem uslice_front (A : Option Addr) (n c k : Nat) (hk : k ≤ c) (w : World) : (Instr.slice 49 (.slice A n c) none (some (.int .i64 (k : Int))) none).run Try.prog w = .ok (.slice A k c) w := by
  unfold Instr.slice Instr.sliceBounds Instr.sliceBound
  have h1 : (0 : Int) ≤ (k : Int) ∧ (k : Int) ≤ (c : Int) := by omega
  have h0 : Option.map (fun x : Addr => x.add 0) A = A := by cases A <;> rfl
  simp [go_sem, h1]
  intro h
  omega
theorem uslice_back (p : Addr) (n c k : Nat) (hk : k ≤ n) (hc : k < c) (w : World) : (Instr.slice 49 (.slice (some p) n c) (some (.int .i64 (k : Int))) none none).run Try.prog w = .ok (.slice (some (p.add k)) (n - k) (c - k)) w := by
  unfold Instr.slice Instr.sliceBounds Instr.sliceBound
  have h1 : (0 : Int) ≤ (k : Int) ∧ (k : Int) ≤ (n : Int) := by omega
  have h2 : c ≠ k := by omega
  simp [go_sem, h1, h2]
  intro h
  omega
/-- What a round of DeleteFunc stands on. -/
structure DelAt (p : Int → Bool) (xs : List Int) (i j : Nat) (d : Array Int) : Prop where
  size : d.size = xs.length
  lt : i < j
  jn : j ≤ xs.length
  front : d.toList.take i = (xs.take j).filter fun x => !p x
  len : ((xs.take j).filter fun x => !p x).length = i
  back : ∀ t, j ≤ t → t < xs.length → d[t]! = xs[t]!
theorem DelAt.drop {p : Int → Bool} {xs : List Int} {i j : Nat} {d : Array Int} (h : DelAt p xs i j d) (hj : j < xs.length) (hp : p xs[j] = true) : DelAt p xs i (j + 1) d := by
  have e : (xs.take (j + 1)).filter (fun x => !p x) = (xs.take j).filter fun x => !p x := by
    rw [List.take_succ_eq_append_getElem hj, List.filter_append]
    simp [hp]
  exact ⟨h.size, by have := h.lt; omega, hj, by rw [e]; exact h.front, by rw [e]; exact h.len, fun t ht => h.back t (by omega)⟩
theorem DelAt.keep {p : Int → Bool} {xs : List Int} {i j : Nat} {d : Array Int} (h : DelAt p xs i j d) (hj : j < xs.length) (hp : p xs[j] = false) : DelAt p xs (i + 1) (j + 1) (d.setIfInBounds i xs[j]) := by
  have e : (xs.take (j + 1)).filter (fun x => !p x) = ((xs.take j).filter fun x => !p x) ++ [xs[j]] := by
    rw [List.take_succ_eq_append_getElem hj, List.filter_append]
    simp [hp]
  have hi : i < d.size := by have := h.lt; have := h.size; omega
  refine ⟨by simp [h.size], by have := h.lt; omega, hj, ?_, by rw [e, List.length_append, h.len]; rfl, fun t ht h2 => ?_⟩
  · rw [e, ← h.front, Array.toList_setIfInBounds, List.take_succ_eq_append_getElem (by simpa using hi)]
    rw [List.take_set_of_le (Nat.le_refl _)]
    simp
  · rw [Sort.getElem!_set_other _ _ _ _ (by have := h.lt; omega)]
    exact h.back t (by omega) h2
end Gm

set_option maxRecDepth 20000 in
set_option maxHeartbeats 4000000 in
theorem udelete (xs : List Int) (g cap X : Nat) (rest : List Value) (p : Int → Bool) (w : World) (hR : Us.Row w g rest xs.toArray w) (hn : xs.length ≤ 100000) (hcap : xs.length ≤ cap) (HP : ∀ W, Gm.Mvg (fun i => i ≠ g) (fun i => i ≠ g) w W → Gm.Asks X p xs W) :
    Calls Try.prog 34 #[.slice (some ⟨g, 0, none⟩) xs.length cap, .func (.func 36) #[] #[.pointer (some ⟨X, 0, none⟩)]] w fun e w' =>
      ∃ (d : Array Int) (k : Nat), e = .returned (.slice (some ⟨g, 0, none⟩) k cap) ∧ k ≤ xs.length ∧ d.size = xs.length ∧ d.toList.take k = (xs.filter fun x => !p x) ∧ (xs.filter fun x => !p x).length = k ∧ Us.Row w g rest d w' := by
  have hli : Lies w w.heap.size (some ⟨g, 0, none⟩) (Gm.ucells xs) := fun _ => by
    refine ⟨_, rfl, Gm.ltHeap hR.row, fun j u hu => ?_⟩
    have hj : j < xs.length := by simpa [Gm.ucells] using (List.getElem?_eq_some_iff.1 hu).1
    rw [hR.cell rfl (t := j) (by simpa using hj), ← hu, Gm.ucells_at hj]
    simp [hj]
  have HIF := Lib.hid (uindexF xs (some ⟨g, 0, none⟩) cap X p w hli hn (fun W hb => HP W (.of_below hb)))
  have S0 := Lib.hid hR
  have HPP := Lib.hid HP
  obtain ⟨q, hq⟩ : ∃ q : Addr, q = ⟨g, 0, none⟩ := ⟨_, rfl⟩
  rw [← hq] at HIF
  rw [← hq]
  have HQ := Lib.hid hq
  clear hli hR HP hq
  go_enter Try.func34, Try.ntmps34
  go_wp2_with fail
  refine HIF.out.mono ?_
  rintro e w1 ⟨⟨rfl, hall⟩ | ⟨k, hk, rfl, hpk, hbk⟩, hb1⟩
  · have HE : Hid (∃ (d : Array Int) (k : Nat), Ending.returned (.slice (some q) xs.length cap) = .returned (.slice (some q) k cap) ∧ k ≤ xs.length ∧ d.size = xs.length ∧ d.toList.take k = (xs.filter fun x => !p x) ∧ (xs.filter fun x => !p x).length = k ∧ Us.Row w g rest d w1) := by
      have ef : (xs.filter fun x => !p x) = xs := List.filter_eq_self.2 fun x hx => by simp [hall x hx]
      refine ⟨xs.toArray, xs.length, rfl, Nat.le_refl _, by simp, ?_, ?_, S0.out.below hb1⟩
      · rw [ef]; simp
      · rw [ef]
    clear hall hb1
    go_wp2_with fail
    go_ret
    exact HE.out
  · have S1 : Hid (Us.Row w g rest xs.toArray w1) := S0.out.below hb1
    have HD : Hid (Gm.DelAt p xs k (k + 1) xs.toArray) := by
      have e1 : (xs.take k).filter (fun x => !p x) = xs.take k := List.filter_eq_self.2 fun x hx => by simp [hbk x hx]
      have e : (xs.take (k + 1)).filter (fun x => !p x) = xs.take k := by
        rw [List.take_succ_eq_append_getElem hk, List.filter_append, e1]
        simp [hpk]
      exact ⟨by simp, by omega, hk, by rw [e], by rw [e]; simp; omega, fun t _ _ => by simp⟩
    have k9 : (k : Int) ≤ 100000 := by omega
    have k8 : ((k : Int) == -1) = false := by
      rw [beq_eq_false_iff_ne]; omega
    clear hpk hbk hb1 S0 hk HIF
    go_wp2_with fail
    go_loopw [5, 6] (fun vi vj wr => ∃ (i j : Nat) (d : Array Int), vi = .int .i64 i ∧ vj = .int .i64 j ∧ Hid (Gm.DelAt p xs i j d) ∧ Hid (Us.Row w g rest d wr)) (fun _ vj _ => xs.length - (intOf vj).toNat)
    case atStart => exact ⟨k, k + 1, _, rfl, by go_num, HD, S1⟩
    case round =>
      clear HD S1 k9 k8
      obtain ⟨i, j, d, rfl, rfl, HD, S1⟩ := hrel
      have hj9 := HD.out.jn
      have hi9 := HD.out.lt
      by_cases hlt : j < xs.length
      · have k0 : (0 : Int) ≤ (j : Int) := by omega
        have k1 : (j : Int) < xs.length := by omega
        have i1 : (i : Int) < xs.length := by omega
        have hp0 := S1.out.cell HQ.out (t := j) (by rw [HD.out.size]; exact hlt)
        have hi0 := S1.out.cell HQ.out (t := i) (by rw [HD.out.size]; omega)
        have hf0 := S1.out.frz HQ.out i
        rw [HD.out.back j (Nat.le_refl _) hlt, getElem!_pos xs j hlt] at hp0
        have HC := Lib.hid (HPP.out wr S1.out.mv xs[j] (List.getElem_mem hlt))
        have HDR : Hid (p xs[j] = true → Gm.DelAt p xs i (j + 1) d) := HD.out.drop hlt
        have HKP : Hid (p xs[j] = false → Gm.DelAt p xs (i + 1) (j + 1) (d.setIfInBounds i xs[j])) := HD.out.keep hlt
        have hid' : i < d.size := by rw [HD.out.size]; omega
        have HIS := Lib.hid hid'
        generalize hb : p xs[j] = b at HC HDR HKP
        generalize xs[j] = t at hp0 HC HKP
        generalize d[i]! = di at hi0
        clear hb hid'
        go_wp2_with fail
        refine HC.out.mono ?_
        rintro e w2 ⟨rfl, hb2⟩
        have S2 := Lib.hid (S1.out.below hb2)
        have c0 := hb2.cell (p := q.add i) (by rw [Lies.add_block, HQ.out]; exact Gm.ltHeap S1.out.row)
        have f0 := S2.out.frz HQ.out i
        rw [hi0] at c0
        clear hb2 hp0 hi0 hf0 S1
        cases b with
        | true =>
          have HD2 := Lib.hid (HDR.out rfl)
          clear c0 f0
          go_wp2_with fail
          go_roundw
          case rel => exact ⟨i, j + 1, d, rfl, by go_num, HD2, S2⟩
          case measure => simp [intOf]; omega
        | false =>
          have HD2 := Lib.hid (HKP.out rfl)
          have S3 := Lib.hid (S2.out.set HQ.out HIS.out t)
          go_wp2_with fail
          go_roundw
          case rel => exact ⟨i + 1, j + 1, _, by go_num, by go_num, HD2, S3⟩
          case measure => simp [intOf]; omega
      · have k1 : ¬ ((j : Int) < xs.length) := by omega
        obtain rfl : j = xs.length := by omega
        have HD' := HD.out
        have ht : xs.take xs.length = xs := List.take_of_length_le (Nat.le_refl _)
        have hfr := HD'.front
        have hln := HD'.len
        rw [ht] at hfr hln
        have hsl1 := fun w => Gm.uslice_back q xs.length cap i (by omega) (by omega) w
        have hsl2 := fun w => Gm.uslice_front (some q) xs.length cap i (by omega) w
        have eq : q.add i = ⟨g, i, none⟩ := by rw [HQ.out, Us.addB]
        have hcl : ∀ ty, (Builtin.clear_ #[49] ty #[.slice (some (q.add i)) (xs.length - i) (cap - i)]).run Try.prog wr = .ok (.tuple #[]) (wr.setCells g i (List.replicate (xs.length - i) (.int .u64 0))) := fun ty => by
          rw [eq]
          exact Lib.run_clear_slice wr _ _ ty _ Try.underlying49 (fun _ => by kernel_rfl) rfl rfl g i _ _ (by omega) (fun t ht => by
            have := S1.out.cell (p := ⟨g, 0, none⟩) rfl (t := i + t) (by rw [HD'.size]; omega)
            rw [Us.addB] at this
            rw [this]; rfl) (fun t ht => frozen_of_row _ _ (i + t) _ _ S1.out.row)
        obtain ⟨d', hr', hs', hk'⟩ := Us.Row.clear (xs.length - i) i d wr (by rw [HD'.size]; omega) S1.out
        have HE : Hid (∃ (d : Array Int) (k : Nat), Ending.returned (.slice (some q) i cap) = .returned (.slice (some q) k cap) ∧ k ≤ xs.length ∧ d.size = xs.length ∧ d.toList.take k = (xs.filter fun x => !p x) ∧ (xs.filter fun x => !p x).length = k ∧ Us.Row w g rest d (wr.setCells g i (List.replicate (xs.length - i) (.int .u64 0)))) := by
          refine ⟨d', i, rfl, by omega, by rw [hs', HD'.size], ?_, hln, hr'⟩
          rw [← hfr]
          apply List.ext_getElem
          · simp [hs']
          · intro t h1 h2
            have h3 : t < i := by simp at h1; omega
            have h4 := hk' t h3
            rw [getElem!_pos d' t (by rw [hs', HD'.size]; omega), getElem!_pos d t (by rw [HD'.size]; omega)] at h4
            simpa using h4
        generalize wr.setCells g i (List.replicate (xs.length - i) (.int .u64 0)) = w3 at hcl HE
        have i9 : (i : Int) ≤ 100000 := by omega
        clear HD' ht hfr hln eq hr' hs' hk' HD S1
        go_wp2_with fail
        go_ret
        exact HE.out

set_option maxRecDepth 20000 in
theorem udelete_nil (X : Nat) (w : World) :
    Calls Try.prog 34 #[.slice none 0 0, .func (.func 36) #[] #[.pointer (some ⟨X, 0, none⟩)]] w fun e w' => e = .returned (.slice none 0 0) ∧ Below w.heap.size w w' := by
  have HIF := Lib.hid (uindexF [] none 0 X (fun _ => false) w Lies.nil (by simp) (fun W _ x hx => absurd hx List.not_mem_nil))
  go_enter Try.func34, Try.ntmps34
  go_wp2_with fail
  refine HIF.out.mono ?_
  rintro e w1 ⟨⟨rfl, _⟩ | ⟨k, hk, _⟩, hb1⟩
  · have HB := Lib.hid hb1
    clear hb1
    go_wp2_with fail
    go_ret
    exact ⟨rfl, HB.out⟩
  · simp at hk

set_option maxRecDepth 20000 in
set_option maxHeartbeats 2000000 in
theorem gready {R B C : Nat} {last : Int} {l : List Gm.Msg} {cs : List Gm.Wy} {w : World} (h : Gm.PNet R B C last l cs w) (hg : Gm.Good last l) (hr : Gm.RiseM l) (hlast : last ≤ 1000000) (hp : Us.PdqOk l.length) (hl : l.length ≤ 100000) :
    Calls Try.prog 19 #[.pointer (some ⟨R, 0, none⟩)] w fun e w' => ∃ v : Value, e = .returned v ∧ w'.ownsRow w.heap.size 28 1 v ((Gm.ids l).filter fun x => !Gm.stopF cs l x).length (Gm.ucells ((Gm.ids l).filter fun x => !Gm.stopF cs l x)) ∧ Below w.heap.size w w' := by
  have hmf : ∀ (fn : Fn) (first cap : Array Value) (w : World), (Instr.makeFunc fn first cap).run Try.prog w = .ok (.func fn first cap) w := fun _ _ _ _ => rfl
  obtain ⟨W, hW⟩ : ∃ W, W = w.alloc (.cells #[.pointer (some ⟨R, 0, none⟩)] 25) := ⟨_, rfl⟩
  have hb : Below w.heap.size w W := by rw [hW]; exact (Below.refl _ _).alloc (Nat.le_refl _) _
  have hbox : W.heap[w.heap.size]? = some (.cells #[.pointer (some ⟨R, 0, none⟩)] 25 (0, 0)) := by rw [hW]; exact heap_alloc_new w _
  have h1 := h.below hb
  have HIS := Lib.hid (gis h1)
  have HRS := Lib.hid (grising h1 hg hr hlast hp hl)
  have c0 : W.cell? ⟨w.heap.size, 0, none⟩ = some (.pointer (some ⟨R, 0, none⟩)) := cell_of_row _ _ 0 _ _ _ hbox
  have H := Lib.hid (And.intro h1 (And.intro hbox hb))
  have HG := Lib.hid hg
  clear h h1 hb hbox hg hr hp
  go_enter Try.func19, Try.ntmps19
  go_wp2_with fail
  rw [← hW]
  clear hW
  refine HIS.out.mono ?_
  rintro e w2 ⟨rfl, rfl⟩
  go_wp2_with fail
  refine HRS.out.mono ?_
  rintro e w2 ⟨v, rfl, hrow, hb2⟩
  have hrow0 : w2.ownsRow W.heap.size 28 1 v (Gm.ids l).length (Gm.ucells (Gm.ids l)) := by rw [Gm.ids_len]; exact hrow
  have hlen := Gm.ids_len l
  rcases Gm.own_row hrow0 with ⟨rfl, h0⟩ | ⟨g, cap, rest, rfl, hgg, hc1, hc2, hre, hR⟩
  · have HE : Hid (w2.ownsRow w.heap.size 28 1 (.slice none 0 0) ((Gm.ids l).filter fun x => !Gm.stopF cs l x).length (Gm.ucells ((Gm.ids l).filter fun x => !Gm.stopF cs l x)) ∧ Below w.heap.size w w2) := by
      rw [h0]
      exact ⟨World.ownsRow_nil _ _ _ _, H.out.2.2.trans (hb2.mono H.out.2.2.size)⟩
    clear hrow hrow0 h0 hb2 hlen
    go_wp2_with fail
    refine (udelete_nil _ _).mono ?_
    rintro e w3 ⟨rfl, hb3⟩
    have HE3 : Hid (w3.ownsRow w.heap.size 28 1 (.slice none 0 0) ((Gm.ids l).filter fun x => !Gm.stopF cs l x).length (Gm.ucells ((Gm.ids l).filter fun x => !Gm.stopF cs l x)) ∧ Below w.heap.size w w3) :=
      ⟨Gm.ownsKeep HE.out.1 (fun i hi => by cases hi), HE.out.2.trans (hb3.mono HE.out.2.size)⟩
    clear hb3
    go_wp2_with fail
    go_ret
    exact ⟨_, rfl, HE3.out⟩
  · have hX : w2.heap[w.heap.size]? = some (.cells #[.pointer (some ⟨R, 0, none⟩)] 25 (0, 0)) := (hb2.block _ (Gm.ltHeap H.out.2.1)).trans H.out.2.1
    have hP2 := H.out.1.below hb2
    have hWX := Gm.ltHeap H.out.2.1
    have HDL := Lib.hid (udelete (Gm.ids l) g cap w.heap.size rest (Gm.stopF cs l) w2 hR (by omega) hc1 (fun W3 hm x hx => by
      have hkeep : ∀ i, i < W.heap.size → W3.heap[i]? = w2.heap[i]? := fun i hi => hm.block i (by have := hb2.size; omega) (by omega)
      have hP3 : Gm.PNet R B C last l cs W3 := by
        obtain ⟨n, hn, hcm⟩ := H.out.1.cut
        refine ⟨(hkeep R (Gm.ltHeap H.out.1.obj)).trans hP2.obj, hP2.on.of_block (hkeep B H.out.1.on.lt), ?_, hP2.BC, hP2.nd⟩
        obtain ⟨n', hn', hcm'⟩ := hP2.cut
        exact ⟨n', hn', hcm'.of_block (hkeep C hcm.lt)⟩
      exact gpred hP3 HG.out hlast w.heap.size ((hkeep _ hWX).trans hX) x hx))
    have HB := Lib.hid (And.intro hb2 (And.intro hgg (And.intro hc1 (And.intro hc2 hre))))
    have HLEN := Lib.hid hlen
    clear hrow hrow0 hR hX hP2 hb2 hgg hc1 hc2 hre hlen
    go_wp2_with fail
    refine HDL.out.mono ?_
    rintro e w3 ⟨d, k, rfl, hk, hds, htk, hlk, hR3⟩
    have HE : Hid (w3.ownsRow w.heap.size 28 1 (.slice (some ⟨g, 0, none⟩) k cap) ((Gm.ids l).filter fun x => !Gm.stopF cs l x).length (Gm.ucells ((Gm.ids l).filter fun x => !Gm.stopF cs l x)) ∧ Below w.heap.size w w3) := by
      obtain ⟨hb2, hgg, hc1, hc2, hre⟩ := HB.out
      have hlen := HLEN.out
      have hB2 := H.out.2.2
      have hcut := hR3.cut k
      rw [htk] at hcut
      have ho := Gm.row_own (base := w.heap.size) (cap := cap) hcut (by have := hB2.size; omega) (by simp [hlk]; omega) hc2 (by simp [hlk, hds]; omega)
      simp only [List.size_toArray] at ho
      rw [hlk] at ho ⊢
      refine ⟨ho, (hB2.trans (hb2.mono hB2.size)).trans ⟨hR3.mv.os, hR3.mv.tape, hR3.mv.output, hR3.mv.size, fun i hi => hR3.mv.block i (by have := hB2.size; have := hb2.size; omega) (by have := hB2.size; omega)⟩⟩
    clear hk hds htk hlk hR3 HB
    go_wp2_with fail
    go_ret
    exact ⟨_, rfl, HE.out⟩
end Go.Proofs.Ytfhengihdlojmaa
