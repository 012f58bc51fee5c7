/-
  The program's net: Drop, Double, Cut, Heal.
-/
import Derived.Test.YtfhengihdlojmaaPgE
namespace Go.Proofs.Ytfhengihdlojmaa
open Go.RowKit

namespace Gm
def ucells (xs : List Int) : List Value := xs.map fun x : Int => Value.int .u64 x
theorem ucells_at {xs : List Int} {k : Nat} (h : k < xs.length) : (ucells xs)[k]? = some (.int .u64 xs[k]) := by
  unfold ucells
  rw [List.getElem?_map, List.getElem?_eq_getElem h]
  rfl
def dropAll (ids : List Int) (l : List Msg) : List Msg := ids.foldl (fun l id => dropM id l) l
theorem dropAll_snoc (ids : List Int) (id : Int) (l : List Msg) : dropAll (ids ++ [id]) l = dropM id (dropAll ids l) := by simp [dropAll, List.foldl_append]
theorem dropAll_dist {ids : List Int} {l : List Msg} (h : DistM l) : DistM (dropAll ids l) := by
  induction ids generalizing l with
  | nil => exact h
  | cons x ids ih => exact ih h.drop
theorem dropAll_len (ids : List Int) (l : List Msg) : (dropAll ids l).length ≤ l.length := by
  induction ids generalizing l with
  | nil => exact Nat.le_refl _
  | cons x ids ih => exact Nat.le_trans (ih (dropM x l)) (dropM_len x l)
theorem lies_oneU (w : World) (a : Int) (T : TypeId) : Lies (w.alloc (.cells #[.int .u64 a] T)) (w.alloc (.cells #[.int .u64 a] T)).heap.size (some ⟨w.heap.size, 0, none⟩) (ucells [a]) := fun _ => by
  refine ⟨_, rfl, by simp, fun j u hu => ?_⟩
  rw [show (⟨w.heap.size, 0, none⟩ : Addr).add j = ⟨w.heap.size, j, none⟩ by rw [Addr.add_mid, Nat.zero_add]]
  rw [cell_of_row _ _ j _ _ _ (heap_alloc_new w _)]
  unfold ucells at hu
  cases j with
  | zero => simpa using hu
  | succ j => simp at hu
theorem lies_twoU (w : World) (a b : Int) (T : TypeId) : Lies (w.alloc (.cells #[.int .u64 a, .int .u64 b] T)) (w.alloc (.cells #[.int .u64 a, .int .u64 b] T)).heap.size (some ⟨w.heap.size, 0, none⟩) (ucells [a, b]) := fun _ => by
  refine ⟨_, rfl, by simp, fun j u hu => ?_⟩
  rw [show (⟨w.heap.size, 0, none⟩ : Addr).add j = ⟨w.heap.size, j, none⟩ by rw [Addr.add_mid, Nat.zero_add]]
  rw [cell_of_row _ _ j _ _ _ (heap_alloc_new w _)]
  unfold ucells at hu
  match j with
  | 0 => simpa using hu
  | 1 => simpa using hu
  | j + 2 => simp at hu
/-- What Double answers. -/
def dblC (id : Int) (l : List Msg) : Int := if hasM id l = false then 5 else if 4096 ≤ l.length then 6 else 0
def dblN (id last : Int) (l : List Msg) : Int := if dblC id l = 0 then last + 1 else 0
def dblM (id last : Int) (l : List Msg) : Int := if dblC id l = 0 then last + 1 else last
def dblL (id last : Int) (l : List Msg) : List Msg := if dblC id l = 0 then l ++ ((findM id l).map fun x => (⟨last + 1, x.fr, x.to, x.text⟩ : Msg)).toList else l
/-- What Cut and Heal answer. -/
def cutC (a b : Int) : Int := if plc a = true ∧ plc b = true then 0 else 2
def cutL (a b : Int) (cs : List Wy) : List Wy := if cutC a b = 0 ∧ isCut a b cs = false then cs ++ [(a, b)] else cs
def healL (a b : Int) (cs : List Wy) : List Wy := if cutC a b = 0 then cs.filter fun x => decide (x ≠ (a, b)) else cs
theorem cutF_ext {cs cs' : List Wy} {k : Value} (h : ∀ a b, k = wayV (a, b) → isCut a b cs' = isCut a b cs) : cutF cs' k = cutF cs k := by
  unfold cutF
  split
  · rename_i cells
    split
    · rename_i a b e
      have := h a b (by
        unfold wayV
        have : cells = #[.int .i64 a, .int .i64 b] := by
          apply Array.ext'
          rw [e]
        rw [this])
      rw [this]
    · rfl
  · rfl
theorem wayV_inj {a b c d : Int} (h : wayV (a, b) = wayV (c, d)) : a = c ∧ b = d := by
  unfold wayV at h
  simp at h
  exact h
theorem isCut_app {a b c d : Int} {cs : List Wy} : isCut a b (cs ++ [(c, d)]) = (isCut a b cs || decide (c = a ∧ d = b)) := by
  unfold isCut
  rw [List.any_append]
  simp
theorem isCut_heal {a b c d : Int} {cs : List Wy} : isCut a b (cs.filter fun x => decide (x ≠ (c, d))) = (isCut a b cs && !decide (c = a ∧ d = b)) := by
  rw [Bool.eq_iff_iff, isCut_iff, List.mem_filter, Bool.and_eq_true, isCut_iff]
  simp only [Bool.not_eq_true', decide_eq_true_eq, decide_eq_false_iff_not]
  constructor
  · rintro ⟨h1, h2⟩
    exact ⟨h1, fun e => h2 (by rw [e.1, e.2])⟩
  · rintro ⟨h1, h2⟩
    exact ⟨h1, fun e => h2 ⟨(congrArg Prod.fst e).symm, (congrArg Prod.snd e).symm⟩⟩
end Gm

set_option maxRecDepth 20000 in
set_option maxHeartbeats 4000000 in
theorem gdrop {R B C : Nat} {last : Int} {l : List Gm.Msg} {cs : List Gm.Wy} {w : World} (h : Gm.PNet R B C last l cs w) (hl : l.length ≤ 4096) (hd : Gm.DistM l)
    (ids : List Int) (A : Option Addr) (c : Nat) (hli : Lies w w.heap.size A (Gm.ucells ids)) (hoff : ∀ p, A = some p → Gm.POff R B C p.block) (hn : ids.length ≤ 5000) (hb : ∀ x ∈ ids, 0 ≤ x ∧ x < 18446744073709551616) :
    Calls Try.prog 11 #[.pointer (some ⟨R, 0, none⟩), .slice A ids.length c] w fun e w' =>
      e = .returned (.int .i64 ((l.length : Int) - (Gm.dropAll ids l).length)) ∧ Gm.PNet R B C last (Gm.dropAll ids l) cs w' ∧ Gm.Mvg (Gm.POff R B C) (Gm.POff R B C) w w' := by
  have HIS := Lib.hid (gis h)
  have c1 := h.c1
  have HLN : Hid (∀ ty, (Builtin.len_ #[53] ty #[.map (some B)]).run Try.prog w = .ok (.int .i64 l.length) w) := fun ty => h.on.len Try.underlying53 ty
  have HD := Lib.hid hd
  have HOFF := Lib.hid hoff
  have HB := Lib.hid hb
  have HN0 : Hid (Gm.PNet R B C last l cs w ∧ Gm.Mvg (Gm.POff R B C) (Gm.POff R B C) w w ∧ Lies w w.heap.size A (Gm.ucells ids)) := ⟨h, .refl _ _, hli⟩
  clear h hd hli hoff hb
  go_enter Try.func11, Try.ntmps11
  go_wp2_with fail
  refine HIS.out.mono ?_
  rintro e w2 ⟨rfl, rfl⟩
  go_wp2_with (at_len; refine Gm.gpl_len _ rfl _ _ rfl _ _ rfl (HLN.out _) ?_)
  clear HIS HLN c1
  go_loopw [18] (fun i wr => ∃ j : Nat, j ≤ ids.length ∧ i = .int .i64 j ∧ Hid (Gm.PNet R B C last (Gm.dropAll (ids.take j) l) cs wr ∧ Gm.Mvg (Gm.POff R B C) (Gm.POff R B C) w wr ∧ Lies wr wr.heap.size A (Gm.ucells ids))) (fun i _ => ids.length - (intOf i).toNat)
  case atStart =>
    refine ⟨0, Nat.zero_le _, rfl, ?_⟩
    show _ ∧ _
    simpa [Gm.dropAll] using HN0.out
  case round =>
    obtain ⟨j, hj, rfl, HJ⟩ := hrel
    by_cases hlt : j < ids.length
    · obtain ⟨p, rfl, hpb, hp0⟩ := HJ.out.2.2.at_ (Gm.ucells_at hlt)
      have k0 : (0 : Int) ≤ (j : Int) := by omega
      have k1 : (j : Int) < ids.length := by omega
      have hx := HB.out _ (List.getElem_mem hlt)
      have d1 := HJ.out.1.c1
      obtain ⟨w3, hr3, hP3, mv3⟩ := HJ.out.1.delOn (Gm.dropAll_dist HD.out) ids[j] hx.1 hx.2 0
      have HJ3 : Hid (Gm.PNet R B C last (Gm.dropAll (ids.take (j + 1)) l) cs w3 ∧ Gm.Mvg (Gm.POff R B C) (Gm.POff R B C) w w3 ∧ Lies w3 w3.heap.size (some p) (Gm.ucells ids)) := by
        refine ⟨?_, HJ.out.2.1.trans mv3, Gm.lies_mvg HJ.out.2.2 HOFF.out mv3⟩
        rw [List.take_succ_eq_append_getElem hlt, Gm.dropAll_snoc]
        exact hP3
      have HR3 := Lib.hid hr3
      clear hr3 hP3 mv3 hx
      generalize ids[j] = t at hp0 HR3
      go_wp2_with (at_delete; refine Gm.gpl_del _ rfl _ _ _ _ rfl _ _ rfl rfl w3 HR3.out ?_)
      go_roundw
      case rel => exact ⟨j + 1, by omega, by go_num, HJ3.out⟩
      case measure => simp [intOf]; omega
    · have k1 : ¬ ((j : Int) < ids.length) := by omega
      obtain rfl : j = ids.length := by omega
      have HJ2 := HJ.out
      rw [List.take_of_length_le (Nat.le_refl _)] at HJ2
      have HJ3 := Lib.hid HJ2
      have d1 := HJ2.1.c1
      have HLN : Hid (∀ ty, (Builtin.len_ #[53] ty #[.map (some B)]).run Try.prog wr = .ok (.int .i64 (Gm.dropAll ids l).length) wr) := fun ty => HJ3.out.1.on.len Try.underlying53 ty
      have hle := Gm.dropAll_len ids l
      clear HJ2 HJ
      generalize hm : (Gm.dropAll ids l).length = m at HLN hle
      have HM := Lib.hid hm
      clear hm
      go_wp2_with (at_len; refine Gm.gpl_len _ rfl _ _ rfl _ _ rfl (HLN.out _) ?_)
      go_ret
      exact ⟨by rw [HM.out]; rfl, HJ3.out.1, HJ3.out.2.1⟩

set_option maxRecDepth 20000 in
set_option maxHeartbeats 4000000 in
theorem gdouble {R B C : Nat} {last : Int} {l : List Gm.Msg} {cs : List Gm.Wy} {w : World} (h : Gm.PNet R B C last l cs w) (hl : l.length ≤ 4096) (hg : Gm.Good last l) (l0 : 0 ≤ last) (l1 : last ≤ 900000) (id : Int) (i0 : 0 ≤ id) (i1 : id < 18446744073709551616) :
    Calls Try.prog 13 #[.pointer (some ⟨R, 0, none⟩), .int .u64 id] w fun e w' =>
      e = .returned (.tuple #[.int .u64 (Gm.dblN id last l), .int .i64 (Gm.dblC id l)]) ∧ Gm.PNet R B C (Gm.dblM id last l) (Gm.dblL id last l) cs w' ∧ Gm.Mvg (Gm.POff R B C) (Gm.POff R B C) w w' := by
  have HIS := Lib.hid (gis h)
  have HL := Lib.hid (h.lookOn id i0 i1)
  have c1 := h.c1
  have hfi := Gm.findM_has id l
  cases hf : Gm.findM id l with
  | none =>
    rw [hf] at hfi HL
    have hh : Gm.hasM id l = false := hfi.symm
    have HE : Hid (Gm.dblC id l = 5 ∧ Gm.dblN id last l = 0 ∧ Gm.dblM id last l = last ∧ Gm.dblL id last l = l) := by
      have e : Gm.dblC id l = 5 := by unfold Gm.dblC; rw [if_pos hh]
      unfold Gm.dblN Gm.dblM Gm.dblL
      rw [e]
      exact ⟨rfl, rfl, rfl, rfl⟩
    have HLx : Hid ((Instr.lookup 53 (.map (some B)) (.int .u64 id) true).run Try.prog w = .ok (.tuple #[.agg #[.int .u64 0, .int .i64 0, .int .i64 0, .string ⟨#[]⟩], .bool false]) w) := HL.out
    have hbW : Below w.heap.size w (w.alloc (.cells #[.int .u64 0, .int .i64 0, .int .i64 0, .string ⟨#[]⟩] 41)) := (Below.refl _ _).alloc (Nat.le_refl _) _
    have HP := Lib.hid (And.intro (h.below hbW) (Gm.Mvg.of_below (off := Gm.POff R B C) hbW))
    clear h hg HL hf hfi hh hbW
    go_enter Try.func13, Try.ntmps13
    go_wp2_with fail
    refine HIS.out.mono ?_
    rintro e w2 ⟨rfl, rfl⟩
    go_wp2_with (at_lookup; refine Gm.gpl_look _ rfl _ _ _ _ rfl _ _ _ rfl rfl HLx.out ?_)
    refine bodyPost_ret (results_tmp2 rfl _ _ _) rfl ?_
    exact ⟨by rw [HE.out.1, HE.out.2.1]; rfl, by rw [HE.out.2.2.1, HE.out.2.2.2]; exact HP.out.1, HP.out.2⟩
  | some x =>
    obtain ⟨hx, hxi⟩ := (Gm.findM_iff hg.1).1 hf
    rw [hf] at hfi HL
    have hh : Gm.hasM id l = true := hfi.symm
    obtain ⟨xi, xf, xt, xs⟩ := x
    have HLx : Hid ((Instr.lookup 53 (.map (some B)) (.int .u64 id) true).run Try.prog w = .ok (.tuple #[.agg #[.int .u64 xi, .int .i64 xf, .int .i64 xt, .string xs], .bool true]) w) := HL.out
    obtain ⟨W, hW⟩ : ∃ W, W = w.alloc (.cells #[.int .u64 xi, .int .i64 xf, .int .i64 xt, .string xs] 41) := ⟨_, rfl⟩
    have hbW : Below w.heap.size w W := by rw [hW]; exact (Below.refl _ _).alloc (Nat.le_refl _) _
    have hxW : W.heap[w.heap.size]? = some (.cells #[.int .u64 xi, .int .i64 xf, .int .i64 xt, .string xs] 41 (0, 0)) := by rw [hW]; exact heap_alloc_new w _
    have hP := h.below hbW
    have HRM := Lib.hid (groom hP (by omega))
    have HB := Lib.hid (Gm.Mvg.of_below (off := Gm.POff R B C) hbW)
    have x0 : W.cell? ⟨w.heap.size, 0, none⟩ = some (.int .u64 xi) := cell_of_row _ _ 0 _ _ _ hxW
    have x1 : W.cell? ⟨w.heap.size, 1, none⟩ = some (.int .i64 xf) := cell_of_row _ _ 1 _ _ _ hxW
    have x2 : W.cell? ⟨w.heap.size, 2, none⟩ = some (.int .i64 xt) := cell_of_row _ _ 2 _ _ _ hxW
    have x3 : W.cell? ⟨w.heap.size, 3, none⟩ = some (.string xs) := cell_of_row _ _ 3 _ _ _ hxW
    by_cases hr : 4096 ≤ l.length
    · have HE : Hid (Gm.dblC id l = 6 ∧ Gm.dblN id last l = 0 ∧ Gm.dblM id last l = last ∧ Gm.dblL id last l = l) := by
        have e : Gm.dblC id l = 6 := by unfold Gm.dblC; rw [if_neg (by rw [hh]; simp), if_pos hr]
        unfold Gm.dblN Gm.dblM Gm.dblL
        rw [e]
        exact ⟨rfl, rfl, rfl, rfl⟩
      have kr : (4096 : Int) - (l.length : Int) < 1 := by omega
      have HP := Lib.hid hP
      clear h hg HL hf hfi hh hbW hxW hP hx hxi hr
      go_enter Try.func13, Try.ntmps13
      go_wp2_with fail
      refine HIS.out.mono ?_
      rintro e w2 ⟨rfl, rfl⟩
      go_wp2_with (at_lookup; refine Gm.gpl_look _ rfl _ _ _ _ rfl _ _ _ rfl rfl HLx.out ?_)
      rw [← hW]
      clear hW
      refine HRM.out.mono ?_
      rintro e w2 ⟨rfl, rfl⟩
      go_wp2_with fail
      refine bodyPost_ret (results_tmp2 rfl _ _ _) rfl ?_
      exact ⟨by rw [HE.out.1, HE.out.2.1]; rfl, by rw [HE.out.2.2.1, HE.out.2.2.2]; exact HP.out, HB.out⟩
    · have HE : Hid (Gm.dblC id l = 0 ∧ Gm.dblN id last l = last + 1 ∧ Gm.dblM id last l = last + 1 ∧ Gm.dblL id last l = l ++ [⟨last + 1, xf, xt, xs⟩]) := by
        have e : Gm.dblC id l = 0 := by unfold Gm.dblC; rw [if_neg (by rw [hh]; simp), if_neg hr]
        unfold Gm.dblN Gm.dblM Gm.dblL
        rw [e, hf]
        exact ⟨rfl, rfl, rfl, rfl⟩
      have kr : ¬ ((4096 : Int) - (l.length : Int) < 1) := by omega
      have HPT := Lib.hid (gput hP (by omega) l0 (by omega) (fun y hy => by have := (hg.2.1 y hy).2; omega) ⟨xi, xf, xt, xs⟩)
      clear h hg HL hf hfi hh hbW hxW hP hx hxi hr
      go_enter Try.func13, Try.ntmps13
      go_wp2_with fail
      refine HIS.out.mono ?_
      rintro e w2 ⟨rfl, rfl⟩
      go_wp2_with (at_lookup; refine Gm.gpl_look _ rfl _ _ _ _ rfl _ _ _ rfl rfl HLx.out ?_)
      rw [← hW]
      clear hW
      refine HRM.out.mono ?_
      rintro e w2 ⟨rfl, rfl⟩
      go_wp2_with fail
      refine HPT.out.mono ?_
      rintro e w3 ⟨rfl, hP3, mv3⟩
      have H3 := Lib.hid (And.intro hP3 (HB.out.trans mv3))
      clear hP3 mv3
      go_wp2_with fail
      refine bodyPost_ret (results_tmp2 rfl _ _ _) rfl ?_
      exact ⟨by rw [HE.out.1, HE.out.2.1]; rfl, by rw [HE.out.2.2.1, HE.out.2.2.2]; exact H3.out.1, H3.out.2⟩

namespace Gm
theorem both_places (a b : Int) : [a, b].all plc = decide (cutC a b = 0) := by
  unfold cutC
  by_cases h1 : plc a = true
  · by_cases h2 : plc b = true
    · simp [h1, h2]
    · simp [h1, h2]
  · simp [h1]
theorem cutC_two {a b : Int} (h : cutC a b ≠ 0) : cutC a b = 2 := by
  unfold cutC at h ⊢
  split
  · rename_i h2; rw [if_pos h2] at h; exact absurd rfl h
  · rfl
theorem cutC_wf {a b : Int} (h : cutC a b = 0) : (Lit.int .i64 a).wf = true ∧ (Lit.int .i64 b).wf = true := by
  unfold cutC at h
  split at h
  · rename_i h2; exact ⟨plc_wf h2.1, plc_wf h2.2⟩
  · omega
end Gm

namespace Gm
theorem cutF_some (a b : Int) (cs : List Wy) : (cutF cs (wayV (a, b))).isSome = isCut a b cs := by
  rw [cutF_way]
  cases isCut a b cs <;> rfl
theorem cutL_nodup {a b : Int} {cs : List Wy} (h : cs.Nodup) : (cutL a b cs).Nodup := by
  unfold cutL
  split
  · rename_i h2
    rw [List.nodup_append]
    refine ⟨h, by simp, fun x hx y hy => ?_⟩
    rw [List.mem_singleton.1 hy]
    rintro rfl
    have := isCut_iff.2 hx
    rw [h2.2] at this; cases this
  · exact h
theorem healL_nodup {a b : Int} {cs : List Wy} (h : cs.Nodup) : (healL a b cs).Nodup := by
  unfold healL
  split
  · exact h.filter _
  · exact h
theorem cutL_len {a b : Int} {cs : List Wy} (hc : cutC a b = 0) : (if (cutF cs (wayV (a, b))).isSome then cs.length else cs.length + 1) = (cutL a b cs).length := by
  rw [cutF_some]
  unfold cutL
  by_cases h : isCut a b cs = true
  · rw [if_pos h, if_neg (by rw [h]; simp)]
  · rw [if_neg h, if_pos ⟨hc, by simpa using h⟩]; simp
theorem filter_one {x : Wy} : ∀ {cs : List Wy}, cs.Nodup → (cs.filter fun y => decide (y ≠ x)).length = if x ∈ cs then cs.length - 1 else cs.length := by
  intro cs
  induction cs with
  | nil => intro _; rfl
  | cons y cs ih =>
    intro h
    have h2 := List.nodup_cons.1 h
    by_cases e : y = x
    · subst e
      rw [List.filter_cons_of_neg (by simp), if_pos (by simp), List.length_cons, List.filter_eq_self.2 (fun z hz => by
        have : z ≠ y := fun e => h2.1 (e ▸ hz)
        simpa using this)]
      omega
    · rw [List.filter_cons_of_pos (by simpa using e), List.length_cons, ih h2.2, List.length_cons]
      by_cases hx : x ∈ cs
      · have : 0 < cs.length := List.length_pos_of_mem hx
        rw [if_pos hx, if_pos (List.mem_cons_of_mem _ hx)]; omega
      · rw [if_neg hx, if_neg (fun h3 => by
          rcases List.mem_cons.1 h3 with h4 | h4
          · exact e h4.symm
          · exact hx h4)]
theorem healL_len {a b : Int} {cs : List Wy} (h : cs.Nodup) (hc : cutC a b = 0) : (if (cutF cs (wayV (a, b))).isSome then cs.length - 1 else cs.length) = (healL a b cs).length := by
  rw [cutF_some]
  unfold healL
  rw [if_pos hc, filter_one h]
  by_cases h : isCut a b cs = true
  · rw [if_pos h, if_pos (isCut_iff.1 h)]
  · rw [if_neg h, if_neg (fun h2 => h (isCut_iff.2 h2))]
end Gm

set_option maxRecDepth 20000 in
set_option maxHeartbeats 4000000 in
theorem gcut {R B C : Nat} {last : Int} {l : List Gm.Msg} {cs : List Gm.Wy} {w : World} (h : Gm.PNet R B C last l cs w) (hnc : cs.length ≤ 100000) (a b : Int) :
    Calls Try.prog 15 #[.pointer (some ⟨R, 0, none⟩), .int .i64 a, .int .i64 b] w fun e w' =>
      e = .returned (.int .i64 (Gm.cutC a b)) ∧ Gm.PNet R B C last l (Gm.cutL a b cs) w' ∧ Gm.Mvg (Gm.POff R B C) (Gm.POff R B C) w w' := by
  have HIS := Lib.hid (gis h)
  obtain ⟨W, hW⟩ : ∃ W, W = w.alloc (.cells #[.int .i64 a, .int .i64 b] 3) := ⟨_, rfl⟩
  have hb : Below w.heap.size w W := by rw [hW]; exact (Below.refl _ _).alloc (Nat.le_refl _) _
  have h1 := h.below hb
  have HP : Hid (Calls Try.prog 24 #[.slice (some ⟨w.heap.size, 0, none⟩) 2 2] W fun e w' => e = .returned (.bool (decide (Gm.cutC a b = 0))) ∧ W = w') := by
    have hlo : Lies W W.heap.size (some ⟨w.heap.size, 0, none⟩) (icells [a, b]) := by rw [hW]; exact Gm.lies_two w a b _
    have := gplaces [a, b] (some ⟨w.heap.size, 0, none⟩) 2 W hlo (by simp)
    rw [Gm.both_places] at this
    exact this
  have HM : Hid (Gm.Mvg (Gm.POff R B C) (Gm.POff R B C) w W) := .of_below hb
  have c2 := h1.c2
  by_cases hc : Gm.cutC a b = 0
  · have hd : decide (Gm.cutC a b = 0) = true := by simpa using hc
    rw [hd] at HP
    obtain ⟨n, hn, hm⟩ := h1.cut
    obtain ⟨W2, hr2, hm2, hg2⟩ := hm.put Gm.keyWay Try.underlying54 (by unfold maxLen; omega) (Gm.isKeyWay (a, b) (Gm.cutC_wf hc).1 (Gm.cutC_wf hc).2) (.agg #[]) (Gm.cutF (Gm.cutL a b cs)) (by
      rw [Gm.cutF_way, if_pos]
      unfold Gm.cutL
      split
      · rw [Gm.isCut_app]; simp
      · rename_i hx
        by_cases h3 : Gm.isCut a b cs = true
        · exact h3
        · exact absurd ⟨hc, by simpa using h3⟩ hx) (fun y hy => Gm.cutF_ext fun a' b' e => by
      unfold Gm.cutL
      split
      · rw [Gm.isCut_app]
        have : ¬ (a = a' ∧ b = b') := fun h3 => hy (by rw [e, h3.1, h3.2])
        simp [this]
      · rfl)
    have hP2 := h1.stepC (n := if (Gm.cutF cs (Gm.wayV (a, b))).isSome then n else n + 1) (by rw [hn]; exact Gm.cutL_len hc) (Gm.cutL_nodup h.nd) hm2 hg2
    have HE := Lib.hid (And.intro hc (And.intro hP2.1 (HM.out.trans hP2.2)))
    have HR : Hid ((Instr.mapUpdate 54 (.map (some C)) (.agg #[.int .i64 a, .int .i64 b]) (.agg #[])).run Try.prog W = .ok () W2) := hr2
    clear h h1 hb hm hm2 hg2 hP2 hr2 hc hd HM hn hnc
    go_enter Try.func15, Try.ntmps15
    go_wp2_with fail
    refine HIS.out.mono ?_
    rintro e w2 ⟨rfl, rfl⟩
    go_wp2_with fail
    rw [← hW]
    clear hW
    refine HP.out.mono ?_
    rintro e w2 ⟨rfl, rfl⟩
    go_wp2_with (at_mapUpdate; refine Gm.gpl_upd _ rfl _ _ _ _ rfl _ _ _ rfl rfl rfl W2 HR.out ?_)
    go_ret
    exact ⟨by rw [HE.out.1]; rfl, HE.out.2⟩
  · have hd : decide (Gm.cutC a b = 0) = false := by simpa using hc
    rw [hd] at HP
    have hL : Gm.cutL a b cs = cs := by unfold Gm.cutL; rw [if_neg (fun h2 => hc h2.1)]
    have HE := Lib.hid (And.intro (Gm.cutC_two hc) (And.intro (hL.symm ▸ h1) HM.out))
    clear h h1 hb hc hd HM hnc hL
    go_enter Try.func15, Try.ntmps15
    go_wp2_with fail
    refine HIS.out.mono ?_
    rintro e w2 ⟨rfl, rfl⟩
    go_wp2_with fail
    rw [← hW]
    clear hW
    refine HP.out.mono ?_
    rintro e w2 ⟨rfl, rfl⟩
    go_wp2_with fail
    go_ret
    exact ⟨by rw [HE.out.1]; rfl, HE.out.2⟩

set_option maxRecDepth 20000 in
set_option maxHeartbeats 4000000 in
theorem gheal {R B C : Nat} {last : Int} {l : List Gm.Msg} {cs : List Gm.Wy} {w : World} (h : Gm.PNet R B C last l cs w) (a b : Int) :
    Calls Try.prog 17 #[.pointer (some ⟨R, 0, none⟩), .int .i64 a, .int .i64 b] w fun e w' =>
      e = .returned (.int .i64 (Gm.cutC a b)) ∧ Gm.PNet R B C last l (Gm.healL a b cs) w' ∧ Gm.Mvg (Gm.POff R B C) (Gm.POff R B C) w w' := by
  have HIS := Lib.hid (gis h)
  obtain ⟨W, hW⟩ : ∃ W, W = w.alloc (.cells #[.int .i64 a, .int .i64 b] 3) := ⟨_, rfl⟩
  have hb : Below w.heap.size w W := by rw [hW]; exact (Below.refl _ _).alloc (Nat.le_refl _) _
  have h1 := h.below hb
  have HP : Hid (Calls Try.prog 24 #[.slice (some ⟨w.heap.size, 0, none⟩) 2 2] W fun e w' => e = .returned (.bool (decide (Gm.cutC a b = 0))) ∧ W = w') := by
    have hlo : Lies W W.heap.size (some ⟨w.heap.size, 0, none⟩) (icells [a, b]) := by rw [hW]; exact Gm.lies_two w a b _
    have := gplaces [a, b] (some ⟨w.heap.size, 0, none⟩) 2 W hlo (by simp)
    rw [Gm.both_places] at this
    exact this
  have HM : Hid (Gm.Mvg (Gm.POff R B C) (Gm.POff R B C) w W) := .of_below hb
  have c2 := h1.c2
  by_cases hc : Gm.cutC a b = 0
  · have hd : decide (Gm.cutC a b = 0) = true := by simpa using hc
    rw [hd] at HP
    have hL : Gm.healL a b cs = cs.filter fun x => decide (x ≠ (a, b)) := by unfold Gm.healL; rw [if_pos hc]
    obtain ⟨n, hn, hm⟩ := h1.cut
    obtain ⟨W2, hr2, hm2, hg2⟩ := hm.del Gm.keyWay Try.underlying54 (Gm.isKeyWay (a, b) (Gm.cutC_wf hc).1 (Gm.cutC_wf hc).2) (Gm.cutF (Gm.healL a b cs)) (by
      rw [Gm.cutF_way, if_neg]
      rw [hL, Gm.isCut_heal]; simp) (fun y hy => Gm.cutF_ext fun a' b' e => by
      rw [hL, Gm.isCut_heal]
      have : ¬ (a = a' ∧ b = b') := fun h3 => hy (by rw [e, h3.1, h3.2])
      simp [this]) 0
    have hP2 := h1.stepC (n := if (Gm.cutF cs (Gm.wayV (a, b))).isSome then n - 1 else n) (by rw [hn]; exact Gm.healL_len h.nd hc) (Gm.healL_nodup h.nd) hm2 hg2
    have HE := Lib.hid (And.intro hc (And.intro hP2.1 (HM.out.trans hP2.2)))
    have HR : Hid ((Builtin.delete_ #[54, 69] 0 #[.map (some C), .agg #[.int .i64 a, .int .i64 b]]).run Try.prog W = .ok (.tuple #[]) W2) := hr2
    clear h h1 hb hm hm2 hg2 hP2 hr2 hc hd HM hn hL
    go_enter Try.func17, Try.ntmps17
    go_wp2_with fail
    refine HIS.out.mono ?_
    rintro e w2 ⟨rfl, rfl⟩
    go_wp2_with fail
    rw [← hW]
    clear hW
    refine HP.out.mono ?_
    rintro e w2 ⟨rfl, rfl⟩
    go_wp2_with (at_delete; refine Gm.gpl_del _ rfl _ _ _ _ rfl _ _ rfl rfl W2 HR.out ?_)
    go_ret
    exact ⟨by rw [HE.out.1]; rfl, HE.out.2⟩
  · have hd : decide (Gm.cutC a b = 0) = false := by simpa using hc
    rw [hd] at HP
    have hL : Gm.healL a b cs = cs := by unfold Gm.healL; rw [if_neg hc]
    have HE := Lib.hid (And.intro (Gm.cutC_two hc) (And.intro (hL.symm ▸ h1) HM.out))
    clear h h1 hb hc hd HM hL
    go_enter Try.func17, Try.ntmps17
    go_wp2_with fail
    refine HIS.out.mono ?_
    rintro e w2 ⟨rfl, rfl⟩
    go_wp2_with fail
    rw [← hW]
    clear hW
    refine HP.out.mono ?_
    rintro e w2 ⟨rfl, rfl⟩
    go_wp2_with fail
    go_ret
    exact ⟨by rw [HE.out.1]; rfl, HE.out.2⟩
end Go.Proofs.Ytfhengihdlojmaa
