/-
  The program's net behind a law's calls.
-/
import Derived.Test.YtfhengihdlojmaaPkE
namespace Go.Proofs.Ytfhengihdlojmaa
open Go.RowKit Go.Shelf

namespace Gm
theorem Good.app {last k : Int} {l m : List Msg} (h : Good last l) (hr : RiseM l) (hm : RiseM m) (hk : last ≤ k) (hl0 : 0 ≤ last) (hid : ∀ y ∈ m, last < y.id ∧ y.id ≤ k) (hp : ∀ y ∈ m, plc y.fr = true ∧ plc y.to = true ∧ y.text.size ≤ 16384) :
    Good k (l ++ m) ∧ RiseM (l ++ m) := by
  have hrise : RiseM (l ++ m) := by
    unfold RiseM at *
    rw [List.pairwise_append]
    exact ⟨hr, hm, fun a ha b hb => by have := (h.2.1 a ha).2; have := (hid b hb).1; omega⟩
  refine ⟨⟨hrise.dist, fun y hy => ?_, fun y hy => ?_⟩, hrise⟩
  · rcases List.mem_append.1 hy with hy | hy
    · have := h.2.1 y hy; omega
    · have := hid y hy; omega
  · rcases List.mem_append.1 hy with hy | hy
    · exact h.2.2 y hy
    · exact hp y hy
theorem sent_rise (last fr : Int) (text : ByteArray) (ts : List Int) : RiseM (sent last fr text ts) := by
  induction ts generalizing last with
  | nil => exact List.Pairwise.nil
  | cons t ts ih =>
    unfold sent
    exact List.pairwise_cons.2 ⟨fun y hy => by have := (sent_ids y hy).1; simp; omega, ih _⟩
theorem sent_mem {last fr : Int} {text : ByteArray} {ts : List Int} {y : Msg} (hy : y ∈ sent last fr text ts) : y.fr = fr ∧ y.text = text ∧ y.to ∈ ts := by
  induction ts generalizing last with
  | nil => simp [sent] at hy
  | cons t ts ih =>
    unfold sent at hy
    rcases List.mem_cons.1 hy with rfl | hy
    · exact ⟨rfl, rfl, by simp⟩
    · have := ih hy
      exact ⟨this.1, this.2.1, List.mem_cons_of_mem _ this.2.2⟩
theorem sendC_ok {fr : Int} {text : ByteArray} {tos : List Int} {n : Nat} (h : sendC fr text tos n = 0) : plc fr = true ∧ tos.all plc = true ∧ text.size ≤ 16384 ∧ n + tos.length ≤ 4096 := by
  unfold sendC at h
  split at h
  · omega
  · rename_i h1
    split at h
    · omega
    · split at h
      · omega
      · refine ⟨?_, ?_, by omega, by omega⟩
        · cases e : plc fr with
          | true => rfl
          | false => exact absurd (.inl e) h1
        · cases e : tos.all plc with
          | true => rfl
          | false => exact absurd (.inr e) h1
theorem good_drop {last : Int} {l : List Msg} (h : Good last l) (id : Int) : Good last (dropM id l) :=
  ⟨h.1.drop, fun y hy => h.2.1 y (dropM_mem.1 hy).1, fun y hy => h.2.2 y (dropM_mem.1 hy).1⟩
theorem rise_drop {l : List Msg} (h : RiseM l) (id : Int) : RiseM (dropM id l) := h.filter _
/-- The net of a law: made since w0. -/
structure NetLw (w0 : World) (R B C : Nat) (last : Int) (l : List Msg) (cs : List Wy) (w : World) : Prop where
  p : PNet R B C last l cs w
  g : Good last l
  r : RiseM l
  lo : w0.heap.size ≤ R ∧ w0.heap.size ≤ B ∧ w0.heap.size ≤ C
  bel : Below w0.heap.size w0 w
  l0 : 0 ≤ last
  len : l.length ≤ 4096
section
variable {w0 w w' : World} {R B C : Nat} {last : Int} {l : List Msg} {cs : List Wy}
theorem NetLw.below (h : NetLw w0 R B C last l cs w) (hb : Below w.heap.size w w') : NetLw w0 R B C last l cs w' := ⟨h.p.below hb, h.g, h.r, h.lo, h.bel.trans (hb.mono h.bel.size), h.l0, h.len⟩
theorem NetLw.off (h : NetLw w0 R B C last l cs w) {i : Nat} (hi : i < w0.heap.size) : POff R B C i := ⟨by have := h.lo; omega, by have := h.lo; omega, by have := h.lo; omega⟩
theorem NetLw.move {last' : Int} {l' : List Msg} {cs' : List Wy} (h : NetLw w0 R B C last l cs w) (hp : PNet R B C last' l' cs' w') (hm : Mvg (POff R B C) (POff R B C) w w') (hg : Good last' l') (hr : RiseM l') (h0 : 0 ≤ last') (hl : l'.length ≤ 4096) : NetLw w0 R B C last' l' cs' w' :=
  ⟨hp, hg, hr, h.lo, ⟨hm.os.trans h.bel.os, hm.tape.trans h.bel.tape, hm.output.trans h.bel.output, Nat.le_trans h.bel.size hm.size, fun i hi => (hm.block i (by have := h.bel.size; omega) (h.off hi)).trans (h.bel.block i hi)⟩, h0, hl⟩
end
end Gm

section
variable {w0 w : World} {R B C : Nat} {last : Int} {l : List Gm.Msg} {cs : List Gm.Wy}
theorem glw_new (w : World) : Calls Try.prog 6 #[] w fun e w' => ∃ R B C : Nat, e = .returned (.pointer (some ⟨R, 0, none⟩)) ∧ Gm.NetLw w R B C 0 [] [] w' := by
  refine (gnew w).mono ?_
  rintro e w' ⟨R, B, C, rfl, h, hb, h1, h2, h3⟩
  exact ⟨R, B, C, rfl, h, ⟨List.Pairwise.nil, fun x hx => absurd hx List.not_mem_nil, fun x hx => absurd hx List.not_mem_nil⟩, List.Pairwise.nil, ⟨h1, h2, h3⟩, hb, Int.le_refl _, by simp⟩
theorem glw_send (h : Gm.NetLw w0 R B C last l cs w) (hl : last ≤ 900000) (fr : Int) (text : ByteArray) (tos : List Int) (A : Option Addr) (c : Nat) (hli : Lies w w.heap.size A (icells tos)) (hoff : ∀ p, A = some p → Gm.POff R B C p.block) (htn : tos.length ≤ 5000) :
    Calls Try.prog 7 #[.pointer (some ⟨R, 0, none⟩), .int .i64 fr, .string text, .slice A tos.length c] w fun e w' =>
      e = .returned (.tuple #[.int .i64 (Gm.sendN fr text tos l.length), .int .i64 (Gm.sendC fr text tos l.length)]) ∧ Gm.NetLw w0 R B C (Gm.sendM fr text tos last l) (Gm.sendL fr text tos last l) cs w' ∧ Gm.Mvg (Gm.POff R B C) (Gm.POff R B C) w w' := by
  refine (gsend h.p h.len h.l0 hl (fun y hy => (h.g.2.1 y hy).2) fr text tos A c hli hoff htn).mono ?_
  rintro e w' ⟨he, hp, hm⟩
  refine ⟨he, ?_, hm⟩
  by_cases hc : Gm.sendC fr text tos l.length = 0
  · have e1 : Gm.sendM fr text tos last l = last + tos.length := by unfold Gm.sendM; rw [if_pos hc]
    have e2 : Gm.sendL fr text tos last l = l ++ Gm.sent last fr text tos := by unfold Gm.sendL; rw [if_pos hc]
    rw [e1, e2] at hp ⊢
    obtain ⟨o1, o2, o3, o4⟩ := Gm.sendC_ok hc
    have hGR := Gm.Good.app (k := last + tos.length) h.g h.r (Gm.sent_rise last fr text tos) (by omega) h.l0 Gm.sent_ids (fun y hy => by
      obtain ⟨q1, q2, q3⟩ := Gm.sent_mem hy
      rw [q1, q2]
      exact ⟨o1, List.all_eq_true.1 o2 _ q3, o3⟩)
    have := h.l0
    exact h.move hp hm hGR.1 hGR.2 (by omega) (by rw [List.length_append, Gm.sent_len]; omega)
  · have e1 : Gm.sendM fr text tos last l = last := by unfold Gm.sendM; rw [if_neg hc]
    have e2 : Gm.sendL fr text tos last l = l := by unfold Gm.sendL; rw [if_neg hc]
    rw [e1, e2] at hp ⊢
    exact h.move hp hm h.g h.r h.l0 h.len
theorem glw_take (h : Gm.NetLw w0 R B C last l cs w) (id : Int) (i0 : 0 ≤ id) (i1 : id < 18446744073709551616) :
    Calls Try.prog 9 #[.pointer (some ⟨R, 0, none⟩), .int .u64 id] w fun e w' => e = Gm.takeE id cs l ∧ Gm.NetLw w0 R B C last (Gm.takeL id cs l) cs w' ∧ Gm.Mvg (Gm.POff R B C) (Gm.POff R B C) w w' := by
  refine (gtake h.p h.g id i0 i1).mono ?_
  rintro e w' ⟨he, hp, hm⟩
  refine ⟨he, ?_, hm⟩
  have : Gm.takeL id cs l = l ∨ Gm.takeL id cs l = Gm.dropM id l := by
    unfold Gm.takeL
    split
    · exact .inl rfl
    · split
      · exact .inl rfl
      · exact .inr rfl
  rcases this with e | e
  · rw [e] at hp ⊢
    exact h.move hp hm h.g h.r h.l0 h.len
  · rw [e] at hp ⊢
    exact h.move hp hm (Gm.good_drop h.g id) (Gm.rise_drop h.r id) h.l0 (Nat.le_trans (Gm.dropM_len id l) h.len)
theorem glw_drop (h : Gm.NetLw w0 R B C last l cs w) (ids : List Int) (A : Option Addr) (c : Nat) (hli : Lies w w.heap.size A (Gm.ucells ids)) (hoff : ∀ p, A = some p → Gm.POff R B C p.block) (hn : ids.length ≤ 5000) (hb : ∀ x ∈ ids, 0 ≤ x ∧ x < 18446744073709551616) :
    Calls Try.prog 11 #[.pointer (some ⟨R, 0, none⟩), .slice A ids.length c] w fun e w' => e = .returned (.int .i64 ((l.length : Int) - (Gm.dropAll ids l).length)) ∧ Gm.NetLw w0 R B C last (Gm.dropAll ids l) cs w' ∧ Gm.Mvg (Gm.POff R B C) (Gm.POff R B C) w w' := by
  refine (gdrop h.p h.len h.g.1 ids A c hli hoff hn hb).mono ?_
  rintro e w' ⟨he, hp, hm⟩
  refine ⟨he, ?_, hm⟩
  have : ∀ (ids : List Int) (l : List Gm.Msg), Gm.Good last l → Gm.RiseM l → Gm.Good last (Gm.dropAll ids l) ∧ Gm.RiseM (Gm.dropAll ids l) := by
    intro ids
    induction ids with
    | nil => intro l h1 h2; exact ⟨h1, h2⟩
    | cons x ids ih => intro l h1 h2; exact ih _ (Gm.good_drop h1 x) (Gm.rise_drop h2 x)
  exact h.move hp hm (this ids l h.g h.r).1 (this ids l h.g h.r).2 h.l0 (Nat.le_trans (Gm.dropAll_len ids l) h.len)
theorem glw_double (h : Gm.NetLw w0 R B C last l cs w) (hl : last ≤ 900000) (id : Int) (i0 : 0 ≤ id) (i1 : id < 18446744073709551616) :
    Calls Try.prog 13 #[.pointer (some ⟨R, 0, none⟩), .int .u64 id] w fun e w' =>
      e = .returned (.tuple #[.int .u64 (Gm.dblN id last l), .int .i64 (Gm.dblC id l)]) ∧ Gm.NetLw w0 R B C (Gm.dblM id last l) (Gm.dblL id last l) cs w' ∧ Gm.Mvg (Gm.POff R B C) (Gm.POff R B C) w w' := by
  refine (gdouble h.p h.len h.g h.l0 hl id i0 i1).mono ?_
  rintro e w' ⟨he, hp, hm⟩
  refine ⟨he, ?_, hm⟩
  by_cases hc : Gm.dblC id l = 0
  · have hh : Gm.hasM id l = true ∧ l.length < 4096 := by
      unfold Gm.dblC at hc
      split at hc
      · omega
      · rename_i h1
        split at hc
        · omega
        · exact ⟨by simpa using h1, by omega⟩
    obtain ⟨x, hx⟩ : ∃ x, Gm.findM id l = some x := Option.isSome_iff_exists.1 (by rw [Gm.findM_has]; exact hh.1)
    have e1 : Gm.dblM id last l = last + 1 := by unfold Gm.dblM; rw [if_pos hc]
    have e2 : Gm.dblL id last l = l ++ [⟨last + 1, x.fr, x.to, x.text⟩] := by unfold Gm.dblL; rw [if_pos hc, hx]; rfl
    rw [e1, e2] at hp ⊢
    have hxm := (Gm.findM_iff h.g.1).1 hx
    have hpl := h.g.2.2 x hxm.1
    have hGR := Gm.Good.app (k := last + 1) (m := [⟨last + 1, x.fr, x.to, x.text⟩]) h.g h.r (List.pairwise_singleton ..) (by omega) h.l0 (fun y hy => by rw [List.mem_singleton.1 hy]; simp only; omega) (fun y hy => by rw [List.mem_singleton.1 hy]; exact hpl)
    have := h.l0
    exact h.move hp hm hGR.1 hGR.2 (by omega) (by rw [List.length_append, List.length_singleton]; omega)
  · have e1 : Gm.dblM id last l = last := by unfold Gm.dblM; rw [if_neg hc]
    have e2 : Gm.dblL id last l = l := by unfold Gm.dblL; rw [if_neg hc]
    rw [e1, e2] at hp ⊢
    exact h.move hp hm h.g h.r h.l0 h.len
theorem glw_cut (h : Gm.NetLw w0 R B C last l cs w) (hnc : cs.length ≤ 100000) (a b : Int) :
    Calls Try.prog 15 #[.pointer (some ⟨R, 0, none⟩), .int .i64 a, .int .i64 b] w fun e w' =>
      e = .returned (.int .i64 (Gm.cutC a b)) ∧ Gm.NetLw w0 R B C last l (Gm.cutL a b cs) w' ∧ Gm.Mvg (Gm.POff R B C) (Gm.POff R B C) w w' := by
  refine (gcut h.p hnc a b).mono ?_
  rintro e w' ⟨he, hp, hm⟩
  exact ⟨he, h.move hp hm h.g h.r h.l0 h.len, hm⟩
theorem glw_heal (h : Gm.NetLw w0 R B C last l cs w) (a b : Int) :
    Calls Try.prog 17 #[.pointer (some ⟨R, 0, none⟩), .int .i64 a, .int .i64 b] w fun e w' =>
      e = .returned (.int .i64 (Gm.cutC a b)) ∧ Gm.NetLw w0 R B C last l (Gm.healL a b cs) w' ∧ Gm.Mvg (Gm.POff R B C) (Gm.POff R B C) w w' := by
  refine (gheal h.p a b).mono ?_
  rintro e w' ⟨he, hp, hm⟩
  exact ⟨he, h.move hp hm h.g h.r h.l0 h.len, hm⟩
theorem glw_ready (h : Gm.NetLw w0 R B C last l cs w) (hlast : last ≤ 1000000) (hp : Us.PdqOk l.length) :
    Calls Try.prog 19 #[.pointer (some ⟨R, 0, none⟩)] w fun e w' => ∃ v : Value, e = .returned v ∧ w'.ownsRow w.heap.size 28 1 v ((Gm.ids l).filter fun x => !Gm.stopF cs l x).length (Gm.ucells ((Gm.ids l).filter fun x => !Gm.stopF cs l x)) ∧ Below w.heap.size w w' :=
  gready h.p h.g h.r hlast hp (by have := h.len; omega)
end
end Go.Proofs.Ytfhengihdlojmaa
