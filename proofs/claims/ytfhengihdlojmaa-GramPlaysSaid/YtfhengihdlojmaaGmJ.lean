/-
  The program's net and the document's side by side.
-/
import Derived.Test.YtfhengihdlojmaaGmI
import Derived.Test.YtfhengihdlojmaaPkI
import Derived.Test.YtfhengihdlojmaaPkM
import Derived.Test.YtfhengihdlojmaaUsK
namespace Go.Proofs.Ytfhengihdlojmaa
open Go.RowKit

namespace Gm
theorem take_eq {id : Int} {cs : List Wy} {l l' : List Msg} {e : Ending} (hd : DistM l) (h : TakeR id cs l e l') : e = takeE id cs l ∧ l' = takeL id cs l := by
  unfold takeE takeL
  rcases h with ⟨hn, rfl, rfl⟩ | ⟨x, hx, hid, ⟨hc, rfl, rfl⟩ | ⟨hc, rfl, rfl⟩⟩
  · rw [findM_none hn]
    exact ⟨rfl, rfl⟩
  · rw [(findM_iff hd).2 ⟨hx, hid⟩]
    exact ⟨(if_pos hc).symm, (if_pos hc).symm⟩
  · rw [(findM_iff hd).2 ⟨hx, hid⟩]
    exact ⟨(if_neg (by rw [hc]; simp)).symm, (if_neg (by rw [hc]; simp)).symm⟩
theorem takeE_form (id : Int) (cs : List Wy) (l : List Msg) : ∃ (i f t : Int) (s : ByteArray) (c : Int), takeE id cs l = .returned (.tuple #[.agg #[.int .u64 i, .int .i64 f, .int .i64 t, .string s], .int .i64 c]) := by
  unfold takeE
  split
  · exact ⟨_, _, _, _, _, rfl⟩
  · split
    · exact ⟨_, _, _, _, _, rfl⟩
    · exact ⟨_, _, _, _, _, rfl⟩
theorem takeL_len (id : Int) (cs : List Wy) (l : List Msg) : (takeL id cs l).length ≤ l.length := by
  unfold takeL
  split
  · exact Nat.le_refl _
  · split
    · exact Nat.le_refl _
    · exact dropM_len _ _
theorem stop_rdy {cs : List Wy} {l : List Msg} (hd : DistM l) : (ids l).filter (fun x => !stopF cs l x) = rdy cs l := by
  unfold ids rdy
  rw [List.filter_map]
  congr 1
  apply List.filter_congr
  intro x hx
  show (!stopF cs l x.id) = _
  unfold stopF
  rw [findM_some hd hx]
theorem drop_sum {l : List Msg} (hd : DistM l) (a b : Int) : (l.length : Int) - (dropAll [a, b] l).length = dropN a l + dropN b (dropM a l) := by
  have h1 := dropM_count hd a
  have h2 := dropM_count (hd.drop (id := a)) b
  have pos : ∀ (i : Int) (m : List Msg), hasM i m = true → 0 < m.length := fun i m h => by
    obtain ⟨x, hx, _⟩ := hasM_iff.1 h
    exact List.length_pos_of_mem hx
  have e : dropAll [a, b] l = dropM b (dropM a l) := rfl
  rw [e]
  unfold dropN
  by_cases h3 : hasM a l = true
  · have p1 := pos a l h3
    rw [if_pos h3] at h1 ⊢
    by_cases h4 : hasM b (dropM a l) = true
    · have p2 := pos b _ h4
      rw [if_pos h4] at h2 ⊢
      omega
    · rw [if_neg h4] at h2 ⊢
      omega
  · rw [if_neg h3] at h1 ⊢
    by_cases h4 : hasM b (dropM a l) = true
    · have p2 := pos b _ h4
      rw [if_pos h4] at h2 ⊢
      omega
    · rw [if_neg h4] at h2 ⊢
      omega
theorem dropN_range (a : Int) (l : List Msg) : 0 ≤ dropN a l ∧ dropN a l ≤ 1 := by
  unfold dropN
  split <;> omega
theorem cells12 {w : World} {S : Nat} {c0 c1 c2 c3 c4 c5 c6 : Value} {T : TypeId} (h : w.heap[S]? = some (.cells #[c0, c1, c2, c3, c4, c5, c6] T (0, 0))) : w.cell? ⟨S, 1, none⟩ = some c1 ∧ w.cell? ⟨S, 2, none⟩ = some c2 :=
  ⟨cell_of_row _ _ 1 _ _ _ h, cell_of_row _ _ 2 _ _ _ h⟩
theorem sendM_le (fr : Int) (text : ByteArray) (tos : List Int) (last : Int) (l : List Msg) : last ≤ sendM fr text tos last l ∧ sendM fr text tos last l ≤ last + tos.length := by
  unfold sendM
  split <;> omega
theorem dblM_le (id last : Int) (l : List Msg) : last ≤ dblM id last l ∧ dblM id last l ≤ last + 1 := by
  unfold dblM
  split <;> omega
/-- Both nets, and a row beside them. -/
structure TwoG (w0 : World) (R B C D S : Nat) (o : Obj) (last : Int) (l : List Msg) (cs : List Wy) (last2 : Int) (l2 : List Msg) (cs2 : List Wy) (w : World) : Prop where
  net : NetLw w0 R B C last l cs w
  doc : ∃ v vc, DNet D v vc last2 l2 cs2 w ∧ ∀ i, (i = R ∨ i = B ∨ i = C ∨ i = S ∨ i < w0.heap.size) → NOff D v vc i
  row : w.heap[S]? = some o
  off : POff R B C S
/-- Both nets. -/
structure PairG (w0 : World) (R B C D : Nat) (last : Int) (l : List Msg) (cs : List Wy) (w : World) : Prop where
  net : NetLw w0 R B C last l cs w
  doc : ∃ v vc, DNet D v vc last l cs w ∧ ∀ i, (i = R ∨ i = B ∨ i = C ∨ i < w0.heap.size) → NOff D v vc i
section
variable {w0 w w' : World} {R B C D S : Nat} {o : Obj} {last last2 : Int} {l l2 : List Msg} {cs cs2 : List Wy}
theorem PairG.add (h : PairG w0 R B C D last l cs w) (hb : Below w.heap.size w w') (hS : w.heap.size ≤ S) (hr : w'.heap[S]? = some o) : TwoG w0 R B C D S o last l cs last l cs w' := by
  obtain ⟨v, vc, d, hz⟩ := h.doc
  refine ⟨h.net.below hb, ⟨v, vc, d.below hb, fun i hi => ?_⟩, hr, h.net.p.fresh hS⟩
  rcases hi with h1 | h1 | h1 | h1 | h1
  · exact hz i (.inl h1)
  · exact hz i (.inr (.inl h1))
  · exact hz i (.inr (.inr (.inl h1)))
  · rw [h1]
    exact NOff.fresh d hS
  · exact hz i (.inr (.inr (.inr h1)))
theorem TwoG.pair (h : TwoG w0 R B C D S o last l cs last l cs w) : PairG w0 R B C D last l cs w := by
  obtain ⟨v, vc, d, hz⟩ := h.doc
  refine ⟨h.net, v, vc, d, fun i hi => hz i ?_⟩
  omega
theorem PairG.below (h : PairG w0 R B C D last l cs w) (hb : Below w.heap.size w w') : PairG w0 R B C D last l cs w' := by
  obtain ⟨v, vc, d, hz⟩ := h.doc
  exact ⟨h.net.below hb, v, vc, d.below hb, hz⟩
theorem TwoG.below (h : TwoG w0 R B C D S o last l cs last2 l2 cs2 w) (hb : Below w.heap.size w w') : TwoG w0 R B C D S o last l cs last2 l2 cs2 w' := by
  obtain ⟨v, vc, d, hz⟩ := h.doc
  exact ⟨h.net.below hb, ⟨v, vc, d.below hb, hz⟩, (hb.block S (ltHeap h.row)).trans h.row, h.off⟩
theorem TwoG.stepP {last' : Int} {l' : List Msg} {cs' : List Wy} (h : TwoG w0 R B C D S o last l cs last2 l2 cs2 w) (hn : NetLw w0 R B C last' l' cs' w') (hm : Mvg (POff R B C) (POff R B C) w w') : TwoG w0 R B C D S o last' l' cs' last2 l2 cs2 w' := by
  obtain ⟨v, vc, d, hz⟩ := h.doc
  have zR := hz R (.inl rfl)
  have zB := hz B (.inr (.inl rfl))
  have zC := hz C (.inr (.inr (.inl rfl)))
  have hD : POff R B C D := ⟨fun e => zR.1 e.symm, fun e => zB.1 e.symm, fun e => zC.1 e.symm⟩
  have ho : ∀ i, v.ownBlock = some i → POff R B C i := fun i hi => ⟨fun e => zR.2.1 (by rw [hi, e]), fun e => zB.2.1 (by rw [hi, e]), fun e => zC.2.1 (by rw [hi, e])⟩
  have hc : ∀ i, vc.ownBlock = some i → POff R B C i := fun i hi => ⟨fun e => zR.2.2 (by rw [hi, e]), fun e => zB.2.2 (by rw [hi, e]), fun e => zC.2.2 (by rw [hi, e])⟩
  exact ⟨hn, ⟨v, vc, ⟨(hm.block D (ltHeap d.obj) hD).trans d.obj, ownsKeep d.row (fun i hi => hm.block i (d.row.lt i hi).2 (ho i hi)), ownsKeep d.rowc (fun i hi => hm.block i (d.rowc.lt i hi).2 (hc i hi)), d.ne, d.nec, d.nev⟩, hz⟩, (hm.block S (ltHeap h.row) h.off).trans h.row, h.off⟩
theorem TwoG.stepD {v vc v' vc' : Value} {last' : Int} {l' : List Msg} {cs' : List Wy} (h : TwoG w0 R B C D S o last l cs last2 l2 cs2 w) (hz : ∀ i, (i = R ∨ i = B ∨ i = C ∨ i = S ∨ i < w0.heap.size) → NOff D v vc i) (d' : DNet D v' vc' last' l' cs' w') (hm : Mvg (NOff D v vc) (NOff D v' vc') w w') : TwoG w0 R B C D S o last l cs last' l' cs' w' := by
  have hs := h.net.bel.size
  have lt : ∀ i, (i = R ∨ i = B ∨ i = C ∨ i = S ∨ i < w0.heap.size) → i < w.heap.size := fun i hi => by
    rcases hi with h1 | h1 | h1 | h1 | h1
    · rw [h1]; exact ltHeap h.net.p.obj
    · rw [h1]; exact h.net.p.on.lt
    · rw [h1]
      obtain ⟨n, _, h3⟩ := h.net.p.cut
      exact h3.lt
    · rw [h1]; exact ltHeap h.row
    · omega
  refine ⟨⟨h.net.p.keep fun i hi hn => hm.block i hi (hz i ?_), h.net.g, h.net.r, h.net.lo, ⟨hm.os.trans h.net.bel.os, hm.tape.trans h.net.bel.tape, hm.output.trans h.net.bel.output, Nat.le_trans hs hm.size, fun i hi => (hm.block i (by omega) (hz i (by omega))).trans (h.net.bel.block i hi)⟩, h.net.l0, h.net.len⟩, ⟨v', vc', d', fun i hi => hm.keep i (lt i hi) (hz i hi)⟩, (hm.block S (ltHeap h.row) (hz S (by omega))).trans h.row, h.off⟩
  unfold POff at hn
  omega
theorem lies_from {A : Option Addr} {xs : List Value} (h : NetLw w0 R B C last l cs w) (ht : Lies w0 w0.heap.size A xs) : Lies w w.heap.size A xs := (ht.below h.bel).mono h.bel.size
end
end Gm

section
variable {w0 V : World} {R B C D S : Nat} {o : Obj} {la last : Int} {l l2 : List Gm.Msg} {cs cs2 : List Gm.Wy}
theorem two_sendD (h : Gm.TwoG w0 R B C D S o la l cs last l2 cs2 V) (hl : l2.length ≤ 4096) (l0 : 0 ≤ last) (l1 : last ≤ 900000) (fr : Int) (text : ByteArray) (tos : List Int) (A : Option Addr) (c : Nat) (ht : Lies w0 w0.heap.size A (icells tos)) (hn : tos.length ≤ 5000) :
    Calls Try.prog 8 #[.pointer (some ⟨D, 0, none⟩), .int .i64 fr, .string text, .slice A tos.length c] V fun e w' =>
      e = .returned (.tuple #[.int .i64 (Gm.sendN fr text tos l2.length), .int .i64 (Gm.sendC fr text tos l2.length)]) ∧ Gm.TwoG w0 R B C D S o la l cs (Gm.sendM fr text tos last l2) (Gm.sendL fr text tos last l2) cs2 w' := by
  obtain ⟨v, vc, d, hz⟩ := h.doc
  refine (nsend d hl l0 l1 fr text tos A c (Gm.lies_from h.net ht) (fun hne p hp => ?_) hn).mono ?_
  · obtain ⟨ad, e, hb, _⟩ := ht (by cases tos with | nil => exact absurd rfl hne | cons => simp [icells])
    rw [hp] at e
    rw [Option.some.inj e]
    exact hz _ (.inr (.inr (.inr (.inr hb))))
  · rintro e w' ⟨he, v', d', hm⟩
    exact ⟨he, h.stepD hz d' hm⟩
theorem two_takeD {V' : World} {oX : Obj} (h : Gm.TwoG w0 R B C D S o la l cs last l2 cs2 V) (hb : Below V.heap.size V V') (hX : V'.heap[V.heap.size]? = some oX) (hl : l2.length ≤ 4096) (hcl : cs2.length ≤ 100000) (hd : Gm.DistM l2) (id : Int) :
    Calls Try.prog 10 #[.pointer (some ⟨D, 0, none⟩), .int .u64 id] V' fun e w' => e = Gm.takeE id cs2 l2 ∧ Gm.TwoG w0 R B C D S o la l cs last (Gm.takeL id cs2 l2) cs2 w' ∧ w'.heap[V.heap.size]? = some oX := by
  obtain ⟨v, vc, d, hz⟩ := h.doc
  refine (ntake (d.below hb) (by omega) hcl hd id).mono ?_
  rintro e w' ⟨v', l', ht, d', hm⟩
  obtain ⟨he, rfl⟩ := Gm.take_eq hd ht
  exact ⟨he, (h.below hb).stepD hz d' hm, (hm.block _ (Gm.ltHeap hX) (Gm.NOff.fresh d (Nat.le_refl _))).trans hX⟩
theorem two_dropD (h : Gm.TwoG w0 R B C D S o la l cs last l2 cs2 V) (hl : l2.length ≤ 4096) (hd : Gm.DistM l2) (id : Int) :
    Calls Try.prog 12 #[.pointer (some ⟨D, 0, none⟩), .int .u64 id] V fun e w' => e = .returned (.int .i64 (Gm.dropN id l2)) ∧ Gm.TwoG w0 R B C D S o la l cs last (Gm.dropM id l2) cs2 w' := by
  obtain ⟨v, vc, d, hz⟩ := h.doc
  refine (ndrop d (by omega) hd id).mono ?_
  rintro e w' ⟨he, v', d', hm⟩
  exact ⟨he, h.stepD hz d' hm⟩
theorem two_doubleD (h : Gm.TwoG w0 R B C D S o la l cs last l2 cs2 V) (hl : l2.length ≤ 4096) (hd : Gm.DistM l2) (l0 : 0 ≤ last) (l1 : last ≤ 900000) (id : Int) :
    Calls Try.prog 14 #[.pointer (some ⟨D, 0, none⟩), .int .u64 id] V fun e w' =>
      e = .returned (.tuple #[.int .u64 (Gm.dblN id last l2), .int .i64 (Gm.dblC id l2)]) ∧ Gm.TwoG w0 R B C D S o la l cs (Gm.dblM id last l2) (Gm.dblL id last l2) cs2 w' := by
  obtain ⟨v, vc, d, hz⟩ := h.doc
  refine (ndouble d (by omega) hd l0 l1 id).mono ?_
  rintro e w' ⟨he, v', d', hm⟩
  exact ⟨he, h.stepD hz d' hm⟩
theorem two_cutD (h : Gm.TwoG w0 R B C D S o la l cs last l2 cs2 V) (hcl : cs2.length ≤ 100000) (a b : Int) :
    Calls Try.prog 16 #[.pointer (some ⟨D, 0, none⟩), .int .i64 a, .int .i64 b] V fun e w' => e = .returned (.int .i64 (Gm.cutC a b)) ∧ Gm.TwoG w0 R B C D S o la l cs last l2 (Gm.cutL a b cs2) w' := by
  obtain ⟨v, vc, d, hz⟩ := h.doc
  refine (ncut d hcl a b).mono ?_
  rintro e w' ⟨he, v', d', hm⟩
  exact ⟨he, h.stepD hz d' hm⟩
theorem two_healD (h : Gm.TwoG w0 R B C D S o la l cs last l2 cs2 V) (hcl : cs2.length ≤ 100000) (a b : Int) :
    Calls Try.prog 18 #[.pointer (some ⟨D, 0, none⟩), .int .i64 a, .int .i64 b] V fun e w' => e = .returned (.int .i64 (Gm.cutC a b)) ∧ Gm.TwoG w0 R B C D S o la l cs last l2 (Gm.healL a b cs2) w' := by
  obtain ⟨v, vc, d, hz⟩ := h.doc
  refine (nheal d hcl a b).mono ?_
  rintro e w' ⟨he, v', d', hm⟩
  exact ⟨he, h.stepD hz d' hm⟩
/-- Ready, of both. -/
theorem two_readyP (h : Gm.PairG w0 R B C D last l cs V) (hlast : last ≤ 1000000) :
    Calls Try.prog 19 #[.pointer (some ⟨R, 0, none⟩)] V fun e w' => ∃ (A : Option Addr) (c : Nat), e = .returned (.slice A (Gm.rdy cs l).length c) ∧ Lies w' w'.heap.size A (Gm.ucells (Gm.rdy cs l)) ∧ Gm.PairG w0 R B C D last l cs w' ∧ Below V.heap.size V w' := by
  refine (glw_ready h.net hlast (updq_ok _ (by have := h.net.len; omega))).mono ?_
  rintro e w' ⟨v, rfl, hrow, hb⟩
  rw [Gm.stop_rdy h.net.g.1] at hrow
  obtain ⟨A, c, rfl⟩ := Gm.own_form hrow
  exact ⟨A, c, rfl, Gm.own_liesU hrow, h.below hb, hb⟩
theorem two_readyD (h : Gm.PairG w0 R B C D last l cs V) (hcl : cs.length ≤ 100000) :
    Calls Try.prog 20 #[.pointer (some ⟨D, 0, none⟩)] V fun e w' => ∃ (A : Option Addr) (c : Nat), e = .returned (.slice A (Gm.rdy cs l).length c) ∧ Lies w' w'.heap.size A (Gm.ucells (Gm.rdy cs l)) ∧ Gm.PairG w0 R B C D last l cs w' ∧ Below V.heap.size V w' := by
  obtain ⟨v, vc, d, hz⟩ := h.doc
  refine (nready d (by have := h.net.len; omega) hcl).mono ?_
  rintro e w' ⟨A, c, rfl, hrow, hb⟩
  exact ⟨A, c, rfl, Gm.own_liesU hrow, h.below hb, hb⟩
end

set_option maxRecDepth 20000 in
set_option maxHeartbeats 2000000 in
theorem gsame (l : List Gm.Msg) (hl : l.length ≤ 100000) (A1 A2 : Option Addr) (c1 c2 : Nat) (w : World) (h1 : Lies w w.heap.size A1 (Gm.msgs l)) (h2 : Lies w w.heap.size A2 (Gm.msgs l)) :
    Calls Try.prog 21 #[.slice A1 l.length c1, .slice A2 l.length c2] w fun e w' => e = .returned (.bool true) ∧ ∃ q, w' = w.drewN q := by
  have H1 := Lib.hid h1
  have H2 := Lib.hid h2
  clear h1 h2
  go_enter Try.func21, Try.ntmps21
  go_wp2_with fail
  go_loopw [5] (fun s wr => ∃ k : Nat, k ≤ l.length ∧ s = .int .i64 k ∧ ∃ q, wr = w.drewN q) (fun s _ => l.length - (intOf s).toNat)
  case atStart => exact ⟨0, Nat.zero_le _, rfl, 0, rfl⟩
  case round =>
    obtain ⟨k, hk, rfl, q, rfl⟩ := hrel
    by_cases hlt : k < l.length
    · obtain ⟨p, rfl, pb, p0, p1, p2, p3⟩ := Gm.at4 H1.out hlt
      obtain ⟨r, rfl, rb, r0, r1, r2, r3⟩ := Gm.at4 H2.out hlt
      have k0 : (0 : Int) ≤ (k : Int) := by omega
      have k1 : (k : Int) < (l.length : Int) := by omega
      generalize l[k] = x at p0 p1 p2 p3 r0 r1 r2 r3
      obtain ⟨xi, xf, xt, xs⟩ := x
      simp only [] at p0 p1 p2 p3 r0 r1 r2 r3
      clear pb rb hlt
      go_wp2_with fail
      go_quiet (fail)
      go_wp2_with fail
      go_roundw
      case rel => exact ⟨k + 1, by omega, by go_num, by first | exact ⟨_, rfl⟩ | (simp only [World.drewN_drewN]; exact ⟨_, rfl⟩)⟩
      case measure => simp [intOf]; omega
    · have k1 : ¬ (k : Int) < (l.length : Int) := by omega
      clear hlt
      go_wp2_with fail
      go_ret
      exact ⟨rfl, q, rfl⟩

/-- List of the program's, and the law's same. -/
theorem two_list {w0 V : World} {R B C D : Nat} {last : Int} {l : List Gm.Msg} {cs : List Gm.Wy} (h : Gm.PairG w0 R B C D last l cs V) (hlast : last ≤ 1000000) (A7 : Option Addr) (n7 : Nat) (c1 : V.cell? ⟨D, 1, none⟩ = some (.slice A7 l.length n7)) (A5 A6 : Option Addr) (xs : List Value) (h5 : Lies V V.heap.size A5 xs) (h6 : Lies V V.heap.size A6 xs) :
    Calls Try.prog 22 #[.pointer (some ⟨R, 0, none⟩)] V fun e w5 => ∃ (A8 : Option Addr) (n8 : Nat), e = .returned (.slice A8 l.length n8) ∧ w5.cell? ⟨D, 1, none⟩ = some (.slice A7 l.length n7) ∧
      Hid (Calls Try.prog 21 #[.slice A8 l.length n8, .slice A7 l.length n7] w5 fun e w6 => e = .returned (.bool true) ∧ w6.cell? ⟨D, 1, none⟩ = some (.slice A7 l.length n7) ∧ Hid ((Lies w6 w6.heap.size A5 xs ∧ Lies w6 w6.heap.size A6 xs) ∧ Gm.PairG w0 R B C D last l cs w6)) := by
  obtain ⟨v, vc, d, hz⟩ := h.doc
  obtain rfl : v = _ := Option.some.inj (d.c1.symm.trans c1)
  refine (glw_list h.net hlast).mono ?_
  rintro e w5 ⟨v5, rfl, hrow, hb⟩
  obtain ⟨A8, n8, rfl⟩ := Gm.own_form hrow
  have d5 := d.below hb
  refine ⟨A8, n8, rfl, d5.c1, ?_⟩
  refine (gsame l (by have := h.net.len; omega) A8 A7 n8 n7 w5 (Gm.own_liesM hrow) (Gm.own_liesM d5.row)).mono ?_
  rintro e w6 ⟨rfl, q, rfl⟩
  have hbq : Below w5.heap.size w5 (w5.drewN q) := Gm.belDN (Below.refl _ _) q
  exact ⟨rfl, (d5.below hbq).c1, ⟨((h5.below hb).mono hb.size).below hbq, ((h6.below hb).mono hb.size).below hbq⟩, (h.below hb).below hbq⟩
end Go.Proofs.Ytfhengihdlojmaa
