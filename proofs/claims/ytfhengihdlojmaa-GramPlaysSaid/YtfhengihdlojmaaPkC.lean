/-
  The numbers of all messages, rising.
-/
import Derived.Test.YtfhengihdlojmaaPkB
import Derived.Test.YtfhengihdlojmaaUsE
namespace Go.Proofs.Ytfhengihdlojmaa
open Go.RowKit Go.Shelf

namespace Gm
/-- Rising numbers. -/
def RiseM (l : List Msg) : Prop := l.Pairwise fun a b => a.id < b.id
theorem RiseM.dist {l : List Msg} (h : RiseM l) : DistM l := h.imp fun h => by omega
def ids (l : List Msg) : List Int := l.map Msg.id
theorem ids_len (l : List Msg) : (ids l).length = l.length := by simp [ids]
theorem hasM_ids (x : Int) (l : List Msg) : hasM x l = true ↔ x ∈ ids l := by
  rw [hasM_iff, ids, List.mem_map]
theorem sorted_ids {d : Array Int} {l : List Msg} (hr : RiseM l) (hp : d.toList.Perm (ids l)) (hs : Sort.SortedIn Sort.ltInt 0 d.size d) : d.toList = ids l := by
  refine hp.eq_of_pairwise (le := fun a b => a ≤ b) (fun a b _ _ h1 h2 => by omega) ?_ ?_
  · rw [List.pairwise_iff_getElem]
    intro i j hi hj hij
    have h := hs i j (Nat.zero_le _) hij (by simpa using hj)
    rw [getElem!_pos d i (by simpa using hi), getElem!_pos d j (by simpa using hj)] at h
    unfold Sort.ltInt at h
    simp only [decide_eq_false_iff_not] at h
    simp only [Array.getElem_toList]
    omega
  · unfold ids
    exact List.pairwise_map.2 (hr.imp fun h => by omega)
theorem perm_toList {n : Nat} {d d' : Array Int} (hn : n = d.size) (h : Sort.PermIn 0 n d d') : d'.size = d.size ∧ d'.toList.Perm d.toList := by
  refine ⟨h.1, ?_⟩
  have := h.2.2
  rw [hn] at this
  rwa [show d'.extract 0 d.size = d' by rw [← h.1]; simp, show d.extract 0 d.size = d by simp] at this
/-- A row of its own is a row to sort. -/
theorem own_row {w : World} {base : Nat} {v : Value} {ss : List Int} (h : w.ownsRow base 28 1 v ss.length (ucells ss)) :
    (v = .slice none 0 0 ∧ ss = []) ∨ ∃ g cap rest, v = .slice (some ⟨g, 0, none⟩) ss.length cap ∧ base ≤ g ∧ ss.length ≤ cap ∧ cap ≤ maxLen ∧ rest.length = cap - ss.length ∧ Us.Row w g rest ss.toArray w := by
  rcases h.2 with ⟨rfl, h0⟩ | ⟨g, cap, cur, rfl, hg, hh, h1, h2, h3, h4⟩
  · exact .inl ⟨rfl, List.eq_nil_of_length_eq_zero h0⟩
  · refine .inr ⟨g, cap, cur.toList.drop (ss.length * 1), rfl, hg, h1, h2, by simp; omega, Us.Row.start ?_⟩
    rw [hh]
    congr 2
    apply Array.ext'
    have e : ucells ss = ss.toArray.toList.map (Value.int .u64) := rfl
    simp only
    rw [← e, ← h4, List.take_append_drop]
theorem row_own {w0 w : World} {base g cap : Nat} {rest : List Value} {d : Array Int} (h : Us.Row w0 g rest d w) (hb : base ≤ g) (h1 : d.size ≤ cap) (h2 : cap ≤ maxLen) (hr : rest.length = cap - d.size) :
    w.ownsRow base 28 1 (.slice (some ⟨g, 0, none⟩) d.size cap) d.size (ucells d.toList) := by
  refine ⟨by simp [ucells], .inr ⟨g, cap, _, rfl, hb, h.row, h1, h2, ?_, ?_⟩⟩
  · simp [hr]; omega
  · simp only [Nat.mul_one]
    rw [List.take_append_of_le_length (by simp), List.take_of_length_le (by simp)]
    rfl
end Gm

set_option maxRecDepth 20000 in
set_option maxHeartbeats 1000000 in
theorem usort_nil (w : World) : Calls Try.prog 42 #[.slice none 0 0] w fun e w' => e = .returned (.tuple #[]) ∧ w = w' := by
  have HI : Hid (∀ w, Calls Try.prog 47 #[.slice none 0 0, .int .i64 0, .int .i64 0] w fun e w' => e = .returned (.tuple #[]) ∧ w = w') := fun w => by
    go_enter Try.func47, Try.ntmps47
    go_wp2_with fail
    go_loopw [6] (fun v wr => v = .int .i64 1 ∧ wr = w) (fun _ _ => 0)
    case atStart => exact ⟨rfl, rfl⟩
    case round =>
      obtain ⟨rfl, rfl⟩ := hrel
      go_wp2_with fail
      go_end0
      exact ⟨rfl, rfl⟩
  have HP : Hid (∀ (m : Nat) (w : World), Calls Try.prog 45 #[.slice none 0 0, .int .i64 0, .int .i64 0, .int .i64 (m : Int)] w fun e w' => e = .returned (.tuple #[]) ∧ w = w') := fun m w => by
    go_enter Try.func45, Try.ntmps45
    go_wp2_with fail
    go_loopw [1, 2] (fun v1 v wr => v1 = .int .i64 0 ∧ v = .int .i64 0 ∧ wr = w) (fun _ _ _ => 0)
    case atStart => exact ⟨rfl, rfl, rfl⟩
    case round =>
      obtain ⟨rfl, rfl, rfl⟩ := hrel
      go_wp2_with fail
      refine (HI.out _).mono ?_
      rintro e w1 ⟨rfl, rfl⟩
      go_wp2_with fail
      refine bodyPost_ret (results_none rfl _ _ _) rfl ?_
      exact ⟨rfl, rfl⟩
  have HL := Lib.hid (ulen 0 w (by omega))
  generalize Lib.bitLen 0 = m at HL
  have HP2 := Lib.hid (HP.out m w)
  clear HI HP
  go_enter Try.func42, Try.ntmps42
  go_wp2_with fail
  refine HL.out.mono ?_
  rintro e w1 ⟨rfl, rfl⟩
  go_wp2_with fail
  refine HP2.out.mono ?_
  rintro e w1 ⟨rfl, rfl⟩
  go_wp2_with fail
  go_end0
  exact ⟨rfl, rfl⟩

set_option maxRecDepth 20000 in
theorem gcollect (gf : Nat) (lb : Array Value) (eg : ∀ args w, (callFunc gf args).run Try.prog w = .ok (.enter gf args) w) (S Sp : List Int → Prop) (N : Nat) (hN : N ≤ 1000000) (w : World)
    (hseq : SeqStopsK Fence.wide 4 Try.prog gf lb (fun x : Int => #[.int .u64 x]) KeepsWalks S Sp N w) :
    Calls Try.prog 41 #[.func (.func gf) #[] lb] w fun e w' => ∃ (v : Value) (ss : List Int), e = .returned v ∧ S ss ∧ w'.ownsRow w.heap.size 28 1 v ss.length (Gm.ucells ss) ∧ Below w.heap.size w w' := by
  have HA := Lib.hid ((callsIn_wide (n := 5)).1 (gappendSeq 5 (by omega) gf lb eg S Sp N hN w hseq))
  clear hseq eg
  go_enter Try.func41, Try.ntmps41
  go_wp2_with fail
  refine HA.out.mono ?_
  rintro e w1 ⟨v, ss, rfl, h⟩
  have H := Lib.hid h
  clear h
  go_wp2_with fail
  go_ret
  exact ⟨v, ss, rfl, H.out⟩

set_option maxRecDepth 20000 in
set_option maxHeartbeats 1000000 in
theorem gsorted (gf : Nat) (lb : Array Value) (eg : ∀ args w, (callFunc gf args).run Try.prog w = .ok (.enter gf args) w) (l : List Gm.Msg) (hr : Gm.RiseM l) (hp : Us.PdqOk l.length) (hl : l.length ≤ 100000) (w : World)
    (hseq : SeqStopsK Fence.wide 4 Try.prog gf lb (fun x : Int => #[.int .u64 x]) KeepsWalks (fun ss => ss.Perm (Gm.ids l)) (fun _ => True) l.length w) :
    Calls Try.prog 39 #[.func (.func gf) #[] lb] w fun e w' => ∃ v : Value, e = .returned v ∧ w'.ownsRow w.heap.size 28 1 v l.length (Gm.ucells (Gm.ids l)) ∧ Below w.heap.size w w' := by
  have HC := Lib.hid (gcollect gf lb eg _ _ l.length (by omega) w hseq)
  clear hseq eg
  go_enter Try.func39, Try.ntmps39
  go_wp2_with fail
  refine HC.out.mono ?_
  rintro e w1 ⟨v, ss, rfl, hperm, hrow, hb⟩
  have hlen : ss.length = l.length := by rw [hperm.length_eq, Gm.ids_len]
  rcases Gm.own_row hrow with ⟨rfl, rfl⟩ | ⟨g, cap, rest, rfl, hg, hc1, hc2, hre, hR⟩
  · have hl0 : l = [] := List.eq_nil_of_length_eq_zero (by simpa using hlen.symm)
    subst hl0
    have HROW := Lib.hid (And.intro hrow hb)
    clear hrow hb hperm
    go_wp2_with fail
    refine (usort_nil _).mono ?_
    rintro e w2 ⟨rfl, rfl⟩
    go_wp2_with fail
    go_ret
    exact ⟨_, rfl, HROW.out.1, HROW.out.2⟩
  · have HS := Lib.hid (usort hR (by simpa [hlen] using hp) (by simp [hlen]; omega) cap)
    have HB := Lib.hid (And.intro hb (And.intro hperm (And.intro hg (And.intro hc1 (And.intro hc2 (And.intro hre (And.intro hlen hr)))))))
    have es : ss.toArray.size = ss.length := by simp
    rw [es] at HS
    clear hR hrow hb hperm hg hc1 hc2 hre hlen hr es hl hp
    go_wp2_with fail
    refine HS.out.mono ?_
    rintro e w2 ⟨rfl, d', hR', hP', hS'⟩
    obtain ⟨hb, hperm, hg, hc1, hc2, hre, hlen, hr⟩ := HB.out
    obtain ⟨q1, q2⟩ := Gm.perm_toList (by simp) hP'
    have q3 : d'.size = ss.length := by simpa using q1
    have q4 : d'.toList = Gm.ids l := Gm.sorted_ids hr (q2.trans (by simpa using hperm)) (by rw [q3]; exact hS')
    have ho := Gm.row_own (base := w.heap.size) (cap := cap) hR' hg (by omega) hc2 (by omega)
    rw [q3, q4, hlen] at ho
    have hE : Hid (w2.ownsRow w.heap.size 28 1 (.slice (some ⟨g, 0, none⟩) ss.length cap) l.length (Gm.ucells (Gm.ids l)) ∧ Below w.heap.size w w2) := by
      refine ⟨by rw [hlen]; exact ho, hb.trans ⟨hR'.mv.os, hR'.mv.tape, hR'.mv.output, hR'.mv.size, fun i hi => hR'.mv.block i (by have := hb.size; omega) (by omega)⟩⟩
    clear hR' hP' hS' hb hperm hg hc1 hc2 hre hlen hr q1 q2 q3 q4 ho HB
    go_wp2_with fail
    go_ret
    exact ⟨_, rfl, hE.out⟩

set_option maxRecDepth 20000 in
set_option maxHeartbeats 1000000 in
theorem grising {R B C : Nat} {last : Int} {l : List Gm.Msg} {cs : List Gm.Wy} {w : World} (h : Gm.PNet R B C last l cs w) (hg : Gm.Good last l) (hr : Gm.RiseM l) (hlast : last ≤ 1000000) (hp : Us.PdqOk l.length) (hl : l.length ≤ 100000) :
    Calls Try.prog 35 #[.pointer (some ⟨R, 0, none⟩)] w fun e w' => ∃ v : Value, e = .returned v ∧ w'.ownsRow w.heap.size 28 1 v l.length (Gm.ucells (Gm.ids l)) ∧ Below w.heap.size w w' := by
  have c1 := h.c1
  obtain ⟨W, hW⟩ : ∃ W, W = w.alloc (.cells #[.map (some B)] 53) := ⟨_, rfl⟩
  have hb : Below w.heap.size w W := by rw [hW]; exact (Below.refl _ _).alloc (Nat.le_refl _) _
  have hbox : W.heap[w.heap.size]? = some (.cells #[.map (some B)] 53 (0, 0)) := by rw [hW]; exact heap_alloc_new w _
  obtain ⟨D, h1, h2, h3⟩ := (h.below hb).on
  have hseq : SeqStopsK Fence.wide 4 Try.prog 43 #[.pointer (some ⟨w.heap.size, 0, none⟩)] (fun x : Int => #[.int .u64 x]) KeepsWalks (fun ss => ss.Perm (Gm.ids l)) (fun _ => True) l.length W := fun li J Jx X hX hJ hJx hY h0 => by
    have hown : X.ownsMap Try.prog 28 Gm.heldE B l.length D := by
      have hbl := h1.lt
      obtain ⟨es, clock, he, F, hs, hD⟩ := h1
      exact ⟨es, clock, (hX.block B hbl).trans he, F, hs, hD⟩
    have hcell : X.cell? ⟨w.heap.size, 0, none⟩ = some (.map (some B)) := cell_of_row _ _ 0 _ _ _ ((hX.block _ (Gm.ltHeap hbox)).trans hbox)
    refine (gkeys1_in 4 (by omega) li w.heap.size B l.length D J Jx (fun pre x W1 a b => hY pre x W1 a (by rw [h2] at b; exact b)) X hJ hcell hown h0).mono ?_
    rintro e W' ⟨hv, ⟨ss, ⟨hnd, hwf, hm⟩, hJ'⟩ | h⟩
    · refine ⟨hv, .inl ⟨ss, ?_, hJ'⟩⟩
      refine (List.perm_ext_iff_of_nodup hnd ?_).2 fun x => ?_
      · unfold Gm.ids
        exact List.pairwise_map.2 (hr.dist)
      · by_cases hx : 0 ≤ x ∧ x < 18446744073709551616
        · rw [hm x, (h3 (.int .u64 x) _ (Maps.keyOf_int_mk Try.underlying28 (by simp [Lit.wf, IntKind.min, IntKind.max, IntKind.bits, IntKind.signed]; omega))).1, Gm.onF_has, Gm.hasM_ids]
        · constructor
          · intro hx2
            have := hwf x hx2
            simp [Lit.wf, IntKind.min, IntKind.max, IntKind.bits, IntKind.signed] at this
            omega
          · intro hx2
            obtain ⟨y, hy, rfl⟩ := List.mem_map.1 hx2
            have := hg.2.1 y hy
            omega
    · exact ⟨hv, .inr h⟩
  have HK := Lib.hid (gkeys B w)
  have HS := Lib.hid (gsorted _ _ (enters_of Try.func43 (by kernel_rfl) rfl) l hr hp hl W hseq)
  have HB := Lib.hid (And.intro hb hW)
  clear h h1 h2 h3 hseq hbox hg hr hp hl hb
  go_enter Try.func35, Try.ntmps35
  go_wp2_with fail
  refine HK.out.mono ?_
  rintro e w1 ⟨rfl, rfl⟩
  go_wp2_with fail
  rw [← hW]
  clear hW
  refine HS.out.mono ?_
  rintro e w2 ⟨v, rfl, hrow, hb2⟩
  have HE : Hid (w2.ownsRow w.heap.size 28 1 v l.length (Gm.ucells (Gm.ids l)) ∧ Below w.heap.size w w2) := by
    obtain ⟨hb, hW⟩ := HB.out
    refine ⟨?_, hb.trans (hb2.mono hb.size)⟩
    obtain ⟨hl, h0 | ⟨g, cap, cur, e1, hg, r⟩⟩ := hrow
    · exact ⟨hl, .inl h0⟩
    · exact ⟨hl, .inr ⟨g, cap, cur, e1, Nat.le_trans hb.size hg, r⟩⟩
  clear hrow hb2 HB
  go_wp2_with fail
  go_ret
  exact ⟨v, rfl, HE.out⟩
end Go.Proofs.Ytfhengihdlojmaa
