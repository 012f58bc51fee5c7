/-
  The program's timers and the document's side by side.
-/
import Derived.Test.YtnojjfpccnmbeaaL08S
namespace Go.Proofs.Ytnojjfpccnmbeaa
open Go.RowKit

namespace Tk
theorem PTm.keep {T Q B : Nat} {v : Value} {c : Int} {l : List Tm} {w w' : World} (h : PTm T Q B v c l w) (hk : ∀ i, i < w.heap.size → (i = T ∨ i = Q ∨ i = B ∨ v.ownBlock = some i) → w'.heap[i]? = w.heap[i]?) : PTm T Q B v c l w' := by
  obtain ⟨f, r1, r2⟩ := h.q.raw
  exact ⟨(hk T (ltHeap h.obj) (.inl rfl)).trans h.obj, ⟨⟨f, ⟨(hk Q (ltHeap r1.obj) (.inr (.inl rfl))).trans r1.obj, ownsKeep r1.row (fun j hj => hk j (r1.row.lt j hj).2 (.inr (.inr (.inr hj)))), r1.mp.of_block (hk B r1.mp.lt (.inr (.inr (.inl rfl)))), r1.neQ, r1.neB, r1.QB⟩, r2⟩, h.q.dist, h.q.keys⟩, h.hp, h.nT⟩
theorem lies_block {w w' : World} {B B' : Nat} {A : Option Addr} {xs : List Value} (h : Lies w B A xs) (hk : ∀ ad, A = some ad → w'.heap[ad.block]? = w.heap[ad.block]?) (hB : B ≤ B') : Lies w' B' A xs := fun h0 => by
  obtain ⟨ad, e, hb, hc⟩ := h h0
  exact ⟨ad, e, Nat.lt_of_lt_of_le hb hB, fun j u hu => (World.cell?_of_block (by rw [Lies.add_block]; exact hk ad e)).trans (hc j u hu)⟩
/-- The program's timers and the document's, apart from each other, made since w. -/
structure Duo (w : World) (T Q B R : Nat) (v vr : Value) (c cr : Int) (l m : List Tm) (wr : World) : Prop where
  p : PTm T Q B v c l wr
  d : DTm R vr cr m wr
  aR : POff T Q B v R
  aV : ∀ g, vr.ownBlock = some g → POff T Q B v g
  low : ∀ i, i < w.heap.size → POff T Q B v i ∧ DOff R vr i
  bel : Below w.heap.size w wr
section
variable {w wr w' : World} {T Q B R : Nat} {v v' vr vr' : Value} {c c' cr cr' : Int} {l l' m m' : List Tm}
theorem Duo.stepP (h : Duo w T Q B R v vr c cr l m wr) (p' : PTm T Q B v' c' l' w') (mv : Mvt (POff T Q B v) (POff T Q B v') wr w') : Duo w T Q B R v' vr c' cr l' m w' := by
  have hs := h.bel.size
  have hR := ltHeap h.d.obj
  refine ⟨p', ⟨(mv.block R hR h.aR).trans h.d.obj, ownsKeep h.d.row (fun g hg => mv.block g (h.d.row.lt g hg).2 (h.aV g hg)), h.d.ne⟩, mv.keep R hR h.aR, fun g hg => mv.keep g (h.d.row.lt g hg).2 (h.aV g hg), fun i hi => ⟨mv.keep i (by omega) (h.low i hi).1, (h.low i hi).2⟩, ?_⟩
  exact ⟨mv.os.trans h.bel.os, mv.tape.trans h.bel.tape, mv.output.trans h.bel.output, Nat.le_trans h.bel.size mv.size, fun i hi => (mv.block i (by omega) (h.low i hi).1).trans (h.bel.block i hi)⟩
theorem Duo.doff (h : Duo w T Q B R v vr c cr l m wr) {i : Nat} (hi : i = T ∨ i = Q ∨ i = B ∨ v.ownBlock = some i) : DOff R vr i := by
  refine ⟨fun e => ?_, fun e => ?_⟩
  · subst e
    rcases hi with h1 | h1 | h1 | h1
    · exact h.aR.1 h1
    · exact h.aR.2.1 h1
    · exact h.aR.2.2.1 h1
    · exact h.aR.2.2.2 h1.symm
  · have := h.aV i e.symm
    rcases hi with h1 | h1 | h1 | h1
    · exact this.1 h1
    · exact this.2.1 h1
    · exact this.2.2.1 h1
    · exact this.2.2.2 h1.symm
theorem PTm.own_lt (h : PTm T Q B v c l wr) {i : Nat} (hi : i = T ∨ i = Q ∨ i = B ∨ v.ownBlock = some i) : i < wr.heap.size := by
  rcases hi with h1 | h1 | h1 | h1
  · rw [h1]; exact ltHeap h.obj
  · rw [h1]; exact h.q.ltQ
  · rw [h1]; exact h.q.ltB
  · exact h.q.own h1
theorem Duo.stepD (h : Duo w T Q B R v vr c cr l m wr) (d' : DTm R vr' cr' m' w') (mv : Mvt (DOff R vr) (DOff R vr') wr w') : Duo w T Q B R v vr' c cr' l m' w' := by
  have hs := h.bel.size
  refine ⟨h.p.keep fun i hi ho => mv.block i hi (h.doff ho), d', h.aR, fun g hg => ?_, fun i hi => ⟨(h.low i hi).1, mv.keep i (by omega) (h.low i hi).2⟩, ?_⟩
  · have hk : ∀ i, (i = T ∨ i = Q ∨ i = B ∨ v.ownBlock = some i) → i ≠ g := fun i hi e => by
      have := mv.keep i (h.p.own_lt hi) (h.doff hi)
      exact this.2 (by rw [e]; exact hg.symm)
    exact ⟨fun e => hk g (.inl e) rfl, fun e => hk g (.inr (.inl e)) rfl, fun e => hk g (.inr (.inr (.inl e))) rfl, fun e => hk g (.inr (.inr (.inr e.symm))) rfl⟩
  · exact ⟨mv.os.trans h.bel.os, mv.tape.trans h.bel.tape, mv.output.trans h.bel.output, Nat.le_trans h.bel.size mv.size, fun i hi => (mv.block i (by omega) (h.low i hi).2).trans (h.bel.block i hi)⟩
theorem Duo.below (h : Duo w T Q B R v vr c cr l m wr) (hb : Below wr.heap.size wr w') : Duo w T Q B R v vr c cr l m w' :=
  ⟨h.p.below hb, h.d.below hb, h.aR, h.aV, h.low, h.bel.trans (hb.mono h.bel.size)⟩
theorem Duo.fresh (h : Duo w T Q B R v vr c cr l m wr) {g : Nat} (hg : wr.heap.size ≤ g) : POff T Q B v g ∧ DOff R vr g := ⟨h.p.fresh hg, DOff.fresh h.d hg⟩
/-- A row beside both: as it is, whatever both do. -/
structure Ex (T Q B R : Nat) (v vr : Value) (g : Nat) (o : Obj) (wr : World) : Prop where
  row : wr.heap[g]? = some o
  p : POff T Q B v g
  d : DOff R vr g
theorem Ex.stepP {g : Nat} {o : Obj} (h : Ex T Q B R v vr g o wr) (mv : Mvt (POff T Q B v) (POff T Q B v') wr w') : Ex T Q B R v' vr g o w' := ⟨(mv.block g (ltHeap h.row) h.p).trans h.row, mv.keep g (ltHeap h.row) h.p, h.d⟩
theorem Ex.stepD {g : Nat} {o : Obj} (h : Ex T Q B R v vr g o wr) (mv : Mvt (DOff R vr) (DOff R vr') wr w') : Ex T Q B R v vr' g o w' := ⟨(mv.block g (ltHeap h.row) h.d).trans h.row, h.p, mv.keep g (ltHeap h.row) h.d⟩
theorem Ex.below {g : Nat} {o : Obj} (h : Ex T Q B R v vr g o wr) (hb : Below wr.heap.size wr w') : Ex T Q B R v vr g o w' := ⟨(hb.block g (ltHeap h.row)).trans h.row, h.p, h.d⟩
end
theorem setL_len {c : Int} {l : List Tm} (k : ByteArray) (a : Int) (h : l.length ≤ 1024) : (setL c l k a).length ≤ 1024 := by
  unfold setL
  split
  · rename_i e
    rw [List.length_append, List.length_singleton]
    cases hh : has k l with
    | true => have := drop_less hh; omega
    | false =>
      have h1 : ¬ 1024 ≤ l.length := fun h2 => by
        unfold setC at e
        split at e
        · omega
        · split at e
          · omega
          · rw [if_pos ⟨hh, h2⟩] at e; omega
      have := drop_len k l
      omega
  · exact h
/-- What a round stands on. -/
def St2 (w : World) (T Q B R : Nat) (wr : World) : Prop := ∃ v vr c l m, Duo w T Q B R v vr c c l m wr ∧ l.Perm m ∧ m.length ≤ 1024 ∧ 0 ≤ c ∧ c ≤ 17592186044416
end Tk

section
variable {w wr : World} {T Q B R : Nat} {v vr : Value} {c : Int} {l m : List Tk.Tm}
theorem duo_setP (h : Tk.Duo w T Q B R v vr c c l m wr) (hp : l.Perm m) (hl : m.length ≤ 1024) (k : ByteArray) (a : Int) :
    Calls Try.prog 11 #[.pointer (some ⟨T, 0, none⟩), .string k, .int .i64 a] wr fun e w' => e = .returned (.int .i64 (Tk.setC c m k a)) ∧ ∃ v' l', Tk.Duo w T Q B R v' vr c c l' m w' ∧ l'.Perm (Tk.setL c m k a) ∧ Tk.Mvt (Tk.POff T Q B v) (Tk.POff T Q B v') wr w' := by
  refine (tkset h.p (by rw [hp.length_eq]; omega) k a).mono ?_
  rintro e w' ⟨he, v', l', p', mv, pe⟩
  rw [Tk.setC_perm hp] at he
  exact ⟨he, v', l', h.stepP p' mv, pe.trans (Tk.setL_perm hp k a), mv⟩
theorem duo_setD (h : Tk.Duo w T Q B R v vr c c l m wr) (hd : Tk.Dist m) (hl : m.length ≤ 1024) (k : ByteArray) (a : Int) :
    Calls Try.prog 13 #[.pointer (some ⟨R, 0, none⟩), .string k, .int .i64 a] wr fun e w' => e = .returned (.int .i64 (Tk.setC c m k a)) ∧ ∃ vr', Tk.Duo w T Q B R v vr' c c l (Tk.setL c m k a) w' ∧ Tk.Mvt (Tk.DOff R vr) (Tk.DOff R vr') wr w' := by
  refine (rset h.d (by omega) hd k a).mono ?_
  rintro e w' ⟨he, vr', d', mv⟩
  exact ⟨he, vr', h.stepD d' mv, mv⟩
/-- Both are set, one behind the other. -/
theorem duo_set (h : Tk.Duo w T Q B R v vr c c l m wr) (hp : l.Perm m) (hl : m.length ≤ 1024) (c0 : 0 ≤ c) (c1 : c ≤ 17592186044416) (k : ByteArray) (a : Int) {g : Nat} {o : Obj} (hx : Tk.Ex T Q B R v vr g o wr) :
    Calls Try.prog 11 #[.pointer (some ⟨T, 0, none⟩), .string k, .int .i64 a] wr fun e w' => e = .returned (.int .i64 (Tk.setC c m k a)) ∧ w'.heap[g]? = some o ∧ w'.cell? ⟨R, 0, none⟩ = some (.int .i64 c) ∧
      Hid (Calls Try.prog 13 #[.pointer (some ⟨R, 0, none⟩), .string k, .int .i64 a] w' fun e w2 => e = .returned (.int .i64 (Tk.setC c m k a)) ∧ w2.heap[g]? = some o ∧ w2.cell? ⟨R, 0, none⟩ = some (.int .i64 c) ∧ Hid (Tk.St2 w T Q B R w2)) := by
  have hd : Tk.Dist m := h.p.dist.perm hp
  refine (duo_setP h hp hl k a).mono ?_
  rintro e w' ⟨he, v', l', h', pe, mv⟩
  have hx' := hx.stepP mv
  refine ⟨he, hx'.row, h'.d.c0, ?_⟩
  refine (duo_setD h' hd hl k a).mono ?_
  rintro e w2 ⟨he2, vr', h2, mv2⟩
  exact ⟨he2, (hx'.stepD mv2).row, h2.d.c0, v', vr', c, l', _, h2, pe, Tk.setL_len k a hl, c0, c1⟩
theorem Tk.stop_sum {k1 k2 : ByteArray} (hp : l.Perm m) (hd : Tk.Dist l) : ((l.length - (Tk.stopL [k1, k2] l).length : Nat) : Int) = Tk.stopC k1 m + Tk.stopC k2 (Tk.drop k1 m) := by
  have h1 := Tk.drop_count hd k1
  have h2 := Tk.drop_count (Tk.Dist.drop (k := k1) hd) k2
  have e : Tk.stopL [k1, k2] l = Tk.drop k2 (Tk.drop k1 l) := rfl
  rw [e, ← Tk.stopC_perm hp, ← Tk.stopC_perm (Tk.drop_perm hp)]
  unfold Tk.stopC
  split <;> split <;> rename_i a1 a2
  · rw [if_pos a1] at h1; rw [if_pos a2] at h2; omega
  · rw [if_pos a1] at h1; rw [if_neg a2] at h2; omega
  · rw [if_neg a1] at h1; rw [if_pos a2] at h2; omega
  · rw [if_neg a1] at h1; rw [if_neg a2] at h2; omega
theorem Tk.stopL_perm (ks : List ByteArray) (hp : l.Perm m) : (Tk.stopL ks l).Perm (Tk.stopL ks m) := by
  unfold Tk.stopL
  induction ks generalizing l m with
  | nil => exact hp
  | cons k ks ih => exact ih (Tk.drop_perm hp)
theorem duo_stopP {cr : Int} (h : Tk.Duo w T Q B R v vr c cr l m wr) (hp : l.Perm m) (hl : m.length ≤ 1024) (k1 k2 : ByteArray) (h1 : k1.size ≤ maxLen) (h2 : k2.size ≤ maxLen) {g n : Nat} (hx : Tk.Ex T Q B R v vr g (.cells #[.string k1, .string k2] 9 (0, 0)) wr) :
    Calls Try.prog 14 #[.pointer (some ⟨T, 0, none⟩), .slice (some ⟨g, 0, none⟩) 2 n] wr fun e w' => e = .returned (.int .i64 (Tk.stopC k1 m + Tk.stopC k2 (Tk.drop k1 m))) ∧ ∃ v' l', Tk.Duo w T Q B R v' vr c cr l' m w' ∧ l'.Perm (Tk.drop k2 (Tk.drop k1 m)) ∧ Tk.Mvt (Tk.POff T Q B v) (Tk.POff T Q B v') wr w' := by
  have hli : Lies wr wr.heap.size (some ⟨g, 0, none⟩) ([k1, k2].map Value.string) := fun _ => ⟨_, rfl, Tk.ltHeap hx.row, fun j u hu => by
    rw [Tk.add0]
    exact (cell_of_row _ _ _ _ _ _ hx.row).trans (by simpa using hu)⟩
  have hs := tkstop h.p (by rw [hp.length_eq]; omega) [k1, k2] (some ⟨g, 0, none⟩) n hli (fun ad had => by
    obtain rfl := Option.some.inj had
    exact hx.p) (fun k hk => by
      simp only [List.mem_cons, List.not_mem_nil, or_false] at hk
      rcases hk with rfl | rfl
      · exact h1
      · exact h2) (by simp)
  rw [Tk.stop_sum hp h.p.dist] at hs
  refine Calls.mono hs ?_
  rintro e w' ⟨he, v', l', p', mv, pe⟩
  exact ⟨he, v', l', h.stepP p' mv, pe.trans (Tk.stopL_perm [k1, k2] hp), mv⟩
theorem duo_stopD {cr : Int} (h : Tk.Duo w T Q B R v vr c cr l m wr) (hd : Tk.Dist m) (hl : m.length ≤ 1024) (k : ByteArray) :
    Calls Try.prog 15 #[.pointer (some ⟨R, 0, none⟩), .string k] wr fun e w' => e = .returned (.int .i64 (Tk.stopC k m)) ∧ ∃ vr', Tk.Duo w T Q B R v vr' c cr l (Tk.drop k m) w' ∧ Tk.Mvt (Tk.DOff R vr) (Tk.DOff R vr') wr w' := by
  refine (rstop h.d (by omega) hd k).mono ?_
  rintro e w' ⟨he, vr', d', mv⟩
  exact ⟨he, vr', h.stepD d' mv, mv⟩
/-- A Tick that is refused. -/
theorem duo_tick_no {cr : Int} (h : Tk.Duo w T Q B R v vr c cr l m wr) (hp : l.Perm m) (hl : m.length ≤ 1024) (c0 : 0 ≤ c) (c1 : c ≤ 17592186044416) (b : Int) (hz : Tk.tickC c b ≠ 0) :
    Calls Try.prog 16 #[.pointer (some ⟨T, 0, none⟩), .int .i64 b] wr fun e w' => e = .returned (.tuple #[.slice none 0 0, .int .i64 (Tk.tickC c b)]) ∧ wr = w' := by
  refine (tktick h.p (by rw [hp.length_eq]; omega) c0 c1 b).mono ?_
  rintro e w' (⟨_, he, hw⟩ | ⟨h0, _⟩)
  · exact ⟨he, hw.symm⟩
  · exact absurd h0 hz
theorem duo_tickD_no (h : Tk.Duo w T Q B R v vr c c l m wr) (hl : m.length ≤ 1024) (c0 : 0 ≤ c) (c1 : c ≤ 17592186044416) (b : Int) (hz : Tk.tickC c b ≠ 0) :
    Calls Try.prog 17 #[.pointer (some ⟨R, 0, none⟩), .int .i64 b] wr fun e w' => e = .returned (.tuple #[.slice none 0 0, .int .i64 (Tk.tickC c b)]) ∧ wr = w' := by
  refine (rTick h.d (by omega) c0 c1 b).mono ?_
  rintro e w' (⟨_, he, hw⟩ | ⟨h0, _⟩)
  · exact ⟨he, hw.symm⟩
  · exact absurd h0 hz
/-- A Tick that goes well. -/
theorem duo_tickP {cr : Int} (h : Tk.Duo w T Q B R v vr c cr l m wr) (hp : l.Perm m) (hl : m.length ≤ 1024) (c0 : 0 ≤ c) (c1 : c ≤ 17592186044416) (b : Int) (hz : Tk.tickC c b = 0) :
    Calls Try.prog 16 #[.pointer (some ⟨T, 0, none⟩), .int .i64 b] wr fun e w' => ∃ (A : Option Addr) (n : Nat) (out rest : List Tk.Tm) (v' : Value), e = .returned (.tuple #[.slice A out.length n, .int .i64 0]) ∧ Tk.Due (c + b) l out rest ∧ Tk.Duo w T Q B R v' vr (c + b) cr rest m w' ∧ Tk.Mvt (Tk.POff T Q B v) (Tk.POff T Q B v') wr w' ∧
      Lies w' w'.heap.size A (Tk.tks out) ∧ ∀ ad, A = some ad → wr.heap.size ≤ ad.block := by
  refine (tktick h.p (by rw [hp.length_eq]; omega) c0 c1 b).mono ?_
  rintro e w' (⟨h0, _⟩ | ⟨_, A, n, out, rest, v', he, hd, p', mv, lo, la⟩)
  · exact absurd hz h0
  · exact ⟨A, n, out, rest, v', he, hd, h.stepP p' mv, mv, lo, fun ad had => (la ad had).1⟩
theorem duo_tickD {l2 : List Tk.Tm} {cc : Int} (h : Tk.Duo w T Q B R v vr cc c l2 m wr) (hl : m.length ≤ 1024) (c0 : 0 ≤ c) (c1 : c ≤ 17592186044416) (b : Int) (hz : Tk.tickC c b = 0) :
    Calls Try.prog 17 #[.pointer (some ⟨R, 0, none⟩), .int .i64 b] wr fun e w' => ∃ (A : Option Addr) (n : Nat) (out rest : List Tk.Tm) (vr' : Value), e = .returned (.tuple #[.slice A out.length n, .int .i64 0]) ∧ Tk.Due (c + b) m out rest ∧ Tk.Duo w T Q B R v vr' cc (c + b) l2 rest w' ∧ Tk.Mvt (Tk.DOff R vr) (Tk.DOff R vr') wr w' ∧
      Lies w' w'.heap.size A (Tk.tks out) := by
  refine (rTick h.d (by omega) c0 c1 b).mono ?_
  rintro e w' (⟨h0, _⟩ | ⟨_, A, n, out, rest, v', he, hd, d', mv, lo, la⟩)
  · exact absurd hz h0
  · exact ⟨A, n, out, rest, v', he, hd, h.stepD d' mv, mv, lo⟩
theorem Tk.tick_bounds {b : Int} (c0 : 0 ≤ c) (_ : c ≤ 17592186044416) (hz : Tk.tickC c b = 0) : 0 ≤ c + b ∧ c + b ≤ 17592186044416 := by
  unfold Tk.tickC at hz
  split at hz
  · cases hz
  · split at hz
    · cases hz
    · omega
/-- All of both, and that they are the same. -/
theorem duo_all (h : Tk.Duo w T Q B R v vr c c l m wr) (hp : l.Perm m) (hl : m.length ≤ 1024) :
    Calls Try.prog 22 #[.pointer (some ⟨T, 0, none⟩)] wr fun e w' => ∃ (A : Option Addr) (n N : Nat), e = .returned (.slice A N n) ∧ Below wr.heap.size wr w' ∧
      Hid (Calls Try.prog 23 #[.pointer (some ⟨R, 0, none⟩)] w' fun e w2 => ∃ (A2 : Option Addr) (n2 N2 : Nat), e = .returned (.slice A2 N2 n2) ∧ Below wr.heap.size wr w2 ∧
        Hid (Calls Try.prog 18 #[.slice A N n, .slice A2 N2 n2] w2 fun e w3 => e = .returned (.bool true) ∧ Below wr.heap.size wr w3)) := by
  have hd : Tk.Dist m := h.p.dist.perm hp
  refine (tkall h.p (by rw [hp.length_eq]; omega)).mono ?_
  rintro e w' ⟨A, n, out, he, po, so, lo, hb⟩
  refine ⟨A, n, out.length, he, hb, ?_⟩
  refine (rAll (h.below hb).d (by omega) hd).mono ?_
  rintro e w2 ⟨A2, n2, out2, he2, po2, so2, lo2, hb2⟩
  have hbb : Below wr.heap.size wr w2 := hb.trans (hb2.mono hb.size)
  refine ⟨A2, n2, out2.length, he2, hbb, ?_⟩
  have e1 : out = out2 := Tk.keys_one ((po.trans hp).trans po2.symm) so so2
  subst e1
  have hlen : out.length ≤ maxLen := by rw [po2.length_eq]; unfold maxLen; omega
  refine (tsame out out A A2 n n2 w2 ((lo.below hb2).mono hb2.size) lo2 hlen hlen).mono ?_
  rintro e w3 ⟨he3, hb3⟩
  exact ⟨by rw [he3, decide_eq_true rfl], hbb.trans (hb3.mono hbb.size)⟩
/-- What Next tells, in parts. -/
theorem Tk.nval_parts (o : Option Tk.Tm) : ∃ (k : ByteArray) (a : Int) (b : Bool), Tk.nval o = .tuple #[.agg #[.string k, .int .i64 a], .bool b] := by
  cases o with
  | none => exact ⟨⟨#[]⟩, 0, false, rfl⟩
  | some x => exact ⟨x.1, x.2, true, rfl⟩
theorem duo_next (h : Tk.Duo w T Q B R v vr c c l m wr) (hp : l.Perm m) (hl : m.length ≤ 1024) :
    Calls Try.prog 19 #[.pointer (some ⟨T, 0, none⟩)] wr fun e w' => ∃ (k : ByteArray) (a : Int) (b : Bool), e = .returned (.tuple #[.agg #[.string k, .int .i64 a], .bool b]) ∧ Below wr.heap.size wr w' ∧
      Hid (∀ W, Below wr.heap.size wr W → Calls Try.prog 20 #[.pointer (some ⟨R, 0, none⟩)] W fun e w2 => e = .returned (.tuple #[.agg #[.string k, .int .i64 a], .bool b]) ∧ Below W.heap.size W w2) := by
  refine (tknext h.p).mono ?_
  rintro e w' ⟨⟨o, he, ho⟩, hb⟩
  obtain ⟨k, a, b, hn⟩ := Tk.nval_parts o
  refine ⟨k, a, b, by rw [he, hn], hb, fun W hW => ?_⟩
  refine (rNext (h.below hW).d (by omega)).mono ?_
  rintro e w2 ⟨⟨o2, he2, ho2⟩, hb2⟩
  rw [← Tk.Told.one hp ho ho2, hn] at he2
  exact ⟨he2, hb2⟩
end
end Go.Proofs.Ytnojjfpccnmbeaa
