/-
  The program's timers, and a map that tells of each its tick.
-/
import Derived.Test.YtnojjfpccnmbeaaTpU
namespace Go.Proofs.Ytnojjfpccnmbeaa
open Go.RowKit

namespace Tk
/-- Block M is a map that tells of each timer of m its tick, and of no other key. -/
def MapOf (w : World) (M : Nat) (m : List Tm) : Prop := ∃ f, MapIs 2 w M f m.length ∧ (∀ x ∈ m, f x.1 = some x.2) ∧ ∀ k, (f k).isSome = has k m
theorem zero64 : ∀ w, (zeroValue 2).run Try.prog w = .ok (.int .i64 0) w := fun _ => by kernel_rfl
section
variable {w w' : World} {M : Nat} {m m' : List Tm}
theorem MapOf.perm (h : MapOf w M m) (hp : m.Perm m') : MapOf w M m' := by
  obtain ⟨f, h1, h2, h3⟩ := h
  exact ⟨f, by rw [← hp.length_eq]; exact h1, fun x hx => h2 x (hp.symm.subset hx), fun k => by rw [h3, has_perm hp]⟩
theorem MapOf.lt (h : MapOf w M m) : M < w.heap.size := by
  obtain ⟨f, h1, _⟩ := h
  exact h1.lt
theorem MapOf.of_block (h : MapOf w M m) (hb : w'.heap[M]? = w.heap[M]?) : MapOf w' M m := by
  obtain ⟨f, h1, h2⟩ := h
  exact ⟨f, h1.of_block hb, h2⟩
theorem MapOf.below (h : MapOf w M m) (hb : Below w.heap.size w w') : MapOf w' M m := h.of_block (hb.block _ h.lt)
theorem MapOf.made (w : World) : MapOf (w.alloc (.map #[] 0)) w.heap.size [] :=
  ⟨fun _ => none, MapIs.made w _, ⟨fun _ hx => absurd hx List.not_mem_nil, fun _ => rfl⟩⟩
theorem MapOf.look (h : MapOf w M m) (k : ByteArray) (hk : k.size ≤ maxLen) :
    ∃ r : Int, (Instr.lookup 47 (.map (some M)) (.string k) true).run Try.prog w = .ok (.tuple #[.int .i64 r, .bool (has k m)]) w := by
  obtain ⟨f, h1, h2, h3⟩ := h
  exact ⟨(f k).getD 0, by rw [h1.look Try.underlying2 Try.underlying47 (zero64 w) k hk, h3]⟩
theorem MapOf.at_ (h : MapOf w M m) {x : Tm} (hx : x ∈ m) (hk : x.1.size ≤ maxLen) :
    (Instr.lookup 47 (.map (some M)) (.string x.1) true).run Try.prog w = .ok (.tuple #[.int .i64 x.2, .bool true]) w := by
  obtain ⟨f, h1, h2, h3⟩ := h
  rw [h1.look Try.underlying2 Try.underlying47 (zero64 w) x.1 hk, h2 x hx]
  rfl
theorem MapOf.put (h : MapOf w M m) (hd : Dist m) (hn : m.length < maxLen) (k : ByteArray) (hk : k.size ≤ maxLen) (a : Int) (ha : (Lit.int .i64 a).wf = true) :
    ∃ w', (Instr.mapUpdate 47 (.map (some M)) (.string k) (.int .i64 a)).run Try.prog w = .ok () w' ∧ MapOf w' M (drop k m ++ [(k, a)]) ∧ w.grownBy w' (some M) := by
  obtain ⟨f, h1, h2, h3⟩ := h
  obtain ⟨w', hr, hm, hg⟩ := h1.put Try.underlying2 Try.underlying47 hn k hk a ha
  refine ⟨w', hr, ⟨upd f k (some a), ?_, fun x hx => ?_, fun x => ?_⟩, hg⟩
  · have hc := drop_count hd k
    rw [← h3 k] at hc
    have e : (drop k m ++ [(k, a)]).length = if (f k).isSome then m.length else m.length + 1 := by
      rw [List.length_append, List.length_singleton]
      split at hc <;> rename_i h5
      · rw [if_pos h5]; omega
      · rw [if_neg h5]; omega
    rw [e]; exact hm
  · rcases List.mem_append.1 hx with hx | hx
    · rw [upd_other _ _ (drop_mem.1 hx).2]; exact h2 x (drop_mem.1 hx).1
    · rw [List.mem_singleton.1 hx]; exact upd_same ..
  · by_cases e : x = k
    · subst e
      rw [upd_same]
      exact (has_iff.2 ⟨(x, a), by simp, rfl⟩).symm
    · rw [upd_other _ _ e, h3, Bool.eq_iff_iff, has_iff, has_iff]
      constructor
      · rintro ⟨y, hy, rfl⟩
        exact ⟨y, List.mem_append_left _ (drop_mem.2 ⟨hy, e⟩), rfl⟩
      · rintro ⟨y, hy, rfl⟩
        rcases List.mem_append.1 hy with hy | hy
        · exact ⟨y, (drop_mem.1 hy).1, rfl⟩
        · rw [List.mem_singleton.1 hy] at e; exact absurd rfl e
theorem MapOf.del (h : MapOf w M m) (hd : Dist m) (k : ByteArray) (hk : k.size ≤ maxLen) (ty : TypeId) :
    ∃ w', (Builtin.delete_ #[47, 9] ty #[.map (some M), .string k]).run Try.prog w = .ok (.tuple #[]) w' ∧ MapOf w' M (drop k m) ∧ w.grownBy w' (some M) := by
  obtain ⟨f, h1, h2, h3⟩ := h
  obtain ⟨w', hr, hm, hg⟩ := h1.del Try.underlying47 k hk ty
  refine ⟨w', hr, ⟨upd f k none, ?_, fun x hx => ?_, fun x => ?_⟩, hg⟩
  · have hc := drop_count hd k
    rw [← h3 k] at hc
    have e : (drop k m).length = if (f k).isSome then m.length - 1 else m.length := by
      split at hc <;> rename_i h5
      · rw [if_pos h5]; omega
      · rw [if_neg h5]; omega
    rw [e]; exact hm
  · rw [upd_other _ _ (drop_mem.1 hx).2]; exact h2 x (drop_mem.1 hx).1
  · by_cases e : x = k
    · subst e
      rw [upd_same, Bool.eq_iff_iff, has_iff]
      constructor
      · intro h; cases h
      · rintro ⟨y, hy, e⟩
        exact absurd e (drop_mem.1 hy).2
    · rw [upd_other _ _ e, h3, Bool.eq_iff_iff, has_iff, has_iff]
      constructor
      · rintro ⟨y, hy, rfl⟩
        exact ⟨y, drop_mem.2 ⟨hy, e⟩, rfl⟩
      · rintro ⟨y, hy, rfl⟩
        exact ⟨y, (drop_mem.1 hy).1, rfl⟩
theorem MapOf.len (h : MapOf w M m) (ty : TypeId) : (Builtin.len_ #[47] ty #[.map (some M)]).run Try.prog w = .ok (.int .i64 m.length) w := by
  obtain ⟨f, h1, _⟩ := h
  exact h1.len Try.underlying47 ty
end
/-- The program's timers l, and the map of m; made since w. -/
structure Once (w : World) (T Q B M : Nat) (v : Value) (c : Int) (l m : List Tm) (wr : World) : Prop where
  p : PTm T Q B v c l wr
  m : MapOf wr M m
  aM : POff T Q B v M
  low : ∀ i, i < w.heap.size → POff T Q B v i ∧ i ≠ M
  bel : Below w.heap.size w wr
section
variable {w wr w' : World} {T Q B M : Nat} {v v' : Value} {c c' : Int} {l l' m m' : List Tm}
theorem Once.stepP (h : Once w T Q B M v c l m wr) (p' : PTm T Q B v' c' l' w') (mv : Mvt (POff T Q B v) (POff T Q B v') wr w') : Once w T Q B M v' c' l' m w' := by
  have hs := h.bel.size
  refine ⟨p', h.m.of_block (mv.block M h.m.lt h.aM), mv.keep M h.m.lt h.aM, fun i hi => ⟨mv.keep i (by omega) (h.low i hi).1, (h.low i hi).2⟩, ?_⟩
  exact ⟨mv.os.trans h.bel.os, mv.tape.trans h.bel.tape, mv.output.trans h.bel.output, Nat.le_trans h.bel.size mv.size, fun i hi => (mv.block i (by omega) (h.low i hi).1).trans (h.bel.block i hi)⟩
theorem Once.stepM (h : Once w T Q B M v c l m wr) (m2 : MapOf w' M m') (hg : wr.grownBy w' (some M)) : Once w T Q B M v c l m' w' := by
  have hs := h.bel.size
  refine ⟨h.p.keep fun i hi ho => hg.block i hi fun e => own_not h.aM (Option.some.inj e ▸ ho), m2, h.aM, h.low, ?_⟩
  exact ⟨hg.os.trans h.bel.os, hg.tape.trans h.bel.tape, hg.output.trans h.bel.output, Nat.le_trans h.bel.size hg.size, fun i hi => (hg.block i (by omega) fun e => (h.low i hi).2 (Option.some.inj e)).trans (h.bel.block i hi)⟩
theorem Once.below (h : Once w T Q B M v c l m wr) (hb : Below wr.heap.size wr w') : Once w T Q B M v c l m w' :=
  ⟨h.p.below hb, h.m.below hb, h.aM, h.low, h.bel.trans (hb.mono h.bel.size)⟩
end
/-- What a round stands on. -/
def St4 (w : World) (T Q B M : Nat) (wr : World) : Prop := ∃ v c l m, Once w T Q B M v c l m wr ∧ m.Perm l ∧ l.length ≤ 1024 ∧ 0 ≤ c ∧ c ≤ 17592186044416 ∧ ∀ x ∈ l, c < x.2
theorem drop_head {x : Tm} {l : List Tm} (h : Dist (x :: l)) : drop x.1 (x :: l) = l := by
  have h2 := List.pairwise_cons.1 h
  unfold drop
  rw [List.filter_cons_of_neg (by simp)]
  exact List.filter_eq_self.2 fun y hy => by simpa using (h2.1 y hy).symm
end Tk

section
variable {w wr : World} {T Q B M : Nat} {v : Value} {c : Int} {l m : List Tk.Tm}
theorem once_set (h : Tk.Once w T Q B M v c l m wr) (hp : m.Perm l) (hl : l.length ≤ 1024) (c0 : 0 ≤ c) (c1 : c ≤ 17592186044416) (ha : ∀ x ∈ l, c < x.2) (k : ByteArray) (a : Int) {g : Nat} {o : Obj} (hrow : wr.heap[g]? = some o) (ho : Tk.POff T Q B v g) :
    Calls Try.prog 11 #[.pointer (some ⟨T, 0, none⟩), .string k, .int .i64 a] wr fun e w' => e = .returned (.int .i64 (Tk.setC c l k a)) ∧ w'.heap[g]? = some o ∧ Hid (Tk.setC c l k a ≠ 0 → Tk.St4 w T Q B M w') ∧
      Hid (Tk.setC c l k a = 0 → ∃ W3, (Instr.mapUpdate 47 (.map (some M)) (.string k) (.int .i64 a)).run Try.prog w' = .ok () W3 ∧ Tk.St4 w T Q B M W3) := by
  refine (tkset h.p (by omega) k a).mono ?_
  rintro e w' ⟨he, v', l', p', mv, pe⟩
  have h' := h.stepP p' mv
  refine ⟨he, (mv.block g (Tk.ltHeap hrow) ho).trans hrow, fun hz => ?_, fun hz => ?_⟩
  · have e : Tk.setL c l k a = l := by unfold Tk.setL; rw [if_neg hz]
    rw [e] at pe
    exact ⟨v', c, l', m, h', hp.trans pe.symm, by rw [pe.length_eq]; exact hl, c0, c1, fun x hx => ha x (pe.subset hx)⟩
  · have e : Tk.setL c l k a = Tk.drop k l ++ [(k, a)] := by unfold Tk.setL; rw [if_pos hz]
    obtain ⟨hk, hca, ha2⟩ : k.size ≤ 64 ∧ c < a ∧ a ≤ 17592186044416 := by
      unfold Tk.setC at hz
      split at hz
      · omega
      · split at hz
        · omega
        · omega
    have hd : Tk.Dist m := h.p.dist.perm hp.symm
    obtain ⟨W3, hr, hm, hg⟩ := h'.m.put hd (by rw [hp.length_eq]; unfold maxLen; omega) k (by unfold maxLen; omega) a (WalkArith.wf_i64 (by omega))
    refine ⟨W3, hr, v', c, l', _, h'.stepM hm hg, ?_, ?_, c0, c1, fun x hx => ?_⟩
    · rw [e] at pe; exact ((Tk.drop_perm hp).append_right _).trans pe.symm
    · rw [pe.length_eq]; exact Tk.setL_len k a hl
    · have hx2 := pe.subset hx
      rw [e] at hx2
      rcases List.mem_append.1 hx2 with h1 | h1
      · exact ha x (Tk.drop_mem.1 h1).1
      · rw [List.mem_singleton.1 h1]; exact hca
theorem once_stop (h : Tk.Once w T Q B M v c l m wr) (hp : m.Perm l) (hl : l.length ≤ 1024) (c0 : 0 ≤ c) (c1 : c ≤ 17592186044416) (ha : ∀ x ∈ l, c < x.2) (k : ByteArray) (hk : k.size ≤ maxLen) {g n : Nat} (hrow : wr.heap[g]? = some (.cells #[.string k] 9 (0, 0))) (ho : Tk.POff T Q B v g) {g2 : Nat} {o : Obj} (hrow2 : wr.heap[g2]? = some o) (ho2 : Tk.POff T Q B v g2) (ty : TypeId) :
    Calls Try.prog 14 #[.pointer (some ⟨T, 0, none⟩), .slice (some ⟨g, 0, none⟩) 1 n] wr fun e w' => e = .returned (.int .i64 (Tk.stopC k m)) ∧ w'.heap[g2]? = some o ∧
      Hid (∃ W3, (Builtin.delete_ #[47, 9] ty #[.map (some M), .string k]).run Try.prog w' = .ok (.tuple #[]) W3 ∧ Tk.St4 w T Q B M W3) := by
  have hli : Lies wr wr.heap.size (some ⟨g, 0, none⟩) ([k].map Value.string) := fun _ => ⟨_, rfl, Tk.ltHeap hrow, fun j u hu => by
    rw [Tk.add0]
    exact (cell_of_row _ _ _ _ _ _ hrow).trans (by simpa using hu)⟩
  have hs := tkstop h.p (by omega) [k] (some ⟨g, 0, none⟩) n hli (fun ad had => by
    obtain rfl := Option.some.inj had
    exact ho) (fun x hx => by
      simp only [List.mem_cons, List.not_mem_nil, or_false] at hx
      subst hx
      exact hk) (by simp)
  have e1 : Tk.stopL [k] l = Tk.drop k l := rfl
  rw [e1, Tk.stop_count h.p.dist, ← Tk.stopC_perm hp] at hs
  refine Calls.mono hs ?_
  rintro e w' ⟨he, v', l', p', mv, pe⟩
  have h' := h.stepP p' mv
  have hd : Tk.Dist m := h.p.dist.perm hp.symm
  obtain ⟨W3, hr, hm, hg⟩ := h'.m.del hd k hk ty
  refine ⟨he, (mv.block g2 (Tk.ltHeap hrow2) ho2).trans hrow2, W3, hr, v', c, l', _, h'.stepM hm hg, (Tk.drop_perm hp).trans pe.symm, ?_, c0, c1, fun x hx => ha x (Tk.drop_mem.1 (pe.subset hx)).1⟩
  rw [pe.length_eq]
  exact Nat.le_trans (Tk.drop_len k l) hl
/-- A Tick that is refused. -/
theorem once_tick_no (h : Tk.Once w T Q B M v c l m wr) (hl : l.length ≤ 1024) (c0 : 0 ≤ c) (c1 : c ≤ 17592186044416) (b : Int) (hz : Tk.tickC c b ≠ 0) :
    Calls Try.prog 16 #[.pointer (some ⟨T, 0, none⟩), .int .i64 b] wr fun e w' => e = .returned (.tuple #[.slice none 0 0, .int .i64 (Tk.tickC c b)]) ∧ wr = w' := by
  refine (tktick h.p (by omega) c0 c1 b).mono ?_
  rintro e w' (⟨_, he, hw⟩ | ⟨h0, _⟩)
  · exact ⟨he, hw.symm⟩
  · exact absurd h0 hz
/-- What the loop over the told ones stands on: k of them are gone from the map. -/
structure Tk.Told8 (w : World) (T Q B M : Nat) (v : Value) (c c2 : Int) (out rest : List Tk.Tm) (A : Option Addr) (k : Nat) (wr : World) : Prop where
  o : Tk.Once w T Q B M v c2 rest (out.drop k ++ rest) wr
  lies : Lies wr wr.heap.size A (Tk.tks out)
  apart : ∀ ad, A = some ad → ad.block ≠ M
theorem once_tick (h : Tk.Once w T Q B M v c l m wr) (hp : m.Perm l) (hl : l.length ≤ 1024) (c0 : 0 ≤ c) (c1 : c ≤ 17592186044416) (ha : ∀ x ∈ l, c < x.2) (b : Int) (hz : Tk.tickC c b = 0) :
    Calls Try.prog 16 #[.pointer (some ⟨T, 0, none⟩), .int .i64 b] wr fun e w' => ∃ (A : Option Addr) (n : Nat) (out rest : List Tk.Tm) (v' : Value), e = .returned (.tuple #[.slice A out.length n, .int .i64 0]) ∧ Hid (Tk.Told8 w T Q B M v' c (c + b) out rest A 0 w') ∧
      Hid (rest.length ≤ 1024 ∧ out.length ≤ 1024 ∧ (∀ x ∈ rest, c + b < x.2) ∧ (∀ x ∈ out, c < x.2 ∧ x.2 ≤ c + b ∧ x.1.size ≤ 64) ∧ (out.Pairwise fun a b => Tk.lt b a = false) ∧ Tk.Dist (out ++ rest)) := by
  have hkeys := h.p.keys
  have hdist := h.p.dist
  refine (tktick h.p (by omega) c0 c1 b).mono ?_
  rintro e w' (⟨h0, _⟩ | ⟨_, A, n, out, rest, v', he, hd, p', mv, lo, la⟩)
  · exact absurd hz h0
  · have hlen := hd.perm.length_eq
    rw [List.length_append] at hlen
    have ho := h.stepP p' mv
    refine ⟨A, n, out, rest, v', he, ⟨⟨ho.p, ho.m.perm (hp.trans hd.perm.symm), ho.aM, ho.low, ho.bel⟩, lo, fun ad had e => ?_⟩, by omega, by omega, hd.left, fun x hx => ?_, hd.row, hdist.perm hd.perm.symm⟩
    · have := (la ad had).1
      have := h.m.lt
      omega
    · have hx2 : x ∈ l := hd.perm.subset (List.mem_append_left _ hx)
      exact ⟨ha x hx2, hd.told x hx, hkeys x hx2⟩
/-- One of them goes. -/
theorem Tk.Told8.next {v : Value} {c c2 : Int} {out rest : List Tk.Tm} {A : Option Addr} {k : Nat} (h : Tk.Told8 w T Q B M v c c2 out rest A k wr) (hk : k < out.length) (hd : Tk.Dist (out ++ rest)) (hs : (out[k]).1.size ≤ 64) (ty : TypeId) :
    ∃ w', (Builtin.delete_ #[47, 9] ty #[.map (some M), .string (out[k]).1]).run Try.prog wr = .ok (.tuple #[]) w' ∧ Tk.Told8 w T Q B M v c c2 out rest A (k + 1) w' := by
  have e1 : out.drop k = out[k] :: out.drop (k + 1) := List.drop_eq_getElem_cons hk
  have hd2 : Tk.Dist (out.drop k ++ rest) := hd.sublist ((List.drop_sublist k out).append_right rest)
  obtain ⟨w', hr, hm, hg⟩ := h.o.m.del hd2 (out[k]).1 (by unfold maxLen; omega) ty
  refine ⟨w', hr, ⟨?_, ?_, h.apart⟩⟩
  · have := h.o.stepM hm hg
    rw [e1, List.cons_append] at this hd2
    rwa [Tk.drop_head hd2] at this
  · exact Tk.lies_block h.lies (fun ad had => hg.block _ (by
      by_cases h0 : 0 < (Tk.tks out).length
      · obtain ⟨ad2, e, hb, _⟩ := h.lies h0
        rw [had] at e
        rw [Option.some.inj e]; exact hb
      · rw [Tk.tks_len] at h0; omega) (fun e => h.apart ad had (Option.some.inj e))) hg.size
theorem Tk.Told8.look {v : Value} {c c2 : Int} {out rest : List Tk.Tm} {A : Option Addr} {k : Nat} (h : Tk.Told8 w T Q B M v c c2 out rest A k wr) (hk : k < out.length) (hs : (out[k]).1.size ≤ 64) :
    (Instr.lookup 47 (.map (some M)) (.string (out[k]).1) true).run Try.prog wr = .ok (.tuple #[.int .i64 (out[k]).2, .bool true]) wr :=
  h.o.m.at_ (List.mem_append_left _ (by rw [List.drop_eq_getElem_cons hk]; exact List.mem_cons_self ..)) (by unfold maxLen; omega)
theorem Tk.Told8.done {v : Value} {c c2 : Int} {out rest : List Tk.Tm} {A : Option Addr} {k : Nat} (h : Tk.Told8 w T Q B M v c c2 out rest A k wr) (hk : out.length ≤ k) (hl : rest.length ≤ 1024) (c0 : 0 ≤ c2) (c1 : c2 ≤ 17592186044416) (ha : ∀ x ∈ rest, c2 < x.2) : Tk.St4 w T Q B M wr := by
  have := h.o
  rw [List.drop_eq_nil_of_le hk, List.nil_append] at this
  exact ⟨v, c2, rest, rest, this, List.Perm.refl _, hl, c0, c1, ha⟩
/-- All of them: what is told, and what the map tells of each. -/
theorem once_all (h : Tk.Once w T Q B M v c l m wr) (hp : m.Perm l) (hl : l.length ≤ 1024) (ha : ∀ x ∈ l, c < x.2) :
    Calls Try.prog 22 #[.pointer (some ⟨T, 0, none⟩)] wr fun e w' => ∃ (A : Option Addr) (n : Nat) (out : List Tk.Tm), e = .returned (.slice A out.length n) ∧ out.length = m.length ∧ Hid (Tk.Once w T Q B M v c l m w') ∧ Hid (Lies w' w'.heap.size A (Tk.tks out)) ∧ Hid (∀ x ∈ out, x ∈ m ∧ c < x.2 ∧ x.1.size ≤ 64) := by
  have hkeys := h.p.keys
  refine (tkall h.p (by omega)).mono ?_
  rintro e w' ⟨A, n, out, he, po, so, lo, hb⟩
  exact ⟨A, n, out, he, by rw [po.length_eq, hp.length_eq], h.below hb, lo, fun x hx => ⟨hp.symm.subset (po.subset hx), ha x (po.subset hx), hkeys x (po.subset hx)⟩⟩
/-- A Set that goes well, and one that is refused. -/
theorem once_set0 (h : Tk.Once w T Q B M v c l m wr) (hp : m.Perm l) (hl : l.length ≤ 1024) (c0 : 0 ≤ c) (c1 : c ≤ 17592186044416) (ha : ∀ x ∈ l, c < x.2) (k : ByteArray) (a : Int) {g : Nat} {o : Obj} (hrow : wr.heap[g]? = some o) (ho : Tk.POff T Q B v g) (hz : Tk.setC c l k a = 0) :
    Calls Try.prog 11 #[.pointer (some ⟨T, 0, none⟩), .string k, .int .i64 a] wr fun e w' => e = .returned (.int .i64 0) ∧ w'.heap[g]? = some o ∧
      Hid (∃ W3, (Instr.mapUpdate 47 (.map (some M)) (.string k) (.int .i64 a)).run Try.prog w' = .ok () W3 ∧ Tk.St4 w T Q B M W3) := by
  refine (once_set h hp hl c0 c1 ha k a hrow ho).mono ?_
  rintro e w' ⟨he, hr, _, h2⟩
  exact ⟨by rw [he, hz], hr, h2.out hz⟩
theorem once_setN (h : Tk.Once w T Q B M v c l m wr) (hp : m.Perm l) (hl : l.length ≤ 1024) (c0 : 0 ≤ c) (c1 : c ≤ 17592186044416) (ha : ∀ x ∈ l, c < x.2) (k : ByteArray) (a : Int) {g : Nat} {o : Obj} (hrow : wr.heap[g]? = some o) (ho : Tk.POff T Q B v g) (hz : Tk.setC c l k a ≠ 0) :
    Calls Try.prog 11 #[.pointer (some ⟨T, 0, none⟩), .string k, .int .i64 a] wr fun e w' => e = .returned (.int .i64 (Tk.setC c l k a)) ∧ Hid (Tk.St4 w T Q B M w') := by
  refine (once_set h hp hl c0 c1 ha k a hrow ho).mono ?_
  rintro e w' ⟨he, _, h1, _⟩
  exact ⟨he, h1.out hz⟩
theorem Tk.row_at {out rest : List Tk.Tm} (hr : out.Pairwise fun a b => Tk.lt b a = false) (hd : Tk.Dist (out ++ rest)) {i j : Nat} (hij : i < j) (hj : j < out.length) :
    (out[i]'(by omega)).2 < (out[j]).2 ∨ ((out[i]'(by omega)).2 = (out[j]).2 ∧ (out[i]'(by omega)).1.data.toList < (out[j]).1.data.toList) := by
  have h1 := List.pairwise_iff_getElem.1 hr i j (by omega) hj hij
  have h2 := List.pairwise_iff_getElem.1 (List.pairwise_append.1 hd).1 i j (by omega) hj hij
  rw [Tk.lt_not] at h1
  rcases h1 with h1 | ⟨h1, h3⟩
  · exact .inl h1
  · refine .inr ⟨h1.symm, ?_⟩
    by_cases h4 : (out[i]'(by omega)).1.data.toList < (out[j]).1.data.toList
    · exact h4
    · exact absurd (Tk.bytes_ext (List.le_antisymm (List.not_lt.1 h3) (List.not_lt.1 h4))) h2
/-- The delete behind draws. -/
theorem Tk.Told8.nexts {v : Value} {c c2 : Int} {out rest : List Tk.Tm} {A : Option Addr} {k : Nat} (h : Tk.Told8 w T Q B M v c c2 out rest A k wr) (hk : k < out.length) (hd : Tk.Dist (out ++ rest)) (hs : (out[k]).1.size ≤ 64) (ty : TypeId) :
    ∃ F : Nat → World, ∀ n, (Builtin.delete_ #[47, 9] ty #[.map (some M), .string (out[k]).1]).run Try.prog (wr.drewN n) = .ok (.tuple #[]) (F n) ∧ Tk.Told8 w T Q B M v c c2 out rest A (k + 1) (F n) :=
  Classical.axiomOfChoice fun n => by
    have hb : Below wr.heap.size wr (wr.drewN n) := below_drewN (Below.refl _ _) n
    have h2 : Tk.Told8 w T Q B M v c c2 out rest A k (wr.drewN n) := ⟨h.o.below hb, (h.lies.below hb).mono hb.size, h.apart⟩
    exact h2.next hk hd hs ty
end
end Go.Proofs.Ytnojjfpccnmbeaa
