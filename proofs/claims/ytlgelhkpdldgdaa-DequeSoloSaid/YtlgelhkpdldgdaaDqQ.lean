/-
  Layer 16: the document's example: the law's works.
-/
import Derived.Test.YtlgelhkpdldgdaaDqP
namespace Go.Proofs.Ytlgelhkpdldgdaa
open Go.RowKit
set_option linter.unusedVariables false
set_option linter.unusedSimpArgs false

namespace Dq
theorem Mm.init {w0 w : World} {B M R D c : Nat} {n : Nat} (h : Dv (fun i => i < w0.heap.size ∨ i = D) B M R 0 (.pointer none) (newX 0 c) n w) (hd : Dd D R w) (hl : w0.heap.size ≤ D) (hk : Ce.Kept (fun i => i < w0.heap.size) w0 w) : Mm w0 B M R D [] ⟨newX 0 c, n, [], none⟩ w :=
  ⟨h.mono fun i hi => hi.elim .inl fun h => h.elim .inr fun ⟨_, he, _⟩ => absurd he (by simp), hd, rfl, fun j a e ha _ => absurd ha (by simp), fun j k e f he _ => absurd he (by simp), fun e he => absurd he (by simp), ⟨hl, fun e he => absurd he (by simp)⟩, hk, fun j hj => absurd hj (by simp)⟩
theorem Lv.init {c : Nat} {n : Nat} (h1 : 1 ≤ c) (h2 : c ≤ 600) : Lv 0 ⟨newX 0 c, n, [], none⟩ [] := by
  have h := Inw.new [] (c : Int) (by omega) (by omega) (by decide)
  refine ⟨?_, fun i a ha => absurd ha (by simp), fun j hj => absurd hj (by simp)⟩
  exact h.steal (V := 0) fun b ⟨i, hi, _⟩ => absurd hi (by simp)
def T1 : List Int × A := runA 20 (newX 0 1, .new 0 5)
def T2 : List Int × A := runA 30 (T1.1, .new 0 6)
def Y3 : List Int × A := stepn 5 (T2.1, .new 2 0)
def T4 : List Int × A := runA 20 (Y3.1, .new 1 0)
def Y5 : List Int × A := stepn 4 (T4.1, .new 1 0)
def X6 : List Int × A := nxt (Y5.1, Y3.2)
def T7 : List Int × A := runA 20 (X6.1, Y5.2)
theorem f1 : T1.2.told = 1 ∧ T2.2.told = 1 ∧ T4.2.told = 2 ∧ T4.2.got = 6 ∧ X6.2.told = 2 ∧ X6.2.got = 5 ∧ T7.2.told = 3 ∧ ld T7.1 1 - ld T7.1 0 = 0 := by decide +kernel
theorem f3 : ∀ k, k ≤ 5 → (stepn k (T2.1, .new 2 0)).2.told = 0 := by
  intro k hk
  match k, hk with
  | 0, _ => decide +kernel
  | 1, _ => decide +kernel
  | 2, _ => decide +kernel
  | 3, _ => decide +kernel
  | 4, _ => decide +kernel
  | 5, _ => decide +kernel
theorem f5 : ∀ k, k ≤ 4 → (stepn k (T4.1, .new 1 0)).2.told = 0 := by
  intro k hk
  match k, hk with
  | 0, _ => decide +kernel
  | 1, _ => decide +kernel
  | 2, _ => decide +kernel
  | 3, _ => decide +kernel
  | 4, _ => decide +kernel
theorem f6 : Y3.2.k = 2 ∧ Y5.2.k = 1 ∧ Y3.2.told = 0 ∧ Y5.2.told = 0 := by decide +kernel
end Dq
theorem mm_make {w0 w : World} {B M : Nat} (h : Ce.Pm (fun i => i < w0.heap.size) B M [] 0 w) (hb : Below w0.heap.size w0 w) (log : Int) (hl : 0 ≤ log ∧ log ≤ 8) (c : Nat) (hc : c = 2 ^ log.toNat) : Calls Try.prog 9 #[.pointer (some ⟨B, 0, none⟩), .int .i64 log] w fun e w' =>
    ∃ D R, e = .returned (.tuple #[.pointer (some ⟨D, 0, none⟩), .int .i64 0]) ∧ Dq.Mm w0 B M R D [] ⟨Dq.newX 0 c, 0, [], none⟩ w' := by
  refine (d_new h (by decide) (by decide) log hl c hc).mono ?_
  rintro e w' ⟨D, R, he, h1, h2, h3, h4, h5⟩
  exact ⟨D, R, he, Dq.Mm.init h3 h4 (Nat.le_trans hb.size h1) (⟨hb.os, hb.tape, hb.output, hb.size, fun i hi _ => hb.block i hi⟩ |> fun (k : Ce.Kept (fun i => i < w0.heap.size) w0 w) => k.trans h5)⟩
theorem mm_size {w0 w : World} {B M R D : Nat} {hs : List (Nat × Nat)} {s : Dq.Sq} {P : Int} {L : List Int} (h : Dq.Mm w0 B M R D hs s w) (hl : Dq.Lv P s L) (hi : s.idle) : Calls Try.prog 20 #[.pointer (some ⟨D, 0, none⟩)] w fun e w' => e = .returned (.int .i64 (L.length : Int)) ∧ Hid (Dq.Mm w0 B M R D hs s w') := by
  refine (q_size h.dv h.d hl.sm.1 hl.sm.2).mono ?_
  rintro e w' ⟨rfl, hb⟩
  rw [hl.size hi]
  exact ⟨by rw [show max 0 (L.length : Int) = L.length by omega], h.below hb⟩
/-- An owner's act, whole. -/
theorem mm_wholeO {w0 w : World} {B M R D : Nat} {hs : List (Nat × Nat)} {s : Dq.Sq} {j : Nat} {a : Dq.A} {e : Nat × Nat} {P : Int} {L : List Int} (h : Dq.Mm w0 B M R D hs s w) (hl : Dq.Lv P s L) (ho : s.oi = some j) (ha : s.la[j]? = some a) (he : hs[j]? = some e) (h0 : a.told = 0) (hn : s.n ≤ 900000000000) : Calls Try.prog 23 #[.pointer (some ⟨e.1, 0, none⟩)] w fun e' w' =>
    Hid (∃ s' a' L', e' = .returned (.tuple #[.int .u8 a'.told, .int .i64 a'.got, .bool true]) ∧ a'.told ≠ 0 ∧ Dq.Mm w0 B M R D hs s' w' ∧ s'.la = s.la.set j a' ∧ s'.oi = s.oi ∧ s'.n ≤ s.n + 2011 ∧ Dq.Lv P s' L' ∧ Dq.Out a.k L a' L') := by
  have hg := hl.beginO ho ha h0
  refine (mm_whole (Dq.goodO a.k hg.2) h ha he hg.1 h0 hn).mono ?_
  rintro e' w' ⟨s', a', rfl, h1, h2⟩
  obtain ⟨L', h3, h4⟩ := hl.goneO ho ha hg.2 h2.la h2.oi h2.g
  exact ⟨s', a', L', rfl, h1, h2.mm, h2.la, h2.oi, h2.n, h3, h4⟩
/-- And exactly. -/
theorem mm_wholeX {w0 w : World} {B M R D : Nat} {hs : List (Nat × Nat)} {s : Dq.Sq} {j : Nat} {a : Dq.A} {e : Nat × Nat} {P : Int} {L : List Int} (T : List Int × Dq.A) (hT : T.2.told ≠ 0) (hr : ∃ f, Dq.runA f (s.xs, a) = T) (h : Dq.Mm w0 B M R D hs s w) (hl : Dq.Lv P s L) (ho : s.oi = some j) (ha : s.la[j]? = some a) (he : hs[j]? = some e) (h0 : a.told = 0) (hn : s.n ≤ 900000000000) : Calls Try.prog 23 #[.pointer (some ⟨e.1, 0, none⟩)] w fun e' w' =>
    e' = .returned (.tuple #[.int .u8 T.2.told, .int .i64 T.2.got, .bool true]) ∧ Hid (∃ n' L', n' ≤ s.n + 2011 ∧ Dq.Mm w0 B M R D hs ⟨T.1, n', s.la.set j T.2, s.oi⟩ w' ∧ Dq.Lv P ⟨T.1, n', s.la.set j T.2, s.oi⟩ L') := by
  have hg := hl.beginO ho ha h0
  refine (mm_whole (Dq.GX.good (Dq.goodO a.k hg.2) hT) h ha he ⟨hg.1, hr⟩ h0 hn).mono ?_
  rintro e' w' ⟨s', a', rfl, h1, h2⟩
  have hx := h2.g.fin h1
  obtain ⟨xs', n', la', oi'⟩ := s'
  have e1 : la' = s.la.set j a' := h2.la
  have e2 : oi' = s.oi := h2.oi
  have e3 : xs' = T.1 := congrArg Prod.fst hx
  have e4 : a' = T.2 := congrArg Prod.snd hx
  subst e1 e2 e3 e4
  obtain ⟨L', h3, _⟩ := hl.goneO ho ha hg.2 h2.la h2.oi h2.g.1
  exact ⟨rfl, n', L', h2.n, h2.mm, h3⟩
end Go.Proofs.Ytlgelhkpdldgdaa
