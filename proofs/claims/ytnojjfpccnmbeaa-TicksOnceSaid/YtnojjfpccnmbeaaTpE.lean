/-
  container/heap's up and down at the program's queue.
-/
import Derived.Test.YtnojjfpccnmbeaaTpD
import Derived.Deep.DeepCutAuto
namespace Go.Proofs.Ytnojjfpccnmbeaa
open Go.RowKit

namespace Heap
universe u
variable {α : Type u} {lt : α → α → Bool} {l l' l'' : List α} {n : Nat}
/-- The same, in another order; from n on as it was. -/
structure Kept (n : Nat) (l l' : List α) : Prop where
  perm : l'.Perm l
  tail : ∀ k, n ≤ k → l'[k]? = l[k]?
theorem Kept.refl (n : Nat) (l : List α) : Kept n l l := ⟨List.Perm.refl _, fun _ _ => rfl⟩
theorem Kept.len (h : Kept n l l') : l'.length = l.length := h.perm.length_eq
theorem Kept.swap (h : Kept n l l') {i j : Nat} (hi : i < n) (hj : j < n) (hn : n ≤ l.length) : Kept n l (sw l' i j) := by
  have := h.len
  refine ⟨(sw_perm (by omega) (by omega)).trans h.perm, fun k hk => ?_⟩
  rw [sw_get (by omega) (by omega), if_neg (by omega), if_neg (by omega)]
  exact h.tail k hk
theorem Heap.toRise (o : Ord lt) (h : Heap lt l n) (hn : n ≤ l.length) (i : Nat) : Rise lt l n i :=
  ⟨fun k h0 hk _ => h k h0 hk, fun k h0 hk hp h0i a b ha hb => by
    have h1 := par_lt h0
    obtain ⟨c, hc⟩ : ∃ c, l[i]? = some c := ⟨_, List.getElem?_eq_getElem (by omega)⟩
    have h3 := h k h0 hk
    rw [hp] at h3
    exact o.trans a c b (h i h0i (by omega) a c ha hc) (h3 c b hc hb)⟩
theorem par_iff {k i : Nat} (h : 0 < k) : par k = i ↔ k = 2 * i + 1 ∨ k = 2 * i + 2 := by unfold par; omega
/-- Where down stands. -/
structure Dn (lt : α → α → Bool) (n i0 : Nat) (l l' : List α) (i : Nat) : Prop where
  kept : Kept n l l'
  low : i < n
  at_ : (i = i0 ∧ l' = l ∧ (Sink lt l n i ∨ Rise lt l n i)) ∨ (i0 < i ∧ Sink lt l' n i)
/-- What down leaves. -/
def Downed (lt : α → α → Bool) (n i0 : Nat) (l l' : List α) (b : Bool) : Prop := Kept n l l' ∧ ((b = true ∧ Heap lt l' n) ∨ (b = false ∧ l' = l ∧ Rise lt l n i0))
theorem Dn.done (o : Ord lt) {i0 i : Nat} (h : Dn lt n i0 l l' i) (hn : n ≤ l.length) (hc : ∀ k, 0 < k → k < n → par k = i → le lt l' i k) : Downed lt n i0 l l' (decide (i0 < i)) := by
  refine ⟨h.kept, ?_⟩
  rcases h.at_ with ⟨rfl, rfl, hs⟩ | ⟨hlt, hs⟩
  · refine .inr ⟨by simp, rfl, ?_⟩
    rcases hs with hs | hs
    · exact (hs.done hc).toRise o hn _
    · exact hs
  · exact .inl ⟨by simpa using hlt, hs.done hc⟩
theorem Dn.step (o : Ord lt) {i0 i c : Nat} (h : Dn lt n i0 l l' i) (hn : n ≤ l.length) {a b : α} (hcn : c < n) (hpc : c = 2 * i + 1 ∨ c = 2 * i + 2) (ha : l'[i]? = some a) (hb : l'[c]? = some b) (hlt : lt b a = true) (hmin : ∀ k, 0 < k → k < n → par k = i → le lt l' c k) :
    Dn lt n i0 l (sw l' i c) c := by
  have h0 : 0 < c := by omega
  have hp : par c = i := (par_iff h0).2 hpc
  have hpl := par_lt h0
  have hs : Sink lt l' n i := by
    rcases h.at_ with ⟨rfl, rfl, hs | hs⟩ | ⟨_, hs⟩
    · exact hs
    · have h1 := hs.rest c h0 hcn (by omega)
      rw [hp] at h1
      rw [h1 a b ha hb] at hlt
      cases hlt
    · exact hs
  refine ⟨h.kept.swap h.low hcn hn, hcn, .inr ⟨?_, hs.down o (by rw [h.kept.len]; exact hn) h0 hcn hp ha hb hlt hmin⟩⟩
  rcases h.at_ with ⟨h1, _⟩ | ⟨h1, _⟩ <;> omega
end Heap

theorem qless2 {Q B : Nat} {v : Value} {l : List Tk.Tm} {w : World} (h : Tk.QTm Q B v l w) (i j : Nat) (x y : Tk.Tm) (hi : l[i]? = some x) (hj : l[j]? = some y) :
    Calls Try.prog 81 #[.pointer (some ⟨Q, 0, none⟩), .int .i64 (i : Int), .int .i64 (j : Int)] w fun e w' => e = .returned (.bool (Tk.lt x y)) ∧ Below w.heap.size w w' := by
  obtain ⟨f, h1, _⟩ := h.raw
  obtain ⟨hi1, rfl⟩ := List.getElem?_eq_some_iff.1 hi
  obtain ⟨hj1, rfl⟩ := List.getElem?_eq_some_iff.1 hj
  exact qless h1 i j hi1 hj1

set_option maxRecDepth 20000 in
set_option maxHeartbeats 2000000 in
theorem hup {Q B : Nat} {v : Value} {l : List Tk.Tm} {w : World} (h : Tk.QTm Q B v l w) (hl : l.length ≤ 99999) (n j : Nat) (hn : n ≤ l.length) (hj : j < n) (hr : Heap.Rise Tk.lt l n j) :
    Calls Try.prog 45 #[.iface 55 (.pointer (some ⟨Q, 0, none⟩)), .int .i64 (j : Int)] w fun e w' => e = .returned (.tuple #[]) ∧ ∃ l', Tk.QTm Q B v l' w' ∧ Tk.Mvt (Tk.QOff Q B v) (Tk.QOff Q B v) w w' ∧ Heap.Kept n l l' ∧ Heap.Heap Tk.lt l' n := by
  have H := Lib.hid h
  have HR := Lib.hid hr
  clear h hr
  go_enter Try.func45, Try.ntmps45
  go_wp2_with fail
  go_loopw [1] (fun i wr => ∃ (j : Nat) (l' : List Tk.Tm), i = .int .i64 j ∧ Hid (j < n) ∧ Hid (Tk.QTm Q B v l' wr) ∧ Hid (Tk.Mvt (Tk.QOff Q B v) (Tk.QOff Q B v) w wr) ∧ Hid (Heap.Kept n l l') ∧ Hid (Heap.Rise Tk.lt l' n j)) (fun i _ => (intOf i).toNat)
  case atStart => exact ⟨j, l, rfl, hj, H.out, .refl _ _, Heap.Kept.refl _ _, HR.out⟩
  case round =>
    obtain ⟨k, l', rfl, HK, HQ, HM, HKE, HRI⟩ := hrel
    by_cases h0 : k = 0
    · subst h0
      have HE : Hid (∃ l', Tk.QTm Q B v l' wr ∧ Tk.Mvt (Tk.QOff Q B v) (Tk.QOff Q B v) w wr ∧ Heap.Kept n l l' ∧ Heap.Heap Tk.lt l' n) := ⟨l', HQ.out, HM.out, HKE.out, HRI.out.done (.inl rfl)⟩
      go_wp2_with fail
      go_end0
      exact ⟨rfl, HE.out⟩
    · have hk := HK.out
      have hlen := HKE.out.len
      have hpl := Heap.par_lt (by omega : 0 < k)
      obtain ⟨x, hx⟩ : ∃ x, l'[k]? = some x := ⟨_, List.getElem?_eq_getElem (by omega)⟩
      obtain ⟨y, hy⟩ : ∃ y, l'[Heap.par k]? = some y := ⟨_, List.getElem?_eq_getElem (by omega)⟩
      have HL := Lib.hid (qless2 HQ.out k (Heap.par k) x y hx hy)
      have HSW : Hid (∀ W, Below wr.heap.size wr W → Calls Try.prog 84 #[.pointer (some ⟨Q, 0, none⟩), .int .i64 (Heap.par k : Int), .int .i64 (k : Int)] W fun e w' => e = .returned (.tuple #[]) ∧ Tk.QTm Q B v (Heap.sw l' (Heap.par k) k) w' ∧ Tk.Mvt (Tk.QOff Q B v) (Tk.QOff Q B v) W w') := fun W hb =>
        qswap (HQ.out.below hb) (by omega) (Heap.par k) k (by omega) (by omega)
      have HUP : Hid (Tk.lt x y = true → Heap.Rise Tk.lt (Heap.sw l' (Heap.par k) k) n (Heap.par k) ∧ Heap.Kept n l (Heap.sw l' (Heap.par k) k)) := fun e => ⟨HRI.out.up Tk.ord (by omega) (by omega) hk hx hy e, HKE.out.swap (by omega) hk hn⟩
      have HNO : Hid (Tk.lt x y = false → Heap.Heap Tk.lt l' n) := fun e => HRI.out.done (.inr fun a b ha hb => by
        rw [hy] at ha
        rw [hx] at hb
        obtain rfl := Option.some.inj ha
        obtain rfl := Option.some.inj hb
        exact e)
      have hq : ((k : Int) - 1) / 2 = ((Heap.par k : Nat) : Int) := by unfold Heap.par; omega
      generalize hqq : Heap.par k = q at hq HL HSW HUP hpl
      have hne : ((q : Int) == (k : Int)) = false := by rw [beq_eq_false_iff_ne]; omega
      have hk1 : (1 : Int) ≤ k := by omega
      have hk9 : (k : Int) ≤ 99999 := by omega
      clear hqq hx hy hlen hk h0
      generalize Tk.lt x y = t at HL HUP HNO
      go_wp2_with fail
      refine HL.out.mono ?_
      rintro e w1 ⟨rfl, hb1⟩
      have HB1 := Lib.hid hb1
      clear hb1
      cases t with
      | false =>
        have HE : Hid (∃ l', Tk.QTm Q B v l' w1 ∧ Tk.Mvt (Tk.QOff Q B v) (Tk.QOff Q B v) w w1 ∧ Heap.Kept n l l' ∧ Heap.Heap Tk.lt l' n) := ⟨l', HQ.out.below HB1.out, HM.out.trans (.of_below HB1.out), HKE.out, HNO.out rfl⟩
        go_wp2_with fail
        go_end0
        exact ⟨rfl, HE.out⟩
      | true =>
        have HU := Lib.hid (HUP.out rfl)
        go_wp2_with fail
        refine (HSW.out w1 HB1.out).mono ?_
        rintro e w2 ⟨rfl, hq2, hm2⟩
        have HQ2 := Lib.hid hq2
        have HM2 : Hid (Tk.Mvt (Tk.QOff Q B v) (Tk.QOff Q B v) w w2) := (HM.out.trans (.of_below HB1.out)).trans hm2
        clear hq2 hm2
        go_wp2_with fail
        go_roundw
        case rel => exact ⟨q, _, rfl, by have := HK.out; show q < n; omega, HQ2.out, HM2.out, HU.out.2, HU.out.1⟩
        case measure => simp [intOf]; omega
end Go.Proofs.Ytnojjfpccnmbeaa
