/-
  container/heap's Push, Fix, Remove at the program's queue.
-/
import Derived.Test.YtnojjfpccnmbeaaTpH
namespace Go.Proofs.Ytnojjfpccnmbeaa
open Go.RowKit

namespace Heap
universe u
variable {α : Type u} {lt : α → α → Bool} {l l' : List α} {n i : Nat}
theorem le_congr (h : ∀ k, k < n → l'[k]? = l[k]?) {k m : Nat} (hk : k < n) (hm : m < n) (hl : le lt l k m) : le lt l' k m := fun a b ha hb => hl a b (by rw [← h k hk]; exact ha) (by rw [← h m hm]; exact hb)
theorem Heap.congr (h : Heap lt l n) (he : ∀ k, k < n → l'[k]? = l[k]?) : Heap lt l' n := fun k h0 hk => le_congr he (by have := par_lt h0; omega) hk (h k h0 hk)
theorem Rise.congr (h : Rise lt l n i) (he : ∀ k, k < n → l'[k]? = l[k]?) : Rise lt l' n i :=
  ⟨fun k h0 hk hne => le_congr he (by have := par_lt h0; omega) hk (h.rest k h0 hk hne), fun k h0 hk hp h0i => le_congr he (by have := par_lt h0; have := par_lt h0i; omega) hk (h.over k h0 hk hp h0i)⟩
theorem Sink.congr (h : Sink lt l n i) (he : ∀ k, k < n → l'[k]? = l[k]?) : Sink lt l' n i :=
  ⟨fun k h0 hk hne => le_congr he (by have := par_lt h0; omega) hk (h.rest k h0 hk hne), fun k h0 hk hp h0i => le_congr he (by have := par_lt h0; have := par_lt h0i; omega) hk (h.over k h0 hk hp h0i)⟩
/-- One of a heap and the last one change places: the others, but for that place, are one still. -/
theorem Heap.swapped (o : Ord lt) (h : Heap lt l l.length) (hn : n + 1 = l.length) (hi : i < n) : Sink lt (sw l i n) n i ∨ Rise lt (sw l i n) n i := by
  have hx : l[n]? = some l[n] := List.getElem?_eq_getElem (by omega)
  have he : ∀ k, k < n → (sw l i n)[k]? = (l.set i l[n])[k]? := fun k hk => by
    rw [sw_get (by omega) (by omega), if_neg (by omega)]
    by_cases e : k = i
    · subst e
      rw [if_pos rfl, List.getElem?_set_self (by omega), hx]
    · rw [if_neg e, List.getElem?_set_ne (fun e2 => e e2.symm)]
  rcases (h.less (by omega : n ≤ l.length)).set o hi (by omega) l[n] with h1 | h1
  · exact .inl (h1.congr he)
  · exact .inr (h1.congr he)
end Heap

namespace Tk
theorem drop_last_perm {l l2 : List Tm} {i n : Nat} (hp : l2.Perm l) (hn : n + 1 = l.length) (hi : i < l.length) (hl : l2[n]? = some l[i]) : l2.dropLast.Perm (l.eraseIdx i) := by
  have hlen := hp.length_eq
  have e1 : l2 = l2.dropLast ++ [l[i]] := by
    have hne : l2 ≠ [] := by intro e; rw [e] at hlen; simp at hlen; omega
    have := List.dropLast_concat_getLast hne
    rw [List.getLast_eq_getElem] at this
    have hg : l2[l2.length - 1]'(by omega) = l[i] := by
      have h1 : l2[l2.length - 1]? = some l[i] := by rw [show l2.length - 1 = n by omega]; exact hl
      obtain ⟨_, h2⟩ := List.getElem?_eq_some_iff.1 h1
      exact h2
    rw [hg] at this
    exact this.symm
  have h1 : (l[i] :: l2.dropLast).Perm (l[i] :: l.eraseIdx i) := by
    refine (List.perm_append_singleton l[i] l2.dropLast).symm.trans ?_
    rw [← e1]
    exact hp.trans (erase_perm hi).symm
  exact h1.cons_inv
end Tk

set_option maxRecDepth 20000 in
set_option maxHeartbeats 2000000 in
theorem hpush {Q B : Nat} {v : Value} {l : List Tk.Tm} {w : World} (h : Tk.QTm Q B v l w) (hh : Heap.Heap Tk.lt l l.length) (hl : l.length ≤ 99990) (x : Tk.Tm) (hno : ∀ y ∈ l, y.1 ≠ x.1) (hxk : x.1.size ≤ 64) :
    Calls Try.prog 38 #[.iface 55 (.pointer (some ⟨Q, 0, none⟩)), .iface 42 (Tk.tmV x)] w fun e w' => e = .returned (.tuple #[]) ∧ ∃ v' l', Tk.QTm Q B v' l' w' ∧ Tk.Mvt (Tk.QOff Q B v) (Tk.QOff Q B v') w w' ∧ l'.Perm (l ++ [x]) ∧ Heap.Heap Tk.lt l' l'.length := by
  have HP := Lib.hid (qpush h hl x hno hxk)
  have HR := Lib.hid (hh.rise x rfl)
  clear h hh hno hxk
  generalize Tk.tmV x = xv at HP ⊢
  go_enter Try.func38, Try.ntmps38
  go_wp2_with fail
  refine HP.out.mono ?_
  rintro e w1 ⟨rfl, v1, hq1, hm1⟩
  have HQ1 := Lib.hid hq1
  have HM1 := Lib.hid hm1
  have HLEN : Hid (Calls Try.prog 26 #[.pointer (some ⟨Q, 0, none⟩)] w1 fun e w' => e = .returned (.int .i64 ((l.length : Int) + 1)) ∧ w1 = w') := by
    obtain ⟨f, h1, _⟩ := hq1.raw
    have := qlen h1
    rw [List.length_append] at this
    exact this
  have HUP := Lib.hid (hup hq1 (by simp; omega) (l.length + 1) l.length (by simp) (by omega) HR.out)
  clear hq1 hm1
  go_wp2_with fail
  refine HLEN.out.mono ?_
  rintro e w2 ⟨rfl, rfl⟩
  go_wp2_with fail
  refine HUP.out.mono ?_
  rintro e w3 ⟨rfl, l3, hq3, hm3, hk3, hh3⟩
  have HE : Hid (∃ v' l', Tk.QTm Q B v' l' w3 ∧ Tk.Mvt (Tk.QOff Q B v) (Tk.QOff Q B v') w w3 ∧ l'.Perm (l ++ [x]) ∧ Heap.Heap Tk.lt l' l'.length) := by
    refine ⟨v1, l3, hq3, HM1.out.trans hm3, hk3.perm, ?_⟩
    rw [hk3.len, List.length_append]
    exact hh3
  clear hq3 hm3 hk3 hh3
  go_wp2_with fail
  go_end0
  exact ⟨rfl, HE.out⟩

set_option maxRecDepth 20000 in
set_option maxHeartbeats 2000000 in
theorem hfix {Q B : Nat} {v : Value} {l : List Tk.Tm} {w : World} (h : Tk.QTm Q B v l w) (hl : l.length ≤ 99990) (i : Nat) (hi : i < l.length) (hr : Heap.Sink Tk.lt l l.length i ∨ Heap.Rise Tk.lt l l.length i) :
    Calls Try.prog 37 #[.iface 55 (.pointer (some ⟨Q, 0, none⟩)), .int .i64 (i : Int)] w fun e w' => e = .returned (.tuple #[]) ∧ ∃ l', Tk.QTm Q B v l' w' ∧ Tk.Mvt (Tk.QOff Q B v) (Tk.QOff Q B v) w w' ∧ l'.Perm l ∧ Heap.Heap Tk.lt l' l'.length := by
  have HD := Lib.hid (hdown h (by omega) l.length i (Nat.le_refl _) hi hr)
  have HLEN : Hid (Calls Try.prog 26 #[.pointer (some ⟨Q, 0, none⟩)] w fun e w' => e = .returned (.int .i64 (l.length : Int)) ∧ w = w') := by
    obtain ⟨f, h1, _⟩ := h.raw
    exact qlen h1
  have HI := Lib.hid (And.intro hi hl)
  clear h hr hl hi
  go_enter Try.func37, Try.ntmps37
  go_wp2_with fail
  refine HLEN.out.mono ?_
  rintro e w2 ⟨rfl, rfl⟩
  go_wp2_with fail
  refine HD.out.mono ?_
  rintro e w3 ⟨b, l3, rfl, hq3, hm3, hd3⟩
  cases b with
  | true =>
    have HE : Hid (∃ l', Tk.QTm Q B v l' w3 ∧ Tk.Mvt (Tk.QOff Q B v) (Tk.QOff Q B v) w w3 ∧ l'.Perm l ∧ Heap.Heap Tk.lt l' l'.length) := by
      obtain ⟨k3, h3 | ⟨h3, _⟩⟩ := hd3
      · exact ⟨l3, hq3, hm3, k3.perm, by rw [k3.len]; exact h3.2⟩
      · cases h3
    clear hq3 hm3 hd3
    go_wp2_with fail
    go_end0
    exact ⟨rfl, HE.out⟩
  | false =>
    have hrise : l3 = l ∧ Heap.Rise Tk.lt l l.length i := by
      obtain ⟨k3, ⟨h3, _⟩ | ⟨_, h3⟩⟩ := hd3
      · cases h3
      · exact h3
    obtain ⟨rfl, hrise⟩ := hrise
    have HUP := Lib.hid (hup hq3 (by have := HI.out.2; omega) l3.length i (Nat.le_refl _) HI.out.1 hrise)
    have HM3 := Lib.hid hm3
    clear hq3 hm3 hd3 hrise
    go_wp2_with fail
    refine HUP.out.mono ?_
    rintro e w4 ⟨rfl, l4, hq4, hm4, hk4, hh4⟩
    have HE : Hid (∃ l', Tk.QTm Q B v l' w4 ∧ Tk.Mvt (Tk.QOff Q B v) (Tk.QOff Q B v) w w4 ∧ l'.Perm l3 ∧ Heap.Heap Tk.lt l' l'.length) := ⟨l4, hq4, HM3.out.trans hm4, hk4.perm, by rw [hk4.len]; exact hh4⟩
    clear hq4 hm4 hk4 hh4
    go_wp2_with fail
    go_end0
    exact ⟨rfl, HE.out⟩

set_option maxRecDepth 20000 in
set_option maxHeartbeats 2000000 in
theorem hremove {Q B : Nat} {v : Value} {l : List Tk.Tm} {w : World} (h : Tk.QTm Q B v l w) (hh : Heap.Heap Tk.lt l l.length) (hl : l.length ≤ 99990) (i : Nat) (x : Tk.Tm) (hx : l[i]? = some x) :
    Calls Try.prog 40 #[.iface 55 (.pointer (some ⟨Q, 0, none⟩)), .int .i64 (i : Int)] w fun e w' => e = .returned (.iface 42 (Tk.tmV x)) ∧ ∃ v' l', Tk.QTm Q B v' l' w' ∧ Tk.Mvt (Tk.QOff Q B v) (Tk.QOff Q B v') w w' ∧ l'.Perm (l.eraseIdx i) ∧ Heap.Heap Tk.lt l' l'.length := by
  obtain ⟨hi, hxe⟩ := List.getElem?_eq_some_iff.1 hx
  obtain ⟨n, hn⟩ : ∃ n, n + 1 = l.length := ⟨l.length - 1, by omega⟩
  have HLEN : Hid (Calls Try.prog 26 #[.pointer (some ⟨Q, 0, none⟩)] w fun e w' => e = .returned (.int .i64 (l.length : Int)) ∧ w = w') := by
    obtain ⟨f, h1, _⟩ := h.raw
    exact qlen h1
  have hnl : (l.length : Int) - 1 = (n : Int) := by omega
  -- the end: what stands last goes
  have HPOP : Hid (∀ (W : World) (l2 : List Tk.Tm), Tk.QTm Q B v l2 W → l2.Perm l → l2[n]? = some x → Heap.Heap Tk.lt l2 n → Tk.Mvt (Tk.QOff Q B v) (Tk.QOff Q B v) w W → Calls Try.prog 82 #[.pointer (some ⟨Q, 0, none⟩)] W fun e w' => e = .returned (.iface 42 (Tk.tmV x)) ∧
      Hid (∃ v' l', Tk.QTm Q B v' l' w' ∧ Tk.Mvt (Tk.QOff Q B v) (Tk.QOff Q B v') w w' ∧ l'.Perm (l.eraseIdx i) ∧ Heap.Heap Tk.lt l' l'.length)) := fun W l2 hq hp hlx hh2 hm => by
    have hlen := hp.length_eq
    have he : l2.length - 1 = n := by omega
    refine (qpop hq (by omega) (by omega) x (by rw [he]; exact hlx)).mono ?_
    rintro e w' ⟨he2, v', hq', hm'⟩
    refine ⟨he2, v', _, hq', hm.trans hm', Tk.drop_last_perm hp hn hi (by rw [hxe]; exact hlx), ?_⟩
    rw [List.length_dropLast, he]
    exact hh2.congr fun k hk => by rw [List.getElem?_dropLast, if_pos (by omega)]
  have hl9 : (l.length : Int) ≤ 99990 := by omega
  by_cases hlast : i = n
  · subst hlast
    have HP := Lib.hid (HPOP.out w l h (List.Perm.refl _) hx (hh.less (by omega)) (.refl _ _))
    have hne : ((i : Int) != (i : Int)) = false := by simp
    clear h hh hx hxe hi HPOP hn hl
    generalize Tk.tmV x = xv at HP ⊢
    go_enter Try.func40, Try.ntmps40
    go_wp2_with fail
    refine HLEN.out.mono ?_
    rintro e w2 ⟨rfl, rfl⟩
    go_wp2_with fail
    refine HP.out.mono ?_
    rintro e w3 ⟨rfl, HE⟩
    go_wp2_with fail
    go_ret
    exact ⟨rfl, HE.out⟩
  · have hin : i < n := by omega
    have hne : ((n : Int) != (i : Int)) = true := by rw [bne_iff_ne]; omega
    have HSW := Lib.hid (qswap h (by omega) i n hi (by omega))
    have hsl : (Heap.sw l i n).length = l.length := Heap.sw_len l i n
    have HSR := Lib.hid (hh.swapped Tk.ord hn hin)
    have HTL : Hid ((Heap.sw l i n)[n]? = some x) := by
      show _ = _
      rw [Heap.sw_get hi (by omega), if_pos rfl, hx]
    have HSP := Lib.hid (Heap.sw_perm hi (by omega : n < l.length))
    have HIN := Lib.hid (And.intro hin (And.intro hn (And.intro hl hsl)))
    clear h hh hx hxe hi hn hl hin hlast hsl
    generalize Tk.tmV x = xv at HPOP ⊢
    go_enter Try.func40, Try.ntmps40
    go_wp2_with fail
    refine HLEN.out.mono ?_
    rintro e w2 ⟨rfl, rfl⟩
    go_wp2_with fail
    refine HSW.out.mono ?_
    rintro e w3 ⟨rfl, hq3, hm3⟩
    have HDN := Lib.hid (hdown hq3 (by have := HIN.out; omega) n i (by have := HIN.out; omega) HIN.out.1 HSR.out)
    have HM3 := Lib.hid hm3
    clear hq3 hm3
    go_wp2_with fail
    refine HDN.out.mono ?_
    rintro e w4 ⟨b, l4, rfl, hq4, hm4, hd4⟩
    have HM4 : Hid (Tk.Mvt (Tk.QOff Q B v) (Tk.QOff Q B v) w w4) := HM3.out.trans hm4
    have HK4 := Lib.hid hd4.1
    cases b with
    | true =>
      have hh4 : Heap.Heap Tk.lt l4 n := by
        obtain ⟨_, h3 | ⟨h3, _⟩⟩ := hd4
        · exact h3.2
        · cases h3
      have HP := Lib.hid (HPOP.out w4 l4 hq4 (HK4.out.perm.trans HSP.out) ((HK4.out.tail n (Nat.le_refl _)).trans HTL.out) hh4 HM4.out)
      clear hq4 hm4 hd4 hh4
      go_wp2_with fail
      refine HP.out.mono ?_
      rintro e w5 ⟨rfl, HE⟩
      go_wp2_with fail
      go_ret
      exact ⟨rfl, HE.out⟩
    | false =>
      have hrise : l4 = Heap.sw l i n ∧ Heap.Rise Tk.lt (Heap.sw l i n) n i := by
        obtain ⟨_, ⟨h3, _⟩ | ⟨_, h3⟩⟩ := hd4
        · cases h3
        · exact h3
      obtain ⟨e4, hrise⟩ := hrise
      rw [← e4] at hrise HTL HSP
      have HUP := Lib.hid (hup hq4 (by have := HIN.out; have := HSP.out.length_eq; omega) n i (by have := HIN.out; have := HSP.out.length_eq; omega) HIN.out.1 hrise)
      clear hq4 hm4 hd4 hrise e4
      go_wp2_with fail
      refine HUP.out.mono ?_
      rintro e w5 ⟨rfl, l5, hq5, hm5, hk5, hh5⟩
      have HP := Lib.hid (HPOP.out w5 l5 hq5 (hk5.perm.trans HSP.out) ((hk5.tail n (Nat.le_refl _)).trans HTL.out) hh5 (HM4.out.trans hm5))
      clear hq5 hm5 hk5 hh5
      go_wp2_with fail
      refine HP.out.mono ?_
      rintro e w6 ⟨rfl, HE⟩
      go_wp2_with fail
      go_ret
      exact ⟨rfl, HE.out⟩
end Go.Proofs.Ytnojjfpccnmbeaa
