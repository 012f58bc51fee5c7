/-
  container/heap's down at the program's queue.
-/
import Derived.Test.YtnojjfpccnmbeaaTpE
import Derived.BigQuiet
namespace Go.Proofs.Ytnojjfpccnmbeaa
open Go.RowKit

namespace Heap
universe u
variable {α : Type u} {lt : α → α → Bool} {l : List α} {n i : Nat}
/-- Which child down looks at: the one that is not greater than the other one. -/
theorem least_left (hb : n ≤ 2 * i + 1 + 1 ∨ ∀ x y, l[2 * i + 1]? = some x → l[2 * i + 1 + 1]? = some y → lt y x = false) (o : Ord lt) : ∀ k, 0 < k → k < n → par k = i → le lt l (2 * i + 1) k := by
  intro k h0 hk hp a b ha hb2
  rcases (par_iff h0).1 hp with h1 | h1
  · subst h1
    rw [ha] at hb2
    obtain rfl := Option.some.inj hb2
    cases e : lt a a with
    | false => rfl
    | true => rw [o.asym a a e] at e; cases e
  · subst h1
    rcases hb with hb | hb
    · omega
    · exact hb a b ha hb2
theorem least_right {x y : α} (hx : l[2 * i + 1]? = some x) (hy : l[2 * i + 1 + 1]? = some y) (h : lt y x = true) (o : Ord lt) : ∀ k, 0 < k → k < n → par k = i → le lt l (2 * i + 1 + 1) k := by
  intro k h0 hk hp a b ha hb
  rw [show 2 * i + 1 + 1 = 2 * i + 2 by omega] at *
  rw [hy] at ha
  obtain rfl := Option.some.inj ha
  rcases (par_iff h0).1 hp with h1 | h1
  · subst h1
    rw [hx] at hb
    obtain rfl := Option.some.inj hb
    exact o.asym _ _ h
  · subst h1
    rw [hy] at hb
    obtain rfl := Option.some.inj hb
    cases e : lt y y with
    | false => rfl
    | true => rw [o.asym y y e] at e; cases e
theorem le_all {c : Nat} {x y : α} (hx : l[i]? = some x) (hy : l[c]? = some y) (h : lt y x = false) (o : Ord lt) (hm : ∀ k, 0 < k → k < n → par k = i → le lt l c k) : ∀ k, 0 < k → k < n → par k = i → le lt l i k := by
  intro k h0 hk hp a b ha hb
  rw [hx] at ha
  obtain rfl := Option.some.inj ha
  exact o.trans _ y b h (hm k h0 hk hp y b hy hb)
end Heap

set_option maxRecDepth 20000 in
set_option maxHeartbeats 4000000 in
theorem hdown {Q B : Nat} {v : Value} {l : List Tk.Tm} {w : World} (h : Tk.QTm Q B v l w) (hl : l.length ≤ 99999) (n i : Nat) (hn : n ≤ l.length) (hi : i < n) (hr : Heap.Sink Tk.lt l n i ∨ Heap.Rise Tk.lt l n i) :
    Calls Try.prog 44 #[.iface 55 (.pointer (some ⟨Q, 0, none⟩)), .int .i64 (i : Int), .int .i64 (n : Int)] w fun e w' => ∃ (b : Bool) (l' : List Tk.Tm), e = .returned (.bool b) ∧ Tk.QTm Q B v l' w' ∧ Tk.Mvt (Tk.QOff Q B v) (Tk.QOff Q B v) w w' ∧ Heap.Downed Tk.lt n i l l' b := by
  have H := Lib.hid h
  have HD : Hid (Heap.Dn Tk.lt n i l l i) := ⟨Heap.Kept.refl _ _, hi, .inl ⟨rfl, rfl, hr⟩⟩
  have hnn : (n : Int) ≤ 99999 := by omega
  clear h hr hi
  go_enter Try.func44, Try.ntmps44
  go_wp2_with fail
  go_loopw [7] (fun k wr => ∃ (j : Nat) (l' : List Tk.Tm), k = .int .i64 j ∧ Hid (Tk.QTm Q B v l' wr) ∧ Hid (Tk.Mvt (Tk.QOff Q B v) (Tk.QOff Q B v) w wr) ∧ Hid (Heap.Dn Tk.lt n i l l' j)) (fun k _ => n - (intOf k).toNat)
  case atStart => exact ⟨i, l, rfl, H.out, .refl _ _, HD.out⟩
  case round =>
    obtain ⟨k, l', rfl, HQ, HM, HDN⟩ := hrel
    have hk := HDN.out.low
    have hlen := HDN.out.kept.len
    have hk9 : (k : Int) ≤ 99999 := by omega
    obtain ⟨a, ha⟩ : ∃ a, a = 2 * k + 1 := ⟨_, rfl⟩
    have hea : 2 * (k : Int) + 1 = (a : Int) := by omega
    have ha0 : decide ((a : Int) < 0) = false := by simp
    have ha9 : (a : Int) ≤ 199999 := by omega
    have HEND : Hid (∀ W, Below wr.heap.size wr W → (∀ c, 0 < c → c < n → Heap.par c = k → Heap.le Tk.lt l' k c) → ∃ (b : Bool) (l' : List Tk.Tm), Ending.returned (.bool (decide (i < k))) = Ending.returned (.bool b) ∧ Tk.QTm Q B v l' W ∧ Tk.Mvt (Tk.QOff Q B v) (Tk.QOff Q B v) w W ∧ Heap.Downed Tk.lt n i l l' b) := fun W hb hc =>
      ⟨decide (i < k), l', rfl, HQ.out.below hb, HM.out.trans (.of_below hb), HDN.out.done Tk.ord hn hc⟩
    by_cases hlast : n ≤ a
    · have hd : decide (n ≤ a) = true := by simpa using hlast
      have HC : Hid (∀ c, 0 < c → c < n → Heap.par c = k → Heap.le Tk.lt l' k c) := fun c h0 hc hp => by
        rcases (Heap.par_iff h0).1 hp with h1 | h1 <;> omega
      have HE := Lib.hid (HEND.out wr (Below.refl _ _) HC.out)
      clear hlast hlen hk ha
      go_wp2_with fail
      go_ret
      exact HE.out
    · have hd : decide (n ≤ a) = false := by simpa using hlast
      obtain ⟨x, hx⟩ : ∃ x, l'[k]? = some x := ⟨_, List.getElem?_eq_getElem (by omega)⟩
      obtain ⟨y, hy⟩ : ∃ y, l'[a]? = some y := ⟨_, List.getElem?_eq_getElem (by omega)⟩
      obtain ⟨b, hb⟩ : ∃ b, b = a + 1 := ⟨_, rfl⟩
      have heb : (a : Int) + 1 = (b : Int) := by omega
      -- which child
      have HCH : Hid ((n ≤ b ∧ ∀ c, 0 < c → c < n → Heap.par c = k → Heap.le Tk.lt l' a c) ∨ ∃ z, b < n ∧ l'[b]? = some z ∧ ((Tk.lt z y = false ∧ ∀ c, 0 < c → c < n → Heap.par c = k → Heap.le Tk.lt l' a c) ∨ (Tk.lt z y = true ∧ ∀ c, 0 < c → c < n → Heap.par c = k → Heap.le Tk.lt l' b c))) := by
        show _ ∨ _
        subst hb
        subst ha
        rcases Nat.lt_or_ge (2 * k + 1 + 1) n with h1 | h1
        · obtain ⟨z, hz⟩ : ∃ z, l'[2 * k + 1 + 1]? = some z := ⟨_, List.getElem?_eq_getElem (by omega)⟩
          refine .inr ⟨z, h1, hz, ?_⟩
          cases e : Tk.lt z y with
          | false => exact .inl ⟨rfl, Heap.least_left (.inr fun p q hp hq => by
              rw [hy] at hp
              rw [hz] at hq
              obtain rfl := Option.some.inj hp
              obtain rfl := Option.some.inj hq
              exact e) Tk.ord⟩
          | true => exact .inr ⟨rfl, Heap.least_right hy hz e Tk.ord⟩
        · exact .inl ⟨h1, Heap.least_left (.inl h1) Tk.ord⟩
      have HSTEP : Hid (∀ (c : Nat) (z : Tk.Tm), c < n → (c = a ∨ c = b) → l'[c]? = some z → (∀ d, 0 < d → d < n → Heap.par d = k → Heap.le Tk.lt l' c d) → (Tk.lt z x = true → Heap.Dn Tk.lt n i l (Heap.sw l' k c) c) ∧ (Tk.lt z x = false → ∀ d, 0 < d → d < n → Heap.par d = k → Heap.le Tk.lt l' k d)) := fun c z hc hab hz hm =>
        ⟨fun e => HDN.out.step Tk.ord hn hc (by omega) hx hz e hm, fun e => Heap.le_all hx hz e Tk.ord hm⟩
      have HLE : Hid (∀ W (c d : Nat) (p q : Tk.Tm), Below wr.heap.size wr W → l'[c]? = some p → l'[d]? = some q → Calls Try.prog 81 #[.pointer (some ⟨Q, 0, none⟩), .int .i64 (c : Int), .int .i64 (d : Int)] W fun e w' => e = .returned (.bool (Tk.lt p q)) ∧ Below W.heap.size W w') := fun W c d p q hb hc hd => qless2 (HQ.out.below hb) c d p q hc hd
      have HSW : Hid (∀ W (c : Nat), c < n → Below wr.heap.size wr W → Calls Try.prog 84 #[.pointer (some ⟨Q, 0, none⟩), .int .i64 (k : Int), .int .i64 (c : Int)] W fun e w' => e = .returned (.tuple #[]) ∧ Tk.QTm Q B v (Heap.sw l' k c) w' ∧ Tk.Mvt (Tk.QOff Q B v) (Tk.QOff Q B v) W w') := fun W c hc hb =>
        qswap (HQ.out.below hb) (by omega) k c (by omega) (by omega)
      have HX := Lib.hid hx
      have HY := Lib.hid hy
      have HAB : Hid (k < a ∧ a < n ∧ b = a + 1 ∧ k < n) := ⟨by omega, by omega, hb, hk⟩
      clear hlast hlen hk ha hx hy hb
      have hb9 : (b : Int) ≤ 200000 := by omega
      rcases HCH.out with ⟨hnb, hm⟩ | ⟨z, hbn, hz, hcase⟩
      · have hdb : decide (b < n) = false := by simpa using hnb
        have HST := Lib.hid (HSTEP.out a y HAB.out.2.1 (.inl rfl) HY.out hm)
        have HSWC : Hid (∀ W, Below wr.heap.size wr W → _) := fun W hb => HSW.out W a HAB.out.2.1 hb
        have HL := Lib.hid (HLE.out wr a k y x (Below.refl _ _) HY.out HX.out)
        generalize Tk.lt y x = t at HST HL
        clear hnb hm
        go_wp2_with fail
        refine HL.out.mono ?_
        rintro e w1 ⟨rfl, hb1⟩
        have HB1 := Lib.hid hb1
        clear hb1
        cases t with
        | false =>
          have HE := Lib.hid (HEND.out w1 HB1.out (HST.out.2 rfl))
          go_wp2_with fail
          go_ret
          exact HE.out
        | true =>
          have HD2 := Lib.hid (HST.out.1 rfl)
          go_wp2_with fail
          refine (HSWC.out w1 HB1.out).mono ?_
          rintro e w2 ⟨rfl, hq2, hm2⟩
          have HQ2 := Lib.hid hq2
          have HM2 : Hid (Tk.Mvt (Tk.QOff Q B v) (Tk.QOff Q B v) w w2) := (HM.out.trans (.of_below HB1.out)).trans hm2
          clear hq2 hm2
          go_wp2_with fail
          go_roundw
          case rel => exact ⟨a, _, rfl, HQ2.out, HM2.out, HD2.out⟩
          case measure => have := HAB.out; simp [intOf]; omega
      rcases hcase with ⟨hf, hm⟩ | ⟨ht, hm⟩
      · have hdb : decide (b < n) = true := by simpa using hbn
        have HST := Lib.hid (HSTEP.out a y HAB.out.2.1 (.inl rfl) HY.out hm)
        have HSWC : Hid (∀ W, Below wr.heap.size wr W → _) := fun W hb => HSW.out W a HAB.out.2.1 hb
        have HL0 := Lib.hid (HLE.out wr b a z y (Below.refl _ _) hz HY.out)
        rw [hf] at HL0
        have HZ := Lib.hid hz
        have hbn2 := Lib.hid hbn
        clear hbn hm hz hf
        go_wp2_with fail
        refine HL0.out.mono ?_
        rintro e w1 ⟨rfl, hb1⟩
        have HB1 := Lib.hid hb1
        clear hb1
        have HL := Lib.hid (HLE.out w1 a k y x HB1.out HY.out HX.out)
        generalize Tk.lt y x = t at HST HL
        clear hdb
        go_wp2_with fail
        refine HL.out.mono ?_
        rintro e w2 ⟨rfl, hb2⟩
        have HB2 : Hid (Below wr.heap.size wr w2) := HB1.out.trans (hb2.mono HB1.out.size)
        clear hb2
        cases t with
        | false =>
          have HE := Lib.hid (HEND.out w2 HB2.out (HST.out.2 rfl))
          go_wp2_with fail
          go_ret
          exact HE.out
        | true =>
          have HD2 := Lib.hid (HST.out.1 rfl)
          go_wp2_with fail
          refine (HSWC.out w2 HB2.out).mono ?_
          rintro e w3 ⟨rfl, hq2, hm2⟩
          have HQ2 := Lib.hid hq2
          have HM2 : Hid (Tk.Mvt (Tk.QOff Q B v) (Tk.QOff Q B v) w w3) := (HM.out.trans (.of_below HB2.out)).trans hm2
          clear hq2 hm2
          go_wp2_with fail
          go_roundw
          case rel => exact ⟨a, _, rfl, HQ2.out, HM2.out, HD2.out⟩
          case measure => have := HAB.out; simp [intOf]; omega
      · have hdb : decide (b < n) = true := by simpa using hbn
        have HST := Lib.hid (HSTEP.out b z hbn (.inr rfl) hz hm)
        have HSWC : Hid (∀ W, Below wr.heap.size wr W → _) := fun W hb => HSW.out W b hbn hb
        have HL0 := Lib.hid (HLE.out wr b a z y (Below.refl _ _) hz HY.out)
        rw [ht] at HL0
        have HZ := Lib.hid hz
        have hbn2 := Lib.hid hbn
        clear hbn hm hz ht
        go_wp2_with fail
        refine HL0.out.mono ?_
        rintro e w1 ⟨rfl, hb1⟩
        have HB1 := Lib.hid hb1
        clear hb1
        have HL := Lib.hid (HLE.out w1 b k z x HB1.out HZ.out HX.out)
        generalize Tk.lt z x = t at HST HL
        clear hdb
        go_wp2_with fail
        refine HL.out.mono ?_
        rintro e w2 ⟨rfl, hb2⟩
        have HB2 : Hid (Below wr.heap.size wr w2) := HB1.out.trans (hb2.mono HB1.out.size)
        clear hb2
        cases t with
        | false =>
          have HE := Lib.hid (HEND.out w2 HB2.out (HST.out.2 rfl))
          go_wp2_with fail
          go_ret
          exact HE.out
        | true =>
          have HD2 := Lib.hid (HST.out.1 rfl)
          go_wp2_with fail
          refine (HSWC.out w2 HB2.out).mono ?_
          rintro e w3 ⟨rfl, hq2, hm2⟩
          have HQ2 := Lib.hid hq2
          have HM2 : Hid (Tk.Mvt (Tk.QOff Q B v) (Tk.QOff Q B v) w w3) := (HM.out.trans (.of_below HB2.out)).trans hm2
          clear hq2 hm2
          go_wp2_with fail
          go_roundw
          case rel => exact ⟨b, _, rfl, HQ2.out, HM2.out, HD2.out⟩
          case measure => have := HAB.out; simp [intOf]; omega
end Go.Proofs.Ytnojjfpccnmbeaa
