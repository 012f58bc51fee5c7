/-
  Plain facts of texts' bytes: which begin with which.
-/
import Derived.Test.YtpmhpibbdcifnaaGreatLowWireW
namespace Go.Proofs.YtpmhpibbdcifnaaGreat
open Go.RowKit

namespace Wire
theorem tBytes_cons (x : ByteArray) (xs : List ByteArray) : tBytes (x :: xs) = Lib.uvarint x.size ++ (x.data.toList ++ tBytes xs) := by
  unfold tBytes
  rw [List.flatMap_cons, List.append_assoc]
theorem tBytes_append (a b : List ByteArray) : tBytes (a ++ b) = tBytes a ++ tBytes b := by unfold tBytes; rw [List.flatMap_append]

/-- Of two numbers with something behind them, alike up to the shorter one's end. -/
theorem uv_front {m n : Nat} (hm : m < 18446744073709551616) (hn : n < 18446744073709551616) {s t r : List UInt8} (h : Lib.uvarint m ++ s ++ r = Lib.uvarint n ++ t) : m = n ∧ s ++ r = t := by
  have h1 := Num.rd_uv m hm (s ++ r)
  have h2 := Num.rd_uv n hn t
  rw [← List.append_assoc, h] at h1
  rw [h1] at h2
  have e : m = n := (Prod.mk.injEq _ _ _ _ ▸ h2).1
  subst e
  rw [List.append_assoc] at h
  exact ⟨rfl, List.append_cancel_left h⟩

theorem tBytes_front : ∀ (a b : List ByteArray) (_ha : ∀ x ∈ a, x.size ≤ 4096) (_hb : ∀ x ∈ b, x.size ≤ 4096) (r : List UInt8), tBytes a ++ r = tBytes b → ∃ c, b = a ++ c ∧ r = tBytes c
  | [], b, _, _, r, h => ⟨b, rfl, by simpa [tBytes] using h⟩
  | x :: a, [], _, _, r, h => by
    exfalso
    have hp := Lib.uvarint_pos x.size
    have := congrArg List.length h
    rw [tBytes_cons, List.length_append, List.length_append, List.length_append] at this
    have e0 : (tBytes []).length = 0 := rfl
    omega
  | x :: a, y :: b, ha, hb, r, h => by
    rw [tBytes_cons, tBytes_cons] at h
    have hx := ha x (by simp)
    have hy := hb y (by simp)
    obtain ⟨e, h'⟩ := uv_front (m := x.size) (n := y.size) (by omega) (by omega) h
    have lx : x.data.toList.length = x.size := by simp
    have ly : y.data.toList.length = y.size := by simp
    rw [List.append_assoc] at h'
    obtain ⟨e1, e2⟩ := List.append_inj h' (by omega)
    have exy : x = y := by
      apply ByteArray.ext
      apply Array.ext'
      exact e1
    obtain ⟨c, hc, hr⟩ := tBytes_front a b (fun z hz => ha z (by simp [hz])) (fun z hz => hb z (by simp [hz])) r e2
    exact ⟨c, by rw [exy, hc]; rfl, hr⟩

theorem tBytes_inj {a b : List ByteArray} (ha : ∀ x ∈ a, x.size ≤ 4096) (hb : ∀ x ∈ b, x.size ≤ 4096) (h : tBytes a = tBytes b) : a = b := by
  obtain ⟨c, hc, hr⟩ := tBytes_front a b ha hb [] (by simpa using h)
  cases c with
  | nil => simpa using hc.symm
  | cons y c =>
    exfalso
    have hp := Lib.uvarint_pos y.size
    have := congrArg List.length hr
    rw [tBytes_cons] at this
    simp at this
    omega

/-- How many texts at the front of both are the same. -/
def cp : List ByteArray → List ByteArray → Nat
  | x :: a, y :: b => if x = y then cp a b + 1 else 0
  | _, _ => 0
theorem cp_le : ∀ (a b : List ByteArray), cp a b ≤ a.length ∧ cp a b ≤ b.length
  | [], b => by simp [cp]
  | _ :: _, [] => by simp [cp]
  | x :: a, y :: b => by
    have := cp_le a b
    unfold cp
    split <;> simp <;> omega
theorem cp_same : ∀ (a b : List ByteArray) (k : Nat), k < cp a b → a[k]? = b[k]?
  | [], b, k, h => by simp [cp] at h
  | _ :: _, [], k, h => by simp [cp] at h
  | x :: a, y :: b, k, h => by
    unfold cp at h
    split at h
    · rename_i e
      cases k with
      | zero => simp [e]
      | succ k => simpa using cp_same a b k (by omega)
    · omega
theorem cp_stop : ∀ (a b : List ByteArray), cp a b < a.length → cp a b < b.length → a[cp a b]? ≠ b[cp a b]?
  | [], b, h, _ => by simp [cp] at h
  | _ :: _, [], _, h => by simp [cp] at h
  | x :: a, y :: b, h, h' => by
    unfold cp at h h' ⊢
    split
    · rename_i e
      rw [if_pos e] at h h'
      simpa using cp_stop a b (by simpa using h) (by simpa using h')
    · rename_i e
      simpa using e
theorem cp_all : ∀ (a b : List ByteArray), cp a b = a.length ↔ ∃ c, b = a ++ c
  | [], b => by simp [cp]
  | x :: a, [] => by simp [cp]
  | x :: a, y :: b => by
    have ih := cp_all a b
    unfold cp
    split
    · rename_i e
      rw [List.length_cons, Nat.add_right_cancel_iff, ih]
      constructor
      · rintro ⟨c, rfl⟩; exact ⟨c, by rw [e]; rfl⟩
      · rintro ⟨c, hc⟩
        simp at hc
        exact ⟨c, hc.2⟩
    · rename_i e
      constructor
      · intro h; simp at h
      · rintro ⟨c, hc⟩
        simp at hc
        exact absurd hc.1.symm e

/-- The answers that the law holds against each other. -/
theorem apart_eq {a b : List ByteArray} (ha : ∀ x ∈ a, x.size ≤ 4096) (hb : ∀ x ∈ b, x.size ≤ 4096) (S T : ByteArray) (hS : S.data.toList = tBytes a) (hT : T.data.toList = tBytes b) :
    (S.toList == T.toList) = decide (a = b) := by
  rw [Lib.toList_data, Lib.toList_data, hS, hT]
  by_cases h : a = b
  · subst h; simp
  · have : tBytes a ≠ tBytes b := fun e => h (tBytes_inj ha hb e)
    simp [h, this]
theorem apart_front {a b : List ByteArray} (ha : ∀ x ∈ a, x.size ≤ 4096) (hb : ∀ x ∈ b, x.size ≤ 4096) (S T : ByteArray) (hS : S.data.toList = tBytes a) (hT : T.data.toList = tBytes b) :
    ((T.extract 0 S.size).toList == S.toList) = decide (cp a b = a.length) := by
  have lS : S.data.toList.length = S.size := by simp
  rw [Lib.toList_data, Lib.toList_data, Lib.extract_data, hS, hT, Nat.sub_zero, List.drop_zero]
  rw [hS] at lS
  by_cases h : cp a b = a.length
  · obtain ⟨c, hc⟩ := (cp_all a b).1 h
    rw [hc, tBytes_append, ← lS, List.take_left, ← hc]
    simp [h]
  · have : (tBytes b).take S.size ≠ tBytes a := by
      intro e
      obtain ⟨c, hc, _⟩ := tBytes_front a b ha hb ((tBytes b).drop S.size) (by rw [← e, List.take_append_drop])
      exact h ((cp_all a b).2 ⟨c, hc⟩)
    simp [h, this]
theorem apart_long {a b : List ByteArray} (S T : ByteArray) (hS : S.data.toList = tBytes a) (hT : T.data.toList = tBytes b) (hlt : ¬ S.size ≤ T.size) : cp a b ≠ a.length := by
  intro h
  obtain ⟨c, hc⟩ := (cp_all a b).1 h
  have lS : S.data.toList.length = S.size := by simp
  have lT : T.data.toList.length = T.size := by simp
  rw [hS] at lS
  rw [hT, hc, tBytes_append, List.length_append] at lT
  omega
theorem apart_same {a b : List ByteArray} : (a = b) ↔ (a.length = b.length ∧ cp a b = a.length) := by
  constructor
  · rintro rfl; exact ⟨rfl, (cp_all a a).2 ⟨[], by simp⟩⟩
  · rintro ⟨h1, h2⟩
    obtain ⟨c, rfl⟩ := (cp_all a b).1 h2
    have : c = [] := by
      rw [List.length_append] at h1
      exact List.eq_nil_of_length_eq_zero (by omega)
    rw [this, List.append_nil]
end Wire
end Go.Proofs.YtpmhpibbdcifnaaGreat
