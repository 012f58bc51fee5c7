/-
  Plain facts of what is written and read again: whole, or cut off somewhere.
-/
import Derived.Test.YtpmhpibbdcifnaaGreatWireP
import Derived.Test.YtpmhpibbdcifnaaGreatLowWireR
namespace Go.Proofs.YtpmhpibbdcifnaaGreat
open Go.RowKit

theorem uBytes_len {xs : List Nat} (h : ∀ x ∈ xs, x < 18446744073709551616) : (uBytes xs).length ≤ 10 * xs.length := by
  induction xs with
  | nil => simp [uBytes]
  | cons x xs ih =>
    have h1 := Lib.uvarint_length64 (h x (by simp))
    have h2 := ih (fun z hz => h z (by simp [hz]))
    have e : uBytes (x :: xs) = Lib.uvarint x ++ uBytes xs := by unfold uBytes; rw [List.flatMap_cons]
    rw [e, List.length_append, List.length_cons]
    omega
theorem iBytes_len {xs : List Int} (h : ∀ x ∈ xs, -9223372036854775808 ≤ x ∧ x ≤ 9223372036854775807) : (iBytes xs).length ≤ 10 * xs.length := by
  induction xs with
  | nil => simp [iBytes]
  | cons x xs ih =>
    have h1 := Lib.uvarint_length64 (Lib.zigzag_lt (h x (by simp)).1 (h x (by simp)).2)
    have h2 := ih (fun z hz => h z (by simp [hz]))
    have e : iBytes (x :: xs) = Lib.uvarint (Lib.zigzag x) ++ iBytes xs := by unfold iBytes; rw [List.flatMap_cons]
    rw [e, List.length_append, List.length_cons]
    omega
theorem tBytes_len {xs : List ByteArray} (h : ∀ x ∈ xs, x.size ≤ 4096) : (tBytes xs).length ≤ 4106 * xs.length := by
  induction xs with
  | nil => simp [tBytes]
  | cons x xs ih =>
    have h1 := text_len x (h x (by simp))
    have h2 := ih (fun z hz => h z (by simp [hz]))
    rw [Wire.tBytes_cons, ← List.append_assoc, List.length_append, List.length_cons]
    omega
theorem uBytes_drop {xs : List Nat} {k : Nat} (h : k < xs.length) : uBytes (xs.drop k) = Lib.uvarint xs[k] ++ uBytes (xs.drop (k + 1)) := by
  rw [List.drop_eq_getElem_cons h]; unfold uBytes; rw [List.flatMap_cons]
theorem iBytes_drop {xs : List Int} {k : Nat} (h : k < xs.length) : iBytes (xs.drop k) = Lib.uvarint (Lib.zigzag xs[k]) ++ iBytes (xs.drop (k + 1)) := by
  rw [List.drop_eq_getElem_cons h]; unfold iBytes; rw [List.flatMap_cons]
theorem tBytes_drop {xs : List ByteArray} {k : Nat} (h : k < xs.length) : tBytes (xs.drop k) = Lib.uvarint (xs[k]).size ++ ((xs[k]).data.toList ++ tBytes (xs.drop (k + 1))) := by
  rw [List.drop_eq_getElem_cons h, Wire.tBytes_cons]

namespace Wire
/-- What is left of bytes R: in part 0 all of it; in part 1 less than it, or the fault that bytes are wanting. -/
def Bk (p : Nat) (s : ByteArray) (f : Nat) (R : List UInt8) : Prop :=
  (p = 0 ∧ f = 0 ∧ s.data.toList = R) ∨ (p = 1 ∧ (f = 10 ∨ (f = 0 ∧ ∃ n, n < R.length ∧ s.data.toList = R.take n)))

theorem rest_data (s : ByteArray) (q : Nat) : (s.extract q s.size).data.toList = s.data.toList.drop q := by
  rw [Lib.extract_data, List.take_of_length_le (by simp)]
theorem size_of (s : ByteArray) : s.size = s.data.toList.length := by simp

theorem Bk_num {p : Nat} {s : ByteArray} {f x : Nat} {R : List UInt8} {wrong : Nat → Nat → Nat} (hx : x < 18446744073709551616) (hw : ∀ b, wrong x b = 0) (h : Bk p s f (Lib.uvarint x ++ R)) :
    Bk p (step wrong s f).2.1 (step wrong s f).2.2 R ∧ (p = 0 → (step wrong s f).1 = x) := by
  rcases h with ⟨rfl, rfl, hs⟩ | ⟨rfl, hf | ⟨rfl, n, hn, hs⟩⟩
  · have hr := Num.rd_uv x hx R
    rw [← hs] at hr
    rw [step_ok hr (hw _)]
    refine ⟨.inl ⟨rfl, rfl, ?_⟩, fun _ => rfl⟩
    rw [rest_data, hs, List.drop_left]
  · rw [step_fault (by omega)]
    exact ⟨.inr ⟨rfl, .inl hf⟩, fun h => by omega⟩
  · by_cases hc : n < (Lib.uvarint x).length
    · have hr := Num.rd_cut x hx n hc
      rw [← List.take_append_of_le_length (l₂ := R) (by omega), ← hs] at hr
      rw [step_bad hr (by decide)]
      exact ⟨.inr ⟨rfl, .inl rfl⟩, fun h => by omega⟩
    · rw [List.take_append, List.take_of_length_le (by omega)] at hs
      have hr := Num.rd_uv x hx (R.take (n - (Lib.uvarint x).length))
      rw [← hs] at hr
      rw [step_ok hr (hw _)]
      rw [List.length_append] at hn
      refine ⟨.inr ⟨rfl, .inr ⟨rfl, n - (Lib.uvarint x).length, by omega, ?_⟩⟩, fun h => by omega⟩
      rw [rest_data, hs, List.drop_left]

theorem Bk_text {p : Nat} {s t : ByteArray} {f : Nat} {R : List UInt8} (hx : t.size < 18446744073709551616) (h : Bk p s f (Lib.uvarint t.size ++ (t.data.toList ++ R))) :
    Bk p (text t.size s f).2.1 (text t.size s f).2.2 R ∧ (p = 0 → (text t.size s f).1 = t) := by
  have lt : t.data.toList.length = t.size := by simp
  rcases h with ⟨rfl, rfl, hs⟩ | ⟨rfl, hf | ⟨rfl, n, hn, hs⟩⟩
  · have hr := Num.rd_uv t.size hx (t.data.toList ++ R)
    rw [← hs] at hr
    have hb : s.size - (Lib.uvarint t.size).length = t.size + R.length := by
      rw [size_of s, hs]; simp
    have hst := step_ok (wrong := wC t.size) hr (wC_ok (by omega) (by omega))
    have hd : (s.extract (Lib.uvarint t.size).length s.size).data.toList = t.data.toList ++ R := by rw [rest_data, hs, List.drop_left]
    unfold text
    rw [hst]
    refine ⟨.inl ⟨rfl, rfl, ?_⟩, fun _ => ?_⟩
    · simp only []
      rw [rest_data, hd, ← lt, List.drop_left]
    · simp only []
      apply ByteArray.ext
      apply Array.ext'
      rw [Lib.extract_data, Nat.sub_zero, List.drop_zero, hd, ← lt, List.take_left]
  · unfold text
    rw [step_fault (by omega)]
    exact ⟨.inr ⟨rfl, .inl hf⟩, fun h => by omega⟩
  · by_cases hc : n < (Lib.uvarint t.size).length
    · have hr := Num.rd_cut t.size hx n hc
      rw [← List.take_append_of_le_length (l₂ := t.data.toList ++ R) (by omega), ← hs] at hr
      unfold text
      rw [step_bad hr (by decide)]
      exact ⟨.inr ⟨rfl, .inl rfl⟩, fun h => by omega⟩
    · rw [List.take_append, List.take_of_length_le (by omega)] at hs
      have hr := Num.rd_uv t.size hx ((t.data.toList ++ R).take (n - (Lib.uvarint t.size).length))
      rw [← hs] at hr
      rw [List.length_append, List.length_append] at hn
      obtain ⟨m, hm⟩ : ∃ m, m = n - (Lib.uvarint t.size).length := ⟨_, rfl⟩
      rw [← hm] at hs
      have hmR : m < t.size + R.length := by omega
      have hb : s.size - (Lib.uvarint t.size).length = m := by
        rw [size_of s, hs]; simp; omega
      by_cases hc2 : m < t.size
      · have hst := step_wrong (wrong := wC t.size) hr (wC_short (by omega) (by omega)) (by decide)
        unfold text
        rw [hst]
        exact ⟨.inr ⟨rfl, .inl rfl⟩, fun h => by omega⟩
      · have hst := step_ok (wrong := wC t.size) hr (wC_ok (by omega) (by omega))
        have hd : (s.extract (Lib.uvarint t.size).length s.size).data.toList = t.data.toList ++ R.take (m - t.size) := by
          rw [rest_data, hs, List.drop_left, List.take_append, List.take_of_length_le (by omega), lt]
        unfold text
        rw [hst]
        refine ⟨.inr ⟨rfl, .inr ⟨rfl, m - t.size, by omega, ?_⟩⟩, fun h => by omega⟩
        simp only []
        rw [rest_data, hd, ← lt, List.drop_left]

theorem Bk_end0 {s : ByteArray} {f : Nat} (h : Bk 0 s f []) : fin s f = 0 := by
  rcases h with ⟨_, rfl, hs⟩ | ⟨h, _⟩
  · unfold fin
    rw [if_neg (by simp), if_pos (by rw [size_of s, hs]; rfl)]
  · omega
theorem Bk_end1 {s : ByteArray} {f : Nat} (h : Bk 1 s f []) : f = 10 := by
  rcases h with ⟨h, _⟩ | ⟨_, h | ⟨_, n, hn, _⟩⟩
  · omega
  · exact h
  · simp at hn

theorem text_size (m : Int) (s : ByteArray) (f : Nat) : (text m s f).2.1.size ≤ s.size := by
  have := step_size (wrong := wC m) s f
  unfold text
  simp only [ByteArray.size_extract]
  omega
theorem wU_all {x b : Nat} (h : x < 18446744073709551616) : wU 18446744073709551615 x b = 0 := wU_no (by omega)
theorem wI_all {x : Int} {b : Nat} (h : -9223372036854775808 ≤ x ∧ x ≤ 9223372036854775807) : wI (-9223372036854775808) 9223372036854775807 (Lib.zigzag x) b = 0 := wI_no (by rw [Num.zag_zig]; omega)
end Wire
end Go.Proofs.YtpmhpibbdcifnaaGreat
