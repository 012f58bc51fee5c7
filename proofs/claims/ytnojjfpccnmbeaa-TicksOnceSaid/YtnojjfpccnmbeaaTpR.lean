/-
  Timers of many keys; what a chain of calls leaves below.
-/
import Derived.Test.YtnojjfpccnmbeaaTpQ
namespace Go.Proofs.Ytnojjfpccnmbeaa
open Go.RowKit

namespace Tk
theorem bel {T Q B : Nat} {off : Nat → Prop} {w w1 w' : World} (hb : Below w.heap.size w w1) (hT : w.heap.size ≤ T) (hQ : w.heap.size ≤ Q) (hB : w.heap.size ≤ B) (m : Mvt (POff T Q B (.slice none 0 0)) off w1 w') : Below w.heap.size w w' :=
  have ho : ∀ i, i < w.heap.size → POff T Q B (.slice none 0 0) i := fun i hi => ⟨by omega, by omega, by omega, by simp [Value.ownBlock]⟩
  ⟨m.os.trans hb.os, m.tape.trans hb.tape, m.output.trans hb.output, Nat.le_trans hb.size m.size, fun i hi => (m.block i (Nat.lt_of_lt_of_le hi hb.size) (ho i hi)).trans (hb.block i hi)⟩
def keyF (j : Nat) : ByteArray := ⟨#[UInt8.ofNat (j / 256), UInt8.ofNat (j % 256)]⟩
theorem keyF_inj {i j : Nat} (hi : i < 65536) (hj : j < 65536) (h : keyF i = keyF j) : i = j := by
  unfold keyF at h
  have h1 : (#[UInt8.ofNat (i / 256), UInt8.ofNat (i % 256)] : Array UInt8) = #[UInt8.ofNat (j / 256), UInt8.ofNat (j % 256)] := congrArg ByteArray.data h
  have h2 := congrArg Array.toList h1
  simp only [List.cons.injEq, and_true] at h2
  have e1 := congrArg UInt8.toNat h2.1
  have e2 := congrArg UInt8.toNat h2.2
  simp only [UInt8.toNat_ofNat'] at e1 e2
  omega
theorem keyF_size (j : Nat) : (keyF j).size = 2 := rfl
def kNew : ByteArray := ⟨#[110, 101, 119]⟩
def Lf (b : Int) (n : Nat) : List Tm := (List.range n).map fun i => (keyF i, b + 1 + i)
theorem Lf_len (b : Int) (n : Nat) : (Lf b n).length = n := by simp [Lf]
theorem Lf_succ (b : Int) (n : Nat) : Lf b (n + 1) = Lf b n ++ [(keyF n, b + 1 + n)] := by simp [Lf, List.range_succ]
theorem Lf_mem {b : Int} {n : Nat} {x : Tm} (h : x ∈ Lf b n) : ∃ i, i < n ∧ x = (keyF i, b + 1 + i) := by
  unfold Lf at h
  obtain ⟨i, hi, e⟩ := List.mem_map.1 h
  exact ⟨i, List.mem_range.1 hi, e.symm⟩
theorem Lf_has {b : Int} {n k : Nat} (h : k < n) : has (keyF k) (Lf b n) = true := has_iff.2 ⟨(keyF k, b + 1 + k), List.mem_map.2 ⟨k, List.mem_range.2 h, rfl⟩, rfl⟩
theorem has_no {k : ByteArray} {l : List Tm} (h : ∀ x ∈ l, x.1 ≠ k) : has k l = false := by
  cases e : has k l with
  | false => rfl
  | true =>
    obtain ⟨x, hx, hk⟩ := has_iff.1 e
    exact absurd hk (h x hx)
theorem Lf_next {b : Int} (hb : 0 ≤ b ∧ b ≤ 65535) {n : Nat} (hn : n < 1024) {l : List Tm} (hp : l.Perm (Lf b n)) : setC 0 l (keyF n) (b + 1 + n) = 0 ∧ ∀ l' : List Tm, l'.Perm (setL 0 l (keyF n) (b + 1 + n)) → l'.Perm (Lf b (n + 1)) := by
  have hno : ∀ x ∈ l, x.1 ≠ keyF n := fun x hx e => by
    obtain ⟨i, hi, rfl⟩ := Lf_mem (hp.subset hx)
    have := keyF_inj (by omega) (by omega) e
    omega
  have hlen : l.length = n := by rw [hp.length_eq, Lf_len]
  have hc : setC 0 l (keyF n) (b + 1 + n) = 0 := by
    unfold setC
    rw [if_neg (by rw [keyF_size]; omega), if_neg (by omega), if_neg (by rw [hlen]; omega)]
  refine ⟨hc, fun l' h => ?_⟩
  unfold setL at h
  rw [if_pos hc, drop_none hno] at h
  rw [Lf_succ]
  exact h.trans (hp.append_right _)
/-- What the last calls of TicksFull come to. -/
structure Fulls (b : Int) (k : Nat) (l : List Tm) : Prop where
  a1 : setC 0 l kNew 5 = 6
  b1 : setC 0 l (keyF k) 1 = 0
  next : ∀ (l2 : List Tm) (x : Tm), l2.Perm (setL 0 l (keyF k) 1) → First l2 x → x.2 = 1 ∧ (x.1 = keyF k ∨ b = 0)
  some_ : ∀ l2 : List Tm, l2.Perm (setL 0 l (keyF k) 1) → l2 ≠ [] ∧ l2.length = 1024
  stop : ∀ l2 : List Tm, Dist l2 → l2.Perm (setL 0 l (keyF k) 1) → l2.length - (stopL [keyF k] l2).length = 1
  d1 : ∀ l2 l3 : List Tm, l2.Perm (setL 0 l (keyF k) 1) → l3.Perm (stopL [keyF k] l2) → setC 0 l3 kNew 2 = 0 ∧ l3.length = 1023 ∧ ∀ l4 : List Tm, l4.Perm (setL 0 l3 kNew 2) → l4.length = 1024
theorem new_ne (j : Nat) : keyF j ≠ kNew := fun e => by
  have := congrArg ByteArray.size e
  rw [keyF_size] at this
  cases this
theorem fulls {b : Int} (hb : 0 ≤ b ∧ b ≤ 65535) {k : Nat} (hk : k < 1024) {l : List Tm} (hd : Dist l) (hp : l.Perm (Lf b 1024)) : Fulls b k l := by
  have hlen : l.length = 1024 := by rw [hp.length_eq, Lf_len]
  have hnew : has kNew l = false := has_no fun x hx e => by
    obtain ⟨i, _, rfl⟩ := Lf_mem (hp.subset hx)
    exact new_ne i e
  have hhas : has (keyF k) l = true := by rw [has_perm hp]; exact Lf_has hk
  have hc2 : setC 0 l (keyF k) 1 = 0 := by
    unfold setC
    rw [if_neg (by rw [keyF_size]; omega), if_neg (by omega), if_neg (by rw [hhas]; simp)]
  have hL : setL 0 l (keyF k) 1 = drop (keyF k) l ++ [(keyF k, 1)] := by unfold setL; rw [if_pos hc2]
  have hcnt := drop_count hd (keyF k)
  rw [hhas, if_pos rfl] at hcnt
  have hdd : drop (keyF k) (drop (keyF k) l ++ [(keyF k, 1)]) = drop (keyF k) l := by
    unfold drop
    rw [List.filter_append, List.filter_filter]
    simp
  have hlen2 : (setL 0 l (keyF k) 1).length = 1024 := by rw [hL, List.length_append]; simp; omega
  refine ⟨?_, hc2, fun l2 x hp2 hf => ?_, fun l2 hp2 => ⟨fun e => ?_, by rw [hp2.length_eq, hlen2]⟩, fun l2 hd2 hp2 => ?_, fun l2 l3 hp2 hp3 => ?_⟩
  · unfold setC
    rw [if_neg (by decide), if_neg (by omega), if_pos ⟨hnew, by omega⟩]
  · rw [hL] at hp2
    have h1 := hf.2 (keyF k, 1) (hp2.symm.subset (by simp))
    rw [lt_not] at h1
    have hxm := hp2.subset hf.1
    rcases List.mem_append.1 hxm with hx | hx
    · obtain ⟨i, hi, rfl⟩ := Lf_mem (hp.subset (drop_mem.1 hx).1)
      simp only at h1 ⊢
      rcases h1 with h1 | h1
      · omega
      · have := h1.1
        exact ⟨by omega, .inr (by omega)⟩
    · rw [List.mem_singleton.1 hx]
      exact ⟨rfl, .inl rfl⟩
  · rw [e] at hp2
    have := hp2.length_eq
    rw [hlen2] at this
    simp at this
  · have h1 : (stopL [keyF k] l2).Perm (drop (keyF k) l) := by
      have := drop_perm (k := keyF k) hp2
      rw [hL, hdd] at this
      exact this
    rw [h1.length_eq, hp2.length_eq, hlen2]
    omega
  · have h1 : l3.Perm (drop (keyF k) l) := by
      have := drop_perm (k := keyF k) hp2
      rw [hL, hdd] at this
      exact hp3.trans this
    have hl3 : l3.length = 1023 := by rw [h1.length_eq]; omega
    have hno : ∀ x ∈ l3, x.1 ≠ kNew := fun x hx e => by
      obtain ⟨i, _, rfl⟩ := Lf_mem (hp.subset (drop_mem.1 (h1.subset hx)).1)
      exact new_ne i e
    have hc : setC 0 l3 kNew 2 = 0 := by
      unfold setC
      rw [if_neg (by decide), if_neg (by omega), if_neg (by omega)]
    refine ⟨hc, hl3, fun l4 h4 => ?_⟩
    unfold setL at h4
    rw [if_pos hc, drop_none hno] at h4
    rw [h4.length_eq, List.length_append, hl3]
    rfl
theorem conv_key (j : Nat) (W : World) : (convert 53 9 (.slice (some ⟨W.heap.size, 0, none⟩) 2 2)).run Try.prog (W.alloc (.cells #[.int .u8 ((j : Int) / 256), .int .u8 ((j : Int) % 256)] 5)) = .ok (.string (keyF j)) (W.alloc (.cells #[.int .u8 ((j : Int) / 256), .int .u8 ((j : Int) % 256)] 5)) := by
  have hr := heap_alloc_new W (.cells #[.int .u8 ((j : Int) / 256), .int .u8 ((j : Int) % 256)] 5)
  have := run_convert_bytes_arg (P := Try.prog) (W.alloc (.cells #[.int .u8 ((j : Int) / 256), .int .u8 ((j : Int) % 256)] 5)) 53 5 Try.underlying53 Try.underlying5 W.heap.size 0 2 2 [(j : Int) / 256, (j : Int) % 256] rfl
    (fun i hi => by
      have : i = 0 ∨ i = 1 := by omega
      rcases this with rfl | rfl
      · exact cell_of_row _ _ 0 _ _ _ hr
      · exact cell_of_row _ _ 1 _ _ _ hr) 9 Try.underlying9
  rw [this]
  have e1 : ((j : Int) / 256).toNat = j / 256 := by omega
  have e2 : ((j : Int) % 256).toNat = j % 256 := by omega
  simp [strOfNums, keyF, e1, e2]
end Tk
end Go.Proofs.Ytnojjfpccnmbeaa
