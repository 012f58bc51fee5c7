/-
  Contracts of the document's answers for numbers: Uint, Int, Read, ReadInt.
  Contracts of the document's answers for numbers: Read, ReadInt.
  Contracts of the document's bricks: Uint, Int, Text, Bool.
  Contracts of the document's Reader.
  Contracts of the document's Reader: Tag, Bool, Count, Text, End.
-/
import Derived.Test.YtepnofklmdofmaaGreatDoorLowNum
import Derived.Deep.RegionWith
import Derived.BigQuiet
import Derived.Test.YtepnofklmdofmaaGreatDoorLowWireW
import Derived.Test.YtepnofklmdofmaaGreatDoorLowWireR
section
namespace Go.Proofs.YtepnofklmdofmaaGreatDoor
open Go.RowKit

/-- Cells that were there when a call began, behind it. -/
theorem kept_cells {U V : World} (h : Below U.heap.size U V) :
    (∀ n k, n < U.heap.size → V.cell? ⟨n, k, none⟩ = U.cell? ⟨n, k, none⟩) ∧ (∀ n k, n < U.heap.size → V.frozen? ⟨n, k, none⟩ = U.frozen? ⟨n, k, none⟩) := by
  constructor
  · intro n k hn
    exact h.cell hn
  · intro n k hn
    exact h.frozen hn

/-- A slice of one byte, as a string. -/
theorem conv_one (W : World) (b : Nat) (v : Int) (h : W.cell? ⟨b, 0, none⟩ = some (.int .u8 v)) :
    (convert 193 9 (.slice (some ⟨b, 0, none⟩) 1 1)).run Tryz.prog W = .ok (.string ⟨#[UInt8.ofNat v.toNat]⟩) W := by
  have := run_convert_bytes_arg (P := Tryz.prog) W 193 5 Tryz.underlying193 Tryz.underlying5 b 0 1 1 [v] rfl
    (fun i hi => by
      have : i = 0 := by omega
      subst this
      exact h) 9 Tryz.underlying9
  simpa [strOfNums] using this

theorem Num.uv_cons (n : Nat) (h : 128 ≤ n) : (⟨#[UInt8.ofNat (128 + (n : Int) % 128).toNat]⟩ : ByteArray) ++ ⟨(Lib.uvarint (n / 128)).toArray⟩ = ⟨(Lib.uvarint n).toArray⟩ := by
  have e : (128 + (n : Int) % 128).toNat = n % 128 + 128 := by omega
  rw [Lib.uvarint_big h, e]
  apply ByteArray.ext
  simp

end Go.Proofs.YtepnofklmdofmaaGreatDoor
end

section
namespace Go.Proofs.YtepnofklmdofmaaGreatDoor
open Go.RowKit

theorem Num.lev_drop_step (s : ByteArray) (k q : Nat) (hq : q < s.size) (hk : q ≤ k) :
    Num.lev ((s.data.toList.take (k + 1)).drop q) = s[q].toNat % 128 + 128 * Num.lev ((s.data.toList.take (k + 1)).drop (q + 1)) := by
  have h1 : q < (s.data.toList.take (k + 1)).length := by
    rw [List.length_take]
    have h3 : s.data.toList.length = s.size := by simp
    omega
  rw [List.drop_eq_getElem_cons h1, List.getElem_take]
  rfl

theorem Num.drop0 (s : ByteArray) (k : Nat) : (s.data.toList.take (k + 1)).drop 0 = s.data.toList.take (k + 1) := rfl

theorem Num.ref_cmp (s : ByteArray) (k x : Nat) (hc : Num.cnt s.data.toList = k) (hk : k < s.size) (h10 : k ≠ 10) (hx : x = Num.lev ((s.data.toList.take (k + 1)).drop 0) % 18446744073709551616) :
    (Lib.uvarint x == (s.extract 0 (k + 1)).toList) = Num.endsB s[k].toNat k := by
  have h3 : s.data.toList.length = s.size := by simp
  have h := Num.uv_mod_iff (l := s.data.toList) (by omega) (by omega)
  rw [hc, Num.byte_at s k hk] at h
  have e : (s.extract 0 (k + 1)).toList = s.data.toList.take (k + 1) := by
    rw [Lib.toList_data, Lib.extract_data]; simp
  rw [e, hx, Num.drop0, Bool.eq_iff_iff, beq_iff_eq]
  exact h

theorem Num.rd_no (s : ByteArray) (k : Nat) (hc : Num.cnt s.data.toList = k) (hk : k < s.size) (h10 : k ≠ 10) (he : Num.endsB s[k].toNat k = false) : Num.rd s.data.toList = (0, 0, 8) := by
  have h3 : s.data.toList.length = s.size := by simp
  unfold Num.rd
  rw [hc, if_neg h10, if_neg (by omega), Num.byte_at s k hk, he]
  rfl

theorem Num.rd_yes (s : ByteArray) (k x : Nat) (hc : Num.cnt s.data.toList = k) (hk : k < s.size) (h10 : k ≠ 10) (he : Num.endsB s[k].toNat k = true) (hx : x = Num.lev ((s.data.toList.take (k + 1)).drop 0) % 18446744073709551616) :
    Num.rd s.data.toList = (x, k + 1, 0) := by
  have h3 : s.data.toList.length = s.size := by simp
  have hr : Num.rd s.data.toList = (Num.lev (s.data.toList.take (k + 1)), k + 1, 0) := by
    unfold Num.rd
    rw [hc, if_neg h10, if_neg (by omega), Num.byte_at s k hk, he]
    rfl
  have hb := (Num.rd_bound s.data.toList).2.2.1
  rw [hr] at hb
  rw [hr, hx, Num.drop0, Nat.mod_eq_of_lt hb]

end Go.Proofs.YtepnofklmdofmaaGreatDoor
end

section
namespace Go.Proofs.YtepnofklmdofmaaGreatDoor
open Go.RowKit

theorem mk_append (l m : List UInt8) : (⟨l.toArray⟩ : ByteArray) ++ ⟨m.toArray⟩ = ⟨(l ++ m).toArray⟩ := by
  apply ByteArray.ext
  simp
end Go.Proofs.YtepnofklmdofmaaGreatDoor
end

section
namespace Go.Proofs.YtepnofklmdofmaaGreatDoor
open Go.RowKit

namespace Wire
section
variable {w w' : World} {B : Nat} {s : ByteArray} {e : Nat}
end

end Wire

end Go.Proofs.YtepnofklmdofmaaGreatDoor
end

section
namespace Go.Proofs.YtepnofklmdofmaaGreatDoor
open Go.RowKit

namespace Wire
/-- The bound that bounds nothing. -/
def top : Nat := 18446744073709551615

theorem step_max_bad {s : ByteArray} {f : Nat} (h : (step (wU 18446744073709551615) s f).2.2 ≠ 0) (wrong : Nat → Nat → Nat) : step wrong s f = (0, s, (step (wU 18446744073709551615) s f).2.2) := by
  have hb := (Num.rd_bound s.data.toList).2.2.1
  by_cases hf : f = 0
  · subst hf
    generalize hR : Num.rd s.data.toList = R at hb
    obtain ⟨v, q, g⟩ := R
    simp only [] at hb
    by_cases hg : g = 0
    · subst hg
      rw [step_ok hR (wU_no (by omega))] at h
      exact absurd rfl h
    · rw [step_bad hR hg, step_bad hR hg]
  · rw [step_fault hf, step_fault hf]

theorem step_max_ok {s : ByteArray} {f : Nat} (h : (step (wU 18446744073709551615) s f).2.2 = 0) (wrong : Nat → Nat → Nat) :
    step wrong s f = if wrong (step (wU 18446744073709551615) s f).1 (step (wU 18446744073709551615) s f).2.1.size = 0 then ((step (wU 18446744073709551615) s f).1, (step (wU 18446744073709551615) s f).2.1, 0)
      else (0, s, wrong (step (wU 18446744073709551615) s f).1 (step (wU 18446744073709551615) s f).2.1.size) := by
  have hb := (Num.rd_bound s.data.toList).2.2.1
  by_cases hf : f = 0
  · subst hf
    generalize hR : Num.rd s.data.toList = R at hb
    obtain ⟨v, q, g⟩ := R
    simp only [] at hb
    by_cases hg : g = 0
    · subst hg
      rw [step_ok hR (wU_no (by omega))]
      simp only []
      have e : (s.extract q s.size).size = s.size - q := by rw [ByteArray.size_extract]; omega
      rw [e]
      split
      · rename_i hw
        exact step_ok hR hw
      · rename_i hw
        exact step_wrong hR rfl hw
    · rw [step_bad hR hg] at h
      exact absurd h hg
  · rw [step_fault hf] at h
    exact absurd h hf

/-- Both sayings of a number taken, and held then. -/
theorem step_two (wrong : Nat → Nat → Nat) (s : ByteArray) (f v : Nat) (t : ByteArray) (g : Nat) (h : step (wU 18446744073709551615) s f = (v, t, g)) :
    (g ≠ 0 → v = 0 ∧ t = s ∧ step wrong s f = (0, s, g)) ∧ (g = 0 → (wrong v t.size = 0 → step wrong s f = (v, t, 0)) ∧ (wrong v t.size ≠ 0 → step wrong s f = (0, s, wrong v t.size))) := by
  constructor
  · intro hg
    have hg' : (step (wU 18446744073709551615) s f).2.2 ≠ 0 := by rw [h]; exact hg
    have e := step_max_bad hg' (wU 18446744073709551615)
    rw [h] at e
    have e2 := step_max_bad hg' wrong
    rw [h] at e2
    injection e with e3 e4
    injection e4 with e5 e6
    exact ⟨e3, e5, e2⟩
  · intro hg
    have hg' : (step (wU 18446744073709551615) s f).2.2 = 0 := by rw [h]; exact hg
    have e := step_max_ok hg' wrong
    rw [h] at e
    simp only [] at e
    exact ⟨fun hw => by rw [e, if_pos hw], fun hw => by rw [e, if_neg hw]⟩
end Wire

end Go.Proofs.YtepnofklmdofmaaGreatDoor
end
