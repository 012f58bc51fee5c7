/-
  Contracts of the document's answers for numbers: Uint, Int, Read, ReadInt.
-/
import Derived.Test.YtndgafjnifkghaaNumU
import Derived.Test.YtndgafjnifkghaaNumR
import Derived.Deep.RegionWith
namespace Go.Proofs.Ytndgafjnifkghaa
open Go.RowKit

/-- Cells that were there when a call began, behind it. -/
theorem kept_cells {U V : World} (h : Below U.heap.size U V) :
    (∀ n k, n < U.heap.size → V.cell? ⟨n, k, none⟩ = U.cell? ⟨n, k, none⟩) ∧ (∀ n k, n < U.heap.size → V.frozen? ⟨n, k, none⟩ = U.frozen? ⟨n, k, none⟩) := by
  constructor
  · intro n k hn
    exact h.cell hn
  · intro n k hn
    exact h.frozen hn

/-- A slice of one byte, as a string. -/
theorem conv_one (W : World) (b : Nat) (v : Int) (h : W.cell? ⟨b, 0, none⟩ = some (.int .u8 v)) :
    (convert 45 9 (.slice (some ⟨b, 0, none⟩) 1 1)).run Try.prog W = .ok (.string ⟨#[UInt8.ofNat v.toNat]⟩) W := by
  have := run_convert_bytes_arg (P := Try.prog) W 45 5 Try.underlying45 Try.underlying5 b 0 1 1 [v] rfl
    (fun i hi => by
      have : i = 0 := by omega
      subst this
      exact h) 9 Try.underlying9
  simpa [strOfNums] using this

set_option maxRecDepth 20000 in
set_option maxHeartbeats 400000 in
theorem ruint_small (n : Nat) (w : World) (hlt : n < 128) :
    Calls Try.prog 81 #[.int .u64 n] w fun e w' => e = .returned (.string ⟨(Lib.uvarint n).toArray⟩) ∧ Below w.heap.size w w' := by
  have hltI : (n : Int) < 128 := by omega
  have hcv := fun b W => conv_one W b n
  have HU := Lib.hid (Lib.uvarint_small hlt)
  go_enter Try.func81, Try.ntmps81
  go_wp2_with fail
  go_ret
  exact ⟨by rw [HU.out]; rfl, (Below.refl _ _).alloc (Nat.le_refl _) _⟩

theorem Num.uv_cons (n : Nat) (h : 128 ≤ n) : (⟨#[UInt8.ofNat (128 + (n : Int) % 128).toNat]⟩ : ByteArray) ++ ⟨(Lib.uvarint (n / 128)).toArray⟩ = ⟨(Lib.uvarint n).toArray⟩ := by
  have e : (128 + (n : Int) % 128).toNat = n % 128 + 128 := by omega
  rw [Lib.uvarint_big h, e]
  apply ByteArray.ext
  simp

set_option maxRecDepth 20000 in
set_option maxHeartbeats 1000000 in
theorem ruint_nat (f : Nat) : ∀ (n : Nat) (w : World), n < 128 ^ f → (n : Int) ≤ 18446744073709551615 →
    Calls Try.prog 81 #[.int .u64 n] w fun e w' => e = .returned (.string ⟨(Lib.uvarint n).toArray⟩) ∧ Below w.heap.size w w' := by
  induction f with
  | zero =>
    intro n w h h1
    exact ruint_small n w (by simp at h; omega)
  | succ f ih =>
    intro n w h h1
    by_cases hlt : n < 128
    · exact ruint_small n w hlt
    · have hge : (128 : Int) ≤ n := by omega
      have hcv := fun b W => conv_one W b (IntKind.u8.wrap (IntKind.u64.wrap (128 + (n : Int).tmod 128)))
      have hq : n / 128 < 128 ^ f := by rw [Nat.pow_succ] at h; omega
      have ih2 : ∀ (w : World), Calls Try.prog 81 #[.int .u64 (IntKind.u64.wrap ((n : Int) / 128))] w fun e w' => e = .returned (.string ⟨(Lib.uvarint (n / 128)).toArray⟩) ∧ Below w.heap.size w w' := by
        intro w
        have := ih (n / 128) w hq (by omega)
        rw [Int.natCast_ediv] at this
        rw [wraps_u64 _ (by omega) (by omega)]
        exact this
      have HI := Lib.hid ih2
      have HU := Lib.hid (Num.uv_cons n (by omega))
      have hlen := Lib.uvarint_length64 (x := n / 128) (by omega)
      clear ih ih2 h hlt hq
      go_enter Try.func81, Try.ntmps81
      go_wp2_with fail
      go_region_with ((go_at_call 81; refine (HI.out _).mono ?_; rintro e w1 ⟨rfl, hb⟩; obtain ⟨hcl, hfr⟩ := kept_cells hb))
      all_goals
        go_wp2
        go_ret
        refine ⟨by rw [← HU.out]; rfl, ?_⟩
        first
          | exact ((((Below.refl _ _).alloc (Nat.le_refl _) _).drew).trans (hb.mono (by simp)))
          | exact ((Below.refl _ _).drew.trans hb).alloc (by have := hb.size; simpa using this) _

/-- The document's Uint. -/
theorem ruint_any (x : Int) (w : World) (h0 : 0 ≤ x) (h1 : x ≤ 18446744073709551615) :
    Calls Try.prog 81 #[.int .u64 x] w fun e w' => e = .returned (.string ⟨(Lib.uvarint x.toNat).toArray⟩) ∧ Below w.heap.size w w' := by
  obtain ⟨n, rfl⟩ := Int.eq_ofNat_of_zero_le h0
  rw [Int.toNat_natCast]
  exact ruint_nat 10 n w (by have : (128 : Nat) ^ 10 = 1180591620717411303424 := by decide
                             omega) h1

set_option maxHeartbeats 400000 in
theorem rint_any (x : Int) (w : World) (h0 : -9223372036854775808 ≤ x) (h1 : x ≤ 9223372036854775807) :
    Calls Try.prog 90 #[.int .i64 x] w fun e w' => e = .returned (.string ⟨(Lib.uvarint (Lib.zigzag x)).toArray⟩) ∧ Below w.heap.size w w' := by
  have hz := Lib.zigzag_lt h0 h1
  go_enter Try.func90, Try.ntmps90
  go_wp2_with fail
  refine (rzig_any x _ h0 h1).mono ?_
  rintro e w' ⟨rfl, rfl⟩
  go_wp2_with fail
  refine (ruint_any _ _ (by omega) (by omega)).mono ?_
  rintro e w' ⟨rfl, hb⟩
  rw [Int.toNat_natCast]
  go_wp2_with fail
  go_ret
  exact ⟨rfl, hb⟩

end Go.Proofs.Ytndgafjnifkghaa
