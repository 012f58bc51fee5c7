/-
  bits.Len of a length; pdqsort of at most twelve numbers; Sort, as far as pdqsort has its contract.
-/
import Derived.Test.YtfhengihdlojmaaUsD
import Derived.Test.YtfhengihdlojmaaNumZ
namespace Go.Proofs.Ytfhengihdlojmaa
open Go.RowKit Go.Sort

namespace Us
/-- pdqsort sorts n numbers. -/
def PdqOk (n : Nat) : Prop := ∀ (w0 : World) (B : Nat) (rest : List Value) (d : Array Int) (w : World) (cap limit : Nat), Us.Row w0 B rest d w → d.size = n → limit ≤ 64 →
  Calls Try.prog 45 #[.slice (some ⟨B, 0, none⟩) d.size cap, .int .i64 0, .int .i64 (d.size : Int), .int .i64 (limit : Int)] w fun e w' => e = .returned (.tuple #[]) ∧ ∃ d', Us.Row w0 B rest d' w' ∧ PermIn 0 d.size d d' ∧ SortedIn ltInt 0 d.size d'
theorem swo : SWO ltInt := swo_ltInt
end Us

set_option maxRecDepth 20000 in
theorem ulen (n : Nat) (w : World) (h1 : n ≤ 1000000) : Calls Try.prog 46 #[.int .u64 (n : Int)] w fun e w' => e = .returned (.int .i64 (Lib.bitLen n : Nat)) ∧ w = w' := by
  have h := fun w => len64_any (n : Int) w (by omega) (by omega)
  rw [Int.toNat_natCast] at h
  have HL := Lib.hid h
  generalize Lib.bitLen n = m at HL
  clear h
  go_enter Try.func46, Try.ntmps46
  go_wp2_with fail
  refine (HL.out _).mono ?_
  rintro e w1 ⟨rfl, rfl⟩
  go_wp2_with fail
  go_ret
  exact ⟨rfl, rfl⟩

set_option maxRecDepth 20000 in
set_option maxHeartbeats 1000000 in
theorem updq_small (n : Nat) (hn : n ≤ 12) : Us.PdqOk n := by
  intro w0 B rest d w cap limit S hd hlim
  subst hd
  have HI := Lib.hid (uinsertion S cap 0 d.size (Nat.zero_le _) (Nat.le_refl _) (by omega))
  have HS := Lib.hid (insertionSort_holds (lt := ltInt) Us.swo d 0 d.size (Nat.zero_le _) (Nat.le_refl _))
  have g : (d.size : Int) ≤ 12 := by omega
  have g2 : (d.size : Int) - 0 = (d.size : Int) := by omega
  have g3 : IntKind.i64.wrap (d.size : Int) = (d.size : Int) := by rw [IntKind.wrap_i64]; omega
  clear S
  go_enter Try.func45, Try.ntmps45
  go_wp2_with fail
  go_loopw [1, 2] (fun v1 v wr => v1 = .int .i64 0 ∧ v = .int .i64 (d.size : Int) ∧ wr = w) (fun _ _ _ => 0)
  case atStart => exact ⟨rfl, rfl, rfl⟩
  case round =>
    obtain ⟨rfl, rfl, rfl⟩ := hrel
    go_wp2_with fail
    refine HI.out.mono ?_
    rintro e w1 ⟨rfl, hR⟩
    have HR := Lib.hid hR
    clear hR
    go_wp2_with fail
    refine bodyPost_ret (results_none rfl _ _ _) rfl ?_
    exact ⟨rfl, _, HR.out, HS.out.1, HS.out.2⟩

set_option maxRecDepth 20000 in
set_option maxHeartbeats 1000000 in
theorem usort {w0 : World} {B : Nat} {rest : List Value} {d : Array Int} {w : World} (S : Us.Row w0 B rest d w) (hp : Us.PdqOk d.size) (hn : d.size ≤ 1000000) (cap : Nat) :
    Calls Try.prog 42 #[.slice (some ⟨B, 0, none⟩) d.size cap] w fun e w' => e = .returned (.tuple #[]) ∧ ∃ d', Us.Row w0 B rest d' w' ∧ PermIn 0 d.size d d' ∧ SortedIn ltInt 0 d.size d' := by
  have HL := Lib.hid (ulen d.size w hn)
  have hle : Lib.bitLen d.size ≤ 64 := Lib.bitLen_le d.size 64 (by omega) (by omega)
  have HP := Lib.hid (hp w0 B rest d w cap (Lib.bitLen d.size) S rfl hle)
  have hw : IntKind.u64.wrap (d.size : Int) = (d.size : Int) := by rw [IntKind.wrap_u64]; omega
  generalize Lib.bitLen d.size = m at HL HP
  clear S hp hle
  go_enter Try.func42, Try.ntmps42
  go_wp2_with fail
  refine HL.out.mono ?_
  rintro e w1 ⟨rfl, rfl⟩
  go_wp2_with fail
  refine HP.out.mono ?_
  rintro e w1 ⟨rfl, hR⟩
  have HR := Lib.hid hR
  clear hR
  go_wp2_with fail
  go_end0
  exact ⟨rfl, HR.out⟩
end Go.Proofs.Ytfhengihdlojmaa
