/-
  Layer 12's known small run.
-/
import Derived.Test.YtkhpbjjmekmaeaaBrW
import Derived.Test.YtkhpbjjmekmaeaaBrX
namespace Go.Proofs.Ytkhpbjjmekmaeaa
open Go.RowKit

namespace Br
def s1 : ByteArray := ⟨#[1]⟩
def s2 : ByteArray := ⟨#[2]⟩
def s12 : ByteArray := ⟨#[1, 2]⟩
def s15 : ByteArray := ⟨#[1, 5]⟩
def s11 : ByteArray := ⟨#[1, 1]⟩
def s13 : ByteArray := ⟨#[1, 3]⟩
theorem k1 : kidT s1 2 = s12 ∧ kidOk s1 2 = true := ⟨by rfl, by decide +kernel⟩
theorem k2 : kidT s1 17 = ⟨#[]⟩ ∧ kidOk s1 17 = false := ⟨by rfl, by decide +kernel⟩
theorem k3 : par s12 = s1 ∧ kidP s12 = true := ⟨by rfl, by decide +kernel⟩
theorem k4 : par ⟨#[]⟩ = ⟨#[]⟩ ∧ kidP ⟨#[]⟩ = false := ⟨by rfl, by decide +kernel⟩
theorem k5 : lastN s12 = 2 := by decide +kernel
theorem k6 : cmpR s1 s11 = -1 := by decide +kernel
theorem k7 : cmpR s2 s15 = 1 := by decide +kernel
theorem k8 : under s12 s1 = true := by decide +kernel
theorem k9 : under s2 s1 = false := by decide +kernel
theorem k10 : common s12 s13 = s1 := by rfl
theorem k11 : may ⟨#[]⟩ = true := by decide +kernel
theorem k12 : may ⟨#[0]⟩ = false := by decide +kernel
theorem k13 {out : List ByteArray} (hp : out.Perm [s2, s15, s1]) (hu : Up out) : out = [s1, s15, s2] := by
  refine up_eq (hp.trans (List.reverse_perm [s1, s15, s2])) hu ?_
  unfold Up
  simp only [List.pairwise_cons, List.mem_cons, List.not_mem_nil, or_false]
  refine ⟨?_, ?_, ?_⟩
  · rintro x (rfl | rfl) <;> decide +kernel
  · rintro x rfl; decide +kernel
  · exact ⟨fun _ h => h.elim, List.Pairwise.nil⟩
end Br

theorem br_kid (w : World) : Calls Try.prog 10 #[.string ⟨#[1]⟩, .int .i64 2] w fun e w' => e = .returned (.tuple #[.string ⟨#[1, 2]⟩, .bool true]) ∧ Below w.heap.size w w' := by
  have := bKid Br.s1 2 w (by decide) (by decide)
  rwa [Br.k1.1, Br.k1.2] at this
theorem br_kid17 (w : World) : Calls Try.prog 10 #[.string ⟨#[1]⟩, .int .i64 17] w fun e w' => e = .returned (.tuple #[.string ⟨#[]⟩, .bool false]) ∧ Below w.heap.size w w' := by
  have := bKid Br.s1 17 w (by decide) (by decide)
  rwa [Br.k2.1, Br.k2.2] at this
theorem br_par (w : World) : Calls Try.prog 8 #[.string ⟨#[1, 2]⟩] w fun e w' => e = .returned (.tuple #[.string ⟨#[1]⟩, .bool true]) ∧ Below w.heap.size w w' := by
  have := bParent Br.s12 w (by decide)
  rwa [Br.k3.1, Br.k3.2] at this
theorem br_par0 (w : World) : Calls Try.prog 8 #[.string ⟨#[]⟩] w fun e w' => e = .returned (.tuple #[.string ⟨#[]⟩, .bool false]) ∧ Below w.heap.size w w' := by
  have := bParent ⟨#[]⟩ w (by decide)
  rwa [Br.k4.1, Br.k4.2] at this
theorem br_last (w : World) : Calls Try.prog 14 #[.string ⟨#[1, 2]⟩] w fun e w' => e = .returned (.int .i64 2) ∧ w = w' := by
  have := bLast Br.s12 w (by decide)
  rwa [Br.k5] at this
theorem br_cmp1 (w : World) : Calls Try.prog 18 #[.string ⟨#[1]⟩, .string ⟨#[1, 1]⟩] w fun e w' => e = .returned (.int .i64 (-1)) ∧ w = w' := by
  have := bCompare Br.s1 Br.s11 w
  rwa [Br.k6] at this
theorem br_cmp2 (w : World) : Calls Try.prog 18 #[.string ⟨#[2]⟩, .string ⟨#[1, 5]⟩] w fun e w' => e = .returned (.int .i64 1) ∧ w = w' := by
  have := bCompare Br.s2 Br.s15 w
  rwa [Br.k7] at this
theorem br_un1 (w : World) : Calls Try.prog 16 #[.string ⟨#[1, 2]⟩, .string ⟨#[1]⟩] w fun e w' => e = .returned (.bool true) ∧ w = w' := by
  have := bUnder Br.s12 Br.s1 w (by decide) (by decide)
  rwa [Br.k8] at this
theorem br_un2 (w : World) : Calls Try.prog 16 #[.string ⟨#[2]⟩, .string ⟨#[1]⟩] w fun e w' => e = .returned (.bool false) ∧ w = w' := by
  have := bUnder Br.s2 Br.s1 w (by decide) (by decide)
  rwa [Br.k9] at this
theorem br_com (w : World) : Calls Try.prog 20 #[.string ⟨#[1, 2]⟩, .string ⟨#[1, 3]⟩] w fun e w' => e = .returned (.string ⟨#[1]⟩) ∧ Below w.heap.size w w' := by
  have := bCommon Br.s12 Br.s13 w (by decide) (by decide)
  rwa [Br.k10] at this
theorem br_may0 (w : World) : Calls Try.prog 12 #[.string ⟨#[]⟩] w fun e w' => e = .returned (.bool true) ∧ w = w' := by
  have := bMay ⟨#[]⟩ w (by decide)
  rwa [Br.k11] at this
theorem br_may1 (w : World) : Calls Try.prog 12 #[.string ⟨#[0]⟩] w fun e w' => e = .returned (.bool false) ∧ w = w' := by
  have := bMay ⟨#[0]⟩ w (by decide)
  rwa [Br.k12] at this
theorem br_sort (w : World) (T : TypeId) : Calls Try.prog 22 #[.slice (some ⟨w.heap.size, 0, none⟩) 3 3] (w.alloc (.cells #[.string ⟨#[2]⟩, .string ⟨#[1, 5]⟩, .string ⟨#[1]⟩] T)) fun e w' => ∃ (B c : Nat), e = .returned (.slice (some ⟨B, 0, none⟩) 3 c) ∧ B < w'.heap.size ∧ w'.cell? ⟨B, 0, none⟩ = some (.string ⟨#[1]⟩) ∧ w'.cell? ⟨B, 2, none⟩ = some (.string ⟨#[2]⟩) ∧ Below w.heap.size w w' := by
  have hr := heap_alloc_new w (.cells #[.string ⟨#[2]⟩, .string ⟨#[1, 5]⟩, .string ⟨#[1]⟩] T)
  have hb : Below w.heap.size w (w.alloc (.cells #[.string ⟨#[2]⟩, .string ⟨#[1, 5]⟩, .string ⟨#[1]⟩] T)) := (Below.refl _ _).alloc (Nat.le_refl _) _
  refine (bSort [Br.s2, Br.s15, Br.s1] (some ⟨w.heap.size, 0, none⟩) 3 _ (fun _ => ⟨_, rfl, by simp, fun j u hu => World.news_of_block hr j u hu⟩) (by simp) (fun x hx => by simp only [List.mem_cons, List.not_mem_nil, or_false] at hx; rcases hx with rfl | rfl | rfl <;> decide)).mono ?_
  rintro e w' ⟨out, B, c, h1, h2, h3, rfl, h4, h5, h6⟩
  have ho := Br.k13 h2 h3
  subst ho
  exact ⟨B, c, rfl, h4.1, (h4.2 0 (by simp)).1, (h4.2 2 (by simp)).1, hb.trans (h6.mono hb.size)⟩

set_option maxHeartbeats 1000000 in
set_option maxRecDepth 20000 in
theorem alive12_any (w : World) : Calls Try.prog 7 #[] w fun e w' => e = .returned (.bool true) ∧ Below w.heap.size w w' := by
  go_enter Try.func7, Try.ntmps7
  go_wp2_with fail
  refine (br_kid _).mono ?_
  rintro e w1 ⟨rfl, b1⟩
  have B1 := Lib.hid b1
  clear b1
  go_wp2_with fail
  refine (br_kid17 _).mono ?_
  rintro e w2 ⟨rfl, b2⟩
  have B2 := Lib.hid (B1.out.trans (b2.mono B1.out.size))
  clear b2 B1
  go_wp2_with fail
  refine (br_par _).mono ?_
  rintro e w3 ⟨rfl, b3⟩
  have B3 := Lib.hid (B2.out.trans (b3.mono B2.out.size))
  clear b3 B2
  go_wp2_with fail
  refine (br_par0 _).mono ?_
  rintro e w4 ⟨rfl, b4⟩
  have B4 := Lib.hid (B3.out.trans (b4.mono B3.out.size))
  clear b4 B3
  go_wp2_with fail
  refine (br_sort _ _).mono ?_
  rintro e w5 ⟨B, c, rfl, hB, h0, h2, b5⟩
  have B5 := Lib.hid (B4.out.trans (b5.mono B4.out.size))
  have HC := Lib.hid (And.intro h0 (And.intro h2 hB))
  clear b5 B4 h0 h2 hB
  go_wp2_with fail
  refine (br_last _).mono ?_
  rintro e wx ⟨rfl, rfl⟩
  go_wp2_with fail
  refine (br_cmp1 _).mono ?_
  rintro e wx ⟨rfl, rfl⟩
  go_wp2_with fail
  refine (br_cmp2 _).mono ?_
  rintro e wx ⟨rfl, rfl⟩
  go_wp2_with fail
  refine (br_un1 _).mono ?_
  rintro e wx ⟨rfl, rfl⟩
  go_wp2_with fail
  refine (br_un2 _).mono ?_
  rintro e wx ⟨rfl, rfl⟩
  go_wp2_with fail
  refine (br_com _).mono ?_
  rintro e w6 ⟨rfl, b6⟩
  have B6 := Lib.hid (B5.out.trans (b6.mono B5.out.size))
  have c0 : w6.cell? ⟨B, 0, none⟩ = some (.string ⟨#[1]⟩) := (b6.cell HC.out.2.2).trans HC.out.1
  have c2 : w6.cell? ⟨B, 2, none⟩ = some (.string ⟨#[2]⟩) := (b6.cell HC.out.2.2).trans HC.out.2.1
  clear b6 B5 HC
  go_wp2_with fail
  refine (br_may0 _).mono ?_
  rintro e wx ⟨rfl, rfl⟩
  go_wp2_with fail
  refine (br_may1 _).mono ?_
  rintro e wx ⟨rfl, rfl⟩
  go_wp2_with fail
  go_ret
  exact ⟨rfl, B6.out⟩
end Go.Proofs.Ytkhpbjjmekmaeaa
