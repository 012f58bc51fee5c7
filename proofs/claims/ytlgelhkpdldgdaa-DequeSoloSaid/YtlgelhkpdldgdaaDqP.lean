/-
  Layer 16: the document's example.
-/
import Derived.Test.YtlgelhkpdldgdaaDqO
namespace Go.Proofs.Ytlgelhkpdldgdaa
open Go.RowKit
set_option linter.unusedVariables false
set_option linter.unusedSimpArgs false

namespace Dq
def nxt (x : List Int × A) : List Int × A := ((acts 0 x.1 x.2).2.1, (acts 0 x.1 x.2).1)
def stepn : Nat → List Int × A → List Int × A
  | 0, x => x
  | k + 1, x => nxt (stepn k x)
def runA : Nat → List Int × A → List Int × A
  | 0, x => x
  | f + 1, x => if x.2.told = 0 then runA f (nxt x) else x
def GX (G : List Int → A → Prop) (T : List Int × A) (xs : List Int) (a : A) : Prop := G xs a ∧ ∃ f, runA f (xs, a) = T
theorem GX.good {G : List Int → A → Prop} {T : List Int × A} (h : Good G) (hT : T.2.told ≠ 0) : Good (GX G T) := by
  refine ⟨fun xs a hg h0 => h.ok _ _ hg.1 h0, fun xs a hg h0 => ⟨h.nx _ _ hg.1 h0, ?_⟩, fun xs a hg h0 => h.dn _ _ hg.1 h0, fun xs a hg h0 => h.rm _ _ hg.1 h0⟩
  obtain ⟨f, hf⟩ := hg.2
  cases f with
  | zero => exact absurd h0 (by have : (xs, a) = T := hf; subst this; exact hT)
  | succ f =>
    refine ⟨f, ?_⟩
    have h1 : (if a.told = 0 then runA f (nxt (xs, a)) else (xs, a)) = T := hf
    rw [if_pos h0] at h1
    exact h1
theorem GX.fin {G : List Int → A → Prop} {T : List Int × A} {xs : List Int} {a : A} (h : GX G T xs a) (h0 : a.told ≠ 0) : (xs, a) = T := by
  obtain ⟨f, hf⟩ := h.2
  cases f with
  | zero => exact hf
  | succ f =>
    have h1 : (if a.told = 0 then runA f (nxt (xs, a)) else (xs, a)) = T := hf
    rw [if_neg h0] at h1
    exact h1
end Dq
section
variable {w0 w : World} {B M R D : Nat} {hs : List (Nat × Nat)} {s : Dq.Sq} {j : Nat} {a : Dq.A} {e : Nat × Nat} {G : List Int → Dq.A → Prop}
set_option maxRecDepth 200000 in
set_option maxHeartbeats 1000000 in
theorem mm_some (hG : Dq.Good G) (h : Dq.Mm w0 B M R D hs s w) (ha : s.la[j]? = some a) (he : hs[j]? = some e) (hg : G s.xs a) (n : Nat) (hn : n ≤ 100) (ht : ∀ k, k ≤ n → (Dq.stepn k (s.xs, a)).2.told = 0) (hsn : s.n ≤ 900000000000) : Calls Try.prog 25 #[.pointer (some ⟨e.1, 0, none⟩), .int .i64 (n : Int)] w fun e' w' =>
    e' = .returned (.bool true) ∧ Hid (∃ s', Dq.Wy G w0 B M R D hs s j n s' (Dq.stepn n (s.xs, a)).2 w' ∧ s'.xs = (Dq.stepn n (s.xs, a)).1) := by
  have hj : j < s.la.length := (List.getElem?_eq_some_iff.1 ha).1
  have H0 : Hid (∃ s', Dq.Wy G w0 B M R D hs s j 0 s' (Dq.stepn 0 (s.xs, a)).2 w ∧ s'.xs = (Dq.stepn 0 (s.xs, a)).1) := ⟨s, ⟨h, (Dq.set_same ha).symm, rfl, hg, Nat.le_refl _⟩, rfl⟩
  have HG := Lib.hid hG
  have HE := Lib.hid he
  have HT := Lib.hid ht
  have HN := Lib.hid hsn
  have HJ := Lib.hid hj
  clear h ha he hg hsn hG hj ht
  go_enter Try.func25, Try.ntmps25
  go_wp2_with fail
  go_loopw [5] (fun s5 wr => ∃ (k : Nat), s5 = .int .i64 (k : Int) ∧ k ≤ n ∧ Hid (∃ s', Dq.Wy G w0 B M R D hs s j k s' (Dq.stepn k (s.xs, a)).2 wr ∧ s'.xs = (Dq.stepn k (s.xs, a)).1)) (fun s5 _ => n - (intOf s5).toNat)
  case atStart => exact ⟨0, rfl, Nat.zero_le _, H0.out⟩
  case round =>
    obtain ⟨k, rfl, hk, HX⟩ := hrel
    by_cases hlt : k < n
    · obtain ⟨s', hw, hx⟩ := HX.out
      have ht1 := HT.out k (by omega)
      have ht2 := HT.out (k + 1) (by omega)
      have hs1 : Dq.stepn (k + 1) (s.xs, a) = Dq.nxt (Dq.stepn k (s.xs, a)) := rfl
      rw [hs1] at ht2
      have H1 : Hid (Dq.stepn (k + 1) (s.xs, a) = Dq.nxt (Dq.stepn k (s.xs, a))) := hs1
      clear hs1
      generalize Dq.stepn k (s.xs, a) = y at *
      obtain ⟨xs1, b⟩ := y
      have hx : s'.xs = xs1 := hx
      subst hx
      have hg := hw.g
      have hok := HG.out.ok _ _ hg ht1
      have HSS := mm_step hw.mm (hw.at HJ.out) HE.out ht1 hok.1 (by have h1 := hw.n; have h2 := HN.out; omega) hok.2.1
      have ht3 : (Dq.acts 0 s'.xs b).1.told = 0 := ht2
      rw [ht3] at HSS
      have HS := Lib.hid HSS
      have HW := Lib.hid hw
      have HT1 := Lib.hid ht1
      have k1 : (k : Int) < (n : Int) := by omega
      have hw1 : IntKind.i64.wrap ((k : Int) + 1) = (k : Int) + 1 := by rw [IntKind.wrap_i64]; omega
      have hk1 : k + 1 ≤ n := by omega
      clear hw hg hok HX HSS ht1 ht2 ht3 hk
      go_wp2_with fail
      refine HS.out.mono ?_
      rintro e w2 ⟨rfl, h2⟩
      have HY : Hid (∃ s', Dq.Wy G w0 B M R D hs s j (k + 1) s' (Dq.stepn (k + 1) (s.xs, a)).2 w2 ∧ s'.xs = (Dq.stepn (k + 1) (s.xs, a)).1) := by
        rw [H1.out]
        exact ⟨_, HW.out.step HG.out HT1.out h2.out, rfl⟩
      clear h2 HS
      go_wp2_with fail
      go_roundw
      case rel => exact ⟨k + 1, by go_num, hk1, HY.out⟩
      case measure => simp [intOf]; omega
    · have hkn : k = n := by omega
      subst hkn
      go_wp2_with fail
      go_ret
      exact ⟨rfl, HX⟩
end
end Go.Proofs.Ytlgelhkpdldgdaa
