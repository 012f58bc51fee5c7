/-
  Layer 16: the law's whole, some: an act, all its steps, or so many.
-/
import Derived.Test.YtlgelhkpdldgdaaDqY
namespace Go.Proofs.Ytlgelhkpdldgdaa
open Go.RowKit
set_option linter.unusedVariables false
set_option linter.unusedSimpArgs false

namespace Dq
theorem own_rem {F P : Int} {xs : List Int} {o : A} {ths : A → Prop} {L : List Int} (h : Inw F P xs o ths L) (h0 : o.told = 0) (hk : o.k ≤ 1) : 1 ≤ rem o ∧ rem o ≤ 2011 := by
  obtain ⟨⟨nc, β, t, bot, wh, e, lim, val, rows, hC, hO, _, _⟩, hP, _⟩ := h
  have h1 := hC.t0
  have h2 := hC.tb
  have h3 := hC.nc6
  cases hO with
  | idle h => exact absurd h0 h
  | push0 _ hk hp => simp [rem, hk, hp]
  | push1 _ hk hp => simp [rem, hk, hp]
  | push2 _ hk hp => simp [rem, hk, hp]
  | push3 _ hk hp => simp [rem, hk, hp]
  | push10 _ hk hp => simp [rem, hk, hp]
  | push11 _ hk hp ob ot of ow on oc bl oi => simp [rem, hk, hp]; omega
  | push12 _ hk hp ob ot of ow on oc bl oi => simp [rem, hk, hp]; omega
  | push13 _ hk hp => simp [rem, hk, hp]
  | push20 _ hk hp => simp [rem, hk, hp]
  | push21 _ hk hp => simp [rem, hk, hp]
  | pop0 _ hk hp => simp [rem, hk, hp]
  | pop1 _ hk hp => simp [rem, hk, hp]
  | pop2 _ hk hp => simp [rem, hk, hp]
  | pop3 _ hk hp => simp [rem, hk, hp]
  | pop4 _ hk hp => simp [rem, hk, hp]
  | pop5 _ hk hp => simp [rem, hk, hp]
  | pop6 _ hk hp => simp [rem, hk, hp]
  | pop7 _ hk hp => simp [rem, hk, hp]
  | pop8 _ hk hp => simp [rem, hk, hp]
theorem thf_rem {F P : Int} {xs : List Int} {o a : A} {ths : A → Prop} {L : List Int} (h : Inw F P xs o ths L) (ha : ths a) : 1 ≤ rem a ∧ rem a ≤ 2011 := by
  obtain ⟨⟨nc, β, t, bot, wh, e, lim, val, rows, hC, hO, hT, _⟩, hP, _⟩ := h
  have h1 := (hT a ha).k
  have h2 := (hT a ha).pc
  simp [rem, h1]
  omega
theorem set_same {α : Type} {l : List α} {j : Nat} {a : α} (h : l[j]? = some a) : l.set j a = l := by
  refine List.ext_getElem? fun i => ?_
  rw [List.getElem?_set]
  by_cases e : j = i
  · subst e
    have := (List.getElem?_eq_some_iff.1 h).1
    rw [if_pos rfl, if_pos this, h]
  · rw [if_neg e]
/-- What an act keeps, step by step, alone. -/
structure Good (G : List Int → A → Prop) : Prop where
  ok : ∀ xs a, G xs a → a.told = 0 → Ok 0 xs a ∧ (acts 0 xs a).2.2.2 = 0 ∧ (acts 0 xs a).2.2.1 ≤ 1
  nx : ∀ xs a, G xs a → a.told = 0 → G (acts 0 xs a).2.1 (acts 0 xs a).1
  dn : ∀ xs a, G xs a → a.told = 0 → (acts 0 xs a).1.told = 0 → rem (acts 0 xs a).1 < rem a
  rm : ∀ xs a, G xs a → a.told = 0 → 1 ≤ rem a ∧ rem a ≤ 2011
/-- An act on its way. -/
structure Wy (G : List Int → A → Prop) (w0 : World) (B M R D : Nat) (hs : List (Nat × Nat)) (s : Sq) (j k : Nat) (s' : Sq) (a' : A) (w : World) : Prop where
  mm : Mm w0 B M R D hs s' w
  la : s'.la = s.la.set j a'
  oi : s'.oi = s.oi
  g : G s'.xs a'
  n : s'.n ≤ s.n + k
section
variable {G : List Int → A → Prop} {w0 w w' : World} {B M R D : Nat} {hs : List (Nat × Nat)} {s s' : Sq} {j k : Nat} {a' : A}
theorem Wy.at (h : Wy G w0 B M R D hs s j k s' a' w) (hj : j < s.la.length) : s'.la[j]? = some a' := by rw [h.la, List.getElem?_set, if_pos rfl, if_pos hj]
theorem Wy.step (hG : Good G) (h : Wy G w0 B M R D hs s j k s' a' w) (h0 : a'.told = 0) (hm : Mm w0 B M R D hs (s'.act j a') w') : Wy G w0 B M R D hs s j (k + 1) (s'.act j a') (acts 0 s'.xs a').1 w' := by
  refine ⟨hm, ?_, h.oi, hG.nx _ _ h.g h0, ?_⟩
  · show s'.la.set j _ = _
    rw [h.la, List.set_set]
  · have h1 := (hG.ok _ _ h.g h0).2.2
    have h2 := h.n
    show s'.n + _ ≤ _
    omega
end
end Dq
set_option maxRecDepth 200000 in
set_option maxHeartbeats 1000000 in
theorem mm_whole {G : List Int → Dq.A → Prop} {w0 w : World} {B M R D : Nat} {hs : List (Nat × Nat)} {s : Dq.Sq} {j : Nat} {a : Dq.A} {e : Nat × Nat} (hG : Dq.Good G) (h : Dq.Mm w0 B M R D hs s w) (ha : s.la[j]? = some a) (he : hs[j]? = some e) (hg : G s.xs a) (h0 : a.told = 0) (hn : s.n ≤ 900000000000) : Calls Try.prog 23 #[.pointer (some ⟨e.1, 0, none⟩)] w fun e' w' =>
    Hid (∃ s' a', e' = .returned (.tuple #[.int .u8 a'.told, .int .i64 a'.got, .bool true]) ∧ a'.told ≠ 0 ∧ Dq.Wy G w0 B M R D hs s j 2011 s' a' w') := by
  have hj : j < s.la.length := (List.getElem?_eq_some_iff.1 ha).1
  have H0 : Hid (∃ s' a', Dq.Wy G w0 B M R D hs s j 0 s' a' w ∧ a'.told = 0 ∧ ((0 : Nat) : Int) + Dq.rem a' ≤ 2011) := ⟨s, a, ⟨h, (Dq.set_same ha).symm, rfl, hg, Nat.le_refl _⟩, h0, by have := (hG.rm _ _ hg h0).2; omega⟩
  have HG := Lib.hid hG
  have HE := Lib.hid he
  have HN := Lib.hid hn
  have HJ := Lib.hid hj
  clear h ha he hg h0 hn hG hj
  go_enter Try.func23, Try.ntmps23
  go_wp2_with fail
  go_loopw [5] (fun s5 wr => ∃ (k : Nat), s5 = .int .i64 (k : Int) ∧ k ≤ 2011 ∧ Hid (∃ s' a', Dq.Wy G w0 B M R D hs s j k s' a' wr ∧ a'.told = 0 ∧ (k : Int) + Dq.rem a' ≤ 2011)) (fun s5 _ => 5000 - (intOf s5).toNat)
  case atStart => exact ⟨0, rfl, by omega, H0.out⟩
  case round =>
    obtain ⟨k, rfl, hk, HX⟩ := hrel
    obtain ⟨s', a', hw, h0, hr⟩ := HX.out
    have hg := hw.g
    have hok := HG.out.ok _ _ hg h0
    have hrm := HG.out.rm _ _ hg h0
    have HS := Lib.hid (mm_step hw.mm (hw.at HJ.out) HE.out h0 hok.1 (by have h1 := hw.n; have h2 := HN.out; omega) hok.2.1)
    have HW := Lib.hid hw
    have HD := Lib.hid (HG.out.dn _ _ hg h0)
    have H00 := Lib.hid h0
    have hlt : (k : Int) < 5000 := by omega
    have HR := Lib.hid hr
    have hk1 : k + 1 ≤ 2011 := by omega
    have HK := Lib.hid hk1
    have hw1 : IntKind.i64.wrap ((k : Int) + 1) = (k : Int) + 1 := by rw [IntKind.wrap_i64]; omega
    obtain ⟨b, hb⟩ : ∃ b, b = (Dq.acts 0 s'.xs a').1 := ⟨_, rfl⟩
    rw [← hb] at HS HD
    have HB := Lib.hid hb
    clear hw h0 hr hg hok hrm HX hb hk hk1
    go_wp2_with fail
    refine HS.out.mono ?_
    rintro e w2 ⟨rfl, h2⟩
    have HY : Hid (Dq.Wy G w0 B M R D hs s j (k + 1) (s'.act j a') b w2) := by rw [HB.out]; exact HW.out.step HG.out H00.out h2.out
    clear h2 HS
    by_cases hb0 : b.told = 0
    · have HZ : Hid (∃ s' a', Dq.Wy G w0 B M R D hs s j (k + 1) s' a' w2 ∧ a'.told = 0 ∧ ((k + 1 : Nat) : Int) + Dq.rem a' ≤ 2011) := ⟨_, _, HY.out, hb0, by have h1 := HD.out hb0; have h2 := HR.out; omega⟩
      clear HY HD
      go_wp2_with fail
      go_roundw
      case rel => exact ⟨k + 1, by go_num, HK.out, HZ.out⟩
      case measure => simp [intOf]; omega
    · have HB0 : Hid (b.told ≠ 0) := hb0
      go_wp2_with fail
      first | go_ret3 | skip
      have HF : Hid (Dq.Wy G w0 B M R D hs s j 2011 (s'.act j a') b w2) := ⟨HY.out.mm, HY.out.la, HY.out.oi, HY.out.g, by have h1 := HY.out.n; have h2 := HK.out; omega⟩
      exact Lib.hid ⟨s'.act j a', b, rfl, HB0.out, HF.out⟩
end Go.Proofs.Ytlgelhkpdldgdaa
