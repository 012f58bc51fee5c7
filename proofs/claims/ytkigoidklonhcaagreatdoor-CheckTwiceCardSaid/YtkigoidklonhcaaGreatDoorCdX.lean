/-
  Layer 10, plainly: programs which have their form and are not the same have bytes that are not.
-/
import Derived.Test.YtkigoidklonhcaaGreatDoorLowCdI
namespace Go.Proofs.YtkigoidklonhcaaGreatDoor

namespace Cd
theorem uv_split {x y : Nat} (hx : x < 18446744073709551616) (hy : y < 18446744073709551616) {R S : List UInt8} (h : Lib.uvarint x ++ R = Lib.uvarint y ++ S) : x = y ∧ R = S := by
  have h1 := Num.rd_uv x hx R
  have h2 := Num.rd_uv y hy S
  rw [h] at h1
  rw [h1] at h2
  have e : x = y := congrArg Prod.fst h2
  subst e
  exact ⟨rfl, List.append_cancel_left h⟩
theorem uvI_split {x y : Int} (hx : 0 ≤ x ∧ x ≤ 16) (hy : 0 ≤ y ∧ y ≤ 16) {R S : List UInt8} (h : uv x ++ R = uv y ++ S) : x = y ∧ R = S := by
  unfold uv at h
  obtain ⟨h1, h2⟩ := uv_split (by omega) (by omega) h
  exact ⟨by omega, h2⟩
theorem zz_split {x y : Int} (hx : -9223372036854775808 ≤ x ∧ x ≤ 9223372036854775807) (hy : -9223372036854775808 ≤ y ∧ y ≤ 9223372036854775807) {R S : List UInt8} (h : Lib.uvarint (Lib.zigzag x) ++ R = Lib.uvarint (Lib.zigzag y) ++ S) : x = y ∧ R = S := by
  obtain ⟨h1, h2⟩ := uv_split (Lib.zigzag_lt hx.1 hx.2) (Lib.zigzag_lt hy.1 hy.2) h
  exact ⟨Num.zig_inj h1, h2⟩
theorem OpV.ok_bare {o : OpV} (h : o.ok = true) : (hD o.k = false → o.d = 0) ∧ (hA o.k = false → o.a = 0) ∧ (hB o.k = false → o.b = 0) ∧ (hN o.k = false → o.n = 0) := by
  unfold OpV.ok at h
  simp only [Bool.and_eq_true, decide_eq_true_eq] at h
  obtain ⟨_, ⟨⟨h1, h2⟩, h3⟩, h4⟩ := h
  unfold OpV.bare OpV.less at h1 h2 h3 h4
  refine ⟨fun e => ?_, fun e => ?_, fun e => ?_, fun e => ?_⟩
  · rw [e] at h1; exact h1
  · rw [e] at h2; exact h2
  · rw [e] at h3; exact h3
  · rw [e] at h4; exact h4
theorem part_split {c : Bool} {x y : Int} (hx : 0 ≤ x ∧ x ≤ 16) (hy : 0 ≤ y ∧ y ≤ 16) (zx : c = false → x = 0) (zy : c = false → y = 0) {R S : List UInt8} (h : (if c then [x] else []).flatMap uv ++ R = (if c then [y] else []).flatMap uv ++ S) : x = y ∧ R = S := by
  cases c with
  | true => exact uvI_split hx hy (by simpa using h)
  | false => exact ⟨(zx rfl).trans (zy rfl).symm, by simpa using h⟩
theorem op_split {o p : OpV} (ho : o.ok = true) (hp : p.ok = true) (ro : o.Rng) (rp : p.Rng) {R S : List UInt8} (h : o.bytes ++ R = p.bytes ++ S) : o = p ∧ R = S := by
  obtain ⟨o1, o2, o3⟩ := OpV.ok_reg ho
  obtain ⟨p1, p2, p3⟩ := OpV.ok_reg hp
  rw [reg_iff] at o1 o2 o3 p1 p2 p3
  obtain ⟨zo1, zo2, zo3, zo4⟩ := OpV.ok_bare ho
  obtain ⟨zp1, zp2, zp3, zp4⟩ := OpV.ok_bare hp
  unfold OpV.bytes OpV.regs at h
  simp only [List.flatMap_append, List.append_assoc] at h
  obtain ⟨e0, h⟩ := uv_split (by have := ro.k; omega) (by have := rp.k; omega) h
  rw [← e0] at zp1 zp2 zp3 zp4 h
  obtain ⟨e1, h⟩ := part_split o1 p1 zo1 zp1 h
  obtain ⟨e2, h⟩ := part_split o2 p2 zo2 zp2 h
  obtain ⟨e3, h⟩ := part_split o3 p3 zo3 zp3 h
  cases hN1 : hN o.k with
  | true =>
    rw [hN1] at h
    obtain ⟨e4, h⟩ := zz_split ro.n rp.n (by simpa using h)
    exact ⟨OpV.ext' e0 e1 e2 e3 e4, h⟩
  | false =>
    rw [hN1] at h
    exact ⟨OpV.ext' e0 e1 e2 e3 ((zo4 hN1).trans (zp4 hN1).symm), by simpa using h⟩
theorem obs_split {l r : List OpV} (hn : l.length = r.length) (hl : ∀ o ∈ l, o.ok = true ∧ o.Rng) (hr : ∀ o ∈ r, o.ok = true ∧ o.Rng) {R S : List UInt8} (h : obs l ++ R = obs r ++ S) : l = r ∧ R = S := by
  induction l generalizing r with
  | nil =>
    cases r with
    | nil => exact ⟨rfl, h⟩
    | cons y r => simp at hn
  | cons x l ih =>
    cases r with
    | nil => simp at hn
    | cons y r =>
      have e1 : obs (x :: l) = x.bytes ++ obs l := by unfold obs; rw [List.flatMap_cons]
      have e2 : obs (y :: r) = y.bytes ++ obs r := by unfold obs; rw [List.flatMap_cons]
      rw [e1, e2, List.append_assoc, List.append_assoc] at h
      obtain ⟨h1, h2⟩ := op_split (hl x (by simp)).1 (hr y (by simp)).1 (hl x (by simp)).2 (hr y (by simp)).2 h
      obtain ⟨h3, h4⟩ := ih (by simpa using hn) (fun o ho => hl o (by simp [ho])) (fun o ho => hr o (by simp [ho])) h2
      exact ⟨by rw [h1, h3], h4⟩
theorem fn_split {f g : FnV} (hf : f.ok = true) (hg : g.ok = true) (rf : f.Rng) (rg : g.Rng) {R S : List UInt8} (h : f.bytes ++ R = g.bytes ++ S) : f = g ∧ R = S := by
  obtain ⟨⟨a1, q1, b1⟩, ⟨a2, q2, b2⟩, l1, k1⟩ := FnV.ok_parts hf
  obtain ⟨⟨a3, q3, b3⟩, ⟨a4, q4, b4⟩, l2, k2⟩ := FnV.ok_parts hg
  unfold FnV.bytes at h
  simp only [List.append_assoc] at h
  obtain ⟨e1, h⟩ := uvI_split (by omega) (by omega) h
  obtain ⟨e2, h⟩ := uvI_split (by omega) (by omega) h
  obtain ⟨e3, h⟩ := uv_split (by omega) (by omega) h
  obtain ⟨e4, h⟩ := obs_split e3 (fun o ho => ⟨k1 o ho, rf.ops o ho⟩) (fun o ho => ⟨k2 o ho, rg.ops o ho⟩) h
  refine ⟨?_, h⟩
  cases f
  cases g
  simp_all
theorem fbs_split {l r : List FnV} (hn : l.length = r.length) (hl : ∀ o ∈ l, o.ok = true ∧ o.Rng) (hr : ∀ o ∈ r, o.ok = true ∧ o.Rng) {R S : List UInt8} (h : fbs l ++ R = fbs r ++ S) : l = r ∧ R = S := by
  induction l generalizing r with
  | nil =>
    cases r with
    | nil => exact ⟨rfl, h⟩
    | cons y r => simp at hn
  | cons x l ih =>
    cases r with
    | nil => simp at hn
    | cons y r =>
      have e1 : fbs (x :: l) = x.bytes ++ fbs l := by unfold fbs; rw [List.flatMap_cons]
      have e2 : fbs (y :: r) = y.bytes ++ fbs r := by unfold fbs; rw [List.flatMap_cons]
      rw [e1, e2, List.append_assoc, List.append_assoc] at h
      obtain ⟨h1, h2⟩ := fn_split (hl x (by simp)).1 (hr y (by simp)).1 (hl x (by simp)).2 (hr y (by simp)).2 h
      obtain ⟨h3, h4⟩ := ih (by simpa using hn) (fun o ho => hl o (by simp [ho])) (fun o ho => hr o (by simp [ho])) h2
      exact ⟨by rw [h1, h3], h4⟩
/-- Programs which have their form: the same bytes, the same program. -/
theorem pbs_inj {p q : List FnV} (hp : pok p = true) (hq : pok q = true) (rp : ∀ f ∈ p, f.Rng) (rq : ∀ f ∈ q, f.Rng) (h : pbs p = pbs q) : p = q := by
  unfold pok at hp hq
  simp only [Bool.and_eq_true, decide_eq_true_eq, List.all_eq_true] at hp hq
  unfold pbs at h
  rw [List.append_assoc, List.append_assoc] at h
  have h2 := List.append_cancel_left h
  obtain ⟨e1, h3⟩ := uv_split (by omega) (by omega) h2
  exact (fbs_split (R := []) (S := []) e1 (fun f hf => ⟨hp.2 f hf, rp f hf⟩) (fun f hf => ⟨hq.2 f hf, rq f hf⟩) (by simpa using h3)).1
end Cd
end Go.Proofs.YtkigoidklonhcaaGreatDoor
