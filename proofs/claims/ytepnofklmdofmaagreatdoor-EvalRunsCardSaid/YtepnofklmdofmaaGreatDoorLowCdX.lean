/-
  Layer 10, plainly: programs which have their form and are not the same have bytes that are not.
  Layer 10, plainly: what was written is read as itself; bytes that are read are the program's own bytes.
-/
import Derived.Test.YtepnofklmdofmaaGreatDoorLowCdI
import Derived.Test.YtepnofklmdofmaaGreatDoorLowCdN
section
namespace Go.Proofs.YtepnofklmdofmaaGreatDoor

namespace Cd
theorem uv_split {x y : Nat} (hx : x < 18446744073709551616) (hy : y < 18446744073709551616) {R S : List UInt8} (h : Lib.uvarint x ++ R = Lib.uvarint y ++ S) : x = y ∧ R = S := by
  have h1 := Num.rd_uv x hx R
  have h2 := Num.rd_uv y hy S
  rw [h] at h1
  rw [h1] at h2
  have e : x = y := congrArg Prod.fst h2
  subst e
  exact ⟨rfl, List.append_cancel_left h⟩
theorem uvI_split {x y : Int} (hx : 0 ≤ x ∧ x ≤ 16) (hy : 0 ≤ y ∧ y ≤ 16) {R S : List UInt8} (h : uv x ++ R = uv y ++ S) : x = y ∧ R = S := by
  unfold uv at h
  obtain ⟨h1, h2⟩ := uv_split (by omega) (by omega) h
  exact ⟨by omega, h2⟩
theorem zz_split {x y : Int} (hx : -9223372036854775808 ≤ x ∧ x ≤ 9223372036854775807) (hy : -9223372036854775808 ≤ y ∧ y ≤ 9223372036854775807) {R S : List UInt8} (h : Lib.uvarint (Lib.zigzag x) ++ R = Lib.uvarint (Lib.zigzag y) ++ S) : x = y ∧ R = S := by
  obtain ⟨h1, h2⟩ := uv_split (Lib.zigzag_lt hx.1 hx.2) (Lib.zigzag_lt hy.1 hy.2) h
  exact ⟨Num.zig_inj h1, h2⟩
theorem OpV.ok_bare {o : OpV} (h : o.ok = true) : (hD o.k = false → o.d = 0) ∧ (hA o.k = false → o.a = 0) ∧ (hB o.k = false → o.b = 0) ∧ (hN o.k = false → o.n = 0) := by
  unfold OpV.ok at h
  simp only [Bool.and_eq_true, decide_eq_true_eq] at h
  obtain ⟨_, ⟨⟨h1, h2⟩, h3⟩, h4⟩ := h
  unfold OpV.bare OpV.less at h1 h2 h3 h4
  refine ⟨fun e => ?_, fun e => ?_, fun e => ?_, fun e => ?_⟩
  · rw [e] at h1; exact h1
  · rw [e] at h2; exact h2
  · rw [e] at h3; exact h3
  · rw [e] at h4; exact h4
theorem part_split {c : Bool} {x y : Int} (hx : 0 ≤ x ∧ x ≤ 16) (hy : 0 ≤ y ∧ y ≤ 16) (zx : c = false → x = 0) (zy : c = false → y = 0) {R S : List UInt8} (h : (if c then [x] else []).flatMap uv ++ R = (if c then [y] else []).flatMap uv ++ S) : x = y ∧ R = S := by
  cases c with
  | true => exact uvI_split hx hy (by simpa using h)
  | false => exact ⟨(zx rfl).trans (zy rfl).symm, by simpa using h⟩
theorem op_split {o p : OpV} (ho : o.ok = true) (hp : p.ok = true) (ro : o.Rng) (rp : p.Rng) {R S : List UInt8} (h : o.bytes ++ R = p.bytes ++ S) : o = p ∧ R = S := by
  obtain ⟨o1, o2, o3⟩ := OpV.ok_reg ho
  obtain ⟨p1, p2, p3⟩ := OpV.ok_reg hp
  rw [reg_iff] at o1 o2 o3 p1 p2 p3
  obtain ⟨zo1, zo2, zo3, zo4⟩ := OpV.ok_bare ho
  obtain ⟨zp1, zp2, zp3, zp4⟩ := OpV.ok_bare hp
  unfold OpV.bytes OpV.regs at h
  simp only [List.flatMap_append, List.append_assoc] at h
  obtain ⟨e0, h⟩ := uv_split (by have := ro.k; omega) (by have := rp.k; omega) h
  rw [← e0] at zp1 zp2 zp3 zp4 h
  obtain ⟨e1, h⟩ := part_split o1 p1 zo1 zp1 h
  obtain ⟨e2, h⟩ := part_split o2 p2 zo2 zp2 h
  obtain ⟨e3, h⟩ := part_split o3 p3 zo3 zp3 h
  cases hN1 : hN o.k with
  | true =>
    rw [hN1] at h
    obtain ⟨e4, h⟩ := zz_split ro.n rp.n (by simpa using h)
    exact ⟨OpV.ext' e0 e1 e2 e3 e4, h⟩
  | false =>
    rw [hN1] at h
    exact ⟨OpV.ext' e0 e1 e2 e3 ((zo4 hN1).trans (zp4 hN1).symm), by simpa using h⟩
theorem obs_split {l r : List OpV} (hn : l.length = r.length) (hl : ∀ o ∈ l, o.ok = true ∧ o.Rng) (hr : ∀ o ∈ r, o.ok = true ∧ o.Rng) {R S : List UInt8} (h : obs l ++ R = obs r ++ S) : l = r ∧ R = S := by
  induction l generalizing r with
  | nil =>
    cases r with
    | nil => exact ⟨rfl, h⟩
    | cons y r => simp at hn
  | cons x l ih =>
    cases r with
    | nil => simp at hn
    | cons y r =>
      have e1 : obs (x :: l) = x.bytes ++ obs l := by unfold obs; rw [List.flatMap_cons]
      have e2 : obs (y :: r) = y.bytes ++ obs r := by unfold obs; rw [List.flatMap_cons]
      rw [e1, e2, List.append_assoc, List.append_assoc] at h
      obtain ⟨h1, h2⟩ := op_split (hl x (by simp)).1 (hr y (by simp)).1 (hl x (by simp)).2 (hr y (by simp)).2 h
      obtain ⟨h3, h4⟩ := ih (by simpa using hn) (fun o ho => hl o (by simp [ho])) (fun o ho => hr o (by simp [ho])) h2
      exact ⟨by rw [h1, h3], h4⟩
theorem fn_split {f g : FnV} (hf : f.ok = true) (hg : g.ok = true) (rf : f.Rng) (rg : g.Rng) {R S : List UInt8} (h : f.bytes ++ R = g.bytes ++ S) : f = g ∧ R = S := by
  obtain ⟨⟨a1, q1, b1⟩, ⟨a2, q2, b2⟩, l1, k1⟩ := FnV.ok_parts hf
  obtain ⟨⟨a3, q3, b3⟩, ⟨a4, q4, b4⟩, l2, k2⟩ := FnV.ok_parts hg
  unfold FnV.bytes at h
  simp only [List.append_assoc] at h
  obtain ⟨e1, h⟩ := uvI_split (by omega) (by omega) h
  obtain ⟨e2, h⟩ := uvI_split (by omega) (by omega) h
  obtain ⟨e3, h⟩ := uv_split (by omega) (by omega) h
  obtain ⟨e4, h⟩ := obs_split e3 (fun o ho => ⟨k1 o ho, rf.ops o ho⟩) (fun o ho => ⟨k2 o ho, rg.ops o ho⟩) h
  refine ⟨?_, h⟩
  cases f
  cases g
  simp_all
theorem fbs_split {l r : List FnV} (hn : l.length = r.length) (hl : ∀ o ∈ l, o.ok = true ∧ o.Rng) (hr : ∀ o ∈ r, o.ok = true ∧ o.Rng) {R S : List UInt8} (h : fbs l ++ R = fbs r ++ S) : l = r ∧ R = S := by
  induction l generalizing r with
  | nil =>
    cases r with
    | nil => exact ⟨rfl, h⟩
    | cons y r => simp at hn
  | cons x l ih =>
    cases r with
    | nil => simp at hn
    | cons y r =>
      have e1 : fbs (x :: l) = x.bytes ++ fbs l := by unfold fbs; rw [List.flatMap_cons]
      have e2 : fbs (y :: r) = y.bytes ++ fbs r := by unfold fbs; rw [List.flatMap_cons]
      rw [e1, e2, List.append_assoc, List.append_assoc] at h
      obtain ⟨h1, h2⟩ := fn_split (hl x (by simp)).1 (hr y (by simp)).1 (hl x (by simp)).2 (hr y (by simp)).2 h
      obtain ⟨h3, h4⟩ := ih (by simpa using hn) (fun o ho => hl o (by simp [ho])) (fun o ho => hr o (by simp [ho])) h2
      exact ⟨by rw [h1, h3], h4⟩
/-- Programs which have their form: the same bytes, the same program. -/
theorem pbs_inj {p q : List FnV} (hp : pok p = true) (hq : pok q = true) (rp : ∀ f ∈ p, f.Rng) (rq : ∀ f ∈ q, f.Rng) (h : pbs p = pbs q) : p = q := by
  unfold pok at hp hq
  simp only [Bool.and_eq_true, decide_eq_true_eq, List.all_eq_true] at hp hq
  unfold pbs at h
  rw [List.append_assoc, List.append_assoc] at h
  have h2 := List.append_cancel_left h
  obtain ⟨e1, h3⟩ := uv_split (by omega) (by omega) h2
  exact (fbs_split (R := []) (S := []) e1 (fun f hf => ⟨hp.2 f hf, rp f hf⟩) (fun f hf => ⟨hq.2 f hf, rq f hf⟩) (by simpa using h3)).1
end Cd
end Go.Proofs.YtepnofklmdofmaaGreatDoor
end

section
namespace Go.Proofs.YtepnofklmdofmaaGreatDoor

namespace Cd
/-- A reader without a fault, with just these bytes left. -/
def Left (x : ByteArray × Nat) (R : List UInt8) : Prop := x.2 = 0 ∧ x.1.data.toList = R
theorem drop_data (s : ByteArray) (q : Nat) : (s.extract q s.size).data.toList = s.data.toList.drop q := by
  rw [Lib.extract_data, List.take_of_length_le (by simp)]
theorem left_num {s : ByteArray} {f x : Nat} {R : List UInt8} {wrong : Nat → Nat → Nat} (hx : x < 18446744073709551616) (hw : wrong x R.length = 0) (h : Left (s, f) (Lib.uvarint x ++ R)) :
    (Wire.step wrong s f).1 = x ∧ Left (Wire.step wrong s f).2 R := by
  obtain ⟨h1, h2⟩ := h
  simp only at h1 h2
  subst h1
  have hr := Num.rd_uv x hx R
  rw [← h2] at hr
  have hb : s.size - (Lib.uvarint x).length = R.length := by
    have e : s.size = s.data.toList.length := by simp
    rw [e, h2]
    simp
  rw [Wire.step_ok hr (by rw [hb]; exact hw)]
  refine ⟨rfl, rfl, ?_⟩
  show (s.extract _ _).data.toList = R
  rw [drop_data, h2, List.drop_left]
/-- What a step without a fault took. -/
theorem took_num {s : ByteArray} {f : Nat} {wrong : Nat → Nat → Nat} (h : (Wire.step wrong s f).2.2 = 0) : f = 0 ∧ s.data.toList = Lib.uvarint (Wire.step wrong s f).1 ++ (Wire.step wrong s f).2.1.data.toList := by
  unfold Wire.step at h ⊢
  split at h
  · rename_i hf; exact absurd h hf
  · rename_i hf
    rw [if_neg hf]
    split at h
    · rename_i h1; exact absurd h h1
    · rename_i h1
      rw [if_neg h1]
      split at h
      · rename_i h2; exact absurd h h2
      · rename_i h2
        rw [if_neg h2]
        refine ⟨by omega, ?_⟩
        have e := Num.uv_rd (l := s.data.toList) (by omega)
        show s.data.toList = Lib.uvarint (Num.rd s.data.toList).1 ++ (s.extract _ _).data.toList
        rw [e, drop_data, List.take_append_drop]
theorem wU_of {m x b : Nat} (h : x ≤ m) : Wire.wU m x b = 0 := by unfold Wire.wU; rw [if_neg (by omega)]
theorem wC_of {m : Int} {x b : Nat} (h0 : 0 ≤ m) (h : (x : Int) ≤ m) (hb : x ≤ b) : Wire.wC m x b = 0 := by unfold Wire.wC; rw [if_neg (by omega), if_neg (by omega)]
theorem wI_of {x : Int} {b : Nat} (h : -9223372036854775808 ≤ x ∧ x ≤ 9223372036854775807) : Wire.wI (-9223372036854775808) 9223372036854775807 (Lib.zigzag x) b = 0 := by unfold Wire.wI; rw [if_neg (by rw [Num.zag_zig]; omega)]

/-- Registers, written and read. -/
theorem left_regs (o : OpV) (l : List Nat) (hl : ∀ i ∈ l, 0 ≤ o.getI i ∧ o.getI i ≤ 16) (y : OpV) {s : ByteArray} {f : Nat} {R : List UInt8} (h : Left (s, f) ((l.flatMap fun i => uv (o.getI i)) ++ R)) :
    (rRegs l (y, s, f)).1 = l.foldl (fun (z : OpV) i => z.setI i (o.getI i)) y ∧ Left (rRegs l (y, s, f)).2 R := by
  induction l generalizing y s f with
  | nil =>
    have h' : Left (s, f) R := h
    exact ⟨rfl, h'⟩
  | cons i l ih =>
    rw [List.flatMap_cons, List.append_assoc] at h
    have hi := hl i (by simp)
    unfold uv at h
    obtain ⟨e1, e2⟩ := left_num (wrong := Wire.wU 16) (by omega) (wU_of (by omega)) h
    have e3 : (((Wire.step (Wire.wU 16) s f).1 : Nat) : Int) = o.getI i := by rw [e1]; omega
    have := ih (fun j hj => hl j (by simp [hj])) (y.setI i (o.getI i)) (s := (Wire.step (Wire.wU 16) s f).2.1) (f := (Wire.step (Wire.wU 16) s f).2.2) e2
    unfold rRegs at this ⊢
    rw [List.foldl_cons, List.foldl_cons]
    show (List.foldl _ (y.setI i ((Wire.step (Wire.wU 16) s f).1 : Int), (Wire.step (Wire.wU 16) s f).2) l).1 = _ ∧ _
    rw [e3]
    exact this
theorem set_all (o : OpV) (d a b : Bool) (hd : d = false → o.d = 0) (ha : a = false → o.a = 0) (hb : b = false → o.b = 0) : (ids d a b).foldl (fun (z : OpV) i => z.setI i (o.getI i)) (⟨o.k, 0, 0, 0, 0⟩ : OpV) = ⟨o.k, o.d, o.a, o.b, 0⟩ := by
  cases d <;> cases a <;> cases b <;> simp_all [ids, OpV.setI, OpV.getI]
theorem left_op {o : OpV} (ho : o.ok = true) (ro : o.Rng) {s : ByteArray} {f : Nat} {R : List UInt8} (h : Left (s, f) (o.bytes ++ R)) : (rOp s f).1 = o ∧ Left (rOp s f).2 R := by
  obtain ⟨o1, o2, o3⟩ := OpV.ok_reg ho
  rw [reg_iff] at o1 o2 o3
  obtain ⟨z1, z2, z3, z4⟩ := OpV.ok_bare ho
  have hk := ro.k
  unfold OpV.bytes at h
  rw [regs_ids, List.flatMap_map, List.append_assoc, List.append_assoc] at h
  obtain ⟨e1, e2⟩ := left_num (wrong := Wire.wU 255) (by omega) (wU_of (by omega)) h
  have hg : ∀ i ∈ ids (hD o.k) (hA o.k) (hB o.k), 0 ≤ o.getI i ∧ o.getI i ≤ 16 := fun i hi => by
    unfold OpV.getI
    split
    · exact o1
    · split
      · exact o2
      · exact o3
  obtain ⟨e3, e4⟩ := left_regs o _ hg ⟨o.k, 0, 0, 0, 0⟩ (s := (Wire.step (Wire.wU 255) s f).2.1) (f := (Wire.step (Wire.wU 255) s f).2.2) e2
  rw [set_all o _ _ _ z1 z2 z3] at e3
  have hH : rHead s f = rRegs (ids (hD o.k) (hA o.k) (hB o.k)) (⟨o.k, 0, 0, 0, 0⟩, (Wire.step (Wire.wU 255) s f).2.1, (Wire.step (Wire.wU 255) s f).2.2) := by
    unfold rHead
    rw [e1]
  rw [← hH] at e3 e4
  unfold rOp
  rw [e1]
  cases hN1 : hN o.k with
  | true =>
    rw [hN1, if_pos rfl] at e4
    obtain ⟨e5, e6⟩ := left_num (wrong := Wire.wI (-9223372036854775808) 9223372036854775807) (s := (rHead s f).2.1) (f := (rHead s f).2.2) (Lib.zigzag_lt ro.n.1 ro.n.2) (wI_of ro.n) e4
    rw [if_pos rfl]
    refine ⟨?_, e6⟩
    show OpV.mk _ _ _ _ (Num.zag (stepN _ _).1) = o
    unfold stepN
    rw [e5, Num.zag_zig, e3]
  | false =>
    rw [hN1] at e4
    rw [if_neg (by simp)]
    refine ⟨?_, by simpa using e4⟩
    rw [e3]
    exact OpV.ext' rfl rfl rfl rfl (z4 hN1).symm
theorem left_ops {l : List OpV} (hl : ∀ o ∈ l, o.ok = true ∧ o.Rng) {s : ByteArray} {f : Nat} {R : List UInt8} (h : Left (s, f) (obs l ++ R)) : ∀ k, k ≤ l.length → (rOps k s f).1 = l.take k ∧ Left (rOps k s f).2 (obs (l.drop k) ++ R) := by
  intro k
  induction k with
  | zero => intro _; exact ⟨rfl, h⟩
  | succ k ih =>
    intro hk
    obtain ⟨h1, h2⟩ := ih (by omega)
    have e : obs (l.drop k) = (l[k]).bytes ++ obs (l.drop (k + 1)) := by
      rw [List.drop_eq_getElem_cons (by omega)]
      unfold obs
      rw [List.flatMap_cons]
    rw [e, List.append_assoc] at h2
    have hm := hl _ (List.getElem_mem (by omega : k < l.length))
    obtain ⟨h3, h4⟩ := left_op hm.1 hm.2 (s := (rOps k s f).2.1) (f := (rOps k s f).2.2) h2
    refine ⟨?_, h4⟩
    unfold rOps
    rw [h1, h3, List.take_succ_eq_append_getElem (by omega)]
theorem uv_pos (x : Nat) : 1 ≤ (Lib.uvarint x).length := by
  rcases Nat.lt_or_ge x 128 with h | h
  · rw [Lib.uvarint_small h]; simp
  · rw [Lib.uvarint_big h]; simp
theorem obs_ge (l : List OpV) : l.length ≤ (obs l).length := by
  induction l with
  | nil => exact Nat.le_refl _
  | cons o l ih =>
    have e : obs (o :: l) = o.bytes ++ obs l := by unfold obs; rw [List.flatMap_cons]
    have h1 : 1 ≤ o.bytes.length := by
      unfold OpV.bytes
      rw [List.length_append, List.length_append]
      have := uv_pos o.k
      omega
    rw [e, List.length_append, List.length_cons]
    omega
theorem left_fn {g : FnV} (hg : g.ok = true) (rg : g.Rng) {s : ByteArray} {f : Nat} {R : List UInt8} (h : Left (s, f) (g.bytes ++ R)) : (rFn s f).1 = g ∧ Left (rFn s f).2 R := by
  obtain ⟨⟨a1, q1, b1⟩, ⟨a2, q2, b2⟩, l1, k1⟩ := FnV.ok_parts hg
  unfold FnV.bytes at h
  simp only [List.append_assoc] at h
  unfold uv at h
  obtain ⟨e1, h1⟩ := left_num (wrong := Wire.wU 16) (by omega) (wU_of (by omega)) h
  obtain ⟨e2, h2⟩ := left_num (wrong := Wire.wU 16) (s := (Wire.step (Wire.wU 16) s f).2.1) (f := (Wire.step (Wire.wU 16) s f).2.2) (by omega) (wU_of (by omega)) h1
  obtain ⟨e3, h3⟩ := left_num (wrong := Wire.wC 64) (s := (Wire.step (Wire.wU 16) (Wire.step (Wire.wU 16) s f).2.1 (Wire.step (Wire.wU 16) s f).2.2).2.1) (f := (Wire.step (Wire.wU 16) (Wire.step (Wire.wU 16) s f).2.1 (Wire.step (Wire.wU 16) s f).2.2).2.2) (by omega)
    (wC_of (by omega) (by omega) (by rw [List.length_append]; have := obs_ge g.ops; omega)) h2
  obtain ⟨e4, h4⟩ := left_ops (fun o ho => ⟨k1 o ho, rg.ops o ho⟩) h3 g.ops.length (Nat.le_refl _)
  rw [List.drop_length, List.take_length] at *
  unfold rFn rA rC
  simp only
  rw [e3]
  refine ⟨?_, by simpa [obs] using h4⟩
  rw [e1, e2, e4]
  cases g
  simp only [FnV.mk.injEq, and_true]
  exact ⟨by simp only at a1 q1; omega, by simp only at a2 q2; omega⟩
theorem left_fns {l : List FnV} (hl : ∀ o ∈ l, o.ok = true ∧ o.Rng) {s : ByteArray} {f : Nat} {R : List UInt8} (h : Left (s, f) (fbs l ++ R)) : ∀ k, k ≤ l.length → (rFns k s f).1 = l.take k ∧ Left (rFns k s f).2 (fbs (l.drop k) ++ R) := by
  intro k
  induction k with
  | zero => intro _; exact ⟨rfl, h⟩
  | succ k ih =>
    intro hk
    obtain ⟨h1, h2⟩ := ih (by omega)
    have e : fbs (l.drop k) = (l[k]).bytes ++ fbs (l.drop (k + 1)) := by
      rw [List.drop_eq_getElem_cons (by omega)]
      unfold fbs
      rw [List.flatMap_cons]
    rw [e, List.append_assoc] at h2
    have hm := hl _ (List.getElem_mem (by omega : k < l.length))
    obtain ⟨h3, h4⟩ := left_fn hm.1 hm.2 (s := (rFns k s f).2.1) (f := (rFns k s f).2.2) h2
    refine ⟨?_, h4⟩
    unfold rFns
    rw [h1, h3, List.take_succ_eq_append_getElem (by omega)]
theorem fbs_ge (l : List FnV) : l.length ≤ (fbs l).length := by
  induction l with
  | nil => exact Nat.le_refl _
  | cons g l ih =>
    have e : fbs (g :: l) = g.bytes ++ fbs l := by unfold fbs; rw [List.flatMap_cons]
    have h1 : 1 ≤ g.bytes.length := by
      unfold FnV.bytes uv
      simp only [List.length_append]
      have := uv_pos g.args.toNat
      omega
    rw [e, List.length_append, List.length_cons]
    omega
/-- A program's bytes are read, with whatever behind them. -/
theorem left_prog {p : List FnV} (hp : pok p = true) (rp : ∀ f ∈ p, f.Rng) {s : ByteArray} {f : Nat} {R : List UInt8} (h : Left (s, f) (Lib.uvarint p.length ++ (fbs p ++ R))) : (rProg s f).1 = p ∧ Left (rProg s f).2 R := by
  unfold pok at hp
  simp only [Bool.and_eq_true, decide_eq_true_eq, List.all_eq_true] at hp
  obtain ⟨e3, h3⟩ := left_num (wrong := Wire.wC 16) (by omega) (wC_of (by omega) (by omega) (by rw [List.length_append]; have := fbs_ge p; omega)) h
  obtain ⟨e4, h4⟩ := left_fns (fun o ho => ⟨hp.2 o ho, rp o ho⟩) h3 p.length (Nat.le_refl _)
  rw [List.drop_length, List.take_length] at *
  unfold rProg rC
  rw [e3]
  exact ⟨e4, by simpa [fbs] using h4⟩
theorem dec_left {p : List FnV} (hp : pok p = true) (rp : ∀ f ∈ p, f.Rng) (R : List UInt8) (hl : (pbs p ++ R).length ≤ 16384) : dec ⟨(pbs p ++ R).toArray⟩ = if R = [] then (p, 0) else ([], 8) := by
  have hs : Left ((⟨(pbs p ++ R).toArray⟩ : ByteArray), 0) (Lib.uvarint 1 ++ (Lib.uvarint p.length ++ (fbs p ++ R))) := ⟨rfl, by simp [pbs]⟩
  have hz : ¬ 16384 < (⟨(pbs p ++ R).toArray⟩ : ByteArray).size := by
    show ¬ 16384 < (pbs p ++ R).toArray.size
    simpa using hl
  generalize (⟨(pbs p ++ R).toArray⟩ : ByteArray) = s at hs hz
  obtain ⟨e1, h1⟩ := left_num (wrong := Wire.wU 18446744073709551615) (by omega) (wU_of (by omega)) hs
  obtain ⟨e2, h2⟩ := left_prog hp rp (s := (Wire.step (Wire.wU 18446744073709551615) s 0).2.1) (f := (Wire.step (Wire.wU 18446744073709551615) s 0).2.2) h1
  unfold dec
  rw [if_neg hz, if_neg (by rw [h1.1]; simp), if_neg (by rw [e1]; simp), e2, hp, if_pos rfl]
  generalize rProg (Wire.step (Wire.wU 18446744073709551615) s 0).2.1 (Wire.step (Wire.wU 18446744073709551615) s 0).2.2 = x at e2 h2
  obtain ⟨q, t, g⟩ := x
  obtain ⟨h3, h4⟩ := h2
  simp only at h3 h4 ⊢
  have hsz : t.size = R.length := by
    have e : t.size = t.data.toList.length := by simp
    rw [e, h4]
  have hf : Wire.fin t g = if R = [] then 0 else 8 := by
    unfold Wire.fin
    rw [h3]
    cases R with
    | nil =>
      have h0 : t.size = 0 := hsz
      simp [h0]
    | cons b R =>
      have hne : ¬ t.size = 0 := by rw [hsz]; exact Nat.succ_ne_zero _
      simp [hne]
  rw [hf]
  cases R with
  | nil => rfl
  | cons b R => rfl

/-! Bytes that are read. -/
theorem took_regs (l : List Nat) (y : OpV) (s : ByteArray) (f : Nat) (h : (rRegs l (y, s, f)).2.2 = 0) :
    ∃ xs : List Nat, xs.length = l.length ∧ f = 0 ∧ s.data.toList = (xs.flatMap fun x => Lib.uvarint x) ++ (rRegs l (y, s, f)).2.1.data.toList ∧ (rRegs l (y, s, f)).1 = (l.zip xs).foldl (fun (z : OpV) i => z.setI i.1 (i.2 : Int)) y := by
  induction l generalizing y s f with
  | nil => exact ⟨[], rfl, h, rfl, rfl⟩
  | cons i l ih =>
    have e : rRegs (i :: l) (y, s, f) = rRegs l (y.setI i ((Wire.step (Wire.wU 16) s f).1 : Int), (Wire.step (Wire.wU 16) s f).2.1, (Wire.step (Wire.wU 16) s f).2.2) := rfl
    rw [e] at h
    obtain ⟨xs, h1, h2, h3, h4⟩ := ih _ _ _ h
    obtain ⟨h5, h6⟩ := took_num h2
    refine ⟨(Wire.step (Wire.wU 16) s f).1 :: xs, by simp [h1], h5, ?_, ?_⟩
    · rw [e, h6, h3, List.flatMap_cons, List.append_assoc]
    · rw [e, h4]; rfl
theorem regs_of (k : Nat) (d a b : Bool) (n : Int) (xs : List Nat) (h : xs.length = (ids d a b).length) (o : OpV) (ho : o = ((ids d a b).zip xs).foldl (fun (z : OpV) i => z.setI i.1 (i.2 : Int)) ⟨k, 0, 0, 0, 0⟩) :
    o.k = k ∧ ((ids d a b).flatMap fun i => uv ((⟨k, o.d, o.a, o.b, n⟩ : OpV).getI i)) = xs.flatMap fun x => Lib.uvarint x := by
  subst ho
  cases d <;> cases a <;> cases b <;> simp [ids] at h ⊢ <;>
    (match xs, h with
     | [], _ => first | rfl | simp_all
     | [x], _ => first | (simp [OpV.setI, OpV.getI, uv]; done) | simp_all
     | [x, y], _ => first | (simp [OpV.setI, OpV.getI, uv]; done) | simp_all
     | [x, y, z], _ => first | (simp [OpV.setI, OpV.getI, uv]; done) | simp_all
     | x :: y :: z :: u :: r, h => first | simp_all | (simp at h; omega))
theorem took_op (s : ByteArray) (f : Nat) (h : (rOp s f).2.2 = 0) : f = 0 ∧ s.data.toList = (rOp s f).1.bytes ++ (rOp s f).2.1.data.toList := by
  have key : ∀ (n : Int), (rHead s f).2.2 = 0 → f = 0 ∧ (rHead s f).1.k = (Wire.step (Wire.wU 255) s f).1 ∧
      s.data.toList = Lib.uvarint (Wire.step (Wire.wU 255) s f).1 ++ ((ids (hD (Wire.step (Wire.wU 255) s f).1) (hA (Wire.step (Wire.wU 255) s f).1) (hB (Wire.step (Wire.wU 255) s f).1)).flatMap fun i => uv ((⟨(Wire.step (Wire.wU 255) s f).1, (rHead s f).1.d, (rHead s f).1.a, (rHead s f).1.b, n⟩ : OpV).getI i)) ++ (rHead s f).2.1.data.toList := fun n hh => by
    unfold rHead at hh
    obtain ⟨xs, h1, h2, h3, h4⟩ := took_regs _ _ _ _ hh
    obtain ⟨h5, h6⟩ := took_num h2
    obtain ⟨h7, h8⟩ := regs_of _ _ _ _ n xs h1 _ h4
    refine ⟨h5, h7, ?_⟩
    unfold rHead
    rw [h8, h6, h3, List.append_assoc]
  unfold rOp at h ⊢
  split at h
  · rename_i hn
    rw [if_pos hn]
    obtain ⟨h1, h2⟩ := took_num h
    obtain ⟨h3, h4, h5⟩ := key (Num.zag (stepN (rHead s f).2.1 (rHead s f).2.2).1) h1
    refine ⟨h3, ?_⟩
    unfold OpV.bytes
    rw [regs_ids, List.flatMap_map]
    simp only
    rw [h4, hn, if_pos rfl, Num.zig_zag, h5, h2]
    simp only [List.append_assoc]
    rfl
  · rename_i hn
    rw [if_neg hn]
    obtain ⟨h3, h4, h5⟩ := key (rHead s f).1.n h
    refine ⟨h3, ?_⟩
    unfold OpV.bytes
    rw [regs_ids, List.flatMap_map]
    rw [h4, if_neg hn]
    rw [h5]
    simp only [List.append_nil, List.append_assoc]
    rw [← h4]
theorem took_ops (k : Nat) (s : ByteArray) (f : Nat) (h : (rOps k s f).2.2 = 0) : f = 0 ∧ s.data.toList = obs (rOps k s f).1 ++ (rOps k s f).2.1.data.toList := by
  induction k with
  | zero => exact ⟨h, rfl⟩
  | succ k ih =>
    have h1 := took_op _ _ h
    obtain ⟨h2, h3⟩ := ih h1.1
    refine ⟨h2, ?_⟩
    show _ = obs ((rOps k s f).1 ++ [_]) ++ _
    have e : ∀ (l : List OpV) (o : OpV), obs (l ++ [o]) = obs l ++ o.bytes := fun l o => by unfold obs; simp
    rw [e, List.append_assoc, h3, h1.2]
    rfl
theorem took_fn (s : ByteArray) (f : Nat) (h : (rFn s f).2.2 = 0) : f = 0 ∧ s.data.toList = (rFn s f).1.bytes ++ (rFn s f).2.1.data.toList := by
  obtain ⟨h1, h2⟩ := took_ops _ _ _ h
  obtain ⟨h3, h4⟩ := took_num h1
  obtain ⟨h5, h6⟩ := took_num h3
  obtain ⟨h7, h8⟩ := took_num h5
  refine ⟨h7, ?_⟩
  have hl : (rOps (rC 64 (rA (rA s f).2.1 (rA s f).2.2).2.1 (rA (rA s f).2.1 (rA s f).2.2).2.2).1 (rC 64 (rA (rA s f).2.1 (rA s f).2.2).2.1 (rA (rA s f).2.1 (rA s f).2.2).2.2).2.1 (rC 64 (rA (rA s f).2.1 (rA s f).2.2).2.1 (rA (rA s f).2.1 (rA s f).2.2).2.2).2.2).1.length = (rC 64 (rA (rA s f).2.1 (rA s f).2.2).2.1 (rA (rA s f).2.1 (rA s f).2.2).2.2).1 := rOps_len _ _ _
  have k8 : s.data.toList = Lib.uvarint (rA s f).1 ++ (rA s f).2.1.data.toList := h8
  have k6 : (rA s f).2.1.data.toList = Lib.uvarint (rA (rA s f).2.1 (rA s f).2.2).1 ++ (rA (rA s f).2.1 (rA s f).2.2).2.1.data.toList := h6
  have k4 : (rA (rA s f).2.1 (rA s f).2.2).2.1.data.toList = Lib.uvarint (rC 64 (rA (rA s f).2.1 (rA s f).2.2).2.1 (rA (rA s f).2.1 (rA s f).2.2).2.2).1 ++ (rC 64 (rA (rA s f).2.1 (rA s f).2.2).2.1 (rA (rA s f).2.1 (rA s f).2.2).2.2).2.1.data.toList := h4
  unfold FnV.bytes rFn
  simp only
  rw [hl, k8, k6, k4, h2]
  simp only [List.append_assoc]
  rfl
theorem took_fns (k : Nat) (s : ByteArray) (f : Nat) (h : (rFns k s f).2.2 = 0) : f = 0 ∧ s.data.toList = fbs (rFns k s f).1 ++ (rFns k s f).2.1.data.toList := by
  induction k with
  | zero => exact ⟨h, rfl⟩
  | succ k ih =>
    have h1 := took_fn _ _ h
    obtain ⟨h2, h3⟩ := ih h1.1
    refine ⟨h2, ?_⟩
    show _ = fbs ((rFns k s f).1 ++ [_]) ++ _
    have e : ∀ (l : List FnV) (o : FnV), fbs (l ++ [o]) = fbs l ++ o.bytes := fun l o => by unfold fbs; simp
    rw [e, List.append_assoc, h3, h1.2]
    rfl
/-- What is read has its form, and is written as the bytes that were read. -/
theorem took_dec {s : ByteArray} (h : (dec s).2 = 0) : pok (dec s).1 = true ∧ s.data.toList = pbs (dec s).1 := by
  unfold dec at h ⊢
  split at h
  · exact absurd h (by decide)
  · rename_i c1
    rw [if_neg c1]
    split at h
    · exact absurd h (by decide)
    · rename_i c2
      rw [if_neg c2]
      split at h
      · exact absurd h (by decide)
      · rename_i c3
        rw [if_neg c3]
        split at h
        · exact absurd h (by decide)
        · rename_i c4
          rw [if_neg c4]
          split at h
          · rename_i c5
            rw [if_pos c5]
            refine ⟨c5, ?_⟩
            simp only [ne_eq, Decidable.not_not] at c2 c3 c4
            obtain ⟨h1, h2⟩ := took_num c2
            have c6 : (rProg (Wire.step (Wire.wU 18446744073709551615) s 0).2.1 (Wire.step (Wire.wU 18446744073709551615) s 0).2.2).2.2 = 0 ∧ (rProg (Wire.step (Wire.wU 18446744073709551615) s 0).2.1 (Wire.step (Wire.wU 18446744073709551615) s 0).2.2).2.1.size = 0 := by
              unfold Wire.fin at c4
              split at c4
              · rename_i hh; exact absurd c4 hh
              · rename_i hh
                split at c4
                · rename_i h3; exact ⟨by simpa using hh, h3⟩
                · exact absurd c4 (by decide)
            obtain ⟨h3, h4⟩ := took_fns _ _ _ c6.1
            obtain ⟨h5, h6⟩ := took_num h3
            have h7 : (rProg (Wire.step (Wire.wU 18446744073709551615) s 0).2.1 (Wire.step (Wire.wU 18446744073709551615) s 0).2.2).2.1.data.toList = [] := by
              have := c6.2
              apply List.eq_nil_of_length_eq_zero
              simpa using this
            have hl : (rProg (Wire.step (Wire.wU 18446744073709551615) s 0).2.1 (Wire.step (Wire.wU 18446744073709551615) s 0).2.2).1.length = (rC 16 (Wire.step (Wire.wU 18446744073709551615) s 0).2.1 (Wire.step (Wire.wU 18446744073709551615) s 0).2.2).1 := rFns_len _ _ _
            have k6 : (Wire.step (Wire.wU 18446744073709551615) s 0).2.1.data.toList = Lib.uvarint (rC 16 (Wire.step (Wire.wU 18446744073709551615) s 0).2.1 (Wire.step (Wire.wU 18446744073709551615) s 0).2.2).1 ++ (rC 16 (Wire.step (Wire.wU 18446744073709551615) s 0).2.1 (Wire.step (Wire.wU 18446744073709551615) s 0).2.2).2.1.data.toList := h6
            unfold pbs
            rw [hl, h2, c3, k6, h4]
            unfold rProg at h7
            rw [h7]
            simp only [List.append_assoc, List.append_nil]
            rfl
          · exact absurd h (by decide)
/-- A program that was read is short. -/
theorem dec_short (s : ByteArray) : (dec s).1.length ≤ maxLen := by
  unfold maxLen dec
  split
  · simp
  · split
    · simp
    · split
      · simp
      · split
        · simp
        · split
          · rename_i c5
            have hp := c5
            unfold pok at hp
            simp only [Bool.and_eq_true, decide_eq_true_eq] at hp
            have h16 := hp.1
            show (rProg (Wire.step (Wire.wU 18446744073709551615) s 0).2.1 (Wire.step (Wire.wU 18446744073709551615) s 0).2.2).1.length ≤ 9223372036854775807
            omega
          · simp
theorem dec_len {s : ByteArray} (h : (dec s).2 = 0) : s.size ≤ 16384 := by
  unfold dec at h
  split at h
  · exact absurd h (by decide)
  · omega
/-- Read, and written again. -/
theorem enc_dec {s : ByteArray} (h : (dec s).2 = 0) : enc (dec s).1 = (s.data.toList, 0) := by
  obtain ⟨h1, h2⟩ := took_dec h
  have h3 := dec_len h
  unfold enc
  rw [if_pos h1, ← h2, if_neg (by have e : s.size = s.data.toList.length := by simp
                                  omega)]
/-- Written, and read again. -/
theorem enc_ok {p : List FnV} (h : (enc p).2 = 0) : pok p = true ∧ (enc p).1 = pbs p ∧ (pbs p).length ≤ 16384 := by
  unfold enc at h ⊢
  split at h
  · rename_i c1
    rw [if_pos c1]
    split at h
    · exact absurd h (by decide)
    · rename_i c2
      rw [if_neg c2]
      exact ⟨c1, rfl, by omega⟩
  · exact absurd h (by decide)
theorem dec_enc {p : List FnV} (rp : ∀ f ∈ p, f.Rng) (h : (enc p).2 = 0) : dec ⟨(enc p).1.toArray⟩ = (p, 0) := by
  obtain ⟨h1, h2, h3⟩ := enc_ok h
  rw [h2]
  have := dec_left h1 rp [] (by simpa using h3)
  simpa using this
theorem dec_more {p : List FnV} (rp : ∀ f ∈ p, f.Rng) (h : (enc p).2 = 0) (hl : (enc p).1.length < 16384) : (dec ⟨((enc p).1 ++ [0]).toArray⟩).2 = 8 := by
  obtain ⟨h1, h2, h3⟩ := enc_ok h
  rw [h2] at hl ⊢
  rw [dec_left h1 rp [0] (by simp; omega)]
  rfl
end Cd
end Go.Proofs.YtepnofklmdofmaaGreatDoor
end
