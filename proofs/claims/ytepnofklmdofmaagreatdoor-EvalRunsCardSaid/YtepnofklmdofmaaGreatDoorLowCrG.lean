/-
  The document's readOp (layer 10): an op is read.
  Layer 10, plainly: the document's reading of a program, against the program's own.
-/
import Derived.Test.YtepnofklmdofmaaGreatDoorLowCrE
import Derived.Test.YtepnofklmdofmaaGreatDoorLowCdX
import Derived.Test.YtepnofklmdofmaaGreatDoorLowRef
section
namespace Go.Proofs.YtepnofklmdofmaaGreatDoor
open Go.RowKit

namespace Cd
/-- A kind, as the document reads it: none that is 0. -/
def dKind (s : ByteArray) (f : Nat) : Nat × ByteArray × Nat :=
  if (Wire.step (Wire.wU 14) s f).1 = 0 then (0, (Wire.step (Wire.wU 14) s f).2.1, 8) else Wire.step (Wire.wU 14) s f
def dHead (s : ByteArray) (f : Nat) : OpV × ByteArray × Nat := rRegs (ids (hD (dKind s f).1) (hA (dKind s f).1) (hB (dKind s f).1)) (⟨(dKind s f).1, 0, 0, 0, 0⟩, (dKind s f).2)
def dOp (s : ByteArray) (f : Nat) : OpV × ByteArray × Nat :=
  if hN (dKind s f).1 then (⟨(dHead s f).1.k, (dHead s f).1.d, (dHead s f).1.a, (dHead s f).1.b, Num.zag (stepN (dHead s f).2.1 (dHead s f).2.2).1⟩, (stepN (dHead s f).2.1 (dHead s f).2.2).2)
  else dHead s f
section
variable {w0 w w' : World} {X Z R n : Nat} {x : OpV × ByteArray × Nat}
end
end Cd

end Go.Proofs.YtepnofklmdofmaaGreatDoor
end

section
namespace Go.Proofs.YtepnofklmdofmaaGreatDoor

namespace Cd
/-- In the midst of a row that is read: what was read of the bytes qs; whoever could be read has been read so far without a fault. -/
structure Inv {α : Type} (B : α → List UInt8) (G : α → Prop) (Src : List α → List UInt8 → Prop) (qs : ByteArray) (qf : Nat) (os : List α) (t : ByteArray) (g : Nat) : Prop where
  a : g = 0 → qf = 0 ∧ qs.data.toList = os.flatMap B ++ t.data.toList ∧ ∀ o ∈ os, G o
  b : ∀ l R, Src l R → g = 0
/-- Rows of as many are parted in one way alone. -/
def Splits {α : Type} (B : α → List UInt8) (G : α → Prop) : Prop := ∀ (l r : List α) (R S : List UInt8), l.length = r.length → (∀ o ∈ l, G o) → (∀ o ∈ r, G o) → l.flatMap B ++ R = r.flatMap B ++ S → l = r ∧ R = S
theorem Inv.start {α : Type} {B : α → List UInt8} {G : α → Prop} {Src : List α → List UInt8 → Prop} {qs : ByteArray} {qf : Nat} (h : ∀ l R, Src l R → qf = 0) : Inv B G Src qs qf [] qs qf :=
  ⟨fun hg => ⟨hg, rfl, fun o ho => by simp at ho⟩, h⟩
theorem Inv.step {α : Type} {B : α → List UInt8} {G : α → Prop} {Src : List α → List UInt8 → Prop} {qs t t' : ByteArray} {qf n g' : Nat} {os : List α} {o' : α} (h : Inv B G Src qs qf os t 0)
    (hsrc : ∀ l R, Src l R → l.length = n ∧ (∀ o ∈ l, G o) ∧ qs.data.toList = l.flatMap B ++ R) (hsp : Splits B G) (hj : os.length < n)
    (hl : ∀ o R, G o → t.data.toList = B o ++ R → g' = 0) (ht : g' = 0 → t.data.toList = B o' ++ t'.data.toList ∧ G o') : Inv B G Src qs qf (os ++ [o']) t' g' := by
  obtain ⟨h1, h2, h3⟩ := h.a rfl
  refine ⟨fun hg => ?_, fun l R hs => ?_⟩
  · obtain ⟨h4, h5⟩ := ht hg
    refine ⟨h1, ?_, fun o ho => ?_⟩
    · rw [h2, h4, List.flatMap_append]
      simp
    · rcases List.mem_append.1 ho with ho | ho
      · exact h3 o ho
      · rw [List.mem_singleton.1 ho]; exact h5
  · obtain ⟨e1, e2, e3⟩ := hsrc l R hs
    have hlt : os.length < l.length := by omega
    have e4 : os.flatMap B ++ t.data.toList = (l.take os.length).flatMap B ++ ((l.drop os.length).flatMap B ++ R) := by
      rw [← h2, e3, ← List.append_assoc, ← List.flatMap_append, List.take_append_drop]
    have e5 := (hsp _ _ _ _ (by rw [List.length_take]; omega) h3 (fun o ho => e2 o (List.mem_of_mem_take ho)) e4).2
    rw [List.drop_eq_getElem_cons hlt, List.flatMap_cons, List.append_assoc] at e5
    exact hl _ _ (e2 _ (List.getElem_mem hlt)) e5
def GO (o : OpV) : Prop := o.ok = true ∧ o.Rng
def GF (f : FnV) : Prop := f.ok = true ∧ f.Rng
theorem splitsO : Splits OpV.bytes GO := fun _ _ _ _ hn hl hr h => obs_split hn hl hr h
theorem splitsF : Splits FnV.bytes GF := fun _ _ _ _ hn hl hr h => fbs_split hn hl hr h

/-! An op, as the document reads it. -/
theorem dKind_pos {s : ByteArray} {f : Nat} (h : (dKind s f).2.2 = 0) : dKind s f = Wire.step (Wire.wU 14) s f ∧ 1 ≤ (dKind s f).1 ∧ (dKind s f).1 ≤ 14 := by
  have hk := stepU_le 14 s f
  unfold dKind at h ⊢
  split at h
  · cases (show (8 : Nat) = 0 from h)
  · rename_i h0
    rw [if_neg h0]
    exact ⟨rfl, by omega, hk⟩
theorem dRegs_fault (l : List Nat) (y : OpV) (s : ByteArray) (f : Nat) (h : (rRegs l (y, s, f)).2.2 = 0) : f = 0 := (took_regs l y s f h).choose_spec.2.1
theorem rRegs_le (l : List Nat) (hl : ∀ i ∈ l, i = 1 ∨ i = 2 ∨ i = 3) (x : OpV × ByteArray × Nat) (h : ∀ i, i = 1 ∨ i = 2 ∨ i = 3 → 0 ≤ x.1.getI i ∧ x.1.getI i ≤ 16) : ∀ i, i = 1 ∨ i = 2 ∨ i = 3 → 0 ≤ (rRegs l x).1.getI i ∧ (rRegs l x).1.getI i ≤ 16 := by
  unfold rRegs
  induction l generalizing x with
  | nil => exact h
  | cons i l ih =>
    refine ih (fun j hj => hl j (by simp [hj])) _ (fun j hj => ?_)
    have hu := stepU_le 16 x.2.1 x.2.2
    have hi := hl i (by simp)
    show 0 ≤ (x.1.setI i _).getI j ∧ (x.1.setI i _).getI j ≤ 16
    have h1 := h j hj
    rcases hi with rfl | rfl | rfl <;> rcases hj with rfl | rfl | rfl <;> simp [OpV.setI, OpV.getI] at h1 ⊢ <;> omega
theorem rRegs_else (d a b : Bool) (k : Nat) (s : ByteArray) (f : Nat) : (rRegs (ids d a b) (⟨k, 0, 0, 0, 0⟩, s, f)).1.k = k ∧ (d = false → (rRegs (ids d a b) (⟨k, 0, 0, 0, 0⟩, s, f)).1.d = 0) ∧ (a = false → (rRegs (ids d a b) (⟨k, 0, 0, 0, 0⟩, s, f)).1.a = 0) ∧ (b = false → (rRegs (ids d a b) (⟨k, 0, 0, 0, 0⟩, s, f)).1.b = 0) ∧ (rRegs (ids d a b) (⟨k, 0, 0, 0, 0⟩, s, f)).1.n = 0 := by
  cases d <;> cases a <;> cases b <;> simp [ids, rRegs, OpV.setI]
theorem dOp_good {s : ByteArray} {f : Nat} (h : (dOp s f).2.2 = 0) : f = 0 ∧ s.data.toList = (dOp s f).1.bytes ++ (dOp s f).2.1.data.toList ∧ GO (dOp s f).1 := by
  -- the head
  have hhead : (dHead s f).2.2 = 0 := by
    unfold dOp at h
    split at h
    · exact (took_num h).1
    · exact h
  have hkind : (dKind s f).2.2 = 0 := dRegs_fault _ _ _ _ hhead
  obtain ⟨ek, k1, k14⟩ := dKind_pos hkind
  have e255 : Wire.step (Wire.wU 255) s f = dKind s f := by
    rw [ek] at hkind
    obtain ⟨f0, hd⟩ := took_num hkind
    have hlt := Wire.step_lt (wrong := Wire.wU 14) s f
    have hl : Left (s, f) (Lib.uvarint (Wire.step (Wire.wU 14) s f).1 ++ (Wire.step (Wire.wU 14) s f).2.1.data.toList) := ⟨f0, hd⟩
    have hk := stepU_le 14 s f
    obtain ⟨a1, a2, a3⟩ := left_num (wrong := Wire.wU 255) hlt (wU_of (by omega)) hl
    rw [ek]
    refine Prod.ext a1 (Prod.ext ?_ (a2.trans hkind.symm))
    exact ByteArray.ext (Array.ext' a3)
  have ehead : rHead s f = dHead s f := by unfold rHead dHead; rw [e255]
  have eop : rOp s f = dOp s f := by unfold rOp dOp; rw [e255, ehead]
  have ht := took_op s f (by rw [eop]; exact h)
  rw [eop] at ht
  have hr := rOp_rng s f
  rw [eop] at hr
  refine ⟨ht.1, ht.2, ?_, hr⟩
  -- its form
  have hel := rRegs_else (hD (dKind s f).1) (hA (dKind s f).1) (hB (dKind s f).1) (dKind s f).1 (dKind s f).2.1 (dKind s f).2.2
  have hle := rRegs_le (ids (hD (dKind s f).1) (hA (dKind s f).1) (hB (dKind s f).1)) (fun i hi => ids_mem hi) (⟨(dKind s f).1, 0, 0, 0, 0⟩, (dKind s f).2) (fun i hi => by
    rcases hi with rfl | rfl | rfl <;> simp [OpV.getI])
  have eH : dHead s f = rRegs (ids (hD (dKind s f).1) (hA (dKind s f).1) (hB (dKind s f).1)) (⟨(dKind s f).1, 0, 0, 0, 0⟩, (dKind s f).2.1, (dKind s f).2.2) := rfl
  rw [← eH] at hel
  have hle2 : ∀ i, i = 1 ∨ i = 2 ∨ i = 3 → 0 ≤ (dHead s f).1.getI i ∧ (dHead s f).1.getI i ≤ 16 := hle
  obtain ⟨g1, g2, g3, g4, g5⟩ := hel
  have r1 := hle2 1 (by omega)
  have r2 := hle2 2 (by omega)
  have r3 := hle2 3 (by omega)
  simp [OpV.getI] at r1 r2 r3
  have key : ∀ n : Int, (hN (dKind s f).1 = false → n = 0) → (⟨(dHead s f).1.k, (dHead s f).1.d, (dHead s f).1.a, (dHead s f).1.b, n⟩ : OpV).ok = true := fun n hn => by
    rw [ok_parts4]
    simp only [g1, isK_iff.2 ⟨k1, k14⟩, reg_iff.2 r1, reg_iff.2 r2, reg_iff.2 r3, Bool.true_and]
    have p : ∀ (c : Bool) (x : Int), (c = false → x = 0) → okP c x = true := fun c x hx => by
      cases c with
      | true => rfl
      | false => unfold okP; rw [hx rfl]; rfl
    rw [p _ _ g2, p _ _ g3, p _ _ g4, p _ _ hn]
    rfl
  unfold dOp
  split
  · rename_i hn
    exact key _ (fun h0 => by rw [hn] at h0; cases h0)
  · rename_i hn
    have := key (dHead s f).1.n (fun _ => g5)
    exact this
theorem dOp_left {o : OpV} (ho : GO o) {s : ByteArray} {R : List UInt8} (h : s.data.toList = o.bytes ++ R) : (dOp s 0).2.2 = 0 := by
  have hK : 1 ≤ o.k ∧ o.k ≤ 14 := by
    have := ho.1
    rw [ok_parts4] at this
    simp only [Bool.and_eq_true] at this
    exact isK_iff.1 this.1.1
  have hl : Left (s, 0) (o.bytes ++ R) := ⟨rfl, h⟩
  have h2 := (left_op ho.1 ho.2 hl).2.1
  have hb : Left (s, 0) (Lib.uvarint o.k ++ (o.regs.flatMap uv ++ (if hN o.k then Lib.uvarint (Lib.zigzag o.n) else []) ++ R)) := ⟨rfl, by rw [h]; unfold OpV.bytes; simp only [List.append_assoc]⟩
  obtain ⟨a1, a2, a3⟩ := left_num (wrong := Wire.wU 14) (by omega) (wU_of hK.2) hb
  obtain ⟨b1, b2, b3⟩ := left_num (wrong := Wire.wU 255) (by omega) (wU_of (by omega)) hb
  have e : Wire.step (Wire.wU 255) s 0 = dKind s 0 := by
    unfold dKind
    rw [if_neg (by omega)]
    exact Prod.ext (b1.trans a1.symm) (Prod.ext (ByteArray.ext (Array.ext' (b3.trans a3.symm))) (b2.trans a2.symm))
  have ehead : rHead s 0 = dHead s 0 := by unfold rHead dHead; rw [e]
  have eop : rOp s 0 = dOp s 0 := by unfold rOp dOp; rw [e, ehead]
  rw [← eop]
  exact h2

/-! A function. -/
def SrcO (t : ByteArray) (l : List OpV) (R : List UInt8) : Prop := ∃ g : FnV, GF g ∧ g.ops = l ∧ t.data.toList = g.bytes ++ R
def fA (t : ByteArray) : Nat × ByteArray × Nat := rA t 0
def fB (t : ByteArray) : Nat × ByteArray × Nat := rA (fA t).2.1 (fA t).2.2
def fC (t : ByteArray) : Nat × ByteArray × Nat := rC 64 (fB t).2.1 (fB t).2.2
theorem srcO {t : ByteArray} {l : List OpV} {R : List UInt8} (h : SrcO t l R) : l.length = (fC t).1 ∧ (∀ o ∈ l, GO o) ∧ (fC t).2.1.data.toList = l.flatMap OpV.bytes ++ R ∧ (fC t).2.2 = 0 := by
  obtain ⟨g, ⟨hg, rg⟩, rfl, h⟩ := h
  obtain ⟨⟨a1, q1, b1⟩, ⟨a2, q2, b2⟩, l1, k1⟩ := FnV.ok_parts hg
  have h0 : Left (t, 0) (g.bytes ++ R) := ⟨rfl, h⟩
  unfold FnV.bytes at h0
  simp only [List.append_assoc] at h0
  unfold uv at h0
  obtain ⟨e1, h1⟩ := left_num (wrong := Wire.wU 16) (by omega) (wU_of (by omega)) h0
  obtain ⟨e2, h2⟩ := left_num (wrong := Wire.wU 16) (s := (fA t).2.1) (f := (fA t).2.2) (by omega) (wU_of (by omega)) h1
  obtain ⟨e3, h3⟩ := left_num (wrong := Wire.wC 64) (s := (fB t).2.1) (f := (fB t).2.2) (by omega) (wC_of (by omega) (by omega) (by rw [List.length_append]; have := obs_ge g.ops; omega)) h2
  exact ⟨e3.symm, fun o ho => ⟨k1 o ho, rg.ops o ho⟩, h3.2, h3.1⟩
theorem fC_le (t : ByteArray) : (fC t).1 ≤ 64 := rC_le 64 _ _
/-- A function was read: what came of it. -/
theorem fn_done {t t' : ByteArray} {g : Nat} {os : List OpV} (h : Inv OpV.bytes GO (SrcO t) (fC t).2.1 (fC t).2.2 os t' g) (hn : g = 0 → os.length = (fC t).1) :
    (∀ f R, GF f → t.data.toList = f.bytes ++ R → g = 0) ∧ (g = 0 → t.data.toList = (⟨(fA t).1, (fB t).1, os⟩ : FnV).bytes ++ t'.data.toList ∧ GF ⟨(fA t).1, (fB t).1, os⟩) := by
  refine ⟨fun f R hf ht => h.b _ _ ⟨f, hf, rfl, ht⟩, fun hg => ?_⟩
  obtain ⟨h1, h2, h3⟩ := h.a hg
  obtain ⟨h4, k4⟩ := took_num h1
  obtain ⟨h5, k5⟩ := took_num h4
  obtain ⟨h6, k6⟩ := took_num h5
  have j6 : t.data.toList = Lib.uvarint (fA t).1 ++ (fA t).2.1.data.toList := k6
  have j5 : (fA t).2.1.data.toList = Lib.uvarint (fB t).1 ++ (fB t).2.1.data.toList := k5
  have j4 : (fB t).2.1.data.toList = Lib.uvarint (fC t).1 ++ (fC t).2.1.data.toList := k4
  have l1 : (fA t).1 ≤ 16 := stepU_le 16 _ _
  have l2 : (fB t).1 ≤ 16 := stepU_le 16 _ _
  have l3 := fC_le t
  have hn' := hn hg
  refine ⟨?_, ?_, ⟨by show _ ≤ ((fA t).1 : Int) ∧ ((fA t).1 : Int) ≤ _; omega, by show _ ≤ ((fB t).1 : Int) ∧ ((fB t).1 : Int) ≤ _; omega, fun o ho => (h3 o ho).2, by show os.length ≤ _; unfold maxLen; omega⟩⟩
  · unfold FnV.bytes
    simp only
    rw [uv_nat, uv_nat, j6, j5, j4, h2, hn']
    simp only [List.append_assoc]
    rfl
  · show (reg ((fA t).1 : Int) && reg ((fB t).1 : Int) && decide (os.length ≤ 64) && os.all OpV.ok) = true
    rw [reg_iff.2 (by omega), reg_iff.2 (by omega), decide_eq_true (by omega), List.all_eq_true.2 (fun o ho => (h3 o ho).1)]
    rfl

/-! A program. -/
def SrcF (s1 : ByteArray) (l : List FnV) (R : List UInt8) : Prop := l.length ≤ 16 ∧ (∀ f ∈ l, GF f) ∧ s1.data.toList = Lib.uvarint l.length ++ (l.flatMap FnV.bytes ++ R)
def pC (s1 : ByteArray) : Nat × ByteArray × Nat := rC 16 s1 0
theorem srcF {s1 : ByteArray} {l : List FnV} {R : List UInt8} (h : SrcF s1 l R) : l.length = (pC s1).1 ∧ (∀ o ∈ l, GF o) ∧ (pC s1).2.1.data.toList = l.flatMap FnV.bytes ++ R ∧ (pC s1).2.2 = 0 := by
  obtain ⟨h1, h2, h3⟩ := h
  obtain ⟨e3, k3⟩ := left_num (s := s1) (f := 0) (wrong := Wire.wC 16) (by omega) (wC_of (by omega) (by omega) (by rw [List.length_append]; have := fbs_ge l; unfold fbs at this; omega)) ⟨rfl, h3⟩
  exact ⟨e3.symm, h2, k3.2, k3.1⟩
theorem pC_le (s1 : ByteArray) : (pC s1).1 ≤ 16 := rC_le 16 _ _
/-- The document's answer is the program's. -/
theorem dec_doc {s s1 t : ByteArray} {g : Nat} {fs : List FnV} (hs : ¬ 16384 < s.size) (h1 : Wire.step (Wire.wU 18446744073709551615) s 0 = (1, s1, 0))
    (h : Inv FnV.bytes GF (SrcF s1) (pC s1).2.1 (pC s1).2.2 fs t g) (hn : g = 0 → fs.length = (pC s1).1) : dec s = if Wire.fin t g = 0 then (fs, 0) else ([], 8) := by
  have e1 : s.data.toList = Lib.uvarint 1 ++ s1.data.toList := by
    have := (took_num (wrong := Wire.wU 18446744073709551615) (s := s) (f := 0) (by rw [h1])).2
    rw [h1] at this
    exact this
  have hz : ∀ t : ByteArray, t.size = 0 ↔ t.data.toList = [] := fun t => by
    have e : t.size = t.data.toList.length := by simp
    rw [e]
    exact List.length_eq_zero_iff
  by_cases hf : Wire.fin t g = 0
  · rw [if_pos hf]
    unfold Wire.fin at hf
    split at hf
    · rename_i h0; exact absurd hf h0
    · rename_i h0
      simp only [ne_eq, Decidable.not_not] at h0
      split at hf
      · rename_i h2
        obtain ⟨a1, a2, a3⟩ := h.a h0
        obtain ⟨_, k4⟩ := took_num (s := s1) (f := 0) (wrong := Wire.wC 16) a1
        have j4 : s1.data.toList = Lib.uvarint (pC s1).1 ++ (pC s1).2.1.data.toList := k4
        have hl := hn h0
        have hp : s.data.toList = pbs fs := by
          unfold pbs fbs
          rw [e1, j4, a2, (hz t).1 h2, hl]
          simp
        have hok : pok fs = true := by
          unfold pok
          rw [decide_eq_true (by rw [hl]; exact pC_le s1), List.all_eq_true.2 (fun o ho => (a3 o ho).1)]
          rfl
        have hsz : (pbs fs).length ≤ 16384 := by
          rw [← hp]
          have e : s.size = s.data.toList.length := by simp
          omega
        have := dec_left hok (fun f hf => (a3 f hf).2) [] (by simpa using hsz)
        rw [List.append_nil, ← hp] at this
        have es : (⟨s.data.toList.toArray⟩ : ByteArray) = s := by apply ByteArray.ext; simp
        rw [es] at this
        exact this
      · exact absurd hf (by decide)
  · rw [if_neg hf]
    by_cases hd : (dec s).2 = 0
    · exfalso
      obtain ⟨p1, p2⟩ := took_dec hd
      have hr := dec_rng s
      have p1' := p1
      unfold pok at p1'
      simp only [Bool.and_eq_true, decide_eq_true_eq, List.all_eq_true] at p1'
      have p3 : s1.data.toList = Lib.uvarint (dec s).1.length ++ ((dec s).1.flatMap FnV.bytes ++ []) := by
        rw [e1] at p2
        unfold pbs at p2
        rw [List.append_assoc] at p2
        have := List.append_cancel_left p2
        rw [this, List.append_nil]
        rfl
      have hS : SrcF s1 (dec s).1 [] := ⟨p1'.1, fun f hf => ⟨p1'.2 f hf, hr f hf⟩, p3⟩
      have hg := h.b _ _ hS
      obtain ⟨a1, a2, a3⟩ := h.a hg
      obtain ⟨b1, b2, b3, b4⟩ := srcF hS
      rw [b3] at a2
      have e := (splitsF _ _ _ _ (b1.trans (hn hg).symm) b2 a3 a2).2
      apply hf
      unfold Wire.fin
      rw [if_neg (by rw [hg]; simp), if_pos ((hz t).2 e.symm)]
    · unfold dec at hd ⊢
      rw [if_neg hs, h1] at hd ⊢
      rw [if_neg (by simp), if_neg (by simp)] at hd ⊢
      split
      · rfl
      · rename_i c4
        rw [if_neg c4] at hd
        split
        · rename_i c5
          rw [if_pos c5] at hd
          exact absurd rfl hd
        · rfl
end Cd
end Go.Proofs.YtepnofklmdofmaaGreatDoor
end
