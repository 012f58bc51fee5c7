/-
  The document's net: Drop.
-/
import Derived.Test.YtfhengihdlojmaaGmC
namespace Go.Proofs.Ytfhengihdlojmaa
open Go.RowKit

namespace Gm
/-- Numbers that are all others. -/
def DistM (l : List Msg) : Prop := l.Pairwise fun a b => a.id ≠ b.id
def hasM (id : Int) (l : List Msg) : Bool := l.any fun x => decide (x.id = id)
def dropM (id : Int) (l : List Msg) : List Msg := l.filter fun x => decide (x.id ≠ id)
def dropN (id : Int) (l : List Msg) : Int := if hasM id l = true then 1 else 0
theorem hasM_iff {id : Int} {l : List Msg} : hasM id l = true ↔ ∃ x ∈ l, x.id = id := by
  unfold hasM
  simp [List.any_eq_true]
theorem dropM_none {id : Int} {l : List Msg} (h : ∀ x ∈ l, x.id ≠ id) : dropM id l = l := List.filter_eq_self.2 fun x hx => by simpa using h x hx
theorem dropM_mem {id : Int} {l : List Msg} {x : Msg} : x ∈ dropM id l ↔ x ∈ l ∧ x.id ≠ id := by
  unfold dropM
  simp
theorem dropM_len (id : Int) (l : List Msg) : (dropM id l).length ≤ l.length := List.length_filter_le ..
theorem DistM.drop {id : Int} {l : List Msg} (h : DistM l) : DistM (dropM id l) := h.filter _
theorem dropM_at {id : Int} : ∀ {l : List Msg}, DistM l → ∀ (i : Nat) (h : i < l.length), (l[i]).id = id → l.eraseIdx i = dropM id l := by
  intro l
  induction l with
  | nil => intro _ i h; simp at h
  | cons x l ih =>
    intro hd i h hk
    have hp := List.pairwise_cons.1 hd
    cases i with
    | zero =>
      have hx : x.id = id := hk
      have e : dropM id (x :: l) = dropM id l := by
        unfold dropM
        rw [List.filter_cons_of_neg (by simpa using hx)]
      rw [e, dropM_none (fun y hy he => hp.1 y hy (hx.trans he.symm))]
      rfl
    | succ i =>
      have hi : i < l.length := by simpa using h
      have hne : x.id ≠ id := fun e => hp.1 _ (List.getElem_mem hi) (e.trans (show id = (l[i]).id from hk.symm))
      have e : dropM id (x :: l) = x :: dropM id l := by
        unfold dropM
        rw [List.filter_cons_of_pos (by simpa using hne)]
      rw [e, ← ih hp.2 i hi hk]
      rfl
end Gm

set_option maxRecDepth 20000 in
set_option maxHeartbeats 1000000 in
theorem ndrop {R : Nat} {v vc : Value} {last : Int} {l : List Gm.Msg} {cs : List Gm.Wy} {w : World} (h : Gm.DNet R v vc last l cs w) (hl : l.length ≤ 100000) (hd : Gm.DistM l) (id : Int) :
    Calls Try.prog 12 #[.pointer (some ⟨R, 0, none⟩), .int .u64 id] w fun e w' => e = .returned (.int .i64 (Gm.dropN id l)) ∧ ∃ v', Gm.DNet R v' vc last (Gm.dropM id l) cs w' ∧ Gm.Mvg (Gm.NOff R v vc) (Gm.NOff R v' vc) w w' := by
  have HF := Lib.hid (nfind h hl id)
  have H := Lib.hid h
  have HD := Lib.hid hd
  clear h hd
  go_enter Try.func12, Try.ntmps12
  go_wp2_with fail
  refine HF.out.mono ?_
  rintro e w1 ⟨⟨r, rfl, hr⟩, rfl⟩
  rcases hr with ⟨rfl, hn⟩ | ⟨i, hi, rfl, hk⟩
  · have HE : Hid (Gm.dropN id l = 0 ∧ Gm.dropM id l = l) := by
      refine ⟨?_, Gm.dropM_none hn⟩
      unfold Gm.dropN
      rw [if_neg]
      intro h
      obtain ⟨x, hx, e⟩ := Gm.hasM_iff.1 h
      exact hn x hx e
    clear hn
    go_wp2_with fail
    go_ret
    exact ⟨by rw [HE.out.1]; rfl, v, by rw [HE.out.2]; exact H.out, Gm.Mvg.refl _ _⟩
  · have HE : Hid (Gm.dropN id l = 1 ∧ l.eraseIdx i = Gm.dropM id l) := by
      refine ⟨?_, Gm.dropM_at HD.out i hi hk⟩
      unfold Gm.dropN
      rw [if_pos (Gm.hasM_iff.2 ⟨_, List.getElem_mem hi, hk⟩)]
    have HG := Lib.hid (ngone H.out hl i hi)
    have i0 : (0 : Int) ≤ (i : Int) := by omega
    have i1 : decide ((i : Int) < 0) = false := by simp
    clear hk
    go_wp2_with fail
    refine HG.out.mono ?_
    rintro e w2 ⟨rfl, v2, h2, mv2⟩
    rw [HE.out.2] at h2
    have HR := Lib.hid (And.intro h2 mv2)
    clear h2 mv2
    go_wp2_with fail
    go_ret
    exact ⟨by rw [HE.out.1]; rfl, v2, HR.out⟩
end Go.Proofs.Ytfhengihdlojmaa
