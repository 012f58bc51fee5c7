/-
  Layer 13's Heavy.
  Layer 13, plainly: all tasks of a tree may be begun; a part of a tree is a tree.
-/
import Derived.Test.YtepnofklmdofmaaGreatDoorEvU
import Derived.Test.YtepnofklmdofmaaGreatDoorL10H
section
namespace Go.Proofs.YtepnofklmdofmaaGreatDoor
open Go.RowKit

/-- What Heavy tells. -/
def Ev.HvP (n : Nat) (fuel : Int) (w : World) (e : Ending) (w' : World) : Prop := ∃ b : Bool, e = .returned (.bool b) ∧ (b = false → n ≤ 100 ∧ fuel ≤ 3000) ∧ Below w.heap.size w w'

set_option maxHeartbeats 1000000 in
set_option maxRecDepth 20000 in
theorem heavy13 (l : List Cd.Fm) (hR : ∀ m ∈ l, m.f.Rng) (hn : l.length ≤ maxLen) (A : Option Addr) (c : Nat) (w : World) (hP : Cd.Prog w w.heap.size A l) (A2 : Option Addr) (n : Nat) (c2 : Nat) (fuel : Int) :
    Calls Tryz.prog 6 #[.agg #[.slice A l.length c], .slice A2 n c2, .int .i64 fuel] w (Ev.HvP n fuel w) := by
  obtain ⟨W, hW⟩ : ∃ W, W = w.alloc (.cells #[.slice A l.length c] 24) := ⟨_, rfl⟩
  have hb : Below w.heap.size w W := by rw [hW]; exact Cd.fn1 _ _ _
  have HF : Hid (W.heap[w.heap.size]? = some (.cells #[.slice A l.length c] 24 (0, 0))) := by show _ = _; rw [hW]; exact heap_alloc_new w _
  have c0 : W.cell? ⟨w.heap.size, 0, none⟩ = some (.slice A l.length c) := cell_of_row _ _ 0 _ _ _ HF.out
  have HB := Lib.hid hb
  have HH := Lib.hid (heavyp l hR hn A c W ((hP.below hb).mono hb.size))
  clear hb hP hR hn
  go_enter Tryz.func6, Tryz.ntmps6
  go_upto_region 1 with fail
  rw [← hW]
  clear hW
  go_wp2_with fail
  refine HH.out.mono ?_
  rintro e w2 ⟨b, rfl, -, hb2⟩
  have HB2 : Hid (Below w.heap.size w w2) := HB.out.trans (hb2.mono HB.out.size)
  clear hb2 c0
  cases b with
  | true =>
    go_wp2_with fail
    go_ret
    exact ⟨true, rfl, fun h => by simp at h, HB2.out⟩
  | false =>
    go_wp2_with fail
    all_goals
      go_ret
      refine ⟨_, rfl, fun h => ?_, HB2.out⟩
      simp at h <;> omega
end Go.Proofs.YtepnofklmdofmaaGreatDoor
end

section
namespace Go.Proofs.YtepnofklmdofmaaGreatDoor
open Go.RowKit

namespace Ev
open Cd Ck
theorem run_tok {p : List FnV} (hg : ∀ f ∈ p, GoodF p f) : ∀ (n : Nat) (t : Tsk) (s : St), s.left < n → TOk p t → SOk p t s → (∀ d ∈ s.done, TOk p d.t) → ∀ d ∈ (run n p t s).2, TOk p d.t := by
  intro n
  induction n with
  | zero => intro t s h; omega
  | succ n ih =>
    intro t s h ht hs hd
    have hfin : ∀ (s1 : St) (r : Res), (∀ d ∈ s1.done, TOk p d.t) → ∀ d ∈ (fin t s1 r).2, TOk p d.t := fun s1 r h1 d hm => by
      rcases List.mem_cons.1 (show d ∈ ⟨t, r, s1.kids⟩ :: s1.done from hm) with rfl | hm
      · exact ht
      · exact h1 d hm
    by_cases h0 : s.left = 0
    · rw [run_end p n t s h0]
      exact hfin _ _ hd
    · have hA : ∀ d ∈ (actS p t (paid s) (opAt p t s)).done, TOk p d.t := by
        unfold actS
        split
        · rename_i h12
          split
          · rename_i hf
            intro d hm
            rcases List.mem_append.1 (show d ∈ s.done ++ (doT p (kidP p t (paid s) (opAt p t s))).2 from hm) with hm | hm
            · exact hd d hm
            · have hok : Br.kidOk t.path ((paid s).kids + 1) = true := by
                unfold forkE at hf
                split at hf
                · exact absurd hf (by decide)
                · split at hf
                  · exact absurd hf (by decide)
                  · rename_i e; simpa using e
              have hk : TOk p (kidP p t (paid s) (opAt p t s)) := kid_ok (s := paid s) hg hs.regs (opAt_good ht hg hs).1 h12 (by show s.left - 1 ≤ 65536; have := hs.left; omega) hok
              have hl : (kidP p t (paid s) (opAt p t s)).fuel < n := by show (s.left - 1) / 2 < n; omega
              rw [← doT_run p _ n hl] at hm
              exact ih _ _ hl hk (start_ok hk hg) (fun d hd => by simp [start] at hd) d hm
          · exact hd
        · split
          · exact hd
          · unfold plS
            cases hp : plain (paid s) (opAt p t s) with
            | none => exact hd
            | some s2 =>
              show ∀ d ∈ s2.done, _
              rw [(plain_left hp).2.2.2]
              exact hd
      rw [run_act p n t s h0 (by omega)]
      split
      · exact hfin _ _ hA
      · rename_i he
        split
        · exact hfin _ _ hA
        · rename_i h14
          obtain ⟨h1, h2⟩ := act_ok ht hg hs (by simpa using he) h14
          exact ih t _ (by omega) ht h1 hA
theorem doT_tok {p : List FnV} (hg : ∀ f ∈ p, GoodF p f) {t : Tsk} (h : TOk p t) : ∀ d ∈ (doT p t).2, TOk p d.t :=
  run_tok hg (t.fuel + 1) t _ (Nat.lt_succ_self _) h (start_ok h hg) (fun d hd => by simp [start] at hd)
theorem tree_eq (p : List FnV) (xs : List Int) (fuel : Int) : treeE p xs fuel (fuel + 1) = rootE p xs.length fuel := by
  unfold treeE
  by_cases h : rootE p xs.length fuel = 0
  · obtain ⟨_, _, h3, _⟩ := rootE_zero h
    have := doT_len p (root xs fuel)
    have e : (root xs fuel).fuel = fuel.toNat := rfl
    rw [if_neg (by simpa using h), if_neg (by omega), h]
  · rw [if_pos h]
theorem begun_root {p : List FnV} (hc : (chk p).1 = 0) (hl : p.length < 16) {t : Tsk} (ht : TOk p t) : rootE (begun p t.fn.toNat) t.args.length (t.fuel : Int) = 0 := by
  obtain ⟨n, e, hn⟩ := ht.fn
  have h2 := ht.args
  have h3 := ht.fuel
  unfold rootE inp
  have hb : (chk (begun p t.fn.toNat)).1 = 0 := chk_begun hc hl (by rw [e]; simpa using hn)
  have ha : ((begun p t.fn.toNat)[0]?.getD default).args = (t.args.length : Int) := by
    rw [h2]
    rfl
  rw [if_pos hb, if_pos ha, if_neg (by decide), if_neg (by omega)]
theorem opE_le (p : List FnV) (f : FnV) (o : OpV) : opE p f o ≤ 114 := by
  unfold opE
  split
  · split
    · split <;> decide
    · decide
  · decide
theorem opsE_le (p : List FnV) (f : FnV) (l : List OpV) (k : Nat) : (opsE p f l k).1 ≤ 114 := by
  induction l generalizing k with
  | nil => exact Nat.zero_le _
  | cons o l ih =>
    unfold opsE
    split
    · exact ih _
    · exact opE_le p f o
theorem fnE_le (p : List FnV) (f : FnV) : (fnE p f).1 ≤ 114 := by
  unfold fnE
  split
  · decide
  · split
    · unfold endE
      split
      · exact (by decide : (113 : Nat) ≤ 114)
      · split
        · exact (by decide : (0 : Nat) ≤ 114)
        · exact (by decide : (113 : Nat) ≤ 114)
    · exact opsE_le p f _ _
theorem fnsE_le (p l : List FnV) (k : Nat) : (fnsE p l k).1 ≤ 114 := by
  induction l generalizing k with
  | nil => exact Nat.zero_le _
  | cons o l ih =>
    unfold fnsE
    split
    · exact ih _
    · exact fnE_le p o
theorem rootE_le (p : List FnV) (n : Nat) (fuel : Int) : 0 ≤ rootE p n fuel ∧ rootE p n fuel ≤ 114 := by
  have hc : (chk p).1 ≤ 114 := by
    unfold chk
    split
    · split
      · decide
      · exact fnsE_le p p 0
    · decide
  have hi : inp p n ≤ 114 := by
    unfold inp
    split
    · split <;> decide
    · exact hc
  unfold rootE
  split
  · omega
  · split <;> decide
theorem begun_rng {p : List FnV} (hR : ∀ f ∈ p, f.Rng) (hc : (chk p).1 = 0) (hl : p.length < 16) {fn : Nat} (hfn : fn < p.length) : ∀ f ∈ begun p fn, f.Rng := by
  have key : ∀ g ∈ p, (shF g).Rng := fun g hg => by
    obtain ⟨h1, h2, h3, h4⟩ := hR g hg
    refine ⟨h1, h2, fun o ho => ?_, by show (g.ops.map shO).length ≤ _; rw [List.length_map]; exact h4⟩
    obtain ⟨o', ho', rfl⟩ := List.mem_map.1 (show o ∈ g.ops.map shO from ho)
    obtain ⟨r1, r2, r3, r4, r5⟩ := h3 o' ho'
    unfold shO
    split
    · rename_i h12
      have h6 := (chk_fork hc g hg o' ho' h12)
      exact ⟨r1, r2, r3, r4, by show -9223372036854775808 ≤ o'.n + 1 ∧ o'.n + 1 ≤ 9223372036854775807; omega⟩
    · exact ⟨r1, r2, r3, r4, r5⟩
  intro f hf
  rcases List.mem_cons.1 (show f ∈ shF (p[fn]?.getD default) :: p.map shF from hf) with rfl | h
  · rw [List.getElem?_eq_getElem hfn]
    exact key _ (List.getElem_mem hfn)
  · obtain ⟨g, hg, rfl⟩ := List.mem_map.1 h
    exact key g hg
theorem begun_len (p : List FnV) (fn : Nat) : (begun p fn).length = p.length + 1 := by
  show (shF _ :: p.map shF).length = _
  rw [List.length_cons, List.length_map]
theorem bs_inj {a b : ByteArray} (h : bs a = bs b) : a = b := by
  cases a with
  | mk a =>
    cases b with
    | mk b =>
      have : a = b := Array.toList_inj.1 h
      rw [this]
theorem bs_app (a b : ByteArray) : bs (a ++ b) = bs a ++ bs b := by
  unfold bs
  simp
/-- A part of a tree. -/
structure PartP (D E : List Dn) (d : Dn) (k : Nat) : Prop where
  pos : 0 < E.length
  le : k + E.length ≤ D.length
  at_ : ∀ (i : Nat) (hi : i < E.length) (hk : k + i < D.length), D[k + i].t.path = d.t.path ++ E[i].t.path ∧ E[i].r = D[k + i].r ∧ E[i].kids = D[k + i].kids ∧ E[i].t.fuel = D[k + i].t.fuel
  next : ∀ (h : k + E.length < D.length), Br.under D[k + E.length].t.path d.t.path = false
theorem part_of {p : List FnV} (hc : (chk p).1 = 0) {t : Tsk} (ht : TOk p t) {k : Nat} (hk : k < (doT p t).2.length) (hdeep : ∀ d ∈ (doT p t).2, d.t.path.size < 12) :
    PartP (doT p t).2 (doT (begun p ((doT p t).2[k]).t.fn.toNat) (root ((doT p t).2[k]).t.args ((doT p t).2[k]).t.fuel)).2 ((doT p t).2[k]) k := by
  obtain ⟨D, hD⟩ : ∃ D, D = (doT p t).2 := ⟨_, rfl⟩
  have hdrop := List.drop_eq_getElem_cons hk
  obtain ⟨rest, e1, e2, e3⟩ := parts p (t.fuel + 1) t (Nat.lt_succ_self _) k _ _ hdrop
  rw [← hdrop] at e1
  have hmay := doT_may p (t.fuel + 1) t (Nat.lt_succ_self _) ht.path
  generalize hd : (doT p t).2[k] = d at e1 e2 e3 ⊢
  have hsub : ∀ x ∈ (doT p d.t).2, x ∈ (doT p t).2 := fun x hx => List.mem_of_mem_drop (by rw [e1]; exact List.mem_append_left _ hx)
  obtain ⟨-, hS⟩ := sim_doT (fork_begun hc) d.t (fun x hx => ⟨by have := hdeep x (hsub x hx); unfold bs; simpa using this, hmay x (hsub x hx)⟩)
  have hE : (⟨⟨#[]⟩, 0, d.t.args, d.t.fuel⟩ : Tsk) = root d.t.args d.t.fuel := rfl
  rw [hE] at hS
  have hlen := hS.len
  have hDl : (doT p t).2.length - k = (doT p d.t).2.length + rest.length := by
    have := congrArg List.length e1
    rw [List.length_drop, List.length_append] at this
    exact this
  have hat : ∀ (i : Nat) (h : k + i < (doT p t).2.length), (doT p t).2[k + i] = ((doT p d.t).2 ++ rest)[i]'(by rw [List.length_append]; omega) := fun i h => by
    have h1 : ((doT p t).2.drop k)[i]? = ((doT p d.t).2 ++ rest)[i]? := by rw [e1]
    rw [List.getElem?_drop, List.getElem?_eq_getElem h, List.getElem?_eq_getElem (by rw [List.length_append]; omega)] at h1
    exact Option.some.inj h1
  refine ⟨?_, by omega, fun i hi hki => ?_, fun h => ?_⟩
  · obtain ⟨cs, e, _⟩ := doT_form (begun p d.t.fn.toNat) (root d.t.args d.t.fuel)
    rw [e]
    exact Nat.succ_pos _
  · have h1 := hat i hki
    rw [List.getElem_append_left (by omega)] at h1
    have h2 := hS.at_ i (by omega) hi
    rw [h1]
    exact ⟨bs_inj (by rw [bs_app]; exact h2.1), h2.2.1, h2.2.2.1, h2.2.2.2.1⟩
  · have h1 := hat _ h
    rw [List.getElem_append_right (by omega)] at h1
    have h2 := e3 _ (List.getElem_mem (by omega : (doT (begun p d.t.fn.toNat) (root d.t.args d.t.fuel)).2.length - (doT p d.t).2.length < rest.length))
    rw [h1]
    unfold Br.under
    rw [Bool.and_eq_false_iff]
    right
    cases hp : Br.pre d.t.path.data.toList _ with
    | false => rfl
    | true =>
      obtain ⟨c, e⟩ := Br.pre_iff.1 hp
      exact absurd ⟨c, e.symm⟩ h2
end Ev
end Go.Proofs.YtepnofklmdofmaaGreatDoor
end
