/-
  The walk of layer 11's CheckTwice, the stage's theorem: what it calls.
-/
import Derived.Test.YtkigoidklonhcaaGreatDoorChW
import Derived.Test.YtkigoidklonhcaaGreatDoorChS
import Derived.Test.YtkigoidklonhcaaGreatDoorLowL10
namespace Go.Proofs.YtkigoidklonhcaaGreatDoor
open Go.RowKit

namespace Ck
open Cd
theorem dbl_rng {p : List FnV} (hc : (chk p).1 = 0) (hr : ∀ f ∈ p, f.Rng) (h2 : p.length + p.length ≤ 16) : ∀ f ∈ dbl p, f.Rng := by
  intro f hf
  unfold dbl at hf
  rcases List.mem_append.1 hf with h | h
  · exact hr f h
  · obtain ⟨g, hg, rfl⟩ := List.mem_map.1 h
    have hG := hr g hg
    refine ⟨hG.args, hG.regs, fun o ho => ?_, by show ((g.ops.map (shO p.length))).length ≤ maxLen; rw [List.length_map]; exact hG.len⟩
    obtain ⟨o', ho', rfl⟩ := List.mem_map.1 ho
    have hO := hG.ops o' ho'
    by_cases hk : o'.k = 12
    · have hn := chk_fork hc g hg o' ho' hk
      exact ⟨by rw [shO_k]; exact hO.k, by rw [shO_d]; exact hO.d, by rw [shO_a]; exact hO.a, by rw [shO_b]; exact hO.b, by rw [shO_n _ _ hk]; omega⟩
    · rw [shO_no _ _ hk]; exact hO
/-- A program that the law holds, and the laid variable. -/
structure HeldK (V : World) (A : Option Addr) (l : List Fm) : Prop where
  h : HeldP V A l
  laid : Laid V
theorem HeldK.later {V U : World} {A : Option Addr} {l : List Fm} (h : HeldK V A l) (hb : Below V.heap.size V U) : HeldK U A l := ⟨h.h.later hb, h.laid.later hb⟩
/-- What Reaches tells, at a later world. -/
def RchP (V U : World) (p : List FnV) (fn : Int) (e : Ending) (w' : World) : Prop := ∃ (xs : List Int) (A' : Option Addr) (c' : Nat), Hid (Out p fn xs ∧ xs.length ≤ 16) ∧ e = .returned (.slice A' xs.length c') ∧ Hid (Lies w' w'.heap.size A' (icells xs)) ∧ Hid (Below U.heap.size U w') ∧ Below V.heap.size V w'
end Ck

theorem ckMay_at {V U : World} {A : Option Addr} {l : List Cd.Fm} (h : Ck.HeldK V A l) (c : Nat) (hU : Below V.heap.size V U) :
    Calls Tryz.prog 6 #[.agg #[.slice A l.length c]] U fun e w' => e = .returned (.tuple #[.int .i64 ((Ck.chk (Cd.fns l)).1 : Int), .int .i64 ((Ck.chk (Cd.fns l)).2.1 : Int), .int .i64 ((Ck.chk (Cd.fns l)).2.2 : Int)]) ∧ Below V.heap.size V w' := by
  have h2 := h.later hU
  refine (kMay A c l U h2.h.r h2.h.n h2.h.p h2.laid).mono ?_
  rintro e w' ⟨he, hb⟩
  exact ⟨he, hU.trans (hb.mono hU.size)⟩
theorem ckReach_at {V U : World} {A : Option Addr} {l : List Cd.Fm} (h : Ck.HeldK V A l) (c : Nat) (fn : Int) (hU : Below V.heap.size V U) :
    Calls Tryz.prog 9 #[.agg #[.slice A l.length c], .int .i64 fn] U (Ck.RchP V U (Cd.fns l) fn) := by
  have h2 := h.later hU
  refine (kReaches A c l U h2.h.r h2.h.n h2.h.p fn).mono ?_
  rintro e w' ⟨xs, A', c', h1, h2, h3, h4, hb⟩
  exact ⟨xs, A', c', ⟨h1, h2⟩, h3, h4, hb, hU.trans (hb.mono hU.size)⟩
theorem ckAlive_at {V U : World} (h : Ck.Laid V) (hU : Below V.heap.size V U) : Calls Tryz.prog 5 #[] U fun e w' => e = .returned (.bool true) ∧ Below V.heap.size V w' := by
  refine (alive11 U (h.later hU)).mono ?_
  rintro e w' ⟨he, hb⟩
  exact ⟨he, hU.trans (hb.mono hU.size)⟩
theorem ckDec_at {V U : World} {l : List Cd.Fm} (hr : ∀ m ∈ l, m.f.Rng) (hz : (Cd.enc (Cd.fns l)).2 = 0) (hU : Below V.heap.size V U) :
    Calls Tryz.prog 8 #[.string ⟨(Cd.enc (Cd.fns l)).1.toArray⟩] U fun e w' => ∃ (ms : List Cd.Fm) (A : Option Addr) (c : Nat), e = .returned (.tuple #[.agg #[.slice A ms.length c], .int .i64 0]) ∧ Hid (Cd.fns ms = Cd.fns l) ∧ Hid (Cd.HeldP w' A ms) ∧ Below V.heap.size V w' := by
  have hrf : ∀ f ∈ Cd.fns l, f.Rng := fun f hf => by
    obtain ⟨m, hm, rfl⟩ := List.mem_map.1 hf
    exact hr m hm
  have hd := Cd.dec_enc hrf hz
  have hs := (Cd.enc_ok hz).2.2
  have he := (Cd.enc_ok hz).2.1
  refine (decode_at ⟨(Cd.enc (Cd.fns l)).1.toArray⟩ (by rw [he]; show (Cd.pbs (Cd.fns l)).toArray.size ≤ maxLen; unfold maxLen; simp; omega) hU).mono ?_
  rintro e w' ⟨ms, A, c, h1, h2, h3, h4⟩
  rw [hd] at h1
  have h2' : Cd.fns ms = (Cd.dec ⟨(Cd.enc (Cd.fns l)).1.toArray⟩).1 := h2
  rw [hd] at h2'
  exact ⟨ms, A, c, h1, h2', h3, h4⟩
theorem ckTwice_at {V U : World} {A : Option Addr} {l : List Cd.Fm} (h : Ck.HeldK V A l) (c : Nat) (hc : (Ck.chk (Cd.fns l)).1 = 0) (h2 : l.length + l.length ≤ 16) (hU : Below V.heap.size V U) :
    Calls Tryz.prog 10 #[.agg #[.slice A l.length c]] U fun e w' => ∃ (ms : List Cd.Fm) (A' : Option Addr) (c' : Nat), e = .returned (.agg #[.slice A' ms.length c']) ∧ Hid (Cd.fns ms = Ck.dbl (Cd.fns l)) ∧ Hid (Ck.HeldK w' A' ms) ∧ Hid (Below U.heap.size U w') ∧ Below V.heap.size V w' := by
  have hv := h.later hU
  have hpk := (Ck.chk_some hc).2
  have hlp : (Cd.fns l).length = l.length := Cd.fns_len l
  have hk : ∀ m ∈ l, m.f.ok = true := fun m hm => by
    unfold Cd.pok at hpk
    rw [Bool.and_eq_true, List.all_eq_true] at hpk
    exact hpk.2 m.f (List.mem_map_of_mem hm)
  refine (kTwice l (fun m hm => by have := (Cd.FnV.ok_parts (hk m hm)).2.2.1; omega) (by omega) (fun m hm o ho hk => by
    have := Ck.chk_fork hc m.f (List.mem_map_of_mem hm) o ho hk
    omega) A c U hv.h.p).mono ?_
  rintro e w' ⟨ms, A', c', he, hms, hrs, hb⟩
  have hml : ms.length = l.length + l.length := by
    have := congrArg List.length hms
    rw [Cd.fns_len, Ck.dbl_len, hlp] at this
    exact this
  have hrg : ∀ m ∈ ms, m.f.Rng := fun m hm => Ck.dbl_rng hc (fun f hf => by
    obtain ⟨m', hm', rfl⟩ := List.mem_map.1 hf
    exact hv.h.r m' hm') (by omega) _ (by rw [← hms]; exact List.mem_map_of_mem hm)
  exact ⟨ms, A', c', he, hms, ⟨⟨hrs.prog, by unfold maxLen; omega, hrg⟩, hv.laid.later hb⟩, hb, hU.trans (hb.mono hU.size)⟩
end Go.Proofs.YtkigoidklonhcaaGreatDoor
