/-
  What a law of layer 10 calls, in every world behind one in which its programs lie.
-/
import Derived.Test.YtndgafjnifkghaaL10A
import Derived.Test.YtndgafjnifkghaaCdZ
import Derived.Test.YtndgafjnifkghaaL10H
import Derived.Test.YtndgafjnifkghaaL10S
namespace Go.Proofs.Ytndgafjnifkghaa
open Go.RowKit

namespace Cd
/-- A program that a law holds, in world V and all later ones. -/
structure HeldP (V : World) (A : Option Addr) (l : List Fm) : Prop where
  p : Prog V V.heap.size A l
  n : l.length ≤ maxLen
  r : ∀ m ∈ l, m.f.Rng
theorem HeldP.later {V U : World} {A : Option Addr} {l : List Fm} (h : HeldP V A l) (hb : Below V.heap.size V U) : HeldP U A l := ⟨(h.p.below hb).mono hb.size, h.n, h.r⟩
def Rd (V : World) (v : Value) (e : Ending) (w' : World) : Prop := e = .returned v ∧ Below V.heap.size V w'
end Cd

theorem alive10_at {V U : World} (hU : Below V.heap.size V U) : Calls Try.prog 10 #[] U fun e w' => e = .returned (.bool true) ∧ Below V.heap.size V w' := by
  refine (alive10_any U).mono ?_
  rintro e w' ⟨he, hb⟩
  exact ⟨he, hU.trans (hb.mono hU.size)⟩
theorem heavy_at {V U : World} {A : Option Addr} {l : List Cd.Fm} (h : Cd.HeldP V A l) (c : Nat) (hU : Below V.heap.size V U) :
    Calls Try.prog 9 #[.agg #[.slice A l.length c]] U fun e w' => ∃ b : Bool, e = .returned (.bool b) ∧ Hid (b = false → l.length ≤ 60 ∧ ∀ m ∈ l, m.f.ops.length ≤ 200) ∧ Below V.heap.size V w' := by
  have h2 := h.later hU
  refine (heavyp l h2.r h2.n A c U h2.p).mono ?_
  rintro e w' ⟨b, he, hb, hb2⟩
  exact ⟨b, he, hb, hU.trans (hb2.mono hU.size)⟩
theorem encode_at {V U : World} {A : Option Addr} {l : List Cd.Fm} (h : Cd.HeldP V A l) (c : Nat) (hU : Below V.heap.size V U) :
    Calls Try.prog 11 #[.agg #[.slice A l.length c]] U fun e w' => e = .returned (.tuple #[.string ⟨(Cd.enc (Cd.fns l)).1.toArray⟩, .int .i64 (Cd.enc (Cd.fns l)).2]) ∧ Below V.heap.size V w' := by
  have h2 := h.later hU
  refine (cEncode l h2.r h2.n A c U h2.p).mono ?_
  rintro e w' ⟨he, hb⟩
  exact ⟨he, hU.trans (hb.mono hU.size)⟩
theorem may_at {V U : World} {A : Option Addr} {l : List Cd.Fm} (h : Cd.HeldP V A l) (c : Nat) (hU : Below V.heap.size V U) :
    Calls Try.prog 13 #[.agg #[.slice A l.length c]] U fun e w' => e = .returned (.bool (Cd.pok (Cd.fns l))) ∧ Below V.heap.size V w' := by
  have h2 := h.later hU
  refine (cMay l h2.r h2.n A c U h2.p).mono ?_
  rintro e w' ⟨he, hb⟩
  exact ⟨he, hU.trans (hb.mono hU.size)⟩
theorem same_at {V U : World} {A A2 : Option Addr} {l r : List Cd.Fm} (h : Cd.HeldP V A l) (k : Cd.HeldP V A2 r) (c c2 : Nat) (hU : Below V.heap.size V U) :
    Calls Try.prog 20 #[.agg #[.slice A l.length c], .agg #[.slice A2 r.length c2]] U fun e w' => e = .returned (.bool (Cd.eqFs (Cd.fns l) (Cd.fns r))) ∧ Below V.heap.size V w' := by
  have h2 := h.later hU
  have k2 := k.later hU
  refine (cSame l r h2.r k2.r A A2 c c2 U h2.p k2.p h2.n).mono ?_
  rintro e w' ⟨he, hb⟩
  exact ⟨he, hU.trans (hb.mono hU.size)⟩
theorem rsame_at {V U : World} {A A2 : Option Addr} {l r : List Cd.Fm} (h : Cd.HeldP V A l) (k : Cd.HeldP V A2 r) (c c2 : Nat) (hU : Below V.heap.size V U) :
    Calls Try.prog 17 #[.agg #[.slice A l.length c], .agg #[.slice A2 r.length c2]] U fun e w' => e = .returned (.bool (Cd.eqFs (Cd.fns l) (Cd.fns r))) ∧ Below V.heap.size V w' := by
  have h2 := h.later hU
  have k2 := k.later hU
  refine (rSame10 l r h2.r k2.r A A2 c c2 U h2.p k2.p h2.n).mono ?_
  rintro e w' ⟨he, hb⟩
  exact ⟨he, hU.trans (hb.mono hU.size)⟩
theorem decode_at {V U : World} (s : ByteArray) (hs : s.size ≤ maxLen) (hU : Below V.heap.size V U) :
    Calls Try.prog 15 #[.string s] U fun e w' => ∃ (ms : List Cd.Fm) (A : Option Addr) (c : Nat), e = .returned (.tuple #[.agg #[.slice A ms.length c], .int .i64 (Cd.dec s).2]) ∧ Hid (Cd.fns ms = (Cd.dec s).1) ∧ Hid (Cd.HeldP w' A ms) ∧ Below V.heap.size V w' := by
  refine (cDecode s hs U).mono ?_
  rintro e w' ⟨ms, A, c, he, hm, hr, hb⟩
  have hrg : ∀ m ∈ ms, m.f.Rng := fun m hh => Cd.dec_rng s _ (by rw [← hm]; exact List.mem_map_of_mem hh)
  have hlen : ms.length ≤ maxLen := by rw [← Cd.fns_len ms, hm]; exact Cd.dec_short s
  exact ⟨ms, A, c, he, hm, ⟨hr.prog, hlen, hrg⟩, hU.trans (hb.mono hU.size)⟩
end Go.Proofs.Ytndgafjnifkghaa
