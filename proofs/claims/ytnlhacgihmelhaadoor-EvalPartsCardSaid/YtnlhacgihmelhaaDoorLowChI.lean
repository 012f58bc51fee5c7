/-
  The document's op, May, Input (layer 11).
  The document's May, Input (layer 11).
  The document's Input (layer 11).
-/
import Derived.Test.YtnlhacgihmelhaaDoorLowChF
import Derived.Test.YtnlhacgihmelhaaDoorLowCr
section
namespace Go.Proofs.YtnlhacgihmelhaaDoor
open Go.RowKit

namespace Ck
theorem regsOk_not (o : Cd.OpV) (n : Int) (h : o.k ≠ 12) : (!regsOk o n) = ((Cd.hD o.k && decide (n ≤ o.d)) || ((Cd.hA o.k && decide (n ≤ o.a)) || (Cd.hB o.k && decide (n ≤ o.b)))) := by
  have e : ∀ x : Int, decide (n ≤ x) = !decide (x < n) := fun x => by
    rw [Bool.eq_iff_iff]
    simp
  unfold regsOk
  rw [decide_eq_false h, e, e, e]
  cases Cd.hD o.k <;> cases Cd.hA o.k <;> cases Cd.hB o.k <;> simp
end Ck

end Go.Proofs.YtnlhacgihmelhaaDoor
end

section
namespace Go.Proofs.YtnlhacgihmelhaaDoor
open Go.RowKit

namespace Ck
theorem cell_keep {w U : World} {a : Addr} {v : Value} (h : w.cell? a = some v) (hb : Below w.heap.size w U) : U.cell? a = some v := by
  by_cases hlt : a.block < w.heap.size
  · exact (World.cell?_of_block (hb.block _ hlt)).trans h
  · have hn : w.heap[a.block]? = none := Array.getElem?_eq_none (by omega)
    simp [World.cell?, hn] at h
theorem fnE_args {p : List Cd.FnV} {f : Cd.FnV} (h : f.regs < f.args) : fnE p f = (110, 0) := by unfold fnE; rw [if_pos h]
theorem fnE_op {p : List Cd.FnV} {f : Cd.FnV} (h : ¬ f.regs < f.args) {k : Nat} (hj : ∀ i (hi : i < f.ops.length), i < k → opE p f f.ops[i] = 0) (hk : k < f.ops.length) (he : opE p f f.ops[k] ≠ 0) : fnE p f = (opE p f f.ops[k], k) := by
  have := opsE_at (j := 0) hj hk he
  rw [Nat.zero_add] at this
  unfold fnE
  rw [if_neg h, this, if_neg he]
theorem fnE_end {p : List Cd.FnV} {f : Cd.FnV} (h : ¬ f.regs < f.args) (hj : ∀ i (hi : i < f.ops.length), opE p f f.ops[i] = 0) : fnE p f = endE f := by
  unfold fnE
  rw [if_neg h, opsE_no hj, if_pos rfl]
theorem chk_fn {l : List Cd.Fm} {k : Nat} (hk : k < l.length) (hp : Cd.pok (Cd.fns l) = true) (hj : ∀ j (hj : j < l.length), j < k → (fnE (Cd.fns l) l[j].f).1 = 0) {e op : Nat} (he : fnE (Cd.fns l) l[k].f = (e, op)) (h0 : e ≠ 0) : chk (Cd.fns l) = (e, k, op) := by
  obtain ⟨hkl, ek⟩ := fns_at hk
  have h1 : (fnE (Cd.fns l) (Cd.fns l)[k]).1 ≠ 0 := by rw [ek, he]; exact h0
  have := fnsE_at (p := Cd.fns l) (l := Cd.fns l) (k := k) (j := 0) (fun j hj' hjk => by
    have hj2 : j < l.length := by rwa [Cd.fns_len] at hj'
    obtain ⟨_, ej⟩ := fns_at hj2
    rw [ej]
    exact hj j hj2 hjk) hkl h1
  rw [chk_go hp (fun e0 => by rw [e0] at hkl; simp at hkl), this, ek, he, Nat.zero_add]
theorem chk_all {l : List Cd.Fm} (h0 : l.length ≠ 0) (hp : Cd.pok (Cd.fns l) = true) (hj : ∀ j (hj : j < l.length), (fnE (Cd.fns l) l[j].f).1 = 0) : chk (Cd.fns l) = (0, 0, 0) := by
  rw [chk_go hp (fun e0 => h0 (by rw [← Cd.fns_len l, e0]; rfl))]
  exact fnsE_no (fun j hj' => by
    have hj2 : j < l.length := by rwa [Cd.fns_len] at hj'
    obtain ⟨_, ej⟩ := fns_at hj2
    rw [ej]
    exact hj j hj2)
theorem endE_none {f : Cd.FnV} (h : f.ops.length = 0) : endE f = (113, 0) := by unfold endE; rw [List.eq_nil_of_length_eq_zero h]; rfl
theorem endE_some {f : Cd.FnV} (h : f.ops.length - 1 < f.ops.length) : endE f = if ends f.ops[f.ops.length - 1].k then (0, 0) else (113, f.ops.length - 1) := by
  unfold endE
  rw [List.getLast?_eq_getElem?, List.getElem?_eq_getElem h]
end Ck

end Go.Proofs.YtnlhacgihmelhaaDoor
end

section
namespace Go.Proofs.YtnlhacgihmelhaaDoor
open Go.RowKit

end Go.Proofs.YtnlhacgihmelhaaDoor
end
