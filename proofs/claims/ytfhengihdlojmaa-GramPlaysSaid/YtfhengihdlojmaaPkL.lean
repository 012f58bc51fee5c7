/-
  A net, and a law's own two maps beside it: what was sent and is not taken, and which ways are cut (GramOnce).
-/
import Derived.Test.YtfhengihdlojmaaL09S
namespace Go.Proofs.Ytfhengihdlojmaa
open Go.RowKit

namespace Gm
theorem wideWayR : (match Try.prog.underlying 71 with | some (.array _ _) | some (.struct _) => true | _ => false) = true := by kernel_rfl
theorem kTypeWayR : Try.prog.keyTypeAt 2 71 = true := by kernel_rfl
theorem tiledWayR : Try.prog.tiled 2 71 = true := by kernel_rfl
theorem lawWayR : WideMaps.KeyLaw Try.prog 71 := by
  have h2 : (2 : Nat) + 1 ≤ 10000 := by decide
  exact deep_law h2 kTypeWayR tiledWayR (by kernel_rfl)
theorem keyWayR : Maps.Keyed Try.prog 71 := Maps.Keyed.of_law lawWayR
theorem kTypeWayRAll : Try.prog.keyType 71 = true := by kernel_rfl
theorem cellsWayR : Try.prog.cellsOf 71 = 2 := by kernel_rfl
theorem isKeyWayR (x : Wy) (h1 : (Lit.int .i64 x.1).wf = true) (h2 : (Lit.int .i64 x.2).wf = true) : IsKey 71 (wayV x) := by
  refine ⟨.string (keyBytes [.int .i64 x.1, .int .i64 x.2]), ?_⟩
  obtain ⟨m, hm⟩ := sizeTypes
  unfold keyOf wayV
  simp only [Try.underlying71]
  rw [if_pos (by simp [kTypeWayRAll, Value.formed, Try.underlying71, cellsWayR]), hm]
  unfold Program.keyLits
  simp [Try.underlying71, Value.cells, cellsWayR, cellsInt, Program.keyLits, Try.underlying3, h1, h2]
theorem zeroInt : ∀ w, (zeroValue 3).run Try.prog w = .ok (.int .i64 0) w := fun _ => by kernel_rfl

theorem cut_self {a b : Int} {cs : List Wy} (hc : cutC a b = 0) : isCut a b (cutL a b cs) = true := by
  unfold cutL
  split
  · rw [isCut_app]; simp
  · rename_i hx
    by_cases h3 : isCut a b cs = true
    · exact h3
    · exact absurd ⟨hc, by simpa using h3⟩ hx
theorem cut_other {a b c d : Int} {cs : List Wy} (hne : ¬ (a = c ∧ b = d)) : isCut c d (cutL a b cs) = isCut c d cs := by
  unfold cutL
  split
  · rw [isCut_app]; simp [hne]
  · rfl
theorem cut_lenG (a b : Int) (cs : List Wy) : (cutL a b cs).length ≤ cs.length + 1 := by
  unfold cutL
  split
  · simp
  · omega
theorem cut_no {a b : Int} {cs : List Wy} (hc : ¬ cutC a b = 0) : cutL a b cs = cs ∧ healL a b cs = cs := by
  unfold cutL healL
  rw [if_neg (fun h => hc h.1), if_neg hc]
  exact ⟨rfl, rfl⟩
theorem heal_self {a b : Int} {cs : List Wy} (hc : cutC a b = 0) : isCut a b (healL a b cs) = false := by
  unfold healL
  rw [if_pos hc, isCut_heal]
  simp
theorem heal_other {a b c d : Int} {cs : List Wy} (hne : ¬ (a = c ∧ b = d)) : isCut c d (healL a b cs) = isCut c d cs := by
  unfold healL
  split
  · rw [isCut_heal]; simp [hne]
  · rfl
theorem heal_lenG (a b : Int) (cs : List Wy) : (healL a b cs).length ≤ cs.length := by
  unfold healL
  split
  · exact List.length_filter_le _ _
  · exact Nat.le_refl _

/-- The map of cuts: 1 just where a way is cut. -/
def CutsF (cs : List Wy) (g : Value → Option Value) : Prop := ∀ a b : Int, (g (wayV (a, b)) = some (.int .i64 1) ∧ isCut a b cs = true) ∨ ((g (wayV (a, b)) = none ∨ g (wayV (a, b)) = some (.int .i64 0)) ∧ isCut a b cs = false)
/-- A net R B C with l, cs; a map M that reads as s; a map K that reads as ds. -/
structure OnceG (w0 : World) (R B C M K : Nat) (last : Int) (l : List Msg) (cs : List Wy) (s : List Msg) (ds : List Wy) (N : Nat) (w : World) : Prop where
  net : NetLw w0 R B C last l cs w
  sent : MapF 28 w M (onF s) s.length
  cuts : ∃ g n, n ≤ N ∧ CutsF ds g ∧ MapF 71 w K g n
  lo : w0.heap.size ≤ M ∧ w0.heap.size ≤ K
  off : POff R B C M ∧ POff R B C K ∧ M ≠ K
section
variable {w0 w w' : World} {R B C M K N : Nat} {last : Int} {l s : List Msg} {cs ds : List Wy}
theorem OnceG.below (h : OnceG w0 R B C M K last l cs s ds N w) (hb : Below w.heap.size w w') : OnceG w0 R B C M K last l cs s ds N w' := by
  obtain ⟨g, n, h1, h2, h3⟩ := h.cuts
  exact ⟨h.net.below hb, h.sent.below hb, ⟨g, n, h1, h2, h3.below hb⟩, h.lo, h.off⟩
theorem OnceG.mono (h : OnceG w0 R B C M K last l cs s ds N w) {N' : Nat} (hn : N ≤ N') : OnceG w0 R B C M K last l cs s ds N' w := by
  obtain ⟨g, n, h1, h2, h3⟩ := h.cuts
  exact ⟨h.net, h.sent, ⟨g, n, Nat.le_trans h1 hn, h2, h3⟩, h.lo, h.off⟩
/-- The net turned. -/
theorem OnceG.stepP (h : OnceG w0 R B C M K last l cs s ds N w) {last' : Int} {l' : List Msg} {cs' : List Wy} (hn : NetLw w0 R B C last' l' cs' w') (hm : Mvg (POff R B C) (POff R B C) w w') : OnceG w0 R B C M K last' l' cs' s ds N w' := by
  obtain ⟨g, n, h1, h2, h3⟩ := h.cuts
  exact ⟨hn, h.sent.of_block (hm.block _ h.sent.lt h.off.1), ⟨g, n, h1, h2, h3.of_block (hm.block _ h3.lt h.off.2.1)⟩, h.lo, h.off⟩
/-- One of the law's maps turned. -/
theorem OnceG.netM (h : OnceG w0 R B C M K last l cs s ds N w) {X : Nat} (hX : X = M ∨ X = K) (hg : w.grownBy w' (some X)) : NetLw w0 R B C last l cs w' := by
  have hx : POff R B C X ∧ w0.heap.size ≤ X := by
    rcases hX with rfl | rfl
    · exact ⟨h.off.1, h.lo.1⟩
    · exact ⟨h.off.2.1, h.lo.2⟩
  refine ⟨h.net.p.keep fun i hi hn => hg.block i hi fun e => hn (Option.some.inj e ▸ hx.1), h.net.g, h.net.r, h.net.lo, ⟨hg.os.trans h.net.bel.os, hg.tape.trans h.net.bel.tape, hg.output.trans h.net.bel.output, Nat.le_trans h.net.bel.size hg.size, fun i hi => ?_⟩, h.net.l0, h.net.len⟩
  exact (hg.block i (by have := h.net.bel.size; omega) fun e => by have := Option.some.inj e; omega).trans (h.net.bel.block i hi)
/-- sent[x.ID] = x. -/
theorem OnceG.putS (h : OnceG w0 R B C M K last l cs s ds N w) (hs : s.length ≤ 100000) (x : Msg) (h0 : 0 ≤ x.id) (h1 : x.id < 18446744073709551616) (hf : ∀ y ∈ s, y.id ≠ x.id) :
    ∃ w', (Instr.mapUpdate 53 (.map (some M)) (.int .u64 x.id) x.val).run Try.prog w = .ok () w' ∧ OnceG w0 R B C M K last l cs (s ++ [x]) ds N w' ∧ w.grownBy w' (some M) := by
  obtain ⟨w', hr, hm, hg⟩ := h.sent.put key64 Try.underlying53 (by unfold maxLen; omega) (isKey64 h0 h1) x.val (onF (s ++ [x])) (onF_put hf).1 (onF_put hf).2
  have hno : (onF s (.int .u64 x.id)).isSome = false := by rw [onF_id, findM_none hf]; rfl
  rw [hno] at hm
  obtain ⟨g, n, k1, k2, k3⟩ := h.cuts
  exact ⟨w', hr, ⟨h.netM (.inl rfl) hg, by rw [List.length_append]; exact hm, ⟨g, n, k1, k2, k3.of_block (hg.block _ k3.lt fun e => h.off.2.2 (Option.some.inj e).symm)⟩, h.lo, h.off⟩, hg⟩
/-- delete(sent, id). -/
theorem OnceG.delS (h : OnceG w0 R B C M K last l cs s ds N w) (hd : DistM s) (id : Int) (h0 : 0 ≤ id) (h1 : id < 18446744073709551616) (ty : TypeId) :
    ∃ w', (Builtin.delete_ #[53, 28] ty #[.map (some M), .int .u64 id]).run Try.prog w = .ok (.tuple #[]) w' ∧ OnceG w0 R B C M K last l cs (dropM id s) ds N w' ∧ w.grownBy w' (some M) := by
  obtain ⟨w', hr, hm, hg⟩ := h.sent.del key64 Try.underlying53 (isKey64 h0 h1) (onF (dropM id s)) (onF_drop s id).1 (onF_drop s id).2 ty
  rw [onF_has, ← dropM_count hd] at hm
  obtain ⟨g, n, k1, k2, k3⟩ := h.cuts
  exact ⟨w', hr, ⟨h.netM (.inl rfl) hg, hm, ⟨g, n, k1, k2, k3.of_block (hg.block _ k3.lt fun e => h.off.2.2 (Option.some.inj e).symm)⟩, h.lo, h.off⟩, hg⟩
/-- x, was := sent[id]. -/
theorem OnceG.lookS (h : OnceG w0 R B C M K last l cs s ds N w) (id : Int) (h0 : 0 ≤ id) (h1 : id < 18446744073709551616) :
    (Instr.lookup 53 (.map (some M)) (.int .u64 id) true).run Try.prog w = .ok (.tuple #[((findM id s).getD noMsg).val, .bool (findM id s).isSome]) w := by
  rw [h.sent.look key64 Try.underlying53 (zeroMsg w) (isKey64 h0 h1), onF_id]
  cases findM id s <;> rfl
/-- len(sent). -/
theorem OnceG.lenS (h : OnceG w0 R B C M K last l cs s ds N w) (ty : TypeId) : (Builtin.len_ #[53] ty #[.map (some M)]).run Try.prog w = .ok (.int .i64 s.length) w := h.sent.len Try.underlying53 ty
end
end Gm
end Go.Proofs.Ytfhengihdlojmaa
