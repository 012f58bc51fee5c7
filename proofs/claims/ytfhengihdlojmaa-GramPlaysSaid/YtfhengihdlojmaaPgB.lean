/-
  The program's net in memory; New, is, places, room.
-/
import Derived.Test.YtfhengihdlojmaaPgS
import Derived.Deep.RegionHeld3
import Derived.Laws.Cover3
namespace Go.Proofs.Ytfhengihdlojmaa
open Go.RowKit

namespace Gm
def findM (id : Int) (l : List Msg) : Option Msg := l.find? fun x => decide (x.id = id)
/-- What the map of messages tells. -/
def onF (l : List Msg) : Value → Option Value
  | .int .u64 a => (findM a l).map Msg.val
  | _ => none
/-- What the map of ways tells. -/
def cutF (cs : List Wy) : Value → Option Value
  | .agg cells => match cells.toList with
    | [.int .i64 a, .int .i64 b] => if isCut a b cs = true then some (.agg #[]) else none
    | _ => none
  | _ => none
theorem cutF_way (cs : List Wy) (a b : Int) : cutF cs (wayV (a, b)) = if isCut a b cs = true then some (.agg #[]) else none := rfl
theorem cutF_nil (x : Value) : cutF [] x = none := by
  unfold cutF
  split
  · split <;> rfl
  · rfl
/-- The program's net in memory: the object at R, the map of messages at B, the map of ways at C. -/
structure PNet (R B C : Nat) (last : Int) (l : List Msg) (cs : List Wy) (w : World) : Prop where
  obj : w.heap[R]? = some (.cells #[.int .u64 last, .map (some B), .map (some C)] 56 (0, 0))
  on : MapF 28 w B (onF l) l.length
  cut : ∃ n, n = cs.length ∧ MapF 69 w C (cutF cs) n
  BC : B ≠ C
  nd : cs.Nodup
def POff (R B C : Nat) (i : Nat) : Prop := i ≠ R ∧ i ≠ B ∧ i ≠ C
section
variable {R B C : Nat} {last : Int} {l : List Msg} {cs : List Wy} {w w' : World}
theorem PNet.c0 (h : PNet R B C last l cs w) : w.cell? ⟨R, 0, none⟩ = some (.int .u64 last) := cell_of_row _ _ 0 _ _ _ h.obj
theorem PNet.c1 (h : PNet R B C last l cs w) : w.cell? ⟨R, 1, none⟩ = some (.map (some B)) := cell_of_row _ _ 1 _ _ _ h.obj
theorem PNet.c2 (h : PNet R B C last l cs w) : w.cell? ⟨R, 2, none⟩ = some (.map (some C)) := cell_of_row _ _ 2 _ _ _ h.obj
theorem PNet.RB (h : PNet R B C last l cs w) : R ≠ B := fun e => by
  obtain ⟨es, c, he⟩ := h.on.isMap
  have := h.obj
  rw [e, he] at this; cases this
theorem PNet.RC (h : PNet R B C last l cs w) : R ≠ C := fun e => by
  obtain ⟨n, _, hm⟩ := h.cut
  obtain ⟨es, c, he⟩ := hm.isMap
  have := h.obj
  rw [e, he] at this; cases this
theorem PNet.below (h : PNet R B C last l cs w) (hb : Below w.heap.size w w') : PNet R B C last l cs w' := by
  obtain ⟨n, hn, hm⟩ := h.cut
  exact ⟨(hb.block _ (ltHeap h.obj)).trans h.obj, h.on.below hb, ⟨n, hn, hm.below hb⟩, h.BC, h.nd⟩
theorem PNet.fresh (h : PNet R B C last l cs w) {i : Nat} (hi : w.heap.size ≤ i) : POff R B C i := by
  obtain ⟨n, hn, hm⟩ := h.cut
  have h1 := ltHeap h.obj
  have h2 := h.on.lt
  have h3 := hm.lt
  exact ⟨by omega, by omega, by omega⟩
/-- What is off the net's blocks may turn. -/
theorem PNet.keep (h : PNet R B C last l cs w) (hk : ∀ i, i < w.heap.size → ¬ POff R B C i → w'.heap[i]? = w.heap[i]?) : PNet R B C last l cs w' := by
  obtain ⟨n, hn, hm⟩ := h.cut
  exact ⟨(hk R (ltHeap h.obj) (fun o => o.1 rfl)).trans h.obj, h.on.of_block (hk B h.on.lt (fun o => o.2.1 rfl)), ⟨n, hn, hm.of_block (hk C hm.lt (fun o => o.2.2 rfl))⟩, h.BC, h.nd⟩
end
end Gm

set_option maxRecDepth 20000 in
theorem gis {R B C : Nat} {last : Int} {l : List Gm.Msg} {cs : List Gm.Wy} {w : World} (h : Gm.PNet R B C last l cs w) :
    Calls Try.prog 23 #[.pointer (some ⟨R, 0, none⟩)] w fun e w' => e = .returned (.bool true) ∧ w = w' := by
  have c1 := h.c1
  have hn : ∀ w, (binOp .neq 53 (.map (some B)) (.map none)).run Try.prog w = .ok (.bool true) w := fun w => run_neq_map_nil w _ _ _ (some B) Try.underlying53
  clear h
  go_enter Try.func23, Try.ntmps23
  go_wp2_with fail
  go_ret
  exact ⟨rfl, rfl⟩
theorem gis_nil (w : World) : Calls Try.prog 23 #[.pointer none] w fun e w' => e = .returned (.bool false) ∧ w = w' := by
  go_enter Try.func23, Try.ntmps23
  go_wp2_with fail
  go_ret
  exact ⟨rfl, rfl⟩
set_option maxRecDepth 20000 in
theorem groom {R B C : Nat} {last : Int} {l : List Gm.Msg} {cs : List Gm.Wy} {w : World} (h : Gm.PNet R B C last l cs w) (hl : l.length ≤ 100000) :
    Calls Try.prog 25 #[.pointer (some ⟨R, 0, none⟩)] w fun e w' => e = .returned (.int .i64 (4096 - (l.length : Int))) ∧ w = w' := by
  have c1 := h.c1
  have HL : Hid (∀ ty, (Builtin.len_ #[53] ty #[.map (some B)]).run Try.prog w = .ok (.int .i64 l.length) w) := fun ty => h.on.len Try.underlying53 ty
  clear h
  go_enter Try.func25, Try.ntmps25
  go_wp2_with (at_len; refine Gm.gpl_len _ rfl _ _ rfl _ _ rfl (HL.out _) ?_)
  go_ret
  exact ⟨rfl, rfl⟩

set_option maxRecDepth 20000 in
set_option maxHeartbeats 1000000 in
theorem gnew (w : World) :
    Calls Try.prog 6 #[] w fun e w' => ∃ R B C : Nat, e = .returned (.pointer (some ⟨R, 0, none⟩)) ∧ Gm.PNet R B C 0 [] [] w' ∧ Below w.heap.size w w' ∧ w.heap.size ≤ R ∧ w.heap.size ≤ B ∧ w.heap.size ≤ C := by
  have hmm := @run_makeMap Try.prog
  obtain ⟨W, hW⟩ : ∃ W, W = ((w.alloc (.map #[] 0)).alloc (.map #[] 0)).alloc (.cells #[.int .u64 0, .map (some w.heap.size), .map (some (w.heap.size + 1))] 56) := ⟨_, rfl⟩
  have HE : Hid (Gm.PNet (w.heap.size + 2) w.heap.size (w.heap.size + 1) 0 [] [] W ∧ Below w.heap.size w W) := by
    have s1 : (w.alloc (.map #[] 0)).heap.size = w.heap.size + 1 := by simp
    have s2 : ((w.alloc (.map #[] 0)).alloc (.map #[] 0)).heap.size = w.heap.size + 2 := by simp
    have hbb : Below w.heap.size w W := by rw [hW]; exact (((Below.refl _ _).alloc (Nat.le_refl _) _).alloc (by simp) _).alloc (by simp; omega) _
    have e2 : W.heap[w.heap.size + 2]? = some (.cells #[.int .u64 0, .map (some w.heap.size), .map (some (w.heap.size + 1))] 56 (0, 0)) := by rw [hW, ← s2]; exact heap_alloc_new _ _
    have em : Gm.MapF 28 W w.heap.size (Gm.onF []) 0 := by
      refine ((Gm.MapF.made w 28).of_block ?_).congr fun x _ => ?_
      · rw [hW, Below.heap_alloc _ _ _ (by rw [s2]; omega), Below.heap_alloc _ _ _ (by rw [s1]; omega)]
      · unfold Gm.onF; split <;> rfl
    have ec : Gm.MapF 69 W (w.heap.size + 1) (Gm.cutF []) 0 := by
      have := Gm.MapF.made (w.alloc (.map #[] 0)) 69
      rw [s1] at this
      refine (this.of_block ?_).congr fun x _ => ?_
      · rw [hW, Below.heap_alloc _ _ _ (by rw [s2]; omega)]
      · exact Gm.cutF_nil x
    exact ⟨⟨e2, em, ⟨0, rfl, ec⟩, by omega, List.nodup_nil⟩, hbb⟩
  go_enter Try.func6, Try.ntmps6
  go_wp2_with fail
  rw [← hW]
  go_ret
  exact ⟨_, _, _, rfl, HE.out.1, HE.out.2, by omega, by omega, by omega⟩

set_option maxRecDepth 20000 in
set_option maxHeartbeats 1000000 in
theorem gplaces {lo : Nat} (xs : List Int) (A : Option Addr) (c : Nat) (w : World) (hl : Lies w lo A (icells xs)) (hn : xs.length ≤ 100000) :
    Calls Try.prog 24 #[.slice A xs.length c] w fun e w' => e = .returned (.bool (xs.all Gm.plc)) ∧ w = w' := by
  have HLI := Lib.hid hl
  clear hl
  go_enter Try.func24, Try.ntmps24
  go_wp2_with fail
  go_loopw [7] (fun i wr => ∃ j : Nat, j ≤ xs.length ∧ i = .int .i64 j ∧ Hid (∀ x ∈ xs.take j, Gm.plc x = true) ∧ wr = w) (fun i _ => xs.length - (intOf i).toNat)
  case atStart => exact ⟨0, Nat.zero_le _, rfl, fun x hx => by simp at hx, rfl⟩
  case round =>
    obtain ⟨j, hj, rfl, HE, rfl⟩ := hrel
    by_cases hlt : j < xs.length
    · obtain ⟨p, rfl, hpb, hp0⟩ := HLI.out.at_ (icells_at hlt)
      have k0 : (0 : Int) ≤ (j : Int) := by omega
      have k1 : (j : Int) < xs.length := by omega
      have HS : Hid (Gm.plc xs[j] = true → ∀ x ∈ xs.take (j + 1), Gm.plc x = true) := fun h x hx => by
        rw [List.take_succ_eq_append_getElem hlt] at hx
        rcases List.mem_append.1 hx with hx | hx
        · exact HE.out x hx
        · rw [List.mem_singleton.1 hx]; exact h
      have HT : Hid (Gm.plc xs[j] = false → xs.all Gm.plc = false) := fun h => by
        rw [Bool.eq_false_iff, ne_eq, List.all_eq_true]
        intro h2
        rw [h2 _ (List.getElem_mem hlt)] at h
        cases h
      generalize xs[j] = x at hp0 HS HT
      by_cases h0 : 0 ≤ x
      · have d0 : decide (x < 0) = false := by simpa using h0
        by_cases h1 : x < 1024
        · have d1 : decide (1024 ≤ x) = false := by simpa using h1
          have HS2 := Lib.hid (HS.out (by unfold Gm.plc; simp [h0, h1]))
          clear HS HT h0 h1
          go_wp2_with fail
          go_roundw
          case rel => exact ⟨j + 1, by omega, by go_num, HS2.out, trivial⟩
          case measure => simp [intOf]; omega
        · have d1 : decide (1024 ≤ x) = true := by simpa using h1
          have HT2 := Lib.hid (HT.out (by unfold Gm.plc; simp [h0, h1]))
          clear HS HT h0 h1
          go_wp2_with fail
          go_ret
          exact ⟨by rw [HT2.out]; rfl, rfl⟩
      · have d0 : decide (x < 0) = true := by simpa using h0
        have HT2 := Lib.hid (HT.out (by unfold Gm.plc; simp [h0]))
        clear HS HT h0
        go_wp2_with fail
        go_ret
        exact ⟨by rw [HT2.out]; rfl, rfl⟩
    · have k1 : ¬ ((j : Int) < xs.length) := by omega
      have HN : Hid (xs.all Gm.plc = true) := by
        have := HE.out
        rw [List.take_of_length_le (by omega)] at this
        exact List.all_eq_true.2 this
      go_wp2_with fail
      go_ret
      exact ⟨by rw [HN.out]; rfl, rfl⟩
end Go.Proofs.Ytfhengihdlojmaa
