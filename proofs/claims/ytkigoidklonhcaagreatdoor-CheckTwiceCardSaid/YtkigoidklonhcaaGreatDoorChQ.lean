/-
  Contracts of layer 11's law's same, one.
-/
import Derived.Test.YtkigoidklonhcaaGreatDoorChP
import Derived.Test.YtkigoidklonhcaaGreatDoorLowCdN
namespace Go.Proofs.YtkigoidklonhcaaGreatDoor
open Go.RowKit

set_option maxHeartbeats 600000 in
set_option maxRecDepth 20000 in
theorem same11 (xs : List Int) (hn : xs.length ≤ 16) (A A2 : Option Addr) (c c2 : Nat) (w : World) (h1 : Lies w w.heap.size A (icells xs)) (h2 : Lies w w.heap.size A2 (icells xs)) :
    Calls Tryz.prog 11 #[.slice A xs.length c, .slice A2 xs.length c2] w fun e w' => e = .returned (.bool true) ∧ Below w.heap.size w w' := by
  have H1 := Lib.hid h1
  have H2 := Lib.hid h2
  clear h1 h2
  have e0 : ((xs.length : Int) != (xs.length : Int)) = false := by simp
  go_enter Tryz.func11, Tryz.ntmps11
  go_wp2_with fail
  go_loopw [5] (fun s5 wr => ∃ k : Nat, k ≤ xs.length ∧ s5 = .int .i64 k ∧ Hid (Below w.heap.size w wr)) (fun s5 _ => xs.length - (intOf s5).toNat)
  case atStart => exact ⟨0, Nat.zero_le _, rfl, Below.refl _ _⟩
  case round =>
    obtain ⟨k, hk, rfl, HB⟩ := hrel
    by_cases hlt : k < xs.length
    · obtain ⟨a, rfl, -, c1⟩ := (H1.out.below HB.out).at_ (icells_at hlt)
      obtain ⟨b, rfl, -, c2'⟩ := (H2.out.below HB.out).at_ (icells_at hlt)
      have k0 : (0 : Int) ≤ (k : Int) := by omega
      have k1 : (k : Int) < (xs.length : Int) := by omega
      generalize xs[k] = x at c1 c2'
      clear hlt
      go_upto_region 6 with fail
      go_region
      all_goals
        go_wp2_with fail
        go_roundw
        case rel => exact ⟨k + 1, by omega, by go_num, HB.out.drew⟩
        case measure => simp [intOf]; omega
    · have k1 : ¬ (k : Int) < (xs.length : Int) := by omega
      clear hlt
      go_wp2_with fail
      go_ret
      exact ⟨rfl, HB.out⟩

namespace Ck
/-- A program of one function, of one argument, with an op. -/
def oneF (o : Cd.OpV) (n : Nat) : Cd.Fm := ⟨⟨1, 1, [o]⟩, some ⟨n, 0, none⟩, 1⟩
def OneP (o : Cd.OpV) (w : World) (e : Ending) (w' : World) : Prop := ∃ (A : Option Addr) (n : Nat), e = .returned (.agg #[.slice A 1 1]) ∧ Cd.Prog w' w'.heap.size A [oneF o n] ∧ Below w.heap.size w w'
end Ck

set_option maxHeartbeats 600000 in
set_option maxRecDepth 20000 in
theorem one11 (o : Cd.OpV) (w : World) : Calls Tryz.prog 12 #[.agg #[.int .u8 (o.k : Int), .int .i64 o.d, .int .i64 o.a, .int .i64 o.b, .int .i64 o.n]] w (Ck.OneP o w) := by
  go_enter Tryz.func12, Tryz.ntmps12
  go_wp2_with fail
  obtain ⟨W0, h0⟩ : ∃ W, W = w.alloc (.cells #[.int .u8 (o.k : Int), .int .i64 o.d, .int .i64 o.a, .int .i64 o.b, .int .i64 o.n] 44) := ⟨_, rfl⟩
  obtain ⟨W1, h1⟩ : ∃ W, W = W0.alloc (.cells #[.slice (some ⟨w.heap.size + 1 + 1 + 1, 0, none⟩) 1 1] 24) := ⟨_, rfl⟩
  obtain ⟨W2, h2⟩ : ∃ W, W = W1.alloc (.cells #[.int .u8 (o.k : Int), .int .i64 o.d, .int .i64 o.a, .int .i64 o.b, .int .i64 o.n] 44) := ⟨_, rfl⟩
  obtain ⟨W, h3⟩ : ∃ W, W = W2.alloc (.cells #[.int .i64 1, .int .i64 1, .slice (some ⟨w.heap.size + 1 + 1, 0, none⟩) 1 1] 41) := ⟨_, rfl⟩
  rw [← h0, ← h1, ← h2, ← h3]
  have s0 : W0.heap.size = w.heap.size + 1 := by rw [h0]; simp
  have s1 : W1.heap.size = w.heap.size + 2 := by rw [h1]; simp [s0]
  have s2 : W2.heap.size = w.heap.size + 3 := by rw [h2]; simp [s1]
  have s3 : W.heap.size = w.heap.size + 4 := by rw [h3]; simp [s2]
  have b0 : Below w.heap.size w W0 := by rw [h0]; exact Cd.fn1 _ _ _
  have b1 : Below W0.heap.size W0 W1 := by rw [h1]; exact Cd.fn1 _ _ _
  have b2 : Below W1.heap.size W1 W2 := by rw [h2]; exact Cd.fn1 _ _ _
  have b3 : Below W2.heap.size W2 W := by rw [h3]; exact Cd.fn1 _ _ _
  have hF : W.heap[w.heap.size + 1 + 1 + 1]? = some (.cells #[.int .i64 1, .int .i64 1, .slice (some ⟨w.heap.size + 1 + 1, 0, none⟩) 1 1] 41 (0, 0)) := by
    rw [show w.heap.size + 1 + 1 + 1 = W2.heap.size by omega, h3]; exact heap_alloc_new W2 _
  have hO : W.heap[w.heap.size + 1 + 1]? = some (.cells #[.int .u8 (o.k : Int), .int .i64 o.d, .int .i64 o.a, .int .i64 o.b, .int .i64 o.n] 44 (0, 0)) := by
    rw [b3.block _ (by omega), show w.heap.size + 1 + 1 = W1.heap.size by omega, h2]; exact heap_alloc_new W1 _
  have hP : W.heap[w.heap.size + 1]? = some (.cells #[.slice (some ⟨w.heap.size + 1 + 1 + 1, 0, none⟩) 1 1] 24 (0, 0)) := by
    have : W.heap[W0.heap.size]? = some (.cells #[.slice (some ⟨w.heap.size + 1 + 1 + 1, 0, none⟩) 1 1] 24 (0, 0)) := by
      rw [b3.block _ (by omega), b2.block _ (by omega), h1]; exact heap_alloc_new W0 _
    rwa [s0] at this
  refine bodyPost_ret (v := .agg #[.slice (some ⟨w.heap.size + 1 + 1 + 1, 0, none⟩) 1 1]) (results_cell_row Tryz.results12 _ _ (w.heap.size + 1) 24 #[.slice (some ⟨w.heap.size + 1 + 1 + 1, 0, none⟩) 1 1] (0, 0) _ rfl hP Tryz.underlying24 rfl Cd.pgSize) rfl ⟨some ⟨w.heap.size + 1 + 1 + 1, 0, none⟩, w.heap.size + 1 + 1, rfl, ⟨fun _ => ⟨_, rfl, by show _ < _; dsimp only; omega, fun j u hu => World.news_of_block hF j u hu⟩, fun m hm => ?_⟩, b0.trans ((b1.trans ((b2.trans (b3.mono b2.size)).mono b1.size)).mono b0.size)⟩
  rw [List.mem_singleton.1 hm]
  exact fun _ => ⟨_, rfl, by show _ < _; dsimp only; omega, fun j u hu => World.news_of_block hO j u hu⟩
end Go.Proofs.YtkigoidklonhcaaGreatDoor
