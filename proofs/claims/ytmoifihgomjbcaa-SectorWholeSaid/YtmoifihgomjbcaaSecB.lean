/-
  Contracts of sector.New, Fuse, Len, Loose, padded.
-/
import Derived.Test.YtmoifihgomjbcaaSecA
import Derived.BigRegion
import Derived.Laws.MakeOwn
import Derived.OwnWalk
import Derived.Lib.BufferWrite
import Derived.Lib.SlBuf
import Derived.Laws.CopyOwn
namespace Go.Proofs.Ytmoifihgomjbcaa
open Go.RowKit

theorem sec_cells : (Try.prog.info? 57).map (fun i => (i.zero, i.size, i.bytes)) = some (some (.agg (Array.replicate 128 (.int .u8 0))), 128, 128) := by kernel_rfl
theorem Sec.mod_made (n : Nat) : madeCells (Array.replicate 128 (Value.int .u8 0)) (n * 128) = (Sec.cel (List.replicate (n * 128) 0)).toArray := by
  rw [Sec.cel_rep]
  apply Array.ext
  · simp [madeCells]
  · intro i h1 h2
    have h : i % 128 < 128 := Nat.mod_lt _ (by omega)
    simp only [madeCells, Array.getElem_map, Array.getElem_range, Array.size_replicate, List.getElem_toArray, List.getElem_replicate]
    rw [getElem!_pos _ _ (by simpa using h), Array.getElem_replicate]
theorem sec_make (n : Nat) (hn : n ≤ 4096) (w : World) : (Instr.makeSlice 46 (.int .i64 (n : Int)) (.int .i64 (n : Int))).run Try.prog w = .ok (.slice (some ⟨w.heap.size, 0, none⟩) n n) (w.alloc (.cells (Sec.cel (List.replicate (n * 128) 0)).toArray 57)) := by
  obtain ⟨i, hi, hz⟩ := Option.map_eq_some_iff.1 sec_cells
  simp only [Prod.mk.injEq] at hz
  obtain ⟨h1, h2, h3⟩ := hz
  have hr := run_make (P := Try.prog) w 46 57 i _ Try.underlying46 hi h1 .i64 .i64 n n (by omega) (Int.le_refl _) (by rw [h3]; omega) (by omega)
  rw [hr, h2, ← Sec.mod_made]
  simp [Value.cells]

theorem Sec.three (w : World) (a b c : Obj) : ((((w.alloc a).alloc b).alloc c).drew).heap[w.heap.size]? = some a ∧ ((((w.alloc a).alloc b).alloc c).drew).heap[w.heap.size + 1]? = some b ∧ ((((w.alloc a).alloc b).alloc c).drew).heap[w.heap.size + 1 + 1]? = some c := by
  refine ⟨?_, ?_, ?_⟩
  · rw [heap_drew, Below.heap_alloc _ _ _ (by simp; omega), Below.heap_alloc _ _ _ (by simp)]
    exact heap_alloc_new w a
  · rw [heap_drew, Below.heap_alloc _ _ _ (by simp)]
    exact heap_alloc2_new w a b
  · rw [heap_drew]
    have h := heap_alloc_new ((w.alloc a).alloc b) c
    have e : ((w.alloc a).alloc b).heap.size = w.heap.size + 1 + 1 := by simp
    rwa [e] at h

/-- A new disk. -/
def Sec.Made (n : Nat) (w : World) (e : Ending) (w' : World) : Prop := ∃ D : Sec.Bl, e = .returned (.tuple #[D.ptr, .int .i64 0]) ∧ Sec.At D (Sec.St.fresh n) w' ∧ Below w.heap.size w w' ∧ D.lo = w.heap.size

theorem Sec.made_a (n : Nat) (w W : World) (S M B : Nat) (hS : S = w.heap.size ∧ M = w.heap.size + 1 ∨ M = w.heap.size ∧ S = w.heap.size + 1) (hB : B = w.heap.size + 1 + 1)
    (h1 : W.heap[S]? = some (.cells (Sec.cel (List.replicate (n * 128) 0)).toArray 57 (0, 0))) (h2 : W.heap[M]? = some (.cells (Sec.cel (List.replicate (n * 128) 0)).toArray 57 (0, 0)))
    (h3 : W.heap[B]? = some (.cells #[.slice (some ⟨S, 0, none⟩) n n, .slice (some ⟨M, 0, none⟩) n n, .slice none 0 0, .bool false, .int .i64 0] 53 (0, 0)))
    (hb : Below w.heap.size w W) : Sec.Made n w (.returned (.tuple #[.pointer (some ⟨B, 0, none⟩), .int .i64 0])) W :=
  ⟨⟨w.heap.size, B, S, M, .slice none 0 0⟩, rfl, ⟨h3, h1, h2, World.ownsRow_nil _ _ _ _, by simp only; omega, by simp only; omega, by simp only; omega, by simp only; omega, by simp only; omega, by simp only; omega, by simp [Value.ownBlock], by simp [Value.ownBlock], by simp [Value.ownBlock]⟩, hb, rfl⟩

set_option maxHeartbeats 1000000 in
set_option maxRecDepth 20000 in
theorem sec_new (n : Nat) (w : World) (h1 : 1 ≤ n) (h2 : n ≤ 4096) :
    Calls Try.prog 8 #[.int .i64 (n : Int)] w (Sec.Made n w) := by
  have hmk := sec_make n h2
  have d1 : decide ((n : Int) < 1) = false := by simp; omega
  have d2 : decide ((4096 : Int) < (n : Int)) = false := by simp; omega
  go_enter Try.func8, Try.ntmps8
  go_wp2
  go_region
  · go_wp2
    go_ret2
    obtain ⟨t1, t2, t3⟩ := Sec.three w (.cells (Sec.cel (List.replicate (n * 128) 0)).toArray 57) (.cells (Sec.cel (List.replicate (n * 128) 0)).toArray 57) (.cells #[.slice (some ⟨w.heap.size, 0, none⟩) n n, .slice (some ⟨w.heap.size + 1, 0, none⟩) n n, .slice none 0 0, .bool false, .int .i64 0] 53)
    exact Sec.made_a n w _ w.heap.size (w.heap.size + 1) (w.heap.size + 1 + 1) (.inl ⟨rfl, rfl⟩) rfl t1 t2 t3 ((((Below.refl _ _).alloc (Nat.le_refl _) _).alloc (by simp) _).alloc (by simp; omega) _).drew
  · go_wp2
    go_ret2
    obtain ⟨t1, t2, t3⟩ := Sec.three w (.cells (Sec.cel (List.replicate (n * 128) 0)).toArray 57) (.cells (Sec.cel (List.replicate (n * 128) 0)).toArray 57) (.cells #[.slice (some ⟨w.heap.size + 1, 0, none⟩) n n, .slice (some ⟨w.heap.size, 0, none⟩) n n, .slice none 0 0, .bool false, .int .i64 0] 53)
    exact Sec.made_a n w _ (w.heap.size + 1) w.heap.size (w.heap.size + 1 + 1) (.inr ⟨rfl, rfl⟩) rfl t2 t1 t3 ((((Below.refl _ _).alloc (Nat.le_refl _) _).alloc (by simp) _).alloc (by simp; omega) _).drew

set_option maxHeartbeats 400000 in
theorem sec_new_bad (n : Int) (w : World) (h : n < 1 ∨ 4096 < n) :
    Calls Try.prog 8 #[.int .i64 n] w fun e w' => e = .returned (.tuple #[.pointer none, .int .i64 2]) ∧ w = w' := by
  by_cases h1 : n < 1
  · have d1 : decide (n < 1) = true := by simpa using h1
    clear h
    go_enter Try.func8, Try.ntmps8
    go_wp2
    go_ret2
    exact ⟨rfl, rfl⟩
  · have d1 : decide (n < 1) = false := by simpa using h1
    have d2 : decide ((4096 : Int) < n) = true := by simp; omega
    clear h
    go_enter Try.func8, Try.ntmps8
    go_wp2
    go_ret2
    exact ⟨rfl, rfl⟩

set_option maxHeartbeats 400000 in
theorem sec_fuse (D : Sec.Bl) (s : Sec.St) (w : World) (h : Sec.At D s w) (hs : s.Ok) (n : Nat) :
    Calls Try.prog 16 #[D.ptr, .int .i64 (n : Int)] w fun e w' => e = .returned (.int .i64 0) ∧ Sec.At D { s with lit := true, left := n } w' ∧ Sec.Moves D D w w' := by
  have f3 := h.fro 3
  have f4 := h.fro 4
  have c3 := h.c3
  have c4 := h.c4
  have H := Lib.hid h
  have HS := Lib.hid hs
  clear h hs
  have e : D.ptr = .pointer (some ⟨D.b, 0, none⟩) := rfl
  have d1 : decide ((n : Int) < 0) = false := by simp
  rw [e]
  clear e
  go_enter Try.func16, Try.ntmps16
  go_wp2_with fail
  refine (sec_is D s _ H.out HS.out).mono ?_
  rintro e w' ⟨rfl, rfl⟩
  go_wp2_with fail
  go_ret
  refine ⟨rfl, H.out.fuse _ _ _ ?_ (Sec.grown_trans (Sec.grown_set _ _ _ _) (Sec.grown_set _ _ _ _))⟩
  rw [heap_setCell_same _ _ _ _ _ _ (heap_setCell_same _ _ _ _ _ _ H.out.ob)]
  rfl

set_option maxHeartbeats 400000 in
theorem sec_len (D : Sec.Bl) (s : Sec.St) (w : World) (h : Sec.At D s w) (hs : s.Ok) :
    Calls Try.prog 17 #[D.ptr] w fun e w' => e = .returned (.int .i64 (s.n : Int)) ∧ w = w' := by
  have c0 := h.c0
  have H := Lib.hid h
  have HS := Lib.hid hs
  clear h hs
  have e : D.ptr = .pointer (some ⟨D.b, 0, none⟩) := rfl
  rw [e]
  clear e
  go_enter Try.func17, Try.ntmps17
  go_wp2_with fail
  refine (sec_is D s _ H.out HS.out).mono ?_
  rintro e w' ⟨rfl, rfl⟩
  go_wp2_with fail
  go_ret
  exact ⟨rfl, rfl⟩

set_option maxHeartbeats 400000 in
theorem sec_loose (D : Sec.Bl) (s : Sec.St) (w : World) (h : Sec.At D s w) (hs : s.Ok) :
    Calls Try.prog 12 #[D.ptr] w fun e w' => e = .returned (.int .i64 (s.loose.length : Int)) ∧ w = w' := by
  obtain ⟨A, c, hv⟩ := h.v_eq
  have c2 := h.c2
  rw [hv] at c2
  have H := Lib.hid h
  have HS := Lib.hid hs
  clear h hs hv
  have e : D.ptr = .pointer (some ⟨D.b, 0, none⟩) := rfl
  rw [e]
  clear e
  go_enter Try.func12, Try.ntmps12
  go_wp2_with fail
  refine (sec_is D s _ H.out HS.out).mono ?_
  rintro e w' ⟨rfl, rfl⟩
  go_wp2_with fail
  go_ret
  exact ⟨rfl, rfl⟩

/-! ### A text as a sector -/
theorem sec_arrlen : Try.prog.arrayLen 57 = 128 := by kernel_rfl
theorem sec_arrelem : Try.prog.elem 57 = 5 := by kernel_rfl
theorem sec_slice (a : Addr) (w : World) : (Instr.sliceAt 57 (.pointer (some a)) none none none).run Try.prog w = .ok (.slice (some a) 128 128) w := by
  rw [run_sliceAt_array_all w 57 a (by rw [sec_arrlen, sec_arrelem]; exact Try.underlying57), sec_arrlen, sec_arrelem, Try.sizeOf5]
  obtain ⟨b, o, sp⟩ := a
  simp [Result.andThen, slicedAt, Addr.add]
theorem sec_slice_h (b o m : Nat) (hm : m ≤ 128) (w : World) : (Instr.sliceAt 57 (.pointer (some ⟨b, o, none⟩)) none (some (.int .i64 (m : Int))) none).run Try.prog w = .ok (.slice (some ⟨b, o, none⟩) m 128) w := by
  rw [run_sliceAt_array_h w 57 ⟨b, o, none⟩ (by rw [sec_arrlen, sec_arrelem]; exact Try.underlying57) .i64 (m : Int) (by omega) (by rw [sec_arrlen]; omega), sec_arrlen, sec_arrelem, Try.sizeOf5]
  simp [Result.andThen, slicedAt, Addr.add]
theorem sec_zero (w : World) : (zeroValue 57).run Try.prog w = .ok (.agg (Array.replicate 128 (.int .u8 0))) w := by kernel_rfl
theorem sec_size : (Try.prog.info? 57).map (·.size) = some 128 := by kernel_rfl
theorem byte_size : (Try.prog.info? 5).map (·.size) = some 1 := by kernel_rfl
def Sec.zeros : Array Value := (Sec.cel (List.replicate 128 0)).toArray
theorem Sec.zeros_eq : Array.replicate 128 (Value.int .u8 0) = Sec.zeros := by unfold Sec.zeros; rw [Sec.cel_rep]; exact (List.toArray_replicate ..).symm
theorem Sec.zeros_ne : ¬ Sec.zeros = #[] := by
  intro h
  have := congrArg Array.size h
  simp [Sec.zeros, Sec.cel_len] at this
theorem Sec.zeros_size : Sec.zeros.size = 128 := by simp [Sec.zeros, Sec.cel_len]
theorem Sec.pad_cells (t : ByteArray) : (Sec.zeros.toList.take 0 ++ Lib.byteCells t.data.toList ++ Sec.zeros.toList.drop (0 + t.size)).toArray = (Sec.cel (Sec.pad t.data.toList)).toArray := by
  have hl : t.data.toList.length = t.size := rfl
  have e : Lib.byteCells t.data.toList = Sec.cel t.data.toList := rfl
  rw [e]
  unfold Sec.zeros Sec.pad
  simp only [List.take_zero, List.nil_append, Nat.zero_add]
  rw [Sec.cel_drop, Sec.cel_app, List.drop_replicate, hl]

set_option maxHeartbeats 1000000 in
set_option maxRecDepth 20000 in
theorem sec_padded (t : ByteArray) (w : World) (h : t.size ≤ 128) :
    Calls Try.prog 24 #[.string t] w fun e w' => e = .returned (.agg (Sec.cel (Sec.pad t.data.toList)).toArray) ∧ Below w.heap.size w w' := by
  have hz : ∀ w : World, (zeroValue 57).run Try.prog w = .ok (.agg Sec.zeros) w := fun w => by rw [← Sec.zeros_eq]; exact sec_zero w
  have hne := Sec.zeros_ne
  have hsl := sec_slice ⟨w.heap.size, 0, none⟩
  have hp : (Sec.pad t.data.toList).length = 128 := Sec.pad_len h
  have HI : Hid ((Try.prog.info? 57).map (·.size) = some (Sec.cel (Sec.pad t.data.toList)).toArray.size) := by
    show _ = _
    rw [sec_size]; simp [Sec.cel_len, hp]
  have HO : Hid ((Sec.cel (Sec.pad t.data.toList)).toArray.all (·.oneCell') = true) := all_oneCell_toArray (Sec.cel_one _)
  have HZ : Hid ((w.alloc (.cells Sec.zeros 57)).heap[w.heap.size]? = some (.cells Sec.zeros 57 (0, 0))) := heap_alloc_new w _
  have HR : Hid (∀ ty, (Builtin.copy_ #[61, 9] ty #[.slice (some ⟨w.heap.size, 0, none⟩) 128 128, .string t]).run Try.prog (w.alloc (.cells Sec.zeros 57)) = .ok (goInt t.size) ((w.alloc (.cells Sec.zeros 57)).setRow w.heap.size (Sec.cel (Sec.pad t.data.toList)).toArray)) := fun ty => by
    rw [Lib.run_copy_row_string _ _ _ _ 5 w.heap.size 0 128 128 t Sec.zeros 57 Try.underlying61 byte_size HZ.out h (by rw [Sec.zeros_size]; omega), Sec.pad_cells t]
  have HP := Lib.hid hp
  clear hp
  go_enter Try.func24, Try.ntmps24
  go_wp2_with (first
    | refine Lib.wpList_copy_run _ rfl (.tmp 3) (.tmp 4) 61 9 rfl _ _ rfl rfl (HR.out _) ?_
    | refine wpList_load_row rfl 57 (.tmp 2) rfl w.heap.size rfl 57 (Sec.cel (Sec.pad t.data.toList)).toArray (0, 0) (.array 128 5) (setRow_heap _ _ _ _ _ _ HZ.out) Try.underlying57 rfl HI.out ?_
    | refine wpList_store_row rfl 57 (.tmp 2) (.tmp 6) rfl w.heap.size (Sec.cel (Sec.pad t.data.toList)).toArray rfl rfl 57 (Sec.cel (Sec.pad t.data.toList)).toArray (setRow_heap _ _ _ _ _ _ HZ.out) HI.out rfl HO.out ?_)
  refine bodyPost_ret (v := .agg (Sec.cel (Sec.pad t.data.toList)).toArray) (results_cell_row Try.results24 _ _ w.heap.size 57 (Sec.cel (Sec.pad t.data.toList)).toArray (0, 0) (.array 128 5) rfl (setRow_heap _ _ _ _ _ _ (setRow_heap _ _ _ _ _ _ HZ.out)) Try.underlying57 rfl HI.out) rfl ⟨rfl, ?_⟩
  exact below_setRow (below_setRow ((Below.refl _ _).alloc (Nat.le_refl _) _) (Nat.le_refl _) _) (Nat.le_refl _) _
end Go.Proofs.Ytmoifihgomjbcaa
