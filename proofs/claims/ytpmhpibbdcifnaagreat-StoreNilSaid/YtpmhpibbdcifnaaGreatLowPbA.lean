/-
  Contracts of book's small calls: counting, tooLong, bound, filled.
  Contracts of book.filled; a row of sectors in memory; book.made.
  Contracts of book.streamOf, book.framesOf; slices.ContainsFunc (is a text too long), slices.Equal.
  Contracts of slices.Equal over texts, of book.recordsOf.
-/
import Derived.Test.YtpmhpibbdcifnaaGreatLowBkP
import Derived.Test.YtpmhpibbdcifnaaGreatLowSecG
import Derived.Test.YtpmhpibbdcifnaaGreatOpen
import Derived.Test.YtpmhpibbdcifnaaGreatLowRd
import Derived.Test.YtpmhpibbdcifnaaGreatLowWireW
import Derived.Test.YtpmhpibbdcifnaaGreatFrameW
import Derived.Test.YtpmhpibbdcifnaaGreatLowFrameS
import Derived.BigQuiet
import Derived.WalkSmall
section
namespace Go.Proofs.YtpmhpibbdcifnaaGreat
open Go.RowKit
attribute [local go_sem ↓] Go.wp_at_zero Go.wp_at_succ

/-- A part of a disk, as a value. -/
def Book.pv (p : Nat) (a n : Int) : Value := .agg #[.pointer (some ⟨p, 0, none⟩), .int .i64 a, .int .i64 n]

set_option maxHeartbeats 1000000 in
set_option maxRecDepth 20000 in
theorem pcounting (x : List UInt8) (hx : x.length = 128) (w : World) :
    Calls Tryz.prog 72 #[.string ⟨x.toArray⟩] w fun e w' => e = .returned (.string ⟨(x.take (Book.fill x)).toArray⟩) ∧ w = w' := by
  obtain ⟨m, hm⟩ : ∃ m : Nat, m = (x.getD 127 0).toNat := ⟨_, rfl⟩
  have hxi : (127 : Nat) < (⟨x.toArray⟩ : ByteArray).size := by show 127 < x.toArray.size; simp; omega
  have hb : wrap64 ((((⟨x.toArray⟩ : ByteArray)[127]'hxi).toNat : Nat) : Int) = (m : Int) := by
    have e : ((⟨x.toArray⟩ : ByteArray)[127]'hxi) = x.getD 127 0 := by
      show x.toArray[127] = _
      simp [List.getD, List.getElem?_eq_getElem (show 127 < x.length by omega)]
    rw [e, ← hm, IntWalk.wrap64_in]
    have := (x.getD 127 0).toNat_lt
    omega
  have hfill : Book.fill x = if m ≤ 127 then m else 0 := by unfold Book.fill; rw [← hm]
  have hex : ∀ j : Nat, (⟨x.toArray⟩ : ByteArray).extract 0 j = ⟨(x.take j).toArray⟩ := fun j => by
    apply ByteArray.ext
    rw [ByteArray.data_extract]
    apply Array.ext'
    simp
  have hxs : (⟨x.toArray⟩ : ByteArray).size = 128 := by show x.toArray.size = 128; simpa using hx
  have HF := Lib.hid hfill
  clear hfill hm
  by_cases m1 : 127 < m
  · have m1i : (127 : Int) < (m : Int) := by omega
    have HF2 : Hid (Book.fill x = 0) := by show _ = _; rw [HF.out, if_neg (by omega)]
    clear HF hex
    go_enter Tryz.func72, Tryz.ntmps72
    go_wp2_with fail
    go_ret
    exact ⟨by rw [HF2.out]; rfl, rfl⟩
  · have m1i : (m : Int) ≤ 127 := by omega
    have m0i : (0 : Int) ≤ (m : Int) := by omega
    have HF2 : Hid (Book.fill x = m) := by show _ = _; rw [HF.out, if_pos (by omega)]
    have hex := hex m
    clear HF
    go_enter Tryz.func72, Tryz.ntmps72
    go_wp2_with fail
    go_ret
    exact ⟨by rw [HF2.out, ← hex]; rfl, rfl⟩

set_option maxHeartbeats 400000 in
theorem ptoolong (t : ByteArray) (ht : t.size ≤ maxLen) (w : World) :
    Calls Tryz.prog 39 #[.string t] w fun e w' => e = .returned (.bool (decide (131072 < t.size))) ∧ w = w' := by
  unfold maxLen at ht
  by_cases h : 131072 < t.size
  · have hi : (131072 : Int) < (t.size : Int) := by omega
    have HD : Hid (decide (131072 < t.size) = true) := by show _ = _; simpa using h
    clear h
    go_enter Tryz.func39, Tryz.ntmps39
    go_wp2_with fail
    go_ret
    exact ⟨by rw [HD.out]; rfl, rfl⟩
  · have hi : ¬ (131072 : Int) < (t.size : Int) := by omega
    have HD : Hid (decide (131072 < t.size) = false) := by show _ = _; simpa using h
    clear h
    go_enter Tryz.func39, Tryz.ntmps39
    go_wp2_with fail
    go_ret
    exact ⟨by rw [HD.out]; rfl, rfl⟩

set_option maxHeartbeats 400000 in
theorem pbound (p : Nat) (a : Int) (n : Nat) (hn : n ≤ 4096) (w : World) :
    Calls Tryz.prog 45 #[Book.pv p a n] w fun e w' => e = .returned (.int .i64 ((n * 127 : Nat) : Int)) ∧ Below w.heap.size w w' := by
  unfold Book.pv
  have hni : (n : Int) ≤ 4096 := by omega
  have hn0 : (0 : Int) ≤ (n : Int) := by omega
  have hm : (n : Int) * 127 = ((n * 127 : Nat) : Int) := by omega
  have HM := Lib.hid hm
  clear hm
  go_enter Tryz.func45, Tryz.ntmps45
  go_wp2_with fail
  go_ret
  exact ⟨by rw [← HM.out]; rfl, (Below.refl _ _).alloc (Nat.le_refl _) _⟩
end Go.Proofs.YtpmhpibbdcifnaaGreat
end

section
namespace Go.Proofs.YtpmhpibbdcifnaaGreat
open Go.RowKit
attribute [local go_sem ↓] Go.wp_at_zero Go.wp_at_succ

theorem arr_arrlen : Tryz.prog.arrayLen 90 = 128 := by kernel_rfl
theorem arr_arrelem : Tryz.prog.elem 90 = 5 := by kernel_rfl
theorem arr_slice (a : Addr) (w : World) : (Instr.sliceAt 90 (.pointer (some a)) none none none).run Tryz.prog w = .ok (.slice (some a) 128 128) w := by
  unfold Instr.sliceAt
  simp [go_sem]
theorem arr_zero (w : World) : (zeroValue 90).run Tryz.prog w = .ok (.agg (Array.replicate 128 (.int .u8 0))) w := by kernel_rfl

set_option maxHeartbeats 2000000 in
set_option maxRecDepth 20000 in
theorem pfilled (t : List UInt8) (ht : t.length ≤ 127) (w : World) :
    Calls Tryz.prog 90 #[.string ⟨t.toArray⟩] w fun e w' => e = .returned (.string ⟨(Book.sect t).toArray⟩) ∧ Below w.heap.size w w' := by
  have hts : (⟨t.toArray⟩ : ByteArray).size = t.length := by show t.toArray.size = _; simp
  have hz : ∀ w : World, (zeroValue 90).run Tryz.prog w = .ok (.agg Sec.zeros) w := fun w => by rw [← Sec.zeros_eq]; exact arr_zero w
  have hne := Sec.zeros_ne
  have hsl := arr_slice ⟨w.heap.size, 0, none⟩
  obtain ⟨p, hp⟩ : ∃ p, p = Sec.pad t := ⟨_, rfl⟩
  have hpl : p.length = 128 := by rw [hp]; exact Sec.pad_len (by omega)
  have HZ : Hid ((w.alloc (.cells Sec.zeros 90)).heap[w.heap.size]? = some (.cells Sec.zeros 90 (0, 0))) := heap_alloc_new w _
  obtain ⟨W1, hW1⟩ : ∃ W1, W1 = (w.alloc (.cells Sec.zeros 90)).setRow w.heap.size (Sec.cel p).toArray := ⟨_, rfl⟩
  have HR : Hid (∀ ty, (Builtin.copy_ #[94, 9] ty #[.slice (some ⟨w.heap.size, 0, none⟩) 128 128, .string ⟨t.toArray⟩]).run Tryz.prog (w.alloc (.cells Sec.zeros 90)) = .ok (goInt (⟨t.toArray⟩ : ByteArray).size) W1) := fun ty => by
    rw [Lib.run_copy_row_string _ _ _ _ 5 w.heap.size 0 128 128 ⟨t.toArray⟩ Sec.zeros 90 Tryz.underlying94 byte_size HZ.out (by rw [hts]; omega) (by rw [Sec.zeros_size]; omega), Sec.pad_cells ⟨t.toArray⟩, hW1, hp]
  have hrow : W1.heap[w.heap.size]? = some (.cells (Sec.cel p).toArray 90 (0, 0)) := by rw [hW1]; exact setRow_heap _ _ _ _ _ _ HZ.out
  have HB : Hid (Below w.heap.size w W1) := by show Below _ _ _; rw [hW1]; exact below_setRow ((Below.refl _ _).alloc (Nat.le_refl _) _) (Nat.le_refl _) _
  have c127 : W1.cell? ⟨w.heap.size, 127, none⟩ = some (.int .u8 ((p.getD 127 0).toNat : Int)) := by
    rw [cell_of_row _ _ _ _ _ _ hrow]
    have := Sec.cel_get p 127 (by omega)
    simpa [List.getD, List.getElem?_eq_getElem (show 127 < p.length by omega)] using this
  have f127 := frozen_of_row W1 w.heap.size 127 _ _ hrow
  have hti : (t.length : Int) ≤ 127 := by omega
  have hcv := sec_convert w.heap.size 0 (Book.sect t) (Book.sect_len ht) (W1.setCell ⟨w.heap.size, 127, none⟩ (.int .u8 (t.length : Int))) (by
    intro j v hv
    rw [Nat.zero_add, cell_of_row _ _ _ _ _ _ (heap_setCell_same _ _ _ _ _ _ hrow), ← hv]
    have e : Book.sect t = p.set 127 (UInt8.ofNat t.length) := by
      rw [hp]
      unfold Book.sect Sec.pad
      rw [show 128 - t.length = (127 - t.length) + 1 by omega, List.replicate_succ', ← List.append_assoc]
      rw [List.set_append_right _ _ (by simp; omega)]
      simp
      rw [show 127 - (t.length + (127 - t.length)) = 0 by omega]
      rfl
    rw [e]
    unfold Sec.cel
    rw [List.map_set]
    have : ((UInt8.ofNat t.length).toNat : Int) = (t.length : Int) := by rw [UInt8.toNat_ofNat']; omega
    rw [this]
    simp)
  clear hp hW1 hrow
  go_enter Tryz.func90, Tryz.ntmps90
  go_wp2_with (first
    | refine Lib.wpList_copy_run _ rfl (.tmp 4) (.tmp 5) 94 9 rfl _ _ rfl rfl (HR.out _) ?_)
  go_ret
  exact ⟨rfl, HB.out.setCell (p := ⟨w.heap.size, 127, none⟩) (Nat.le_refl _) _⟩

namespace Book
/-- A row of texts in a block of its own. -/
def Row (G : Nat) (l : List (List UInt8)) (w : World) : Prop := w.heap[G]? = some (.cells (tcells (l.map fun x => ⟨x.toArray⟩)).toArray 9 (0, 0))
variable {G : Nat} {l : List (List UInt8)} {w w' : World}
theorem Row.ltb (h : Row G l w) : G < w.heap.size := Sec.lt_of_heap h
theorem Row.keep (h : Row G l w) (hk : w'.heap[G]? = w.heap[G]?) : Row G l w' := hk.trans h
theorem Row.below (h : Row G l w) (hb : Below w.heap.size w w') : Row G l w' := h.keep (hb.block _ h.ltb)
theorem Row.cell (h : Row G l w) {i : Nat} (hi : i < l.length) : w.cell? ⟨G, i, none⟩ = some (.string ⟨(l.getD i []).toArray⟩) := by
  rw [cell_of_row _ _ _ _ _ _ h]
  unfold tcells
  simp [List.getD, List.getElem?_eq_getElem hi]
theorem Row.fro (h : Row G l w) (i : Nat) : w.frozen? ⟨G, i, none⟩ = false := frozen_of_row _ _ _ _ _ h
theorem Row.set (h : Row G l w) (i : Nat) (y : List UInt8) : Row G (l.set i y) (w.setCell ⟨G, i, none⟩ (.string ⟨y.toArray⟩)) := by
  unfold Row
  rw [heap_setCell_same _ _ _ _ _ _ h]
  unfold tcells
  simp [List.map_set]
theorem Row.lies (h : Row G l w) : Lies w w.heap.size (some ⟨G, 0, none⟩) (tcells (l.map fun x => ⟨x.toArray⟩)) := fun _ =>
  ⟨⟨G, 0, none⟩, rfl, h.ltb, fun j u hu => by
    rw [Addr.add_mid, Nat.zero_add, cell_of_row _ _ _ _ _ _ h]
    simpa using hu⟩
theorem row_made (n : Nat) (w : World) : Row w.heap.size (List.replicate n []) (w.alloc (.cells (madeCells #[.string ByteArray.empty] n) 9)) := by
  unfold Row
  rw [heap_alloc_new]
  congr 2
  unfold tcells madeCells
  apply Array.ext
  · simp
  · intro i h1 h2
    simp [Nat.mod_one]
    rfl
/-- The first k of n made, the others still none. -/
def front (f : Nat → List UInt8) (n k : Nat) : List (List UInt8) := (List.range k).map f ++ List.replicate (n - k) []
theorem front_len {f : Nat → List UInt8} {n k : Nat} (h : k ≤ n) : (front f n k).length = n := by simp [front]; omega
theorem front_zero (f : Nat → List UInt8) (n : Nat) : front f n 0 = List.replicate n [] := by simp [front]
theorem front_all (f : Nat → List UInt8) (n : Nat) : front f n n = (List.range n).map f := by simp [front]
theorem front_succ (f : Nat → List UInt8) {n k : Nat} (h : k < n) : (front f n k).set k (f k) = front f n (k + 1) := by
  unfold front
  rw [List.set_append_right _ _ (by simp), show n - k = (n - (k + 1)) + 1 by omega, List.replicate_succ, List.range_succ, List.map_append]
  simp
end Book

set_option maxHeartbeats 2000000 in
set_option maxRecDepth 20000 in
theorem pmade (xs : List UInt8) (n : Nat) (hn : n ≤ 4096) (hxs : xs.length ≤ 1000000) (w : World) :
    Calls Tryz.prog 63 #[.string ⟨xs.toArray⟩, .int .i64 (n : Int)] w fun e w' => ∃ G, e = .returned (.slice (some ⟨G, 0, none⟩) n n) ∧ w.heap.size ≤ G ∧ Book.Row G ((List.range n).map (Book.made xs)) w' ∧ Below w.heap.size w w' := by
  have hni : (n : Int) ≤ 4096 := by omega
  have hmk := run_make_row' (P := Tryz.prog) 25 9 (.string ByteArray.empty) 16 Tryz.underlying25 str_info rfl .i64 .i64 n (by omega) (by omega)
  have HM := Lib.hid (Book.row_made n w)
  go_enter Tryz.func63, Tryz.ntmps63
  go_wp2_with fail
  go_loopw [0, 12] (fun st t wr => ∃ k : Nat, k ≤ n ∧ t = .int .i64 k ∧ st = .string ⟨(xs.drop (k * 127)).toArray⟩ ∧ Hid (Book.Row w.heap.size (Book.front (Book.made xs) n k) wr) ∧ Hid (Below w.heap.size w wr)) (fun _ t _ => n - (intOf t).toNat)
  case atStart => exact ⟨0, Nat.zero_le _, rfl, by simp, by show Book.Row _ _ _; rw [Book.front_zero]; exact HM.out, (Below.refl _ _).alloc (Nat.le_refl _) _⟩
  case round =>
    obtain ⟨k, hk, rfl, rfl, HROW, HB⟩ := hrel
    by_cases hlt : k < n
    · have hk0 : (0 : Int) ≤ (k : Int) := by omega
      have hk1 : (k : Int) < (n : Int) := by omega
      obtain ⟨y, hy⟩ : ∃ y, y = xs.drop (k * 127) := ⟨_, rfl⟩
      have hyl : y.length ≤ 1000000 := by rw [hy, List.length_drop]; omega
      have hys : (⟨y.toArray⟩ : ByteArray).size = y.length := by show y.toArray.size = _; simp
      obtain ⟨m, hm⟩ : ∃ m, m = min y.length 127 := ⟨_, rfl⟩
      have hmin : min (y.length : Int) 127 = (m : Int) := by omega
      have hmi : (m : Int) ≤ (y.length : Int) := by omega
      have hm0 : (0 : Int) ≤ (m : Int) := by omega
      have hex : (⟨y.toArray⟩ : ByteArray).extract 0 m = ⟨(y.take 127).toArray⟩ := by rw [Book.ex_take, hm, Book.take_min]
      have hex2 : (⟨y.toArray⟩ : ByteArray).extract m y.length = ⟨(xs.drop ((k + 1) * 127)).toArray⟩ := by
        rw [Book.ex_drop, hm, Book.drop_min, show (k + 1) * 127 = k * 127 + 127 by omega, ← List.drop_drop, ← hy]
      have HFL : Hid (∀ wx : World, Calls Tryz.prog 90 #[.string ⟨(y.take 127).toArray⟩] wx fun e w' => e = .returned (.string ⟨(Book.made xs k).toArray⟩) ∧ Below wx.heap.size wx w') := fun wx => by
        have := pfilled (y.take 127) (by rw [List.length_take]; omega) wx
        rwa [hy] at this ⊢
      have HSUCC := Lib.hid (Book.front_succ (Book.made xs) hlt)
      generalize Book.made xs k = mk at HFL HSUCC
      rw [← hy]
      clear hm hy
      go_wp2_with fail
      refine (HFL.out _).mono ?_
      rintro e w1 ⟨rfl, hb⟩
      have HR1 := Lib.hid (HROW.out.below hb)
      have HB1 := Lib.hid (HB.out.trans (hb.mono HB.out.size))
      have hl := Book.front_len (f := Book.made xs) (Nat.le_of_lt hlt)
      have c := HR1.out.cell (i := k) (by rw [hl]; exact hlt)
      have f := HR1.out.fro k
      clear hb hl
      go_wp2_with fail
      go_roundw
      case rel => exact ⟨k + 1, by omega, by go_num, rfl, by show Book.Row _ _ _; rw [← HSUCC.out]; exact HR1.out.set k mk, HB1.out.setCell (p := ⟨w.heap.size, k, none⟩) (Nat.le_refl _) _⟩
      case measure => simp [intOf]; omega
    · obtain rfl : k = n := by omega
      have HR2 : Hid (Book.Row w.heap.size ((List.range k).map (Book.made xs)) wr) := by
        have := HROW.out
        rwa [Book.front_all] at this
      go_wp2_with fail
      go_ret
      exact ⟨w.heap.size, rfl, Nat.le_refl _, HR2.out, HB.out⟩
end Go.Proofs.YtpmhpibbdcifnaaGreat
end

section
namespace Go.Proofs.YtpmhpibbdcifnaaGreat
open Go.RowKit
attribute [local go_sem ↓] Go.wp_at_zero Go.wp_at_succ

set_option maxHeartbeats 2000000 in
set_option maxRecDepth 20000 in
theorem pstream (l : List (List UInt8)) (hl : l.length ≤ 4096) (hz : ∀ x ∈ l, x.length = 128) (A : Option Addr) (c : Nat) (w : World) (hli : Lies w w.heap.size A (tcells (l.map fun x => ⟨x.toArray⟩))) :
    Calls Tryz.prog 51 #[.slice A l.length c] w fun e w' => e = .returned (.string ⟨(Book.stream l).toArray⟩) ∧ Below w.heap.size w w' := by
  have hfresh := Lib.fresh_isBuilder 113 5 w
  have HF := Lib.hid hfresh
  have HL := Lib.hid hli
  have HZ := Lib.hid hz
  have hl2 : (l.length : Int) ≤ 4096 := by omega
  clear hli hz hfresh
  go_enter Tryz.func51, Tryz.ntmps51
  go_wp2_with fail
  go_loopw [9] (fun t wr => ∃ (k : Nat) (acc : List UInt8), k ≤ l.length ∧ t = .int .i64 k ∧ Hid (Lib.IsBuilder 113 5 w.heap.size w.heap.size (Lib.byteCells acc) wr) ∧ acc.length ≤ k * 127 ∧ Hid (Book.stream l = acc ++ Book.stream (l.drop k)) ∧ Hid (Below w.heap.size w wr)) (fun t _ => l.length - (intOf t).toNat)
  case atStart => exact ⟨0, [], Nat.zero_le _, rfl, HF.out, Nat.zero_le _, by show _ = _; simp, (Below.refl _ _).alloc (Nat.le_refl _) _⟩
  case round =>
    obtain ⟨k, acc, hk, rfl, HB, hacc, HE, HW⟩ := hrel
    have hbs := HW.out.size
    by_cases hlt : k < l.length
    · have hkm : k < (l.map fun x => (⟨x.toArray⟩ : ByteArray)).length := by simpa using hlt
      obtain ⟨ad, rfl, hb, hc⟩ := (HL.out.below HW.out).at_ (tcells_at hkm)
      clear hb
      rw [List.getElem_map] at hc
      have hx := HZ.out l[k] (List.getElem_mem hlt)
      have HD := Lib.hid (List.drop_eq_getElem_cons hlt)
      have hk0 : (0 : Int) ≤ (k : Int) := by omega
      have hk1 : (k : Int) < (l.length : Int) := by omega
      generalize l[k] = x at hc hx HD
      have HC : Hid (∀ wx : World, Calls Tryz.prog 72 #[.string ⟨x.toArray⟩] wx fun e w' => e = .returned (.string ⟨(x.take (Book.fill x)).toArray⟩) ∧ wx = w') := fun wx => pcounting x hx wx
      have hfl := Book.fill_le x
      have HS : Hid (Book.stream l = acc ++ if Book.fill x < 127 then x.take (Book.fill x) else x.take (Book.fill x) ++ Book.stream (l.drop (k + 1))) := by
        show _ = _
        rw [HE.out, HD.out, Book.stream]
      obtain ⟨y, hy⟩ : ∃ y, y = x.take (Book.fill x) := ⟨_, rfl⟩
      have hyl : y.length = Book.fill x := by rw [hy, List.length_take]; omega
      rw [← hy] at HC HS
      generalize Book.fill x = m at hyl hfl HS
      subst hyl
      have hys : (⟨y.toArray⟩ : ByteArray).size = y.length := by show y.toArray.size = _; simp
      clear hy HE HD hkm
      go_wp2_with fail
      refine (HC.out _).mono ?_
      rintro e w1 ⟨rfl, rfl⟩
      go_wp2_with fail
      refine (write_any w.heap.size w.heap.size _ _ _ HB.out (by rw [Lib.byteCells_length, hys]; omega) (by omega)).mono ?_
      rintro e w2 ⟨rfl, hB2, hb2⟩
      have HB2 : Hid (Lib.IsBuilder 113 5 w.heap.size w.heap.size (Lib.byteCells (acc ++ y)) w2) := by
        show Lib.IsBuilder _ _ _ _ _ _
        rw [Lib.byteCells_append]
        rw [Lib.strCells_eq] at hB2
        exact .inr hB2
      have HW2 := Lib.hid (HW.out.trans hb2)
      clear hB2 hb2
      by_cases m1 : y.length < 127
      · have HS2 : Hid (Book.stream l = acc ++ y) := by show _ = _; rw [HS.out, if_pos m1]
        have m1i : (y.length : Int) < 127 := by omega
        clear HS
        go_wp2_with fail
        refine (Sh.Builder_String_any w.heap.size w.heap.size _ _ HB2.out HW2.out.size).mono ?_
        rintro e w3 ⟨rfl, hb3⟩
        go_wp2_with fail
        go_ret
        exact ⟨by rw [HS2.out]; rfl, HW2.out.trans hb3⟩
      · have HS2 : Hid (Book.stream l = (acc ++ y) ++ Book.stream (l.drop (k + 1))) := by show _ = _; rw [HS.out, if_neg m1, List.append_assoc]
        have m1i : ¬ (y.length : Int) < 127 := by omega
        clear HS
        go_wp2_with fail
        go_roundw
        case rel => exact ⟨k + 1, acc ++ y, by omega, by go_num, HB2.out, by rw [List.length_append]; omega, HS2.out, HW2.out⟩
        case measure => simp [intOf]; omega
    · have HS2 : Hid (Book.stream l = acc) := by
        show _ = _
        rw [HE.out, List.drop_of_length_le (by omega), Book.stream, List.append_nil]
      clear HE
      go_wp2_with fail
      refine (Sh.Builder_String_any w.heap.size w.heap.size _ _ HB.out HW.out.size).mono ?_
      rintro e w3 ⟨rfl, hb3⟩
      go_wp2_with fail
      go_ret
      exact ⟨by rw [HS2.out]; rfl, HW.out.trans hb3⟩

/-- Records that came in, as frames. -/
def Book.frb (xs : List ByteArray) : List UInt8 := Book.frs (xs.map fun x => x.data.toList)
theorem Book.frb_le (xs : List ByteArray) (k : Nat) : (Book.frb (xs.take k)).length ≤ (Book.frb xs).length := by
  unfold Book.frb
  conv => rhs; rw [← List.take_append_drop k xs, List.map_append, Book.frs_app, List.length_append]
  omega
theorem Book.frb_succ (xs : List ByteArray) (k : Nat) (h : k < xs.length) : Book.frb (xs.take (k + 1)) = Book.frb (xs.take k) ++ Frame.raw 1 xs[k].data.toList := by
  unfold Book.frb
  rw [List.take_succ_eq_append_getElem h, List.map_append, Book.frs_app]
  simp [Book.frs]

set_option maxHeartbeats 2000000 in
set_option maxRecDepth 20000 in
theorem pframes (xs : List ByteArray) (hx : ∀ x ∈ xs, x.size ≤ 131072) (hs : (Book.frb xs).length ≤ 1000000) (A : Option Addr) (c : Nat) (w : World) (hn : xs.length ≤ maxLen) (hli : Lies w w.heap.size A (tcells xs)) :
    Calls Tryz.prog 43 #[.slice A xs.length c] w fun e w' => e = .returned (.string ⟨(Book.frb xs).toArray⟩) ∧ Below w.heap.size w w' := by
  unfold maxLen at hn
  have hfresh := Lib.fresh_isBuilder 113 5 w
  have HF := Lib.hid hfresh
  have HL := Lib.hid hli
  have HX := Lib.hid hx
  clear hli hx hfresh
  go_enter Tryz.func43, Tryz.ntmps43
  go_wp2_with fail
  go_loopw [10] (fun t wr => ∃ (k : Nat) (acc : List UInt8), k ≤ xs.length ∧ t = .int .i64 k ∧ Hid (Lib.IsBuilder 113 5 w.heap.size w.heap.size (Lib.byteCells acc) wr) ∧ acc.length ≤ 1000000 ∧ Hid (Book.frb (xs.take k) = acc) ∧ Hid (Below w.heap.size w wr)) (fun t _ => xs.length - (intOf t).toNat)
  case atStart => exact ⟨0, [], Nat.zero_le _, rfl, HF.out, Nat.zero_le _, rfl, (Below.refl _ _).alloc (Nat.le_refl _) _⟩
  case round =>
    obtain ⟨k, acc, hk, rfl, HB, hacc, HE, HW⟩ := hrel
    have hbs := HW.out.size
    by_cases hlt : k < xs.length
    · obtain ⟨ad, rfl, hb, hc⟩ := (HL.out.below HW.out).at_ (tcells_at hlt)
      clear hb
      have hxl := HX.out xs[k] (List.getElem_mem hlt)
      have HS := Lib.hid (Book.frb_succ xs k hlt)
      have hle := Book.frb_le xs (k + 1)
      have hk0 : (0 : Int) ≤ (k : Int) := by omega
      have hk1 : (k : Int) < (xs.length : Int) := by omega
      generalize xs[k] = x at hc hxl HS
      rw [HE.out] at HS
      have HWR : Hid (∀ wx : World, wx.cell? ⟨wr.heap.size, 0, none⟩ = some (.string x) → wr.heap.size < wx.heap.size → Calls Tryz.prog 64 #[.int .u8 1, .slice (some ⟨wr.heap.size, 0, none⟩) 1 1] wx fun e w' => e = .returned (.tuple #[.string ⟨(Frame.raw 1 x.data.toList).toArray⟩, .int .i64 0]) ∧ Below wx.heap.size wx w') := fun wx h1 h2 => by
        have := fwrite_tail 1 [x] (some ⟨wr.heap.size, 0, none⟩) 1 wx (lies_one wx _ x h1 h2) (by simp [maxLen]) (by simp) (by simpa [catL] using hxl)
        simpa [catL] using this
      have hr := Frame.raw_length 1 x.data.toList
      have hr2 : (Frame.raw 1 x.data.toList).length ≤ 1000000 := by
        have := congrArg List.length HS.out
        rw [List.length_append] at this
        omega
      have hacc2 : (acc ++ Frame.raw 1 x.data.toList).length ≤ 1000000 := by
        have := congrArg List.length HS.out
        omega
      generalize Frame.raw 1 x.data.toList = r at HS HWR hr2 hacc2
      have hrs : (⟨r.toArray⟩ : ByteArray).size = r.length := by show r.toArray.size = _; simp
      have hcn : (wr.alloc (.cells #[.string x] 9)).cell? ⟨wr.heap.size, 0, none⟩ = some (.string x) := World.news_of_block (heap_alloc_new wr (.cells #[.string x] 9)) 0 _ rfl
      have hbn : Hid (Lib.IsBuilder 113 5 w.heap.size w.heap.size (Lib.byteCells acc) (wr.alloc (.cells #[.string x] 9))) := bld_keep HB.out ((Below.refl _ _).alloc (Nat.le_refl _) _)
      have HW1 : Hid (Below w.heap.size w (wr.alloc (.cells #[.string x] 9))) := HW.out.alloc hbs _
      clear HE hle hr
      go_wp2_with fail
      refine (HWR.out _ hcn (by simp)).mono ?_
      rintro e w1 ⟨rfl, hb1⟩
      have HB1 := Lib.hid (bld_keep hbn.out hb1)
      have HW2 := Lib.hid (HW1.out.trans (hb1.mono HW1.out.size))
      clear hb1 hcn
      go_wp2_with fail
      refine (write_any w.heap.size w.heap.size _ _ _ HB1.out (by rw [Lib.byteCells_length, hrs]; omega) HW2.out.size).mono ?_
      rintro e w2 ⟨rfl, hB2, hb2⟩
      have HB2 : Hid (Lib.IsBuilder 113 5 w.heap.size w.heap.size (Lib.byteCells (acc ++ r)) w2) := by
        show Lib.IsBuilder _ _ _ _ _ _
        rw [Lib.byteCells_append]
        rw [Lib.strCells_eq] at hB2
        exact .inr hB2
      have HW3 := Lib.hid (HW2.out.trans hb2)
      clear hB2 hb2
      go_wp2_with fail
      go_roundw
      case rel => exact ⟨k + 1, acc ++ r, by omega, by go_num, HB2.out, hacc2, HS.out, HW3.out⟩
      case measure => simp [intOf]; omega
    · have HS2 : Hid (Book.frb xs = acc) := by
        show _ = _
        rw [← HE.out, List.take_of_length_le (by omega)]
      clear HE
      go_wp2_with fail
      refine (Sh.Builder_String_any w.heap.size w.heap.size _ _ HB.out HW.out.size).mono ?_
      rintro e w3 ⟨rfl, hb3⟩
      go_wp2_with fail
      go_ret
      exact ⟨by rw [HS2.out]; rfl, HW.out.trans hb3⟩

/-- What slices.IndexFunc comes to, as far as slices.ContainsFunc asks. -/
def Book.Longs (xs : List ByteArray) (w : World) (e : Ending) (w' : World) : Prop := ∃ i : Int, e = .returned (.int .i64 i) ∧ ((0 ≤ i ∧ ∃ x ∈ xs, 131072 < x.size) ∨ (i = -1 ∧ ∀ x ∈ xs, x.size ≤ 131072)) ∧ w = w'

set_option maxHeartbeats 1000000 in
theorem pindexlong (xs : List ByteArray) (A : Option Addr) (c : Nat) (w : World) (hn : xs.length ≤ maxLen) (hx : ∀ x ∈ xs, x.size ≤ maxLen) (hli : Lies w w.heap.size A (tcells xs)) :
    Calls Tryz.prog 61 #[.slice A xs.length c, .func (.func 39) #[] #[]] w (Book.Longs xs w) := by
  unfold maxLen at hn
  have HL := Lib.hid hli
  have HX := Lib.hid hx
  clear hli hx
  go_enter Tryz.func61, Tryz.ntmps61
  go_wp2_with fail
  go_loop [8] (fun i => ∃ k : Nat, k ≤ xs.length ∧ i = .int .i64 k ∧ Hid (∀ x ∈ xs.take k, x.size ≤ 131072)) (fun i => xs.length - (intOf i).toNat)
  case atStart => exact ⟨0, Nat.zero_le _, rfl, fun x hx => by simp at hx⟩
  case round =>
    obtain ⟨k, hk, rfl, HN⟩ := hrel
    by_cases hlt : k < xs.length
    · obtain ⟨ad, rfl, hb, hc⟩ := HL.out.at_ (tcells_at hlt)
      clear hb
      have HM := Lib.hid (List.getElem_mem hlt)
      have HT := Lib.hid (List.take_succ_eq_append_getElem hlt)
      generalize xs[k] = x at hc HM HT
      have HC : Hid (Calls Tryz.prog 39 #[.string x] w fun e w' => e = .returned (.bool (decide (131072 < x.size))) ∧ w = w') := ptoolong x (HX.out x HM.out) w
      by_cases he : 131072 < x.size
      · have HE := Lib.hid he
        have hd : decide (131072 < x.size) = true := by simpa using he
        rw [hd] at HC
        clear he hd
        go_wp2_with fail
        refine HC.out.mono ?_
        rintro e w1 ⟨rfl, rfl⟩
        go_wp2_with fail
        go_ret
        exact ⟨k, rfl, .inl ⟨by omega, x, HM.out, HE.out⟩, rfl⟩
      · have HE := Lib.hid he
        have hd : decide (131072 < x.size) = false := by simpa using he
        rw [hd] at HC
        clear he hd
        go_wp2_with fail
        refine HC.out.mono ?_
        rintro e w1 ⟨rfl, rfl⟩
        go_wp2_with fail
        go_round
        case rel =>
          refine ⟨k + 1, by omega, by go_num, fun y hy => ?_⟩
          rw [HT.out] at hy
          rcases List.mem_append.1 hy with hy | hy
          · exact HN.out y hy
          · rw [List.mem_singleton.1 hy]
            have := HE.out
            omega
        case measure => simp [intOf]; omega
    · have HA : Hid (∀ x ∈ xs, x.size ≤ 131072) := by
        have := HN.out
        rwa [List.take_of_length_le (by omega)] at this
      go_wp2_with fail
      go_ret
      exact ⟨-1, rfl, .inr ⟨rfl, HA.out⟩, rfl⟩

/-- Has one of these texts too many bytes? -/
def Book.long (xs : List ByteArray) : Bool := xs.any fun x => decide (131072 < x.size)

set_option maxHeartbeats 400000 in
theorem pcontains (xs : List ByteArray) (A : Option Addr) (c : Nat) (w : World) (hn : xs.length ≤ maxLen) (hx : ∀ x ∈ xs, x.size ≤ maxLen) (hli : Lies w w.heap.size A (tcells xs)) :
    Calls Tryz.prog 38 #[.slice A xs.length c, .func (.func 39) #[] #[]] w fun e w' => e = .returned (.bool (Book.long xs)) ∧ w = w' := by
  have HC := Lib.hid (pindexlong xs A c w hn hx hli)
  clear hn hx hli
  go_enter Tryz.func38, Tryz.ntmps38
  go_wp2_with fail
  refine HC.out.mono ?_
  rintro e w1 ⟨i, rfl, hi, rfl⟩
  rcases hi with ⟨hi, x, hx, hl⟩ | ⟨rfl, ha⟩
  · have HD : Hid (Book.long xs = true) := by
      show _ = _
      unfold Book.long
      rw [List.any_eq_true]
      exact ⟨x, hx, by simpa using hl⟩
    have hb : decide (0 ≤ i) = true := by simpa using hi
    go_wp2_with fail
    go_ret
    exact ⟨by rw [HD.out]; rfl, rfl⟩
  · have HD : Hid (Book.long xs = false) := by
      show _ = _
      unfold Book.long
      rw [List.any_eq_false]
      intro x hx
      have := ha x hx
      simp
      omega
    clear ha
    go_wp2_with fail
    go_ret
    exact ⟨by rw [HD.out]; rfl, rfl⟩
end Go.Proofs.YtpmhpibbdcifnaaGreat
end

section
namespace Go.Proofs.YtpmhpibbdcifnaaGreat
open Go.RowKit
attribute [local go_sem ↓] Go.wp_at_zero Go.wp_at_succ

set_option maxRecDepth 20000 in
set_option maxHeartbeats 1000000 in
theorem pequal (l m : List ByteArray) (A B : Option Addr) (ca cb : Nat) (w : World) (ha : Lies w w.heap.size A (tcells l)) (hb : Lies w w.heap.size B (tcells m)) (hlm : l.length = m.length) (hl : l.length ≤ maxLen) :
    Calls Tryz.prog 96 #[.slice A l.length ca, .slice B m.length cb] w fun e w' => e = .returned (.bool (decide (l = m))) ∧ Below w.heap.size w w' := by
  unfold maxLen at hl
  have HA := Lib.hid ha
  have HB := Lib.hid hb
  clear ha hb
  have hz : ((l.length : Int) != (m.length : Int)) = false := by simp [hlm]
  have HLM := Lib.hid hlm
  clear hlm
  go_enter Tryz.func96, Tryz.ntmps96
  go_wp2_with fail
  go_loopw [13] (fun i wr => ∃ k : Nat, k ≤ l.length ∧ i = .int .i64 k ∧ Hid (l.take k = m.take k) ∧ Below w.heap.size w wr) (fun i _ => l.length - (intOf i).toNat)
  case atStart => exact ⟨0, Nat.zero_le _, rfl, by show _ = _; simp, Below.refl _ _⟩
  case round =>
    obtain ⟨k, hk, rfl, HE, hbel⟩ := hrel
    by_cases hlt : k < l.length
    · have hlt2 : k < m.length := by have := HLM.out; omega
      obtain ⟨p, rfl, hpb, hp0⟩ := (HA.out.below hbel).at_ (tcells_at hlt)
      obtain ⟨q, rfl, hqb, hq0⟩ := (HB.out.below hbel).at_ (tcells_at hlt2)
      have k0 : (0 : Int) ≤ (k : Int) := by omega
      have k1 : (k : Int) < l.length := by omega
      have k2 : (k : Int) < m.length := by omega
      have HS : Hid (l[k] = m[k] → l.take (k + 1) = m.take (k + 1)) := fun e => by
        rw [List.take_succ_eq_append_getElem hlt, List.take_succ_eq_append_getElem hlt2, HE.out, e]
      have HD : Hid (l[k] ≠ m[k] → decide (l = m) = false) := fun hne => by
        rw [decide_eq_false_iff_not]
        intro e
        subst e
        exact hne rfl
      generalize l[k] = x at hp0 HS HD
      generalize m[k] = y at hq0 HS HD
      by_cases e : x = y
      · subst e
        have HS2 := Lib.hid (HS.out rfl)
        clear HD
        go_wp2_with fail
        go_region
        go_wp2_with fail
        go_roundw
        case rel => exact ⟨k + 1, by omega, by go_num, HS2.out, hbel.drew⟩
        case measure => simp [intOf]; omega
      · have e2 : (x.toList == y.toList) = false := by
          rw [beq_eq_false_iff_ne]
          intro h
          rw [Lib.toList_data, Lib.toList_data] at h
          exact e (ByteArray.ext (Array.ext' h))
        have HD2 := Lib.hid (HD.out e)
        clear HS HD
        go_wp2_with fail
        go_region
        go_wp2_with fail
        go_ret
        exact ⟨by rw [HD2.out]; rfl, hbel.drew⟩
    · have HD : Hid (decide (l = m) = true) := by
        show _ = _
        rw [decide_eq_true_iff]
        have h1 := HE.out
        have h2 := HLM.out
        rw [List.take_of_length_le (by omega), List.take_of_length_le (by omega)] at h1
        exact h1
      go_wp2_with fail
      go_ret
      exact ⟨by rw [HD.out]; rfl, hbel⟩

theorem Book.base_lo {w : World} {B B' : Nat} {e : TypeId} {size n : Nat} {v : Value} {xs : List Value} (h : w.ownsRow B e size v n xs) (hB : B' ≤ B) : w.ownsRow B' e size v n xs := by
  refine ⟨h.1, ?_⟩
  rcases h.2 with hn | ⟨g, cap, cur, e1, hg1, hg, rest⟩
  · exact .inl hn
  · exact .inr ⟨g, cap, cur, e1, Nat.le_trans hB hg1, hg, rest⟩
theorem Book.pair2 (A : Addr) (k : Nat) : (⟨(A.add (k * 2)).block, (A.add (k * 2)).off + 1, none⟩ : Addr) = A.add (2 * k + 1) := by
  unfold Addr.add
  by_cases h : k = 0
  · subst h; simp
  · rw [if_neg (by omega), if_neg (by omega)]
    simp
    omega
/-- The frame of a text has as many bytes as frame.Size tells. -/
theorem Book.fsz_raw (tag : UInt8) {x : List UInt8} (h : x.length ≤ 131072) : Frame.fsz (x.length : Int) = ((Frame.raw tag x).length : Int) := by
  unfold Frame.fsz
  rw [if_neg (by omega), Frame.raw_length]
  simp

set_option maxHeartbeats 4000000 in
set_option maxRecDepth 20000 in
theorem precords (s : ByteArray) (w : World) (hs : s.size ≤ 1000000) (l : List (UInt8 × List UInt8)) (hl : l = (Frame.sc s.data.toList 131072).1) :
    Calls Tryz.prog 50 #[.string s] w fun e w' => ∃ A c, e = .returned (.tuple #[.slice A (Book.recs l).1.length c, .string ⟨(s.data.toList.take (Book.recs l).2).toArray⟩]) ∧
      w'.ownsRow w.heap.size 9 1 (.slice A (Book.recs l).1.length c) (Book.recs l).1.length (tcells ((Book.recs l).1.map fun x => ⟨x.toArray⟩)) ∧ Below w.heap.size w w' := by
  have HLL : Hid (l.length ≤ 1000000) := by
    show l.length ≤ _
    rw [hl]
    exact Nat.le_trans (Frame.sc_len _ _) hs
  have HTX : Hid (∀ f ∈ l, f.2.length ≤ 131072) := by
    show ∀ f ∈ l, _
    rw [hl]
    exact Book.sc_text _ _
  have HSR : Hid ((Book.recs l).2 ≤ s.size) := by
    show _ ≤ _
    rw [hl]
    exact Book.sc_recs _ _
  have HEX : Hid (∀ m : Nat, s.extract 0 m = ⟨(s.data.toList.take m).toArray⟩) := fun m => by
    have := Book.ex_take s.data.toList m
    simpa using this
  go_enter Tryz.func50, Tryz.ntmps50
  go_wp2_with fail
  refine (fscan_any s 131072 _ (by omega) hs).mono ?_
  unfold Frame.ScanOut
  rw [← hl]
  rintro e w1 ⟨A, c, rfl, hc, hli, hb⟩
  have HLI := Lib.hid hli
  have HB := Lib.hid hb
  have hll := HLL.out
  have hll2 : (l.length : Int) ≤ 1000000 := by omega
  clear hli hb hl hc
  generalize (Frame.sc s.data.toList 131072).2.1 = p0
  generalize (Frame.sc s.data.toList 131072).2.2 = e0
  obtain ⟨i0, hi, hz0, hz1, hz2⟩ := info_parts str_info
  have HI := Lib.hid hi
  have HZ0 := Lib.hid hz0
  have HZ1 := Lib.hid hz1
  have HZ2 := Lib.hid hz2
  clear hi hz0 hz1 hz2
  go_wp2_with fail
  go_loopw [2, 4, 18] (fun O nn t wr => ∃ (A2 : Option Addr) (c2 : Nat) (pre : List (List UInt8)) (m k : Nat), O = .slice A2 pre.length c2 ∧ nn = .int .i64 m ∧ t = .int .i64 k ∧ k ≤ l.length ∧ pre.length ≤ k ∧ m ≤ k * 131088 ∧
      Hid (Book.recs l = (pre ++ (Book.recs (l.drop k)).1, m + (Book.recs (l.drop k)).2)) ∧ Hid (wr.ownsRow w1.heap.size 9 1 (.slice A2 pre.length c2) pre.length (tcells (pre.map fun x => ⟨x.toArray⟩))) ∧ Hid (Below w1.heap.size w1 wr)) (fun _ _ t _ => l.length - (intOf t).toNat)
  case atStart => exact ⟨none, 0, [], 0, 0, rfl, rfl, rfl, Nat.zero_le _, Nat.le_refl _, Nat.zero_le _, by show _ = _; simp, World.ownsRow_nil _ _ _ _, Below.refl _ _⟩
  case round =>
    obtain ⟨A2, c2, pre, m, k, rfl, rfl, rfl, hk, hpk, hmk, HR, HROW, HB1⟩ := hrel
    have hws := HB.out.size
    have hws1 := HB1.out.size
    by_cases hlt : k < l.length
    · have HCEL : Hid (∀ wx, Below w1.heap.size w1 wx → ∃ q : Addr, A = some q ∧ wx.cell? (q.add (k * 2)) = some (.int .u8 (l[k].1.toNat : Int)) ∧ wx.cell? ⟨(q.add (k * 2)).block, (q.add (k * 2)).off + 1, none⟩ = some (.string ⟨l[k].2.toArray⟩)) := fun wx hbx => by
        obtain ⟨a0, a1⟩ := Frame.fcells_at l k hlt
        obtain ⟨q, rfl, _, hp0⟩ := (HLI.out.below hbx).at_ a0
        obtain ⟨q', hp', _, hp1⟩ := (HLI.out.below hbx).at_ a1
        cases hp'
        exact ⟨q, rfl, by rw [Nat.mul_comm]; exact hp0, by rw [Book.pair2]; exact hp1⟩
      have HDR := Lib.hid (List.drop_eq_getElem_cons hlt)
      have hxl := HTX.out l[k] (List.getElem_mem hlt)
      have k0 : (0 : Int) ≤ (k : Int) := by omega
      have k1 : (k : Int) < (l.length : Int) := by omega
      generalize l[k] = f at HCEL HDR hxl
      obtain ⟨tg, x⟩ := f
      simp only [] at HCEL hxl
      obtain ⟨q, rfl, hq0, hq1⟩ := HCEL.out _ HB1.out
      by_cases ht : tg = 1
      · subst ht
        have hq0 : wr.cell? (q.add (k * 2)) = some (.int .u8 1) := hq0
        have HR2 : Hid (Book.recs l = ((pre ++ [x]) ++ (Book.recs (l.drop (k + 1))).1, (m + (Frame.raw 1 x).length) + (Book.recs (l.drop (k + 1))).2)) := by
          show _ = _
          rw [HR.out, HDR.out, Book.recs, if_pos rfl]
          simp [Nat.add_assoc]
        have hxs : (⟨x.toArray⟩ : ByteArray).size = x.length := by show x.toArray.size = _; simp
        have HSZ : Hid (∀ wx : World, Calls Tryz.prog 34 #[.int .i64 (x.length : Int)] wx fun e w' => e = .returned (.int .i64 ((Frame.raw 1 x).length : Int)) ∧ wx = w') := fun wx => by
          rw [← Book.fsz_raw 1 hxl]
          exact fsize_any _ wx (by omega) (by omega)
        have hr := Book.raw_le hxl
        generalize Frame.raw 1 x = r at HR2 HSZ hr
        have hmi : (m : Int) ≤ 131088000000 := by omega
        have hri : (r.length : Int) ≤ 131088 := by omega
        have HKEEP : Hid (((wr.alloc (.cells #[.int .u8 1, .string ⟨x.toArray⟩] 125)).alloc (.cells #[.string ⟨x.toArray⟩] 9)).ownsRow w1.heap.size 9 1 (.slice A2 pre.length c2) pre.length (tcells (pre.map fun x => ⟨x.toArray⟩))) := (HROW.out.alloc _).alloc _
        have HB0 : Hid (Below w1.heap.size w1 ((wr.alloc (.cells #[.int .u8 1, .string ⟨x.toArray⟩] 125)).alloc (.cells #[.string ⟨x.toArray⟩] 9))) := (HB1.out.alloc hws1 _).alloc (by simp; omega) _
        have HNEW : Hid (∀ j u, ([.string ⟨x.toArray⟩] : List Value)[j]? = some u → ((wr.alloc (.cells #[.int .u8 1, .string ⟨x.toArray⟩] 125)).alloc (.cells #[.string ⟨x.toArray⟩] 9)).cell? ((⟨wr.heap.size + 1, 0, none⟩ : Addr).add j) = some u) := fun j u hu => by
          have := World.news_of_block (heap_alloc_new (wr.alloc (.cells #[.int .u8 1, .string ⟨x.toArray⟩] 125)) (.cells #[.string ⟨x.toArray⟩] 9)) j u (by simpa using hu)
          simpa using this
        have HFR : Hid (((wr.alloc (.cells #[.int .u8 1, .string ⟨x.toArray⟩] 125)).alloc (.cells #[.string ⟨x.toArray⟩] 9)).heap[wr.heap.size]? = some (.cells #[.int .u8 1, .string ⟨x.toArray⟩] 125 (0, 0))) := by
          show _ = _
          rw [Below.heap_alloc _ _ _ (by simp)]
          exact heap_alloc_new wr _
        clear HR HDR
        go_wp2_with (at_builtin; refine wpList_append_lies _ (by rfl) _ _ _ (by rfl) w1.heap.size 9 i0 (.string ByteArray.empty) 1 16 Tryz.underlying25 HI.out HZ0.out HZ1.out HZ2.out (by rfl) (by omega) _ _ _ (by rfl) HKEEP.out ⟨wr.heap.size + 1, 0, none⟩ 1 1 [.string ⟨x.toArray⟩] (by rfl) (by rfl) HNEW.out (by simp [Value.oneCell']) (by omega) (by unfold maxLen; omega) (by omega) (by simp; omega) (wr.heap.size + 1 + 1) (by simp) ?_)
        intro g' cap' w2 hown hgrow hat hlt2
        have hb2 : Below w1.heap.size w1 w2 := HB0.out.grown hgrow (by simp; omega) (fun j hj => (HKEEP.out.lt j hj).1)
        have HB2 := Lib.hid hb2
        have hr2 : w2.ownsRow w1.heap.size 9 1 (.slice (some ⟨g', 0, none⟩) (pre ++ [x]).length cap') (pre ++ [x]).length (tcells ((pre ++ [x]).map fun x => ⟨x.toArray⟩)) := by
          have e : tcells ((pre ++ [x]).map fun x => (⟨x.toArray⟩ : ByteArray)) = tcells (pre.map fun x => ⟨x.toArray⟩) ++ [.string ⟨x.toArray⟩] := by unfold tcells; rw [List.map_append, List.map_append]; rfl
          rw [e, List.length_append]
          exact hown
        have HRW2 := Lib.hid hr2
        have hf2 : w2.heap[wr.heap.size]? = some (.cells #[.int .u8 1, .string ⟨x.toArray⟩] 125 (0, 0)) := by
          rw [hgrow.block wr.heap.size (by simp; omega) (fun e => by have := (HROW.out.lt _ e.symm).2; omega)]
          exact HFR.out
        have hc1 : w2.cell? ⟨wr.heap.size, 1, none⟩ = some (.string ⟨x.toArray⟩) := cell_of_row _ _ 1 _ _ _ hf2
        clear hown hgrow hat hlt2 hb2 hr2 hf2 hq0 hq1
        go_wp2_with fail
        refine (HSZ.out _).mono ?_
        rintro e w3 ⟨rfl, rfl⟩
        go_wp2_with fail
        go_roundw
        case rel => exact ⟨some ⟨g', 0, none⟩, cap', pre ++ [x], m + r.length, k + 1, by simp, by go_num, by go_num, by omega, by simp; omega, by omega, HR2.out, HRW2.out, HB2.out⟩
        case measure => simp [intOf]; omega
      · have HR2 : Hid (Book.recs l = (pre, m)) := by
          show _ = _
          rw [HR.out, HDR.out, Book.recs, if_neg ht]
          simp
        have htb : ((tg.toNat : Int) != 1) = true := by
          rw [bne_iff_ne]
          intro e
          exact ht (UInt8.toNat_inj.1 (by show tg.toNat = 1; omega))
        have hms : (m : Int) ≤ (s.size : Int) := by have := HSR.out; rw [HR2.out] at this; simp only at this; omega
        have hm0 : (0 : Int) ≤ (m : Int) := by omega
        have hex := HEX.out m
        clear HR HDR
        go_wp2_with fail
        go_quiet (fail)
        go_wp2_with fail
        refine bodyPost_ret (v := .tuple #[.slice A2 pre.length c2, .string ⟨(s.data.toList.take m).toArray⟩]) (by simp [results, Tryz.results50, go_sem]) rfl ?_
        rw [HR2.out]
        exact ⟨A2, c2, rfl, Book.base_lo (HROW.out.alloc _).drew hws, below_drewN (HB.out.trans ((HB1.out.alloc hws1 _).mono hws)) _⟩
    · have HR2 : Hid (Book.recs l = (pre, m)) := by
        show _ = _
        rw [HR.out, List.drop_of_length_le (by omega), Book.recs]
        simp
      have hms : (m : Int) ≤ (s.size : Int) := by have := HSR.out; rw [HR2.out] at this; simp only at this; omega
      have hm0 : (0 : Int) ≤ (m : Int) := by omega
      have hex := HEX.out m
      clear HR
      go_wp2_with fail
      go_quiet (fail)
      go_wp2_with fail
      refine bodyPost_ret (v := .tuple #[.slice A2 pre.length c2, .string ⟨(s.data.toList.take m).toArray⟩]) (by simp [results, Tryz.results50, go_sem]) rfl ?_
      rw [HR2.out]
      exact ⟨A2, c2, rfl, Book.base_lo HROW.out.drew hws, below_drewN (HB.out.trans (HB1.out.mono hws)) _⟩
end Go.Proofs.YtpmhpibbdcifnaaGreat
end
