/-
  The program's store: headOf, of a head; begin.
  The program's store: find.
  The program's store: Make; at, Append, Sync, Gen, Room.
  The program's store, on a disk that is let alone: Append, Sync, Gen, Room.
-/
import Derived.Test.YtpmhpibbdcifnaaGreatLowStA
section
namespace Go.Proofs.YtpmhpibbdcifnaaGreat
open Go.RowKit
attribute [local go_sem ↓] Go.wp_at_zero Go.wp_at_succ

set_option maxHeartbeats 2000000 in
set_option maxRecDepth 20000 in
theorem sheadof (g : Nat) (t : ByteArray) (hg1 : 1 ≤ g) (hg : g ≤ 4611686018427387904) (ht : t.size ≤ 65536) (w : World) :
    Calls Tryz.prog 32 #[.string ⟨(Store.hd g t).toArray⟩] w fun e w' => e = .returned (.tuple #[.agg #[.int .u64 (g : Int), .string t], .bool true]) ∧ Below w.heap.size w w' := by
  obtain ⟨s1, s2, e1, e2, e3, z1, z2⟩ := Store.hd_read hg ht
  have hsz := Store.mk_sz (Store.hd g t)
  have hlen := Store.hd_len (g := g) (t := t) (by omega) (by omega)
  obtain ⟨s0, hs0⟩ : ∃ s0, s0 = (⟨(Store.hd g t).toArray⟩ : ByteArray) := ⟨_, rfl⟩
  rw [← hs0] at e1 hsz ⊢
  have HUI : Hid (∀ (wx : World) (B : Nat), Wire.RD B s0 0 wx → Calls Tryz.prog 55 #[.pointer (some ⟨B, 0, none⟩), .int .u64 4611686018427387904] wx fun e w' => e = .returned (.int .u64 (g : Int)) ∧ Wire.After B s1 0 wx w') := fun wx B h => by
    have := rUint_any 4611686018427387904 B s0 0 wx h (by unfold maxLen; omega)
    rw [e1] at this
    exact this
  have HTX : Hid (∀ (wx : World) (B : Nat), Wire.RD B s1 0 wx → Calls Tryz.prog 56 #[.pointer (some ⟨B, 0, none⟩), .int .i64 65536] wx fun e w' => e = .returned (.string t) ∧ Wire.After B s2 0 wx w') := fun wx B h => by
    have := rText_any 65536 (by omega) (by omega) B s1 0 wx h (by unfold maxLen; omega) (.inl (by omega))
    rw [e2] at this
    exact this
  have HEN : Hid (∀ (wx : World) (B : Nat), Wire.RD B s2 0 wx → Calls Tryz.prog 57 #[.pointer (some ⟨B, 0, none⟩)] wx fun e w' => e = .returned (.int .i64 0) ∧ Wire.After B s2 0 wx w') := fun wx B h => by
    have := rEnd_any B s2 0 wx h (by unfold maxLen; omega)
    rw [e3] at this
    exact this
  have hlt : decide ((g : Int) < 1) = false := by simp; omega
  obtain ⟨w0, hw0⟩ : ∃ w0, w0 = w.alloc (.cells #[.int .u64 0, .string ⟨#[]⟩] 56) := ⟨_, rfl⟩
  have hr0 : w0.heap[w.heap.size]? = some (.cells #[.int .u64 0, .string ⟨#[]⟩] 56 (0, 0)) := by rw [hw0]; exact heap_alloc_new w _
  have hb0 : Below w.heap.size w w0 := by rw [hw0]; exact (Below.refl _ _).alloc (Nat.le_refl _) _
  have R0 := Lib.hid hr0
  have B0 := Lib.hid hb0
  have hz0 : w0.heap.size = w.heap.size + 1 := by rw [hw0]; simp
  have HZ0 := Lib.hid hz0
  clear hr0 hb0 hz0 e1 e2 e3 hs0 hsz hlen hg1 hg ht
  go_enter Tryz.func32, Tryz.ntmps32
  go_wp2_with fail
  rw [← hw0]
  clear hw0
  refine (new_any s0 _).mono ?_
  rintro e w1 ⟨rfl, hR, hb⟩
  obtain ⟨B, hB⟩ : ∃ B, B = w0.heap.size := ⟨_, rfl⟩
  rw [← hB] at hR ⊢
  have RD1 := Lib.hid hR
  have R1 : Hid _ := (hb.block _ (Sec.lt_of_heap R0.out)).trans R0.out
  have B1 := Lib.hid (B0.out.trans (hb.mono B0.out.size))
  have HB : Hid (w.heap.size < B) := by show _ < _; rw [hB, HZ0.out]; omega
  clear hR hb hB
  go_wp2_with fail
  refine (HUI.out _ _ RD1.out).mono ?_
  rintro e w2 ⟨rfl, hR, hG⟩
  have RD2 := Lib.hid hR
  have R2 : Hid _ := (hG.block _ (Sec.lt_of_heap R1.out) (fun e => by have := Option.some.inj e; have := HB.out; omega)).trans R1.out
  have B2 := Lib.hid (B1.out.trans (Store.below_grown hG (Nat.le_of_lt HB.out) B1.out.size))
  clear hR hG
  go_wp2_with fail
  refine (HTX.out _ _ RD2.out).mono ?_
  rintro e w3 ⟨rfl, hR, hG⟩
  have RD3 := Lib.hid hR
  have R3 : Hid _ := (hG.block _ (Sec.lt_of_heap R2.out) (fun e => by have := Option.some.inj e; have := HB.out; omega)).trans R2.out
  have B3 := Lib.hid (B2.out.trans (Store.below_grown hG (Nat.le_of_lt HB.out) B2.out.size))
  clear hR hG
  have c0 := cell_of_row _ _ 0 _ _ _ R3.out
  have c1 := cell_of_row _ _ 1 _ _ _ R3.out
  have f0 := frozen_of_row _ _ 0 _ _ R3.out
  have f1 := frozen_of_row _ _ 1 _ _ R3.out
  simp at c0 c1
  have R4 := Lib.hid (Store.row2 R3.out (.int .u64 (g : Int)) (.string t))
  have G4 := Lib.hid (Store.grow2 w3 w.heap.size (.int .u64 (g : Int)) (.string t))
  obtain ⟨w4, hw4⟩ : ∃ w4, w4 = (w3.setCell ⟨w.heap.size, 0, none⟩ (.int .u64 (g : Int))).setCell ⟨w.heap.size, 1, none⟩ (.string t) := ⟨_, rfl⟩
  rw [← hw4] at R4 G4
  have RD4 := Lib.hid (RD3.out.grown G4.out (by have := HB.out; omega))
  have B4 := Lib.hid (B3.out.trans (Store.below_grown G4.out (Nat.le_refl _) B3.out.size))
  go_wp2_with fail
  rw [← hw4]
  clear hw4 c0 c1 f0 f1
  refine (HEN.out _ _ RD4.out).mono ?_
  rintro e w5 ⟨rfl, hR, hG⟩
  have R5 : Hid _ := (hG.block _ (Sec.lt_of_heap R4.out) (fun e => by have := Option.some.inj e; have := HB.out; omega)).trans R4.out
  have B5 := Lib.hid (B4.out.trans (Store.below_grown hG (Nat.le_of_lt HB.out) B4.out.size))
  clear hR hG
  have c0 := cell_of_row _ _ 0 _ _ _ R5.out
  have c1 := cell_of_row _ _ 1 _ _ _ R5.out
  have f0 := frozen_of_row _ _ 0 _ _ R5.out
  have f1 := frozen_of_row _ _ 1 _ _ R5.out
  simp at c0 c1
  have R6 := Lib.hid (Store.row2 R5.out (.int .u64 (g : Int)) (.string t))
  have B6 := Lib.hid (B5.out.trans (Store.below_grown (Store.grow2 w5 w.heap.size (.int .u64 (g : Int)) (.string t)) (Nat.le_refl _) B5.out.size))
  have k0 := cell_of_row _ _ 0 _ _ _ R6.out
  have k1 := cell_of_row _ _ 1 _ _ _ R6.out
  simp only [List.getElem?_toArray, List.getElem?_cons_zero, List.getElem?_cons_succ] at k0 k1
  go_wp2_with fail
  refine bodyPost_ret (v := .tuple #[.agg #[.int .u64 (g : Int), .string t], .bool true]) (by simp [results, Tryz.results32, go_sem, k0, k1]) rfl ⟨rfl, B6.out⟩

/-- What begin comes to. -/
def Store.Begun (D : Sec.Bl) (a i h N g : Nat) (x : List UInt8) (T : List UInt8) (w : World) (e : Ending) (w' : World) : Prop :=
  ∃ (D' : Sec.Bl) (B : Nat) (s' : Sec.St), e = .returned (.tuple #[.agg #[.pointer (some ⟨B, 0, none⟩), .pointer (some ⟨D.b, 0, none⟩), .int .i64 (a : Int), .int .i64 (h : Int), .int .u64 (g : Int)], .int .i64 0]) ∧
    Sec.At D' s' w' ∧ Store.Mx Store.no D D' w w' ∧ w.heap.size ≤ B ∧ D'.off B ∧ Book.PB B D.b (a : Int) (h : Int) (Book.frs [x]) false w' ∧ Store.Halves i h N (Book.frs [x]) T s' ∧ s'.loose = []

set_option maxHeartbeats 4000000 in
set_option maxRecDepth 20000 in
theorem sbegin (D : Sec.Bl) (s : Sec.St) (w : World) (h : Sec.At D s w) (a i m N : Nat) (ha : a = i * m) (T : List UInt8) (H : Store.Halves i m N [] T s) (hlim : s.loose.length ≤ 900000000) (g : Nat) (t : ByteArray) (hg : g < 18446744073709551616) (ht : t.size ≤ 65536) (hfit : (Frame.raw 1 (Store.hd g t)).length ≤ m * 127) :
    Calls Tryz.prog 21 #[.agg #[.pointer (some ⟨D.b, 0, none⟩), .int .i64 (a : Int), .int .i64 (m : Int)], .agg #[.int .u64 (g : Int), .string t]] w (Store.Begun D a i m N g (Store.hd g t) T w) := by
  have hn2 := H.here.ok.n2
  have hnn := H.here.nn
  have hhan := H.here.han
  have hm : m ≤ 4096 := by omega
  have hlen := Store.hd_len (g := g) (t := t) hg (by omega)
  obtain ⟨x, hx⟩ : ∃ x, x = Store.hd g t := ⟨_, rfl⟩
  have hxm : (⟨x.toArray⟩ : ByteArray).size ≤ 70000 := by rw [Store.mk_sz, hx]; omega
  have hfrb : Book.frb [(⟨x.toArray⟩ : ByteArray)] = Book.frs [x] := rfl
  have hfx : (Book.frs [x]).length ≤ m * 127 := by rw [hx]; show (Frame.raw 1 (Store.hd g t) ++ []).length ≤ _; rw [List.append_nil]; exact hfit
  have hlong : Book.long [(⟨x.toArray⟩ : ByteArray)] = false := by
    rw [Store.mk_sz] at hxm
    unfold Book.long
    simp [Store.mk_sz]
    omega
  obtain ⟨p1, p2, p3, p4⟩ := H.append (m := Book.frs [x]) (by simpa using hfx)
  have hhere : Book.Laid a m N [] s := ha ▸ H.here
  have h1 := H.h1
  rw [← ha] at p1 p2 p3 p4 hhan
  obtain ⟨q1, q2, q3⟩ := p2.sync
  have HTXT : Hid (∀ wx : World, Calls Tryz.prog 35 #[.agg #[.int .u64 (g : Int), .string t]] wx fun e w' => e = .returned (.string ⟨x.toArray⟩) ∧ Below wx.heap.size wx w') := fun wx => by
    rw [hx]; exact htext g t hg (by omega) wx
  rw [← hx]
  obtain ⟨w0, hw0⟩ : ∃ w0, w0 = ((w.alloc (.cells #[.pointer (some ⟨D.b, 0, none⟩), .int .i64 (a : Int), .int .i64 (m : Int)] 44)).alloc (.cells #[.int .u64 (g : Int), .string t] 56)).alloc (.cells #[.pointer none, .pointer none, .int .i64 0, .int .i64 0, .int .u64 0] 46) := ⟨_, rfl⟩
  have hb0 : Below w.heap.size w w0 := by rw [hw0]; exact (((Below.refl _ _).alloc (Nat.le_refl _) _).alloc (by simp) _).alloc (by simp; omega) _
  have r2 : w0.heap[w.heap.size]? = some (.cells #[.pointer (some ⟨D.b, 0, none⟩), .int .i64 (a : Int), .int .i64 (m : Int)] 44 (0, 0)) := by
    rw [hw0, Below.heap_alloc _ _ _ (by simp; omega), Below.heap_alloc _ _ _ (by simp)]
    exact heap_alloc_new w _
  have r3 : w0.heap[w.heap.size + 1]? = some (.cells #[.int .u64 (g : Int), .string t] 56 (0, 0)) := by
    rw [hw0, Below.heap_alloc _ _ _ (by simp)]
    have := heap_alloc_new (w.alloc (.cells #[.pointer (some ⟨D.b, 0, none⟩), .int .i64 (a : Int), .int .i64 (m : Int)] 44)) (.cells #[.int .u64 (g : Int), .string t] 56)
    simpa using this
  have r4 : w0.heap[w.heap.size + 2]? = some (.cells #[.pointer none, .pointer none, .int .i64 0, .int .i64 0, .int .u64 0] 46 (0, 0)) := by
    rw [hw0]
    have := heap_alloc_new ((w.alloc (.cells #[.pointer (some ⟨D.b, 0, none⟩), .int .i64 (a : Int), .int .i64 (m : Int)] 44)).alloc (.cells #[.int .u64 (g : Int), .string t] 56)) (.cells #[.pointer none, .pointer none, .int .i64 0, .int .i64 0, .int .u64 0] 46)
    simpa using this
  have hA0 := h.below hb0
  have HOPN := Lib.hid (laid_open (a := a) (n := m) D hA0 [] (by simp) hhere h1 (by omega))
  have HOF : Hid (∀ i, w.heap.size ≤ i → D.off i) := fun i hi => Sec.off_fresh h hi
  have B0 := Lib.hid hb0
  have R2 := Lib.hid r2
  have R3 := Lib.hid r3
  have R4 := Lib.hid r4
  have HL := Lib.hid hhere
  have HQ := Lib.hid (And.intro p1 (And.intro p2 (And.intro p4 (And.intro q2 q3))))
  have HFX := Lib.hid (And.intro hlong hfx)
  have hlo : s.loose.length + m ≤ 1000000000 := by omega
  have HLO := Lib.hid (And.intro hlo hlim)
  have HXM := Lib.hid hxm
  have HQL : Hid (Book.Laid a m N ([] ++ Book.frs [x]) (Book.puts (Book.todo a m [] ([] ++ Book.frs [x])) s).2) := by
    have := p2.here
    rw [← ha] at this
    exact this
  clear hb0 r2 r3 r4 hA0 h H p1 p2 p3 p4 q1 q2 q3 hlong hfx hlo hlim hxm hx hlen hn2 hnn hhan hfit hfrb hhere h1 ha
  go_enter Tryz.func21, Tryz.ntmps21
  go_wp2_with fail
  rw [← hw0]
  clear hw0
  refine HOPN.out.mono ?_
  rintro e w1 ⟨D1, B, A, c, rfl, hA1, hM1, hBge, hoB, hPB, hli⟩
  have hbw : w.heap.size + 3 ≤ B := by have := Sec.lt_of_heap R4.out; omega
  have HK : Hid (∀ D' wx, Store.Mx (fun i => i = B) D1 D' w1 wx → wx.heap[w.heap.size]? = some (.cells #[.pointer (some ⟨D.b, 0, none⟩), .int .i64 (a : Int), .int .i64 (m : Int)] 44 (0, 0)) ∧ wx.heap[w.heap.size + 1]? = some (.cells #[.int .u64 (g : Int), .string t] 56 (0, 0)) ∧
      wx.heap[w.heap.size + 2]? = some (.cells #[.pointer none, .pointer none, .int .i64 0, .int .i64 0, .int .u64 0] 46 (0, 0))) := fun D' wx hm => by
    have k2 := Sec.lt_of_heap R2.out
    have k3 := Sec.lt_of_heap R3.out
    have k4 := Sec.lt_of_heap R4.out
    have o2 := HOF.out w.heap.size (Nat.le_refl _)
    have o3 := HOF.out (w.heap.size + 1) (by omega)
    have o4 := HOF.out (w.heap.size + 2) (by omega)
    exact ⟨hm.keeps ((hM1.block _ k2 o2).trans R2.out) (hM1.off k2 o2) (fun e : w.heap.size = B => by omega), hm.keeps ((hM1.block _ k3 o3).trans R3.out) (hM1.off k3 o3) (fun e : w.heap.size + 1 = B => by omega), hm.keeps ((hM1.block _ k4 o4).trans R4.out) (hM1.off k4 o4) (fun e : w.heap.size + 2 = B => by omega)⟩
  have HM1 : Hid (Store.Mx Store.no D D1 w w1) := (Store.Mx.of_below B0.out).trans (.of_moves hM1)
  have HO4 : Hid (D1.off (w.heap.size + 2) ∧ w.heap.size + 2 < w1.heap.size) := by
    have k4 := Sec.lt_of_heap R4.out
    exact ⟨hM1.off k4 (HOF.out _ (by omega)), Nat.lt_of_lt_of_le k4 hM1.size⟩
  have HA1 := Lib.hid hA1
  have HPB1 := Lib.hid hPB
  have HO1 := Lib.hid hoB
  have hbp : D1.b = D.b := hM1.b
  have HBP := Lib.hid hbp
  clear hA1 hM1 hPB hoB hli hBge hbp HOPN
  have k := HK.out D1 w1 (.of_below (Below.refl _ _))
  have d0 := cell_of_row _ _ 0 _ _ _ k.2.1
  have d1 := cell_of_row _ _ 1 _ _ _ k.2.1
  simp at d0 d1
  clear k
  go_wp2_with fail
  refine (HTXT.out _).mono ?_
  rintro e w2 ⟨rfl, hb2⟩
  have M2 : Hid (Store.Mx (fun i => i = B) D1 D1 w1 (w2.alloc (.cells #[.string ⟨x.toArray⟩] 9))) := .of_below (hb2.alloc hb2.size _)
  have A2 := Lib.hid (HA1.out.below (hb2.alloc hb2.size (.cells #[.string ⟨x.toArray⟩] 9)))
  have P2 := Lib.hid (HPB1.out.below (hb2.alloc hb2.size (.cells #[.string ⟨x.toArray⟩] 9)))
  clear hb2 d0 d1
  have HAP : Hid (Calls Tryz.prog 23 #[.pointer (some ⟨B, 0, none⟩), .slice (some ⟨w2.heap.size, 0, none⟩) 1 1] (w2.alloc (.cells #[.string ⟨x.toArray⟩] 9)) fun e w' => e = .returned (.int .i64 0) ∧ ∃ D', Sec.At D' (Book.puts (Book.todo a m [] ([] ++ Book.frs [x])) s).2 w' ∧ Book.PB B D1.b (a : Int) (m : Int) ([] ++ Book.frs [x]) false w' ∧ D'.off B ∧ Book.Mvb D1 D' B (w2.alloc (.cells #[.string ⟨x.toArray⟩] 9)) w') := by
    have := at_append_ok (n := m) (a := a) A2.out (by rw [HBP.out]; exact P2.out) HO1.out HL.out HLO.out.1 [⟨x.toArray⟩] (some ⟨w2.heap.size, 0, none⟩) 1 (by simp [maxLen]) (fun y hy => by rw [List.mem_singleton.1 hy]; have := HXM.out; unfold maxLen; omega) (lies_one _ _ _ (cell_of_row _ _ 0 _ _ _ (heap_alloc_new w2 _)) (by simp)) HFX.out.1 (by show ([] : List UInt8).length + (Book.frb [(⟨x.toArray⟩ : ByteArray)]).length ≤ _; rw [List.length_nil, Nat.zero_add]; exact HFX.out.2)
    exact this
  go_wp2_with fail
  refine HAP.out.mono ?_
  rintro e w3 ⟨rfl, D3, hA3, hP3, hO3, hM3⟩
  have M3 : Hid (Store.Mx (fun i => i = B) D1 D3 w1 w3) := M2.out.trans (.of_mvb hM3)
  have A3 := Lib.hid hA3
  have P3 := Lib.hid hP3
  have O3 := Lib.hid hO3
  clear hA3 hP3 hO3 hM3 HAP M2 A2 P2
  have HSY : Hid (Calls Tryz.prog 24 #[.pointer (some ⟨B, 0, none⟩)] w3 fun e w' => e = .returned (.int .i64 0) ∧ ∃ D', Sec.At D' (Book.wsync (Book.puts (Book.todo a m [] ([] ++ Book.frs [x])) s).2).2 w' ∧ Book.PB B D3.b (a : Int) (m : Int) ([] ++ Book.frs [x]) false w' ∧ D'.off B ∧ Book.Mvb D3 D' B w3 w') :=
    at_sync (n := m) (a := a) A3.out (by rw [M3.out.b]; exact P3.out) O3.out HQL.out (by have := HQ.out.2.2.1; have := HLO.out.1; omega)
  go_wp2_with fail
  refine HSY.out.mono ?_
  rintro e w4 ⟨rfl, D4, hA4, hP4, hO4, hM4⟩
  have M4 : Hid (Store.Mx (fun i => i = B) D1 D4 w1 w4) := M3.out.trans (.of_mvb hM4)
  have hbq : D3.b = D.b := M3.out.b.trans HBP.out
  rw [hbq] at hP4
  have A4 := Lib.hid hA4
  have P4 := Lib.hid hP4
  have O4 := Lib.hid hO4
  clear hA4 hP4 hO4 hM4 HSY M3 A3 P3 O3 hbq
  have k := HK.out D4 w4 M4.out
  have c0 := cell_of_row _ _ 0 _ _ _ k.1
  have c1 := cell_of_row _ _ 1 _ _ _ k.1
  have c2 := cell_of_row _ _ 2 _ _ _ k.1
  have d0 := cell_of_row _ _ 0 _ _ _ k.2.1
  have e0 := cell_of_row _ _ 0 _ _ _ k.2.2
  have e1 := cell_of_row _ _ 1 _ _ _ k.2.2
  have e2 := cell_of_row _ _ 2 _ _ _ k.2.2
  have e3 := cell_of_row _ _ 3 _ _ _ k.2.2
  have e4 := cell_of_row _ _ 4 _ _ _ k.2.2
  have f0 := frozen_of_row _ _ 0 _ _ k.2.2
  have f1 := frozen_of_row _ _ 1 _ _ k.2.2
  have f2 := frozen_of_row _ _ 2 _ _ k.2.2
  have f3 := frozen_of_row _ _ 3 _ _ k.2.2
  have f4 := frozen_of_row _ _ 4 _ _ k.2.2
  simp at c0 c1 c2 d0 e0 e1 e2 e3 e4
  have R5 := Lib.hid (Store.row5 k.2.2 (.pointer (some ⟨B, 0, none⟩)) (.pointer (some ⟨D.b, 0, none⟩)) (.int .i64 (a : Int)) (.int .i64 (m : Int)) (.int .u64 (g : Int)))
  have G5 := Lib.hid (Store.grow5 w4 (w.heap.size + 2) (.pointer (some ⟨B, 0, none⟩)) (.pointer (some ⟨D.b, 0, none⟩)) (.int .i64 (a : Int)) (.int .i64 (m : Int)) (.int .u64 (g : Int)))
  clear k
  go_wp2_with fail
  have k0 := cell_of_row _ _ 0 _ _ _ R5.out
  have k1 := cell_of_row _ _ 1 _ _ _ R5.out
  have k2 := cell_of_row _ _ 2 _ _ _ R5.out
  have k3 := cell_of_row _ _ 3 _ _ _ R5.out
  have k4 := cell_of_row _ _ 4 _ _ _ R5.out
  simp only [List.getElem?_toArray, List.getElem?_cons_zero, List.getElem?_cons_succ] at k0 k1 k2 k3 k4
  refine bodyPost_ret (v := .tuple #[.agg #[.pointer (some ⟨B, 0, none⟩), .pointer (some ⟨D.b, 0, none⟩), .int .i64 (a : Int), .int .i64 (m : Int), .int .u64 (g : Int)], .int .i64 0]) (by simp [results, Tryz.results21, go_sem, k0, k1, k2, k3, k4]) rfl ?_
  have hne : B ≠ w.heap.size + 2 := by omega
  have hoff := M4.out.keep _ HO4.out.2 HO4.out.1
  refine ⟨D4, B, _, rfl, Sec.at_grown A4.out hoff G5.out, ?_, by omega, O4.out, P4.out.keep (G5.out.block _ P4.out.ltb (fun e => hne (Option.some.inj e))), HQ.out.2.2.2.1, HQ.out.2.2.2.2⟩
  exact (HM1.out.trans_new M4.out (fun i hi hlt => by have : i = B := hi; omega)).trans_new (.of_grown G5.out) (fun i hi hlt => by have : i = w.heap.size + 2 := hi; omega)
end Go.Proofs.YtpmhpibbdcifnaaGreat
end

section
namespace Go.Proofs.YtpmhpibbdcifnaaGreat
open Go.RowKit
attribute [local go_sem ↓] Go.wp_at_zero Go.wp_at_succ

set_option maxHeartbeats 2000000 in
set_option maxRecDepth 20000 in
theorem sfind_none (D : Sec.Bl) (s : Sec.St) (w : World) (h : Sec.At D s w) (a m N : Nat) (hL : Book.Laid a m N [] s) (h1 : 1 ≤ m) (hlim : s.loose.length ≤ 900000000) :
    Calls Tryz.prog 18 #[.agg #[.pointer (some ⟨D.b, 0, none⟩), .int .i64 (a : Int), .int .i64 (m : Int)]] w fun e w' => e = .returned (.tuple #[.agg #[.pointer none, .pointer none, .int .i64 0, .int .i64 0, .int .u64 0, .string ⟨#[]⟩, .slice none 0 0], .int .i64 0]) ∧
      ∃ D', Sec.At D' s w' ∧ Store.Mx Store.no D D' w w' := by
  have hn2 := hL.ok.n2
  have hnn := hL.nn
  have hhan := hL.han
  obtain ⟨w0, hw0⟩ : ∃ w0, w0 = (w.alloc (.cells #[.pointer (some ⟨D.b, 0, none⟩), .int .i64 (a : Int), .int .i64 (m : Int)] 44)).alloc (.cells #[.pointer none, .pointer none, .int .i64 0, .int .i64 0, .int .u64 0, .string ⟨#[]⟩, .slice none 0 0] 48) := ⟨_, rfl⟩
  have hb0 : Below w.heap.size w w0 := by rw [hw0]; exact ((Below.refl _ _).alloc (Nat.le_refl _) _).alloc (by simp) _
  have r3 : w0.heap[w.heap.size + 1]? = some (.cells #[.pointer none, .pointer none, .int .i64 0, .int .i64 0, .int .u64 0, .string ⟨#[]⟩, .slice none 0 0] 48 (0, 0)) := by
    rw [hw0]
    have := heap_alloc_new (w.alloc (.cells #[.pointer (some ⟨D.b, 0, none⟩), .int .i64 (a : Int), .int .i64 (m : Int)] 44)) (.cells #[.pointer none, .pointer none, .int .i64 0, .int .i64 0, .int .u64 0, .string ⟨#[]⟩, .slice none 0 0] 48)
    simpa using this
  have hA0 := h.below hb0
  have HOPN := Lib.hid (laid_open (a := a) (n := m) D hA0 [] (by simp) hL h1 (by omega))
  have HOF : Hid (∀ i, w.heap.size ≤ i → D.off i) := fun i hi => Sec.off_fresh h hi
  have B0 := Lib.hid hb0
  have R3 := Lib.hid r3
  clear hb0 r3 hA0 h hL hn2 hnn hhan hlim h1
  go_enter Tryz.func18, Tryz.ntmps18
  go_wp2_with fail
  rw [← hw0]
  clear hw0
  refine HOPN.out.mono ?_
  rintro e w1 ⟨D1, B, A, c, rfl, hA1, hM1, hBge, hoB, hPB, hli⟩
  have k3 := Sec.lt_of_heap R3.out
  have hR := (hM1.block _ k3 (HOF.out _ (by omega))).trans R3.out
  have hoff := hM1.off k3 (HOF.out _ (by omega))
  have HO := Lib.hid hoff
  have R1 := Lib.hid hR
  have HA1 := Lib.hid hA1
  have HM1 : Hid (Store.Mx Store.no D D1 w w1) := (Store.Mx.of_below B0.out).trans (.of_moves hM1)
  clear hA1 hM1 hPB hoB hli hBge k3 hR hoff HOPN
  have e0 := cell_of_row _ _ 0 _ _ _ R1.out
  have e1 := cell_of_row _ _ 1 _ _ _ R1.out
  have e2 := cell_of_row _ _ 2 _ _ _ R1.out
  have e3 := cell_of_row _ _ 3 _ _ _ R1.out
  have e4 := cell_of_row _ _ 4 _ _ _ R1.out
  have e5 := cell_of_row _ _ 5 _ _ _ R1.out
  have e6 := cell_of_row _ _ 6 _ _ _ R1.out
  have f0 := frozen_of_row _ _ 0 _ _ R1.out
  have f1 := frozen_of_row _ _ 1 _ _ R1.out
  have f2 := frozen_of_row _ _ 2 _ _ R1.out
  have f3 := frozen_of_row _ _ 3 _ _ R1.out
  have f4 := frozen_of_row _ _ 4 _ _ R1.out
  have f5 := frozen_of_row _ _ 5 _ _ R1.out
  have f6 := frozen_of_row _ _ 6 _ _ R1.out
  simp only [List.getElem?_toArray, List.getElem?_cons_zero, List.getElem?_cons_succ] at e0 e1 e2 e3 e4 e5 e6
  have R5 := Lib.hid (Store.row7 R1.out (.pointer none) (.pointer none) (.int .i64 0) (.int .i64 0) (.int .u64 0) (.string ⟨#[]⟩) (.slice none 0 0))
  have G5 := Lib.hid (Store.grow7 w1 (w.heap.size + 1) (.pointer none) (.pointer none) (.int .i64 0) (.int .i64 0) (.int .u64 0) (.string ⟨#[]⟩) (.slice none 0 0))
  go_wp2_with fail
  have k0 := cell_of_row _ _ 0 _ _ _ R5.out
  have k1 := cell_of_row _ _ 1 _ _ _ R5.out
  have k2 := cell_of_row _ _ 2 _ _ _ R5.out
  have k3 := cell_of_row _ _ 3 _ _ _ R5.out
  have k4 := cell_of_row _ _ 4 _ _ _ R5.out
  have k5 := cell_of_row _ _ 5 _ _ _ R5.out
  have k6 := cell_of_row _ _ 6 _ _ _ R5.out
  simp only [List.getElem?_toArray, List.getElem?_cons_zero, List.getElem?_cons_succ] at k0 k1 k2 k3 k4 k5 k6
  refine bodyPost_ret (v := .tuple #[.agg #[.pointer none, .pointer none, .int .i64 0, .int .i64 0, .int .u64 0, .string ⟨#[]⟩, .slice none 0 0], .int .i64 0]) (by simp [results, Tryz.results18, go_sem, k0, k1, k2, k3, k4, k5, k6]) rfl ⟨rfl, D1, Sec.at_grown HA1.out HO.out G5.out, ?_⟩
  exact HM1.out.trans_new (.of_grown G5.out) (fun i hi hlt => by have : i = w.heap.size + 1 := hi; omega)

/-- What find comes to. -/
def Store.Found (D : Sec.Bl) (a m g : Nat) (t : ByteArray) (r : List (List UInt8)) (s : Sec.St) (w : World) (e : Ending) (w' : World) : Prop :=
  ∃ (D' : Sec.Bl) (B : Nat) (A : Option Addr) (c : Nat), e = .returned (.tuple #[.agg #[.pointer (some ⟨B, 0, none⟩), .pointer (some ⟨D.b, 0, none⟩), .int .i64 (a : Int), .int .i64 (m : Int), .int .u64 (g : Int), .string t, .slice A r.length c], .int .i64 0]) ∧
    Sec.At D' s w' ∧ Store.Mx Store.no D D' w w' ∧ w.heap.size ≤ B ∧ D'.off B ∧ Book.PB B D.b (a : Int) (m : Int) (Book.frs (Store.hd g t :: r)) false w' ∧ Lies w' w'.heap.size A (tcells (r.map fun x => ⟨x.toArray⟩)) ∧ ∀ ad, A = some ad → w.heap.size ≤ ad.block ∧ D'.off ad.block ∧ ad.block < w'.heap.size

set_option maxHeartbeats 4000000 in
set_option maxRecDepth 20000 in
theorem sfind (D : Sec.Bl) (s : Sec.St) (w : World) (h : Sec.At D s w) (a m N : Nat) (g : Nat) (t : ByteArray) (r : List (List UInt8)) (hL : Book.Laid a m N (Book.frs (Store.hd g t :: r)) s) (h1 : 1 ≤ m) (hlim : s.loose.length ≤ 900000000)
    (hg1 : 1 ≤ g) (hg : g ≤ 4611686018427387904) (ht : t.size ≤ 65536) (hr : ∀ x ∈ r, x.length ≤ 131072) :
    Calls Tryz.prog 18 #[.agg #[.pointer (some ⟨D.b, 0, none⟩), .int .i64 (a : Int), .int .i64 (m : Int)]] w (Store.Found D a m g t r s w) := by
  have hn2 := hL.ok.n2
  have hnn := hL.nn
  have hhan := hL.han
  have hlen := Store.hd_len (g := g) (t := t) (by omega) (by omega)
  have hrl : r.length ≤ 600000 := by
    have h1 := hL.fit
    have h2 := Book.frs_pos (l := Store.hd g t :: r)
    rw [List.length_cons] at h2
    omega
  have HHD : Hid (∀ wx, Calls Tryz.prog 32 #[.string ⟨(Store.hd g t).toArray⟩] wx fun e w' => e = .returned (.tuple #[.agg #[.int .u64 (g : Int), .string t], .bool true]) ∧ Below wx.heap.size wx w') := fun wx => sheadof g t hg1 hg ht wx
  obtain ⟨w0, hw0⟩ : ∃ w0, w0 = (w.alloc (.cells #[.pointer (some ⟨D.b, 0, none⟩), .int .i64 (a : Int), .int .i64 (m : Int)] 44)).alloc (.cells #[.pointer none, .pointer none, .int .i64 0, .int .i64 0, .int .u64 0, .string ⟨#[]⟩, .slice none 0 0] 48) := ⟨_, rfl⟩
  have hb0 : Below w.heap.size w w0 := by rw [hw0]; exact ((Below.refl _ _).alloc (Nat.le_refl _) _).alloc (by simp) _
  have r2 : w0.heap[w.heap.size]? = some (.cells #[.pointer (some ⟨D.b, 0, none⟩), .int .i64 (a : Int), .int .i64 (m : Int)] 44 (0, 0)) := by
    rw [hw0, Below.heap_alloc _ _ _ (by simp)]
    exact heap_alloc_new w _
  have r3 : w0.heap[w.heap.size + 1]? = some (.cells #[.pointer none, .pointer none, .int .i64 0, .int .i64 0, .int .u64 0, .string ⟨#[]⟩, .slice none 0 0] 48 (0, 0)) := by
    rw [hw0]
    have := heap_alloc_new (w.alloc (.cells #[.pointer (some ⟨D.b, 0, none⟩), .int .i64 (a : Int), .int .i64 (m : Int)] 44)) (.cells #[.pointer none, .pointer none, .int .i64 0, .int .i64 0, .int .u64 0, .string ⟨#[]⟩, .slice none 0 0] 48)
    simpa using this
  have hA0 := h.below hb0
  have HOPN := Lib.hid (laid_open_own (a := a) (n := m) D hA0 (Store.hd g t :: r) (fun x hx => by
    rcases List.mem_cons.1 hx with rfl | hx
    · omega
    · exact hr x hx) hL h1 (by omega))
  have HOF : Hid (∀ i, w.heap.size ≤ i → D.off i) := fun i hi => Sec.off_fresh h hi
  have B0 := Lib.hid hb0
  have R2 := Lib.hid r2
  have R3 := Lib.hid r3
  clear hb0 r2 r3 hA0 h hL hn2 hnn hhan hlim h1 hr hg1 hg ht hlen
  have hne0 : (((r.length + 1 : Nat) : Int) == 0) = false := by rw [beq_eq_false_iff_ne]; omega
  have hne1 : ((r.length : Int) + 1 == 0) = false := by rw [beq_eq_false_iff_ne]; omega
  go_enter Tryz.func18, Tryz.ntmps18
  go_wp2_with fail
  rw [← hw0]
  clear hw0
  refine HOPN.out.mono ?_
  rintro e w1 ⟨D1, B, A, c, rfl, hA1, hM1, hBge, hoB, hPB, hli, hown, hgo⟩
  rw [List.length_cons] at hown ⊢
  obtain ⟨gr, rfl⟩ : ∃ gr, A = some ⟨gr, 0, none⟩ := by
    rcases hown.2 with ⟨_, h0⟩ | ⟨gr, cap, cur, e1, _⟩
    · omega
    · injection e1 with e2
      exact ⟨gr, e2⟩
  have hgl := hown.lt gr rfl
  obtain ⟨hgo1, hgo2⟩ := hgo gr rfl
  have k2 := Sec.lt_of_heap R2.out
  have k3 := Sec.lt_of_heap R3.out
  have hR2 := (hM1.block _ k2 (HOF.out _ (by omega))).trans R2.out
  have hR3 := (hM1.block _ k3 (HOF.out _ (by omega))).trans R3.out
  have hcell : w1.cell? ⟨gr, 0, none⟩ = some (.string ⟨(Store.hd g t).toArray⟩) := by
    have := hown.cells (g := gr) rfl 0 (.string ⟨(Store.hd g t).toArray⟩) rfl
    exact this
  have HOW := Lib.hid hown
  have HG := Lib.hid (And.intro hgl (And.intro hgo1 hgo2))
  have R21 := Lib.hid hR2
  have R31 := Lib.hid hR3
  have HO3 : Hid (D1.off (w.heap.size + 1) ∧ w.heap.size + 1 < w1.heap.size) := ⟨hM1.off k3 (HOF.out _ (by omega)), Nat.lt_of_lt_of_le k3 hM1.size⟩
  have HA1 := Lib.hid hA1
  have HM1 : Hid (Store.Mx Store.no D D1 w w1) := (Store.Mx.of_below B0.out).trans (.of_moves hM1)
  have HPB1 := Lib.hid hPB
  have HOB := Lib.hid hoB
  have HBG : Hid (w.heap.size + 2 ≤ B ∧ w.heap.size + 2 ≤ gr) := by
    have := hgl.1
    exact ⟨by omega, by omega⟩
  clear hA1 hM1 hPB hoB hli hBge k2 k3 hR2 hR3 hown hgl hgo hgo1 hgo2 HOPN
  go_wp2_with fail
  refine (HHD.out _).mono ?_
  rintro e w2 ⟨rfl, hb2⟩
  have HB2 := Lib.hid hb2
  clear hb2 hcell
  go_wp2_with fail
  obtain ⟨W, hW⟩ : ∃ W, W = w2.alloc (.cells #[.int .u64 (g : Int), .string t] 56) := ⟨_, rfl⟩
  obtain ⟨H, hH⟩ : ∃ H, H = w2.heap.size := ⟨_, rfl⟩
  have hrH : W.heap[H]? = some (.cells #[.int .u64 (g : Int), .string t] 56 (0, 0)) := by rw [hW, hH]; exact heap_alloc_new w2 _
  have hbW : Below w1.heap.size w1 W := by rw [hW]; exact HB2.out.alloc HB2.out.size _
  have hHl : w1.heap.size ≤ H := by rw [hH]; exact HB2.out.size
  rw [← hW, ← hH]
  have hr2W : W.heap[w.heap.size]? = some (.cells #[.pointer (some ⟨D.b, 0, none⟩), .int .i64 (a : Int), .int .i64 (m : Int)] 44 (0, 0)) := (hbW.block _ (Sec.lt_of_heap R21.out)).trans R21.out
  have hr3W : W.heap[w.heap.size + 1]? = some (.cells #[.pointer none, .pointer none, .int .i64 0, .int .i64 0, .int .u64 0, .string ⟨#[]⟩, .slice none 0 0] 48 (0, 0)) := (hbW.block _ (Sec.lt_of_heap R31.out)).trans R31.out
  have hlt1 := HO3.out.2
  have hgne := HBG.out.2
  have hgl := HG.out.1.2
  have hDEL : Hid (Calls Tryz.prog 33 #[.slice (some ⟨gr, 0, none⟩) (r.length + 1) c, .int .i64 0, .int .i64 1] W.drew fun e w' => e = .returned (.slice (some ⟨gr, 0, none⟩) r.length c) ∧
      w'.ownsRow w0.heap.size 9 1 (.slice (some ⟨gr, 0, none⟩) r.length c) r.length (tcells (r.map fun x => ⟨x.toArray⟩)) ∧ W.drew.grownBy w' (some gr)) := by
    have hown2 : W.drew.ownsRow w0.heap.size 9 1 (.slice (some ⟨gr, 0, none⟩) (r.length + 1) c) (r.length + 1) (tcells ((Store.hd g t :: r).map fun x => ⟨x.toArray⟩)) := Book.row_owns HOW.out (fun i _ h2 => hbW.block i h2) (Nat.le_refl _)
    refine (sdelete (Store.hd g t) r w0.heap.size (some ⟨gr, 0, none⟩) c W.drew hown2).mono ?_
    rintro e w' ⟨g', e1, _, _, k1, k2, k3⟩
    obtain rfl : gr = g' := by injection e1 with e1; injection e1
    exact ⟨k1, k2, k3⟩
  have HK4 : Hid (∀ w', W.drew.grownBy w' (some gr) → w'.heap[w.heap.size]? = some (.cells #[.pointer (some ⟨D.b, 0, none⟩), .int .i64 (a : Int), .int .i64 (m : Int)] 44 (0, 0)) ∧
      w'.heap[w.heap.size + 1]? = some (.cells #[.pointer none, .pointer none, .int .i64 0, .int .i64 0, .int .u64 0, .string ⟨#[]⟩, .slice none 0 0] 48 (0, 0)) ∧ w'.heap[H]? = some (.cells #[.int .u64 (g : Int), .string t] 56 (0, 0))) := fun w' hg =>
    ⟨(hg.block _ (Sec.lt_of_heap hr2W) (fun e => by have := Option.some.inj e; omega)).trans hr2W, (hg.block _ (Sec.lt_of_heap hr3W) (fun e => by have := Option.some.inj e; omega)).trans hr3W, (hg.block _ (Sec.lt_of_heap hrH) (fun e => by have := Option.some.inj e; omega)).trans hrH⟩
  have HBW := Lib.hid hbW
  have HCS : Hid (∀ wx : World, wx.heap[w.heap.size]? = some (.cells #[.pointer (some ⟨D.b, 0, none⟩), .int .i64 (a : Int), .int .i64 (m : Int)] 44 (0, 0)) → wx.heap[H]? = some (.cells #[.int .u64 (g : Int), .string t] 56 (0, 0)) →
      wx.cell? ⟨w.heap.size, 0, none⟩ = some (.pointer (some ⟨D.b, 0, none⟩)) ∧ wx.cell? ⟨w.heap.size, 1, none⟩ = some (.int .i64 (a : Int)) ∧ wx.cell? ⟨w.heap.size, 2, none⟩ = some (.int .i64 (m : Int)) ∧ wx.cell? ⟨H, 0, none⟩ = some (.int .u64 (g : Int)) ∧ wx.cell? ⟨H, 1, none⟩ = some (.string t)) := fun wx h2 h3 =>
    ⟨cell_of_row _ _ 0 _ _ _ h2, cell_of_row _ _ 1 _ _ _ h2, cell_of_row _ _ 2 _ _ _ h2, cell_of_row _ _ 0 _ _ _ h3, cell_of_row _ _ 1 _ _ _ h3⟩
  have HFST : Hid (∀ wx : World, wx.heap[w.heap.size]? = some (.cells #[.pointer (some ⟨D.b, 0, none⟩), .int .i64 (a : Int), .int .i64 (m : Int)] 44 (0, 0)) → wx.heap[H]? = some (.cells #[.int .u64 (g : Int), .string t] 56 (0, 0)) → ∀ x0 x1 x2 x3 x4 x5 x6 : Value,
      (((((((wx.setCell ⟨w.heap.size + 1, 0, none⟩ x0).setCell ⟨w.heap.size + 1, 1, none⟩ x1).setCell ⟨w.heap.size + 1, 2, none⟩ x2).setCell ⟨w.heap.size + 1, 3, none⟩ x3).setCell ⟨w.heap.size + 1, 4, none⟩ x4).setCell ⟨w.heap.size + 1, 5, none⟩ x5).setCell ⟨w.heap.size + 1, 6, none⟩ x6).heap[w.heap.size]? = some (.cells #[.pointer (some ⟨D.b, 0, none⟩), .int .i64 (a : Int), .int .i64 (m : Int)] 44 (0, 0)) ∧
      (((((((wx.setCell ⟨w.heap.size + 1, 0, none⟩ x0).setCell ⟨w.heap.size + 1, 1, none⟩ x1).setCell ⟨w.heap.size + 1, 2, none⟩ x2).setCell ⟨w.heap.size + 1, 3, none⟩ x3).setCell ⟨w.heap.size + 1, 4, none⟩ x4).setCell ⟨w.heap.size + 1, 5, none⟩ x5).setCell ⟨w.heap.size + 1, 6, none⟩ x6).heap[H]? = some (.cells #[.int .u64 (g : Int), .string t] 56 (0, 0))) := fun wx h2 h3 x0 x1 x2 x3 x4 x5 x6 => by
    have hg := Store.grow7 wx (w.heap.size + 1) x0 x1 x2 x3 x4 x5 x6
    exact ⟨(hg.block _ (Sec.lt_of_heap h2) (fun e => by have := Option.some.inj e; omega)).trans h2, (hg.block _ (Sec.lt_of_heap h3) (fun e => by have := Option.some.inj e; omega)).trans h3⟩
  have HR0 := Lib.hid (HCS.out W hr2W hrH)
  have HR1 := Lib.hid (HCS.out W.drew hr2W hrH)
  clear hW hH hrH hbW hr2W hr3W
  go_region_held3 (fun wx => wx.cell? ⟨w.heap.size, 0, none⟩ = some (.pointer (some ⟨D.b, 0, none⟩)) ∧ wx.cell? ⟨w.heap.size, 1, none⟩ = some (.int .i64 (a : Int)) ∧ wx.cell? ⟨w.heap.size, 2, none⟩ = some (.int .i64 (m : Int)) ∧ wx.cell? ⟨H, 0, none⟩ = some (.int .u64 (g : Int)) ∧ wx.cell? ⟨H, 1, none⟩ = some (.string t))
    (first | with_reducible assumption | with_reducible exact HR0.out | with_reducible exact HR1.out | with_reducible exact HS4.out | with_reducible exact HS5.out) (first
    | (go_at_call 33; refine hDEL.out.mono ?_; rintro e w4 ⟨rfl, hown4, hg4⟩; have HRW4 := Lib.hid (HK4.out _ hg4); have HOW4 := Lib.hid hown4
       have HS4 := Lib.hid (HCS.out _ HRW4.out.1 HRW4.out.2.2)
       have q := HFST.out _ HRW4.out.1 HRW4.out.2.2 (.pointer (some ⟨B, 0, none⟩)) (.pointer (some ⟨D.b, 0, none⟩)) (.int .i64 (a : Int)) (.int .i64 (m : Int)) (.int .u64 (g : Int)) (.string t) (.slice (some ⟨gr, 0, none⟩) r.length c)
       have HS5 := Lib.hid (HCS.out _ q.1 q.2)
       clear q
       have HG4 := Lib.hid hg4; clear hown4 hg4
       have e0 := cell_of_row _ _ 0 _ _ _ HRW4.out.2.1
       have e1 := cell_of_row _ _ 1 _ _ _ HRW4.out.2.1
       have e2 := cell_of_row _ _ 2 _ _ _ HRW4.out.2.1
       have e3 := cell_of_row _ _ 3 _ _ _ HRW4.out.2.1
       have e4 := cell_of_row _ _ 4 _ _ _ HRW4.out.2.1
       have e5 := cell_of_row _ _ 5 _ _ _ HRW4.out.2.1
       have e6 := cell_of_row _ _ 6 _ _ _ HRW4.out.2.1
       have f0 := frozen_of_row _ _ 0 _ _ HRW4.out.2.1
       have f1 := frozen_of_row _ _ 1 _ _ HRW4.out.2.1
       have f2 := frozen_of_row _ _ 2 _ _ HRW4.out.2.1
       have f3 := frozen_of_row _ _ 3 _ _ HRW4.out.2.1
       have f4 := frozen_of_row _ _ 4 _ _ HRW4.out.2.1
       have f5 := frozen_of_row _ _ 5 _ _ HRW4.out.2.1
       have f6 := frozen_of_row _ _ 6 _ _ HRW4.out.2.1
       simp only [List.getElem?_toArray, List.getElem?_cons_zero, List.getElem?_cons_succ] at e0 e1 e2 e3 e4 e5 e6))
  all_goals
    have R5 := Lib.hid (Store.row7 HRW4.out.2.1 (.pointer (some ⟨B, 0, none⟩)) (.pointer (some ⟨D.b, 0, none⟩)) (.int .i64 (a : Int)) (.int .i64 (m : Int)) (.int .u64 (g : Int)) (.string t) (.slice (some ⟨gr, 0, none⟩) r.length c))
    have G5 := Lib.hid (Store.grow7 w4 (w.heap.size + 1) (.pointer (some ⟨B, 0, none⟩)) (.pointer (some ⟨D.b, 0, none⟩)) (.int .i64 (a : Int)) (.int .i64 (m : Int)) (.int .u64 (g : Int)) (.string t) (.slice (some ⟨gr, 0, none⟩) r.length c))
    clear e0 e1 e2 e3 e4 e5 e6 f0 f1 f2 f3 f4 f5 f6
    simp only [Exit.then]
    go_at_K
    go_wp2_with fail
    have k0 := cell_of_row _ _ 0 _ _ _ R5.out
    have k1 := cell_of_row _ _ 1 _ _ _ R5.out
    have k2 := cell_of_row _ _ 2 _ _ _ R5.out
    have k3 := cell_of_row _ _ 3 _ _ _ R5.out
    have k4 := cell_of_row _ _ 4 _ _ _ R5.out
    have k5 := cell_of_row _ _ 5 _ _ _ R5.out
    have k6 := cell_of_row _ _ 6 _ _ _ R5.out
    simp only [List.getElem?_toArray, List.getElem?_cons_zero, List.getElem?_cons_succ] at k0 k1 k2 k3 k4 k5 k6
    refine bodyPost_ret (v := .tuple #[.agg #[.pointer (some ⟨B, 0, none⟩), .pointer (some ⟨D.b, 0, none⟩), .int .i64 (a : Int), .int .i64 (m : Int), .int .u64 (g : Int), .string t, .slice (some ⟨gr, 0, none⟩) r.length c], .int .i64 0]) (by simp [results, Tryz.results18, go_sem, k0, k1, k2, k3, k4, k5, k6]) rfl ?_
    clear k0 k1 k2 k3 k4 k5 k6
    obtain ⟨w5, hw5⟩ : ∃ w5, w5 = (((((((w4.setCell ⟨w.heap.size + 1, 0, none⟩ (.pointer (some ⟨B, 0, none⟩))).setCell ⟨w.heap.size + 1, 1, none⟩ (.pointer (some ⟨D.b, 0, none⟩))).setCell ⟨w.heap.size + 1, 2, none⟩ (.int .i64 (a : Int))).setCell ⟨w.heap.size + 1, 3, none⟩ (.int .i64 (m : Int))).setCell ⟨w.heap.size + 1, 4, none⟩ (.int .u64 (g : Int))).setCell ⟨w.heap.size + 1, 5, none⟩ (.string t)).setCell ⟨w.heap.size + 1, 6, none⟩ (.slice (some ⟨gr, 0, none⟩) r.length c)) := ⟨_, rfl⟩
    rw [← hw5] at G5 ⊢
    have hbB := HBG.out.1
    have hk3 := Sec.lt_of_heap R3.out
    have hne : gr ≠ B := HG.out.2.2
    have hPB : Book.PB B D.b (a : Int) (m : Int) (Book.frs (Store.hd g t :: r)) false W.drew := HPB1.out.below HBW.out.drew
    have hPB4 := hPB.keep (HG4.out.block _ hPB.ltb (fun e => hne (Option.some.inj e).symm))
    have hA4 := Sec.at_grown ((HA1.out.below HBW.out).drew) HG.out.2.1 HG4.out
    refine ⟨D1, B, some ⟨gr, 0, none⟩, c, rfl, Sec.at_grown hA4 HO3.out.1 G5.out, ?_, by omega, HOB.out, hPB4.keep (G5.out.block _ hPB4.ltb (fun e => by have := Option.some.inj e; omega)), ?_, ?_⟩
    · exact ((HM1.out.trans (.of_below HBW.out.drew)).trans_new (.of_grown HG4.out) (fun i hi hlt => by have : i = gr := hi; omega)).trans_new (.of_grown G5.out) (fun i hi hlt => by have : i = w.heap.size + 1 := hi; omega)
    · exact Book.row_lies HOW4.out (fun i h1 h2 => G5.out.block i h2 (fun e => by have := Option.some.inj e; omega)) G5.out.size
    · intro ad had
      obtain rfl := Option.some.inj had
      exact ⟨by show w.heap.size ≤ gr; omega, HG.out.2.1, by show gr < w5.heap.size; have h1 := HG.out.1.2; have h2 := HBW.out.size; have h3 : W.heap.size ≤ w4.heap.size := HG4.out.size; have h4 := G5.out.size; omega⟩
end Go.Proofs.YtpmhpibbdcifnaaGreat
end

section
namespace Go.Proofs.YtpmhpibbdcifnaaGreat
open Go.RowKit
attribute [local go_sem ↓] Go.wp_at_zero Go.wp_at_succ

namespace Store
theorem Halves.nn {i h N : Nat} {S T : List UInt8} {s : Sec.St} (H : Halves i h N S T s) : s.n = N := H.here.nn
theorem Halves.han {i h N : Nat} {S T : List UInt8} {s : Sec.St} (H : Halves i h N S T s) : 2 ≤ N ∧ N ≤ 4096 ∧ 2 * h ≤ N ∧ h ≤ 2048 := by
  have h1 := H.here.ok.n2
  have h2 := H.here.nn
  have h3 := H.hn
  have h4 := H.h1
  omega
/-- A store at T: its book at B, on half i. -/
structure Sv (D : Sec.Bl) (T B a i m N g : Nat) (S R : List UInt8) (s : Sec.St) (w : World) : Prop where
  hA : Sec.At D s w
  ha : a = i * m
  pb : Book.PB B D.b (a : Int) (m : Int) S false w
  obj : w.heap[T]? = some (.cells #[.pointer (some ⟨B, 0, none⟩), .pointer (some ⟨D.b, 0, none⟩), .int .i64 (a : Int), .int .i64 (m : Int), .int .u64 (g : Int), .bool false] 54 (0, 0))
  oB : D.off B
  oT : D.off T
  ne : T ≠ B
  hh : Halves i m N S R s
section
variable {D D' : Sec.Bl} {T B a i m N g : Nat} {S R : List UInt8} {s s' : Sec.St} {w w' : World} {X : Nat → Prop}
theorem Sv.mx (h : Sv D T B a i m N g S R s w) (hm : Mx X D D' w w') (hA : Sec.At D' s' w') (hh : Halves i m N S R s') (hT : ¬ X T) (hB : ¬ X B) : Sv D' T B a i m N g S R s' w' :=
  ⟨hA, h.ha, by rw [hm.b]; exact hm.keeps h.pb h.oB hB, by rw [hm.b]; exact hm.keeps h.obj h.oT hT, hm.keep _ h.pb.ltb h.oB, hm.keep _ (Sec.lt_of_heap h.obj) h.oT, h.ne, hh⟩
theorem Sv.here (h : Sv D T B a i m N g S R s w) : Book.Laid a m N S s := h.ha ▸ h.hh.here
theorem Sv.below (h : Sv D T B a i m N g S R s w) (hb : Below w.heap.size w w') : Sv D T B a i m N g S R s w' := h.mx (X := no) (.of_below hb) (h.hA.below hb) h.hh id id
theorem Sv.oc (h : Sv D T B a i m N g S R s w) : w.cell? ⟨T, 0, none⟩ = some (.pointer (some ⟨B, 0, none⟩)) ∧ w.cell? ⟨T, 1, none⟩ = some (.pointer (some ⟨D.b, 0, none⟩)) ∧ w.cell? ⟨T, 2, none⟩ = some (.int .i64 (a : Int)) ∧ w.cell? ⟨T, 3, none⟩ = some (.int .i64 (m : Int)) ∧ w.cell? ⟨T, 4, none⟩ = some (.int .u64 (g : Int)) ∧ w.cell? ⟨T, 5, none⟩ = some (.bool false) :=
  ⟨cell_of_row _ _ 0 _ _ _ h.obj, cell_of_row _ _ 1 _ _ _ h.obj, cell_of_row _ _ 2 _ _ _ h.obj, cell_of_row _ _ 3 _ _ _ h.obj, cell_of_row _ _ 4 _ _ _ h.obj, cell_of_row _ _ 5 _ _ _ h.obj⟩
end
end Store

set_option maxHeartbeats 1000000 in
set_option maxRecDepth 20000 in
theorem sat {T B p a m g : Nat} {w : World} (h : w.heap[T]? = some (.cells #[.pointer (some ⟨B, 0, none⟩), .pointer (some ⟨p, 0, none⟩), .int .i64 (a : Int), .int .i64 (m : Int), .int .u64 (g : Int), .bool false] 54 (0, 0))) :
    Calls Tryz.prog 22 #[.pointer (some ⟨T, 0, none⟩)] w fun e w' => e = .returned (.agg #[.pointer (some ⟨B, 0, none⟩), .pointer (some ⟨p, 0, none⟩), .int .i64 (a : Int), .int .i64 (m : Int), .int .u64 (g : Int)]) ∧ Below w.heap.size w w' := by
  have hT := Sec.lt_of_heap h
  have c0 := cell_of_row _ _ 0 _ _ _ h
  have c1 := cell_of_row _ _ 1 _ _ _ h
  have c2 := cell_of_row _ _ 2 _ _ _ h
  have c3 := cell_of_row _ _ 3 _ _ _ h
  have c4 := cell_of_row _ _ 4 _ _ _ h
  simp only [List.getElem?_toArray, List.getElem?_cons_zero, List.getElem?_cons_succ] at c0 c1 c2 c3 c4
  have hne : T ≠ w.heap.size := by omega
  clear h
  go_enter Tryz.func22, Tryz.ntmps22
  go_wp2_with fail
  refine bodyPost_ret (v := .agg #[.pointer (some ⟨B, 0, none⟩), .pointer (some ⟨p, 0, none⟩), .int .i64 (a : Int), .int .i64 (m : Int), .int .u64 (g : Int)]) (by simp [results, Tryz.results22, go_sem]) rfl ⟨rfl, ?_⟩
  repeat (first | with_reducible exact Below.refl _ _ | with_reducible refine Below.setCell ?_ ?_ _ | with_reducible refine Below.alloc ?_ ?_ _)
  all_goals (first | exact Nat.le_refl _ | (simp; done) | (simp; omega))
set_option maxHeartbeats 1000000 in
set_option maxRecDepth 20000 in
theorem sat_nil (w : World) :
    Calls Tryz.prog 22 #[.pointer none] w fun e w' => e = .returned (.agg #[.pointer none, .pointer none, .int .i64 0, .int .i64 0, .int .u64 0]) ∧ Below w.heap.size w w' := by
  go_enter Tryz.func22, Tryz.ntmps22
  go_wp2_with fail
  refine bodyPost_ret (v := .agg #[.pointer none, .pointer none, .int .i64 0, .int .i64 0, .int .u64 0]) (by simp [results, Tryz.results22, go_sem]) rfl ⟨rfl, ?_⟩
  repeat (first | with_reducible exact Below.refl _ _ | with_reducible refine Below.setCell ?_ ?_ _ | with_reducible refine Below.alloc ?_ ?_ _)
  all_goals (first | exact Nat.le_refl _ | (simp; done) | (simp; omega))
theorem sfield0 (v0 v1 v2 v3 v4 : Value) (w : World) : (Instr.field 46 (.agg #[v0, v1, v2, v3, v4]) 0).run Tryz.prog w = .ok v0 w := by kernel_rfl
theorem sfield2 (v0 v1 v2 v3 v4 : Value) (w : World) : (Instr.field 46 (.agg #[v0, v1, v2, v3, v4]) 2).run Tryz.prog w = .ok v4 w := by kernel_rfl
/-! ### A store that is none -/
set_option maxHeartbeats 1000000 in
set_option maxRecDepth 20000 in
theorem sappend_nil (A : Option Addr) (n c : Nat) (w : World) :
    Calls Tryz.prog 8 #[.pointer none, .slice A n c] w fun e w' => e = .returned (.int .i64 1) ∧ Below w.heap.size w w' := by
  have hfd := fun w => sfield0 (.pointer none) (.pointer none) (.int .i64 0) (.int .i64 0) (.int .u64 0) w
  go_enter Tryz.func8, Tryz.ntmps8
  go_wp2_with fail
  refine (sat_nil _).mono ?_
  rintro e w1 ⟨rfl, hb⟩
  have HB := Lib.hid hb
  clear hb
  go_wp2_with fail
  refine (pappend_nil _ _ _ _).mono ?_
  rintro e w2 ⟨rfl, rfl⟩
  go_wp2_with fail
  go_ret
  exact ⟨rfl, HB.out⟩
set_option maxHeartbeats 1000000 in
set_option maxRecDepth 20000 in
theorem ssync_nil (w : World) :
    Calls Tryz.prog 9 #[.pointer none] w fun e w' => e = .returned (.int .i64 1) ∧ Below w.heap.size w w' := by
  have hfd := fun w => sfield0 (.pointer none) (.pointer none) (.int .i64 0) (.int .i64 0) (.int .u64 0) w
  go_enter Tryz.func9, Tryz.ntmps9
  go_wp2_with fail
  refine (sat_nil _).mono ?_
  rintro e w1 ⟨rfl, hb⟩
  have HB := Lib.hid hb
  clear hb
  go_wp2_with fail
  refine (psync_nil _).mono ?_
  rintro e w2 ⟨rfl, rfl⟩
  go_wp2_with fail
  go_ret
  exact ⟨rfl, HB.out⟩
set_option maxHeartbeats 1000000 in
set_option maxRecDepth 20000 in
theorem sgen_nil (w : World) :
    Calls Tryz.prog 11 #[.pointer none] w fun e w' => e = .returned (.int .u64 0) ∧ Below w.heap.size w w' := by
  have hfd := fun w => sfield2 (.pointer none) (.pointer none) (.int .i64 0) (.int .i64 0) (.int .u64 0) w
  go_enter Tryz.func11, Tryz.ntmps11
  go_wp2_with fail
  refine (sat_nil _).mono ?_
  rintro e w1 ⟨rfl, hb⟩
  have HB := Lib.hid hb
  clear hb
  go_wp2_with fail
  go_ret
  exact ⟨rfl, HB.out⟩
set_option maxHeartbeats 1000000 in
set_option maxRecDepth 20000 in
theorem sroom_nil (w : World) :
    Calls Tryz.prog 12 #[.pointer none] w fun e w' => e = .returned (.int .i64 0) ∧ Below w.heap.size w w' := by
  have hfd := fun w => sfield0 (.pointer none) (.pointer none) (.int .i64 0) (.int .i64 0) (.int .u64 0) w
  go_enter Tryz.func12, Tryz.ntmps12
  go_wp2_with fail
  refine (sat_nil _).mono ?_
  rintro e w1 ⟨rfl, hb⟩
  have HB := Lib.hid hb
  clear hb
  go_wp2_with fail
  refine (proom_nil _).mono ?_
  rintro e w2 ⟨rfl, rfl⟩
  go_wp2_with fail
  go_ret
  exact ⟨rfl, HB.out⟩
set_option maxHeartbeats 1000000 in
set_option maxRecDepth 20000 in
theorem strim_nil (t : ByteArray) (w : World) :
    Calls Tryz.prog 10 #[.pointer none, .string t] w fun e w' => e = .returned (.int .i64 1) ∧ Below w.heap.size w w' := by
  go_enter Tryz.func10, Tryz.ntmps10
  go_wp2_with fail
  refine (sat_nil _).mono ?_
  rintro e w1 ⟨rfl, hb⟩
  have HB := Lib.hid hb
  clear hb
  go_wp2_with fail
  refine (pappend_nil _ _ _ _).mono ?_
  rintro e w2 ⟨rfl, rfl⟩
  go_wp2_with fail
  go_ret
  exact ⟨rfl, HB.out.alloc HB.out.size _⟩
set_option maxHeartbeats 1000000 in
set_option maxRecDepth 20000 in
theorem sopen_nil (w : World) :
    Calls Tryz.prog 6 #[.pointer none] w fun e w' => e = .returned (.tuple #[.pointer none, .string ⟨#[]⟩, .slice none 0 0, .int .i64 1]) ∧ Below w.heap.size w w' := by
  go_enter Tryz.func6, Tryz.ntmps6
  go_wp2_with fail
  refine (sfault_nil _).mono ?_
  rintro e w1 ⟨rfl, rfl⟩
  go_wp2_with fail
  refine bodyPost_ret (v := .tuple #[.pointer none, .string ⟨#[]⟩, .slice none 0 0, .int .i64 1]) (by simp [results, Tryz.results6, go_sem]) rfl ⟨rfl, Below.refl _ _⟩
set_option maxHeartbeats 1000000 in
set_option maxRecDepth 20000 in
theorem smake_nil (t : ByteArray) (w : World) :
    Calls Tryz.prog 7 #[.pointer none, .string t] w fun e w' => e = .returned (.int .i64 1) ∧ Below w.heap.size w w' := by
  go_enter Tryz.func7, Tryz.ntmps7
  go_wp2_with fail
  refine (sfault_nil _).mono ?_
  rintro e w1 ⟨rfl, rfl⟩
  go_wp2_with fail
  go_ret
  exact ⟨rfl, Below.refl _ _⟩
end Go.Proofs.YtpmhpibbdcifnaaGreat
end

section
namespace Go.Proofs.YtpmhpibbdcifnaaGreat
open Go.RowKit
attribute [local go_sem ↓] Go.wp_at_zero Go.wp_at_succ

section
variable {D : Sec.Bl} {T B a i m N g : Nat} {S R : List UInt8} {s : Sec.St} {w : World}
set_option maxHeartbeats 1000000 in
set_option maxRecDepth 20000 in
theorem sappend_ok (h : Store.Sv D T B a i m N g S R s w) (hlim : s.loose.length ≤ 900000000) (xs : List ByteArray) (A : Option Addr) (c : Nat) (hl : xs.length ≤ maxLen) (hx : ∀ x ∈ xs, x.size ≤ maxLen) (hli : Lies w w.heap.size A (tcells xs))
    (hlong : Book.long xs = false) (hfit : S.length + (Book.frb xs).length ≤ m * 127) :
    Calls Tryz.prog 8 #[.pointer (some ⟨T, 0, none⟩), .slice A xs.length c] w fun e w' => e = .returned (.int .i64 0) ∧ ∃ D' s', Store.Sv D' T B a i m N g (S ++ Book.frb xs) R s' w' ∧ Store.Mx (fun i => i = B) D D' w w' ∧ s'.good = s.good ∧ s'.loose.length ≤ s.loose.length + m := by
  have hN := h.hh.han
  obtain ⟨p1, p2, p3, p4⟩ := h.hh.append (m := Book.frb xs) hfit
  rw [← h.ha] at p2 p3 p4
  have HAT := Lib.hid (sat h.obj)
  have HAP : Hid (∀ wx, Below w.heap.size w wx → Calls Tryz.prog 23 #[.pointer (some ⟨B, 0, none⟩), .slice A xs.length c] wx fun e w' => e = .returned (.int .i64 0) ∧ ∃ D', Sec.At D' (Book.puts (Book.todo a m S (S ++ Book.frb xs)) s).2 w' ∧ Book.PB B D.b (a : Int) (m : Int) (S ++ Book.frb xs) false w' ∧ D'.off B ∧ Book.Mvb D D' B wx w') := fun wx hb =>
    at_append_ok (h.hA.below hb) (h.pb.below hb) h.oB h.here (by omega) xs A c hl hx ((hli.below hb).mono hb.size) hlong hfit
  have H := Lib.hid h
  have HP := Lib.hid (And.intro p2 (And.intro p3 p4))
  have hfd := fun w => sfield0 (.pointer (some ⟨B, 0, none⟩)) (.pointer (some ⟨D.b, 0, none⟩)) (.int .i64 (a : Int)) (.int .i64 (m : Int)) (.int .u64 (g : Int)) w
  clear h p1 p2 p3 p4 hli hlong hfit hx hl hlim hN
  go_enter Tryz.func8, Tryz.ntmps8
  go_wp2_with fail
  refine HAT.out.mono ?_
  rintro e w1 ⟨rfl, hb⟩
  have HB := Lib.hid hb
  clear hb
  go_wp2_with fail
  refine (HAP.out _ HB.out).mono ?_
  rintro e w2 ⟨rfl, D', hA, hP, hO, hM⟩
  have HF : Hid (∃ D' s', Store.Sv D' T B a i m N g (S ++ Book.frb xs) R s' w2 ∧ Store.Mx (fun i => i = B) D D' w w2 ∧ s'.good = s.good ∧ s'.loose.length ≤ s.loose.length + m) := by
    have hm : Store.Mx (fun i => i = B) D D' w w2 := (Store.Mx.of_below HB.out).trans (.of_mvb hM)
    have k := H.out
    exact ⟨D', _, ⟨hA, k.ha, by rw [hm.b]; exact hP, by rw [hm.b]; exact hm.keeps k.obj k.oT k.ne, hO, hm.keep _ (Sec.lt_of_heap k.obj) k.oT, k.ne, HP.out.1⟩, hm, HP.out.2.1, HP.out.2.2⟩
  clear hA hP hO hM hfd
  go_wp2_with fail
  go_ret
  exact ⟨rfl, HF.out⟩
set_option maxHeartbeats 1000000 in
set_option maxRecDepth 20000 in
theorem sappend_no (h : Store.Sv D T B a i m N g S R s w) (hlim : s.loose.length ≤ 900000000) (xs : List ByteArray) (A : Option Addr) (c : Nat) (hl : xs.length ≤ maxLen) (hx : ∀ x ∈ xs, x.size ≤ maxLen) (hli : Lies w w.heap.size A (tcells xs))
    (hlong : Book.long xs = false) (hno : ¬ S.length + (Book.frb xs).length ≤ m * 127) :
    Calls Tryz.prog 8 #[.pointer (some ⟨T, 0, none⟩), .slice A xs.length c] w fun e w' => e = .returned (.int .i64 6) ∧ ∃ D', Store.Sv D' T B a i m N g S R s w' ∧ Store.Mx (fun i => i = B) D D' w w' := by
  have hN := h.hh.han
  have HAT := Lib.hid (sat h.obj)
  have HAP : Hid (∀ wx, Below w.heap.size w wx → Calls Tryz.prog 23 #[.pointer (some ⟨B, 0, none⟩), .slice A xs.length c] wx fun e w' => e = .returned (.int .i64 6) ∧ ∃ D', Sec.At D' s w' ∧ Book.PB B D.b (a : Int) (m : Int) S false w' ∧ D'.off B ∧ Book.Mvb D D' B wx w') := fun wx hb =>
    at_append_no (h.hA.below hb) (h.pb.below hb) h.oB h.here (by omega) xs A c hl hx ((hli.below hb).mono hb.size) hlong hno
  have H := Lib.hid h
  have hfd := fun w => sfield0 (.pointer (some ⟨B, 0, none⟩)) (.pointer (some ⟨D.b, 0, none⟩)) (.int .i64 (a : Int)) (.int .i64 (m : Int)) (.int .u64 (g : Int)) w
  clear h hli hlong hno hx hl hlim hN
  go_enter Tryz.func8, Tryz.ntmps8
  go_wp2_with fail
  refine HAT.out.mono ?_
  rintro e w1 ⟨rfl, hb⟩
  have HB := Lib.hid hb
  clear hb
  go_wp2_with fail
  refine (HAP.out _ HB.out).mono ?_
  rintro e w2 ⟨rfl, D', hA, hP, hO, hM⟩
  have HF : Hid (∃ D', Store.Sv D' T B a i m N g S R s w2 ∧ Store.Mx (fun i => i = B) D D' w w2) := by
    have hm : Store.Mx (fun i => i = B) D D' w w2 := (Store.Mx.of_below HB.out).trans (.of_mvb hM)
    have k := H.out
    exact ⟨D', ⟨hA, k.ha, by rw [hm.b]; exact hP, by rw [hm.b]; exact hm.keeps k.obj k.oT k.ne, hO, hm.keep _ (Sec.lt_of_heap k.obj) k.oT, k.ne, k.hh⟩, hm⟩
  clear hA hP hO hM hfd
  go_wp2_with fail
  go_ret
  exact ⟨rfl, HF.out⟩
set_option maxHeartbeats 1000000 in
set_option maxRecDepth 20000 in
theorem ssync_ok (h : Store.Sv D T B a i m N g S R s w) (hlim : s.loose.length ≤ 900000000) :
    Calls Tryz.prog 9 #[.pointer (some ⟨T, 0, none⟩)] w fun e w' => e = .returned (.int .i64 0) ∧ ∃ D' s', Store.Sv D' T B a i m N g S R s' w' ∧ Store.Mx (fun i => i = B) D D' w w' ∧ s'.loose = [] := by
  have hN := h.hh.han
  obtain ⟨p1, p2, p3⟩ := h.hh.sync
  have HAT := Lib.hid (sat h.obj)
  have HAP : Hid (∀ wx, Below w.heap.size w wx → Calls Tryz.prog 24 #[.pointer (some ⟨B, 0, none⟩)] wx fun e w' => e = .returned (.int .i64 0) ∧ ∃ D', Sec.At D' (Book.wsync s).2 w' ∧ Book.PB B D.b (a : Int) (m : Int) S false w' ∧ D'.off B ∧ Book.Mvb D D' B wx w') := fun wx hb =>
    at_sync (h.hA.below hb) (h.pb.below hb) h.oB h.here (by omega)
  have H := Lib.hid h
  have HP := Lib.hid (And.intro p2 p3)
  have hfd := fun w => sfield0 (.pointer (some ⟨B, 0, none⟩)) (.pointer (some ⟨D.b, 0, none⟩)) (.int .i64 (a : Int)) (.int .i64 (m : Int)) (.int .u64 (g : Int)) w
  clear h p1 p2 p3 hlim hN
  go_enter Tryz.func9, Tryz.ntmps9
  go_wp2_with fail
  refine HAT.out.mono ?_
  rintro e w1 ⟨rfl, hb⟩
  have HB := Lib.hid hb
  clear hb
  go_wp2_with fail
  refine (HAP.out _ HB.out).mono ?_
  rintro e w2 ⟨rfl, D', hA, hP, hO, hM⟩
  have HF : Hid (∃ D' s', Store.Sv D' T B a i m N g S R s' w2 ∧ Store.Mx (fun i => i = B) D D' w w2 ∧ s'.loose = []) := by
    have hm : Store.Mx (fun i => i = B) D D' w w2 := (Store.Mx.of_below HB.out).trans (.of_mvb hM)
    have k := H.out
    exact ⟨D', _, ⟨hA, k.ha, by rw [hm.b]; exact hP, by rw [hm.b]; exact hm.keeps k.obj k.oT k.ne, hO, hm.keep _ (Sec.lt_of_heap k.obj) k.oT, k.ne, HP.out.1⟩, hm, HP.out.2⟩
  clear hA hP hO hM hfd
  go_wp2_with fail
  go_ret
  exact ⟨rfl, HF.out⟩
set_option maxHeartbeats 1000000 in
set_option maxRecDepth 20000 in
theorem sgen_ok (h : Store.Sv D T B a i m N g S R s w) :
    Calls Tryz.prog 11 #[.pointer (some ⟨T, 0, none⟩)] w fun e w' => e = .returned (.int .u64 (g : Int)) ∧ Below w.heap.size w w' := by
  have HAT := Lib.hid (sat h.obj)
  have hfd := fun w => sfield2 (.pointer (some ⟨B, 0, none⟩)) (.pointer (some ⟨D.b, 0, none⟩)) (.int .i64 (a : Int)) (.int .i64 (m : Int)) (.int .u64 (g : Int)) w
  clear h
  go_enter Tryz.func11, Tryz.ntmps11
  go_wp2_with fail
  refine HAT.out.mono ?_
  rintro e w1 ⟨rfl, hb⟩
  have HB := Lib.hid hb
  clear hb
  go_wp2_with fail
  go_ret
  exact ⟨rfl, HB.out⟩
set_option maxHeartbeats 1000000 in
set_option maxRecDepth 20000 in
theorem sroom_ok (h : Store.Sv D T B a i m N g S R s w) :
    Calls Tryz.prog 12 #[.pointer (some ⟨T, 0, none⟩)] w fun e w' => e = .returned (.int .i64 ((m * 127 - S.length : Nat) : Int)) ∧ Below w.heap.size w w' := by
  have hN := h.hh.han
  have HAT := Lib.hid (sat h.obj)
  obtain ⟨q, hq⟩ : ∃ q, q = m * 127 - S.length := ⟨_, rfl⟩
  have HRM : Hid (∀ wx, Below w.heap.size w wx → Calls Tryz.prog 26 #[.pointer (some ⟨B, 0, none⟩)] wx fun e w' => e = .returned (.int .i64 (q : Int)) ∧ Below wx.heap.size wx w') := fun wx hb => by
    rw [hq]
    exact proom (h.pb.below hb) (by omega) h.here.fit
  rw [← hq]
  have hfd := fun w => sfield0 (.pointer (some ⟨B, 0, none⟩)) (.pointer (some ⟨D.b, 0, none⟩)) (.int .i64 (a : Int)) (.int .i64 (m : Int)) (.int .u64 (g : Int)) w
  clear h hN hq
  go_enter Tryz.func12, Tryz.ntmps12
  go_wp2_with fail
  refine HAT.out.mono ?_
  rintro e w1 ⟨rfl, hb⟩
  have HB := Lib.hid hb
  clear hb
  go_wp2_with fail
  refine (HRM.out _ HB.out).mono ?_
  rintro e w2 ⟨rfl, hb⟩
  have HB2 := Lib.hid (HB.out.trans (hb.mono HB.out.size))
  clear hb
  go_wp2_with fail
  go_ret
  exact ⟨rfl, HB2.out⟩
end
end Go.Proofs.YtpmhpibbdcifnaaGreat
end
