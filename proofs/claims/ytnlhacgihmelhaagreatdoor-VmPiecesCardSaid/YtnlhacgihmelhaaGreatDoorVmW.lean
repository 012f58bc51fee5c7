/-
  Layer 14: two tasks, two stops that are the same; VmNil's walk.
-/
import Derived.Test.YtnlhacgihmelhaaGreatDoorLowVmU
namespace Go.Proofs.YtnlhacgihmelhaaGreatDoor
open Go.RowKit

set_option maxHeartbeats 1000000 in
set_option maxRecDepth 20000 in
theorem tasks_same (pa : ByteArray) (fn fu : Int) (xs : List Int) (A A2 : Option Addr) (c c2 : Nat) (w : World) (h1 : Lies w w.heap.size A (icells xs)) (h2 : Lies w w.heap.size A2 (icells xs)) (hn : xs.length ≤ 100000) :
    Calls Tryz.prog 17 #[.agg #[.string pa, .int .i64 fn, .slice A xs.length c, .int .i64 fu], .agg #[.string pa, .int .i64 fn, .slice A2 xs.length c2, .int .i64 fu]] w fun e w' => e = .returned (.bool true) ∧ Below w.heap.size w w' := by
  obtain ⟨V1, hV1⟩ : ∃ V, V = w.alloc (.cells #[.string pa, .int .i64 fn, .slice A xs.length c, .int .i64 fu] 41) := ⟨_, rfl⟩
  obtain ⟨V2, hV2⟩ : ∃ V, V = V1.alloc (.cells #[.string pa, .int .i64 fn, .slice A2 xs.length c2, .int .i64 fu] 41) := ⟨_, rfl⟩
  have hb1 : Below w.heap.size w V1 := by rw [hV1]; exact Cd.fn1 _ _ _
  have hs1 : V1.heap.size = w.heap.size + 1 := by rw [hV1]; simp
  have hb2 : Below V1.heap.size V1 V2 := by rw [hV2]; exact Cd.fn1 _ _ _
  have hB2 : Below w.heap.size w V2 := hb1.trans (hb2.mono hb1.size)
  have hX : V2.heap[w.heap.size]? = some (.cells #[.string pa, .int .i64 fn, .slice A xs.length c, .int .i64 fu] 41 (0, 0)) := (hb2.block w.heap.size (by omega)).trans (by rw [hV1]; exact heap_alloc_new w _)
  have hT : V2.heap[w.heap.size + 1]? = some (.cells #[.string pa, .int .i64 fn, .slice A2 xs.length c2, .int .i64 fu] 41 (0, 0)) := by rw [← hs1, hV2]; exact heap_alloc_new V1 _
  have HB := Lib.hid hB2
  have HL1 := Lib.hid ((h1.below hB2).mono hB2.size)
  have HL2 := Lib.hid ((h2.below hB2).mono hB2.size)
  have HN := Lib.hid hn
  have x0 : V2.cell? ⟨w.heap.size, 0, none⟩ = some (.string pa) := cell_of_row _ _ 0 _ _ _ hX
  have x1 : V2.cell? ⟨w.heap.size, 1, none⟩ = some (.int .i64 fn) := cell_of_row _ _ 1 _ _ _ hX
  have x2 : V2.cell? ⟨w.heap.size, 2, none⟩ = some (.slice A xs.length c) := cell_of_row _ _ 2 _ _ _ hX
  have x3 : V2.cell? ⟨w.heap.size, 3, none⟩ = some (.int .i64 fu) := cell_of_row _ _ 3 _ _ _ hX
  have y0 : V2.cell? ⟨w.heap.size + 1, 0, none⟩ = some (.string pa) := cell_of_row _ _ 0 _ _ _ hT
  have y1 : V2.cell? ⟨w.heap.size + 1, 1, none⟩ = some (.int .i64 fn) := cell_of_row _ _ 1 _ _ _ hT
  have y2 : V2.cell? ⟨w.heap.size + 1, 2, none⟩ = some (.slice A2 xs.length c2) := cell_of_row _ _ 2 _ _ _ hT
  have y3 : V2.cell? ⟨w.heap.size + 1, 3, none⟩ = some (.int .i64 fu) := cell_of_row _ _ 3 _ _ _ hT
  clear hb1 hb2 hB2 hX hT h1 h2 hn
  go_enter Tryz.func17, Tryz.ntmps17
  go_upto_region 1 with fail
  rw [← hV1, ← hV2]
  clear hV1 hV2 hs1
  obtain ⟨Z, hZe⟩ : ∃ Z, Z = w.heap.size := ⟨_, rfl⟩
  rw [← hZe] at x0 x1 x2 x3 y0 y1 y2 y3 ⊢
  clear hZe
  go_wp2_with fail
  go_loopw [5] (fun s5 wr => ∃ k : Nat, k ≤ xs.length ∧ s5 = .int .i64 k ∧ Hid (∃ q, wr = V2.drewN q)) (fun s5 _ => xs.length - (intOf s5).toNat)
  case atStart => exact ⟨0, Nat.zero_le _, rfl, 0, rfl⟩
  case round =>
    rename World => wr
    obtain ⟨k, hk, rfl, HQ⟩ := hrel
    obtain ⟨q, rfl⟩ := HQ.out
    clear HQ
    by_cases hlt : k < xs.length
    · have k0 : (0 : Int) ≤ (k : Int) := by omega
      have k1 : (k : Int) < (xs.length : Int) := by omega
      obtain ⟨ad, rfl, -, hc⟩ := HL1.out (by unfold icells; rw [List.length_map]; omega)
      obtain ⟨ad2, rfl, -, hc2⟩ := HL2.out (by unfold icells; rw [List.length_map]; omega)
      have d0 : V2.cell? (ad.add k) = some (.int .i64 xs[k]) := hc k _ (by unfold icells; rw [List.getElem?_map, List.getElem?_eq_getElem hlt]; rfl)
      have d2 : V2.cell? (ad2.add k) = some (.int .i64 xs[k]) := hc2 k _ (by unfold icells; rw [List.getElem?_map, List.getElem?_eq_getElem hlt]; rfl)
      generalize xs[k] = x at d0 d2
      have hk100 : k ≤ 100000 := by have := HN.out; omega
      have HLT := Lib.hid hlt
      clear hc hc2 hlt
      go_upto_region 6 with fail
      go_region
      go_wp2_with fail
      have hl1 : k < xs.length := HLT.out
      go_roundw
      case rel => exact ⟨k + 1, by omega, by go_num, _, by first | rfl | rw [World.drewN_drewN] | exact (World.drewN_drewN _ _ _).symm⟩
      case measure => simp [intOf]; omega
    · have k1 : ¬ (k : Int) < (xs.length : Int) := by omega
      obtain rfl : k = xs.length := by omega
      clear hlt
      go_wp2_with fail
      go_ret
      exact ⟨rfl, below_drewN HB.out _⟩

set_option maxHeartbeats 1000000 in
set_option maxRecDepth 20000 in
theorem stops_same (k : Int) (pa : ByteArray) (fn fu va er : Int) (xs : List Int) (A A2 : Option Addr) (c c2 : Nat) (w : World) (h1 : Lies w w.heap.size A (icells xs)) (h2 : Lies w w.heap.size A2 (icells xs)) (hn : xs.length ≤ 100000) :
    Calls Tryz.prog 23 #[.agg #[.int .u8 k, .string pa, .int .i64 fn, .slice A xs.length c, .int .i64 fu, .int .i64 va, .int .i64 er], .agg #[.int .u8 k, .string pa, .int .i64 fn, .slice A2 xs.length c2, .int .i64 fu, .int .i64 va, .int .i64 er]] w fun e w' => e = .returned (.bool true) ∧ Below w.heap.size w w' := by
  obtain ⟨V1, hV1⟩ : ∃ V, V = w.alloc (.cells #[.int .u8 k, .string pa, .int .i64 fn, .slice A xs.length c, .int .i64 fu, .int .i64 va, .int .i64 er] 59) := ⟨_, rfl⟩
  obtain ⟨V2, hV2⟩ : ∃ V, V = V1.alloc (.cells #[.int .u8 k, .string pa, .int .i64 fn, .slice A2 xs.length c2, .int .i64 fu, .int .i64 va, .int .i64 er] 59) := ⟨_, rfl⟩
  have hb1 : Below w.heap.size w V1 := by rw [hV1]; exact Cd.fn1 _ _ _
  have hs1 : V1.heap.size = w.heap.size + 1 := by rw [hV1]; simp
  have hb2 : Below V1.heap.size V1 V2 := by rw [hV2]; exact Cd.fn1 _ _ _
  have hB2 : Below w.heap.size w V2 := hb1.trans (hb2.mono hb1.size)
  have hX : V2.heap[w.heap.size]? = some (.cells #[.int .u8 k, .string pa, .int .i64 fn, .slice A xs.length c, .int .i64 fu, .int .i64 va, .int .i64 er] 59 (0, 0)) := (hb2.block w.heap.size (by omega)).trans (by rw [hV1]; exact heap_alloc_new w _)
  have hT : V2.heap[w.heap.size + 1]? = some (.cells #[.int .u8 k, .string pa, .int .i64 fn, .slice A2 xs.length c2, .int .i64 fu, .int .i64 va, .int .i64 er] 59 (0, 0)) := by rw [← hs1, hV2]; exact heap_alloc_new V1 _
  have HB := Lib.hid hB2
  have HTS := Lib.hid (tasks_same pa fn fu xs A A2 c c2 V2 ((h1.below hB2).mono hB2.size) ((h2.below hB2).mono hB2.size) hn)
  have x0 : V2.cell? ⟨w.heap.size, 0, none⟩ = some (.int .u8 k) := cell_of_row _ _ 0 _ _ _ hX
  have x1 : V2.cell? ⟨w.heap.size, 1, none⟩ = some (.string pa) := cell_of_row _ _ 1 _ _ _ hX
  have x2 : V2.cell? ⟨w.heap.size, 2, none⟩ = some (.int .i64 fn) := cell_of_row _ _ 2 _ _ _ hX
  have x3 : V2.cell? ⟨w.heap.size, 3, none⟩ = some (.slice A xs.length c) := cell_of_row _ _ 3 _ _ _ hX
  have x4 : V2.cell? ⟨w.heap.size, 4, none⟩ = some (.int .i64 fu) := cell_of_row _ _ 4 _ _ _ hX
  have x5 : V2.cell? ⟨w.heap.size, 5, none⟩ = some (.int .i64 va) := cell_of_row _ _ 5 _ _ _ hX
  have x6 : V2.cell? ⟨w.heap.size, 6, none⟩ = some (.int .i64 er) := cell_of_row _ _ 6 _ _ _ hX
  have y0 : V2.cell? ⟨w.heap.size + 1, 0, none⟩ = some (.int .u8 k) := cell_of_row _ _ 0 _ _ _ hT
  have y1 : V2.cell? ⟨w.heap.size + 1, 1, none⟩ = some (.string pa) := cell_of_row _ _ 1 _ _ _ hT
  have y2 : V2.cell? ⟨w.heap.size + 1, 2, none⟩ = some (.int .i64 fn) := cell_of_row _ _ 2 _ _ _ hT
  have y3 : V2.cell? ⟨w.heap.size + 1, 3, none⟩ = some (.slice A2 xs.length c2) := cell_of_row _ _ 3 _ _ _ hT
  have y4 : V2.cell? ⟨w.heap.size + 1, 4, none⟩ = some (.int .i64 fu) := cell_of_row _ _ 4 _ _ _ hT
  have y5 : V2.cell? ⟨w.heap.size + 1, 5, none⟩ = some (.int .i64 va) := cell_of_row _ _ 5 _ _ _ hT
  have y6 : V2.cell? ⟨w.heap.size + 1, 6, none⟩ = some (.int .i64 er) := cell_of_row _ _ 6 _ _ _ hT
  clear hb1 hb2 hB2 hX hT h1 h2 hn
  go_enter Tryz.func23, Tryz.ntmps23
  go_upto_region 1 with fail
  rw [← hV1, ← hV2]
  clear hV1 hV2 hs1
  obtain ⟨Z, hZe⟩ : ∃ Z, Z = w.heap.size := ⟨_, rfl⟩
  rw [← hZe] at x0 x1 x2 x3 x4 x5 x6 y0 y1 y2 y3 y4 y5 y6 ⊢
  clear hZe
  go_wp2_with fail
  refine HTS.out.mono ?_
  rintro e w1 ⟨rfl, hb⟩
  have HF := Lib.hid (HB.out.trans (hb.mono HB.out.size))
  clear hb
  go_wp2_with fail
  go_ret
  exact ⟨rfl, HF.out⟩

set_option maxHeartbeats 2000000 in
set_option maxRecDepth 20000 in
theorem nil14 (n : Int) (rv re : Int) (w : World) (hL : Ck.Laid w) : Calls Tryz.prog 6 #[.int .i64 n, .agg #[.int .i64 rv, .int .i64 re]] w fun e w' => e = .returned (.bool true) ∧ Below w.heap.size w w' := by
  obtain ⟨V1, hV1⟩ : ∃ V, V = w.alloc (.cells #[.int .i64 rv, .int .i64 re] 30) := ⟨_, rfl⟩
  have hb1 : Below w.heap.size w V1 := by rw [hV1]; exact Cd.fn1 _ _ _
  have hR : V1.heap[w.heap.size]? = some (.cells #[.int .i64 rv, .int .i64 re] 30 (0, 0)) := by rw [hV1]; exact heap_alloc_new w _
  have HB1 := Lib.hid hb1
  have HR1 := Lib.hid hR
  have HL := Lib.hid hL
  clear hb1 hR hL
  go_enter Tryz.func6, Tryz.ntmps6
  go_upto_region 1 with fail
  rw [← hV1]
  clear hV1
  obtain ⟨Z, hZe⟩ : ∃ Z, Z = w.heap.size := ⟨_, rfl⟩
  rw [← hZe] at HR1 ⊢
  clear hZe
  go_wp2_with fail
  refine (vRun_nil _ _).mono ?_
  rintro e w2 ⟨rfl, hb2⟩
  obtain ⟨W2, hW2⟩ : ∃ X, X = w2.alloc (.cells #[.int .u8 0, .string ⟨#[]⟩, .int .i64 0, .slice none 0 0, .int .i64 0, .int .i64 0, .int .i64 0] 59) := ⟨_, rfl⟩
  have hbW : Below w2.heap.size w2 W2 := by rw [hW2]; exact Cd.fn1 _ _ _
  have hS : W2.heap[w2.heap.size]? = some (.cells #[.int .u8 0, .string ⟨#[]⟩, .int .i64 0, .slice none 0 0, .int .i64 0, .int .i64 0, .int .i64 0] 59 (0, 0)) := by rw [hW2]; exact heap_alloc_new w2 _
  have HB2 : Hid (Below w.heap.size w W2) := HB1.out.trans ((hb2.trans (hbW.mono hb2.size)).mono HB1.out.size)
  have HR2 := Lib.hid (((hb2.trans (hbW.mono hb2.size)).block Z (Cd.ltH HR1.out)).trans HR1.out)
  have HS := Lib.hid hS
  clear hb2 hbW hS
  go_upto_region 3 with fail
  rw [← hW2]
  clear hW2
  obtain ⟨S, hSe⟩ : ∃ S, S = w2.heap.size := ⟨_, rfl⟩
  rw [← hSe] at HS ⊢
  clear hSe
  go_wp2_with fail
  refine (vTask_nil _).mono ?_
  rintro e w3 ⟨rfl, hb3⟩
  obtain ⟨W3, hW3⟩ : ∃ X, X = w3.alloc (.cells #[.string ⟨#[]⟩, .int .i64 0, .slice none 0 0, .int .i64 0] 41) := ⟨_, rfl⟩
  have hbW : Below w3.heap.size w3 W3 := by rw [hW3]; exact Cd.fn1 _ _ _
  have hb23 := hb3.trans (hbW.mono hb3.size)
  have hT : W3.heap[w3.heap.size]? = some (.cells #[.string ⟨#[]⟩, .int .i64 0, .slice none 0 0, .int .i64 0] 41 (0, 0)) := by rw [hW3]; exact heap_alloc_new w3 _
  have HB3 : Hid (Below w.heap.size w W3) := HB2.out.trans (hb23.mono HB2.out.size)
  have hR3 := (hb23.block Z (Cd.ltH HR2.out)).trans HR2.out
  have hS3 := (hb23.block S (Cd.ltH HS.out)).trans HS.out
  have HR3 := Lib.hid hR3
  have HT := Lib.hid hT
  have s0 : W3.cell? ⟨S, 0, none⟩ = some (.int .u8 0) := cell_of_row _ _ 0 _ _ _ hS3
  have s1 : W3.cell? ⟨S, 1, none⟩ = some (.string ⟨#[]⟩) := cell_of_row _ _ 1 _ _ _ hS3
  have s2 : W3.cell? ⟨S, 2, none⟩ = some (.int .i64 0) := cell_of_row _ _ 2 _ _ _ hS3
  have s3 : W3.cell? ⟨S, 3, none⟩ = some (.slice none 0 0) := cell_of_row _ _ 3 _ _ _ hS3
  have s4 : W3.cell? ⟨S, 4, none⟩ = some (.int .i64 0) := cell_of_row _ _ 4 _ _ _ hS3
  have s5 : W3.cell? ⟨S, 5, none⟩ = some (.int .i64 0) := cell_of_row _ _ 5 _ _ _ hS3
  have s6 : W3.cell? ⟨S, 6, none⟩ = some (.int .i64 0) := cell_of_row _ _ 6 _ _ _ hS3
  clear hb3 hbW hb23 hT hR3 hS3
  go_upto_region 4 with fail
  rw [← hW3]
  clear hW3
  obtain ⟨T, hTe⟩ : ∃ T, T = w3.heap.size := ⟨_, rfl⟩
  rw [← hTe] at HT ⊢
  clear hTe
  have HSS := Lib.hid (stops_same 0 ⟨#[]⟩ 0 0 0 0 [] none none 0 0 W3 (fun h => absurd h (by simp [icells])) (fun h => absurd h (by simp [icells])) (by simp))
  go_wp2_with fail
  refine HSS.out.mono ?_
  rintro e w4 ⟨rfl, hb4⟩
  have hR4 := (hb4.block Z (Cd.ltH HR3.out)).trans HR3.out
  have hT4 := (hb4.block T (Cd.ltH HT.out)).trans HT.out
  have HT4 := Lib.hid hT4
  have HB4 : Hid (Below w.heap.size w w4) := HB3.out.trans (hb4.mono HB3.out.size)
  have r0 : w4.cell? ⟨Z, 0, none⟩ = some (.int .i64 rv) := cell_of_row _ _ 0 _ _ _ hR4
  have r1 : w4.cell? ⟨Z, 1, none⟩ = some (.int .i64 re) := cell_of_row _ _ 1 _ _ _ hR4
  have HG := Lib.hid (vGive_nil w4 n ⟨rv, re⟩)
  clear hb4 hR4 hT4 s0 s1 s2 s3 s4 s5 s6 HSS
  go_wp2_with fail
  refine HG.out.mono ?_
  rintro e w5 ⟨rfl, hb5⟩
  have hT5 := (hb5.block T (Cd.ltH HT4.out)).trans HT4.out
  have HT5 := Lib.hid hT5
  have HB5 : Hid (Below w.heap.size w w5) := HB4.out.trans (hb5.mono HB4.out.size)
  clear hb5 hT5 r0 r1 HG
  go_wp2_with fail
  refine (vKids_nil _).mono ?_
  rintro e w6 ⟨rfl, rfl⟩
  go_wp2_with fail
  refine (vLeft_nil _).mono ?_
  rintro e w6 ⟨rfl, rfl⟩
  go_wp2_with fail
  refine (vWaits_nil _).mono ?_
  rintro e w6 ⟨rfl, rfl⟩
  have t0 : w5.cell? ⟨T, 0, none⟩ = some (.string ⟨#[]⟩) := cell_of_row _ _ 0 _ _ _ HT5.out
  have t1 : w5.cell? ⟨T, 1, none⟩ = some (.int .i64 0) := cell_of_row _ _ 1 _ _ _ HT5.out
  have t2 : w5.cell? ⟨T, 2, none⟩ = some (.slice none 0 0) := cell_of_row _ _ 2 _ _ _ HT5.out
  have t3 : w5.cell? ⟨T, 3, none⟩ = some (.int .i64 0) := cell_of_row _ _ 3 _ _ _ HT5.out
  have HTS := Lib.hid (tasks_same ⟨#[]⟩ 0 0 [] none none 0 0 w5 (fun h => absurd h (by simp [icells])) (fun h => absurd h (by simp [icells])) (by simp))
  go_wp2_with fail
  refine HTS.out.mono ?_
  rintro e w7 ⟨rfl, hb7⟩
  have HB7 : Hid (Below w.heap.size w w7) := HB5.out.trans (hb7.mono HB5.out.size)
  have HA := Lib.hid (alive14 w7 (HL.out.later HB7.out))
  clear hb7 t0 t1 t2 t3 HTS
  go_wp2_with fail
  refine HA.out.mono ?_
  rintro e w8 ⟨rfl, hb8⟩
  have HB8 : Hid (Below w.heap.size w w8) := HB7.out.trans (hb8.mono HB7.out.size)
  clear hb8 HA
  go_wp2_with fail
  go_ret
  exact ⟨rfl, HB8.out⟩
end Go.Proofs.YtnlhacgihmelhaaGreatDoor
