/-
  The contract of code.readOp: an op is read.
  The contract of code.readFunc: a function is read.
  The contract of code.readFunc: a function is read.
  The contract of code.readProgram: a program is read.
  The contract of code.Decode.
-/
import Derived.Test.YtkigoidklonhcaaGreatDoorLowCdI
import Derived.Deep.AppendLies
import Derived.Deep.RegionLaw
section
namespace Go.Proofs.YtkigoidklonhcaaGreatDoor
open Go.RowKit

namespace Cd
theorem stepU_le (m : Nat) (s : ByteArray) (f : Nat) : (Wire.step (Wire.wU m) s f).1 ≤ m := by
  unfold Wire.step
  split
  · exact Nat.zero_le _
  · split
    · exact Nat.zero_le _
    · split
      · exact Nat.zero_le _
      · rename_i h
        simp only [ne_eq, Decidable.not_not] at h
        unfold Wire.wU at h
        by_cases h2 : m < (Num.rd s.data.toList).1
        · rw [if_pos h2] at h; omega
        · show (Num.rd s.data.toList).1 ≤ m
          omega
/-- Some registers are read. -/
def rRegs (l : List Nat) (x : OpV × ByteArray × Nat) : OpV × ByteArray × Nat :=
  l.foldl (fun x i => (x.1.setI i ((Wire.step (Wire.wU 16) x.2.1 x.2.2).1 : Int), (Wire.step (Wire.wU 16) x.2.1 x.2.2).2)) x
theorem rRegs_snoc (l : List Nat) (i : Nat) (x : OpV × ByteArray × Nat) : rRegs (l ++ [i]) x = ((rRegs l x).1.setI i ((Wire.step (Wire.wU 16) (rRegs l x).2.1 (rRegs l x).2.2).1 : Int), (Wire.step (Wire.wU 16) (rRegs l x).2.1 (rRegs l x).2.2).2) := by
  unfold rRegs
  rw [List.foldl_append]
  rfl
/-- An op is read: it, what is left, the fault. -/
def rHead (s : ByteArray) (f : Nat) : OpV × ByteArray × Nat :=
  rRegs (ids (hD (Wire.step (Wire.wU 255) s f).1) (hA (Wire.step (Wire.wU 255) s f).1) (hB (Wire.step (Wire.wU 255) s f).1)) (⟨(Wire.step (Wire.wU 255) s f).1, 0, 0, 0, 0⟩, (Wire.step (Wire.wU 255) s f).2)
def stepN (s : ByteArray) (f : Nat) : Nat × ByteArray × Nat := Wire.step (Wire.wI (-9223372036854775808) 9223372036854775807) s f
def rOp (s : ByteArray) (f : Nat) : OpV × ByteArray × Nat :=
  if hN (Wire.step (Wire.wU 255) s f).1 then (⟨(rHead s f).1.k, (rHead s f).1.d, (rHead s f).1.a, (rHead s f).1.b, Num.zag (stepN (rHead s f).2.1 (rHead s f).2.2).1⟩, (stepN (rHead s f).2.1 (rHead s f).2.2).2)
  else rHead s f
theorem rRegs_size (l : List Nat) (x : OpV × ByteArray × Nat) : (rRegs l x).2.1.size ≤ x.2.1.size := by
  unfold rRegs
  induction l generalizing x with
  | nil => exact Nat.le_refl _
  | cons i l ih => exact Nat.le_trans (ih _) (Wire.step_size _ _)
theorem rHead_size (s : ByteArray) (f : Nat) : (rHead s f).2.1.size ≤ s.size := Nat.le_trans (rRegs_size _ _) (Wire.step_size s f)
theorem rOp_size (s : ByteArray) (f : Nat) : (rOp s f).2.1.size ≤ s.size := by
  unfold rOp
  split
  · exact Nat.le_trans (Wire.step_size _ _) (rHead_size s f)
  · exact rHead_size s f
theorem grown_setX {w wr : World} {R X i : Nat} {v : Value} (h : w.grownBy wr (some R)) (hX : w.heap.size ≤ X) : w.grownBy (wr.setCell ⟨X, i, none⟩ v) (some R) :=
  ⟨h.os, h.tape, h.output, by simpa [World.setCell] using h.size, fun k hk hne => (Below.heap_setCell _ _ _ _ (by intro e; dsimp only at e; omega)).trans (h.block k hk hne)⟩
theorem grown_below {w a b : World} {R : Nat} (h : w.grownBy a (some R)) (hb : Below a.heap.size a b) : w.grownBy b (some R) := Wire.grown_trans h (grown_of hb _)
theorem grown_setRow {w wr : World} {R Z : Nat} {cs : Array Value} (h : w.grownBy wr (some R)) (hZ : w.heap.size ≤ Z) : w.grownBy (wr.setRow Z cs) (some R) :=
  ⟨h.os, h.tape, h.output, by simpa using h.size, fun k hk hne => (setRow_other wr Z k cs (by omega)).trans (h.block k hk hne)⟩
theorem Tbl.grown {w w' : World} {B R : Nat} (h : Tbl w B) (hg : w.grownBy w' (some R)) (hne : B ≠ R) : Tbl w' B := Gm.MapF.of_block h (hg.block B (Gm.MapF.lt h) (fun e => hne (Option.some.inj e)))
theorem OB.grown {w w' : World} {X R : Nat} {o : OpV} (h : OB w X o) (hg : w.grownBy w' (some R)) (hne : X ≠ R) : OB w' X o := h.of_block (hg.block X h.lt (fun e => hne (Option.some.inj e)))
end Cd

set_option maxHeartbeats 1000000 in
set_option maxRecDepth 20000 in
theorem creadOp (B R : Nat) (hBR : B ≠ R) (s : ByteArray) (f : Nat) (w : World) (h : Wire.RD R s f w) (hs : s.size ≤ maxLen) (hm : Cd.Tbl w B) :
    Calls Tryz.prog 71 #[.map (some B), .pointer (some ⟨R, 0, none⟩)] w fun e w' => e = .returned (.agg (Cd.rOp s f).1.arr) ∧ Wire.After R (Cd.rOp s f).2.1 (Cd.rOp s f).2.2 w w' := by
  obtain ⟨W, hW⟩ : ∃ W, W = w.alloc (.cells #[.int .u8 0, .int .i64 0, .int .i64 0, .int .i64 0, .int .i64 0] 44) := ⟨_, rfl⟩
  have hZ : W.heap[w.heap.size]? = some (.cells #[.int .u8 0, .int .i64 0, .int .i64 0, .int .i64 0, .int .i64 0] 44 (0, 0)) := by rw [hW]; exact heap_alloc_new w _
  have hb : Below w.heap.size w W := by rw [hW]; exact Cd.fn1 _ _ _
  have HRD := Lib.hid (h.below hb)
  have HM := Lib.hid (Gm.MapF.below hm hb : Cd.Tbl W B)
  have HG : Hid (w.grownBy W (some R)) := grown_of hb _
  have HRL := Lib.hid h.lt
  have HZ := Lib.hid hZ
  have HSZ := Lib.hid hs
  have HI := Lib.hid Cd.opSize
  have HMX : Hid (∀ t : ByteArray, t.size ≤ s.size → t.size ≤ maxLen) := fun t ht => Nat.le_trans ht hs
  clear hZ hb h hm hs
  go_enter Tryz.func71, Tryz.ntmps71
  go_upto_region 1 with fail
  rw [← hW]
  clear hW
  obtain ⟨Z, hZe⟩ : ∃ Z, Z = w.heap.size := ⟨_, rfl⟩
  rw [← hZe] at HZ ⊢
  have HZE := Lib.hid hZe
  clear hZe
  go_wp2_with fail
  refine (rUint_any 255 R s f W HRD.out HSZ.out).mono ?_
  rintro e w2 ⟨rfl, hA2⟩
  have hk := Cd.stepU_le 255 s f
  have HRO : Hid (Cd.rOp s f = if Cd.hN (Wire.step (Wire.wU 255) s f).1 then (⟨(Cd.rHead s f).1.k, (Cd.rHead s f).1.d, (Cd.rHead s f).1.a, (Cd.rHead s f).1.b, Num.zag (Cd.stepN (Cd.rHead s f).2.1 (Cd.rHead s f).2.2).1⟩, (Cd.stepN (Cd.rHead s f).2.1 (Cd.rHead s f).2.2).2) else Cd.rHead s f) := rfl
  have HRH : Hid (Cd.rHead s f = Cd.rRegs (Cd.ids (Cd.hD (Wire.step (Wire.wU 255) s f).1) (Cd.hA (Wire.step (Wire.wU 255) s f).1) (Cd.hB (Wire.step (Wire.wU 255) s f).1)) (⟨(Wire.step (Wire.wU 255) s f).1, 0, 0, 0, 0⟩, (Wire.step (Wire.wU 255) s f).2)) := rfl
  have HS1 := Lib.hid (Wire.step_size (wrong := Wire.wU 255) s f)
  have HHS := Lib.hid (Cd.rHead_size s f)
  generalize Wire.step (Wire.wU 255) s f = a at hA2 hk HRO HRH HS1 ⊢
  obtain ⟨k, s1, f1⟩ := a
  simp only at hA2 hk HRO HRH HS1 ⊢
  have hwk : IntKind.u8.wrap (k : Int) = (k : Int) := by rw [IntKind.wrap_u8]; omega
  obtain ⟨X, hX⟩ : ∃ X, X = w2.heap.size := ⟨_, rfl⟩
  obtain ⟨V, hV⟩ : ∃ V, V = w2.alloc (.cells #[.int .u8 (k : Int), .int .i64 0, .int .i64 0, .int .i64 0, .int .i64 0] 44) := ⟨_, rfl⟩
  have hbV : Below w2.heap.size w2 V := by rw [hV]; exact Cd.fn1 _ _ _
  have hOV : Cd.OB V X ⟨k, 0, 0, 0, 0⟩ := by show V.heap[X]? = _; rw [hV, hX]; exact heap_alloc_new w2 _
  have hlt : W.heap.size ≤ w2.heap.size := hA2.2.size
  have hZW := Cd.ltH HZ.out
  have HNE : Hid (R < Z ∧ Z < X ∧ X < V.heap.size) := ⟨by have := HRL.out; have := HZE.out; omega, by omega, hOV.lt⟩
  have HST : Hid (Cd.OB V X ⟨k, 0, 0, 0, 0⟩ ∧ Wire.RD R s1 f1 V ∧ V.heap[Z]? = some (.cells #[.int .u8 0, .int .i64 0, .int .i64 0, .int .i64 0, .int .i64 0] 44 (0, 0)) ∧ w.grownBy V (some R)) :=
    ⟨hOV, hA2.1.below hbV, (hbV.block Z (by omega)).trans ((hA2.2.block Z hZW (fun e => by have := Option.some.inj e; have := HNE.out.1; omega)).trans HZ.out), Cd.grown_below (Wire.grown_trans HG.out hA2.2) hbV⟩
  have HTV := Lib.hid (Gm.MapF.below (Cd.Tbl.grown HM.out hA2.2 hBR) hbV : Cd.Tbl V B)
  have HLK := Lib.hid (Cd.Tbl.look1 (w := V) HTV.out (by omega : k < 256))
  have c0 := hOV.c0
  clear hbV hOV hlt hZW hA2 HTV HZ HG HRD HM
  go_upto_region 2 with fail
  rw [← hV, ← hX]
  clear hV hX
  have HRG := Lib.hid (fun U => cregs (Cd.hD k) (Cd.hA k) (Cd.hB k) (Cd.hN k) X U)
  have HHN := Lib.hid (fun U => chasN (Cd.hD k) (Cd.hA k) (Cd.hB k) (Cd.hN k) U)
  have HIM : Hid (∀ i, i ∈ Cd.ids (Cd.hD k) (Cd.hA k) (Cd.hB k) → i = 1 ∨ i = 2 ∨ i = 3) := fun i h => Cd.ids_mem h
  have hI3 := Cd.ids_len (Cd.hD k) (Cd.hA k) (Cd.hB k)
  generalize Cd.pb (Cd.hD k) (Cd.hA k) (Cd.hB k) (Cd.hN k) = P at HLK HRG HHN
  generalize Cd.ids (Cd.hD k) (Cd.hA k) (Cd.hB k) = I at HRG HIM hI3 HRH
  go_wp2_with (at_lookup; refine Gm.gpl_look _ rfl _ _ _ _ rfl _ _ _ rfl rfl HLK.out ?_)
  refine (HRG.out _).mono ?_
  rintro e w3 ⟨v, rfl, hs3⟩
  obtain ⟨A, c, rfl⟩ := Cd.rowForm hs3.row
  have HST3 : Hid (Cd.OB w3 X ⟨k, 0, 0, 0, 0⟩ ∧ Wire.RD R s1 f1 w3 ∧ w3.heap[Z]? = some (.cells #[.int .u8 0, .int .i64 0, .int .i64 0, .int .i64 0, .int .i64 0] 44 (0, 0)) ∧ w.grownBy w3 (some R)) :=
    ⟨HST.out.1.below hs3.bel, HST.out.2.1.below hs3.bel, (hs3.bel.block Z (Cd.ltH HST.out.2.2.1)).trans HST.out.2.2.1, Cd.grown_below HST.out.2.2.2 hs3.bel⟩
  have HROW := Lib.hid hs3.row
  clear hs3 HST HRG HLK c0 hwk
  go_wp2_with fail
  go_loopw [20] (fun s20 wr => ∃ (j : Nat) (x : Cd.OpV × ByteArray × Nat), j ≤ I.length ∧ s20 = .int .i64 j ∧ Hid (x = Cd.rRegs (I.take j) (⟨k, 0, 0, 0, 0⟩, s1, f1)) ∧ Hid (Cd.OB wr X x.1 ∧ Wire.RD R x.2.1 x.2.2 wr ∧ wr.heap[Z]? = some (.cells #[.int .u8 0, .int .i64 0, .int .i64 0, .int .i64 0, .int .i64 0] 44 (0, 0)) ∧ w.grownBy wr (some R)) ∧ Hid (wr.ownsRow V.heap.size 133 1 (.slice A I.length c) I.length (Cd.ptrs X I))) (fun s20 _ => I.length - (intOf s20).toNat)
  case atStart => exact ⟨0, (⟨k, 0, 0, 0, 0⟩, s1, f1), Nat.zero_le _, rfl, rfl, HST3.out, HROW.out⟩
  case round =>
    clear HST3 HROW
    obtain ⟨j, x, hj, rfl, HX, HS, HR⟩ := hrel
    have HXS : Hid (x.2.1.size ≤ s.size) := by
      show _ ≤ _
      rw [HX.out]
      exact Nat.le_trans (Cd.rRegs_size _ _) HS1.out
    by_cases hlt : j < I.length
    · obtain ⟨ad, rfl, hadb, hc⟩ := (Cd.rowLies HR.out).at_ (Cd.ptrs_at hlt)
      have hi := HIM.out _ (List.getElem_mem hlt)
      have HTK : Hid (Cd.rRegs (I.take (j + 1)) (⟨k, 0, 0, 0, 0⟩, s1, f1) = (x.1.setI I[j] ((Wire.step (Wire.wU 16) x.2.1 x.2.2).1 : Int), (Wire.step (Wire.wU 16) x.2.1 x.2.2).2)) := by
        show _ = _
        rw [List.take_succ_eq_append_getElem hlt, Cd.rRegs_snoc, ← HX.out]
      generalize I[j] = i at hc hi HTK
      have k0 : (0 : Int) ≤ (j : Int) := by omega
      have k1 : (j : Int) < I.length := by omega
      have HC := Lib.hid (rUint_any 16 R x.2.1 x.2.2 wr HS.out.2.1 (HMX.out _ HXS.out))
      have hy := Cd.stepU_le 16 x.2.1 x.2.2
      clear hadb hlt
      go_wp2_with fail
      refine HC.out.mono ?_
      rintro e w4 ⟨rfl, hA4⟩
      generalize Wire.step (Wire.wU 16) x.2.1 x.2.2 = y at hA4 HTK hy ⊢
      obtain ⟨yv, ys, yf⟩ := y
      simp only at hA4 HTK hy ⊢
      have hO4 := HS.out.1.grown hA4.2 (by have := HNE.out; omega)
      have hci := hO4.cI hi
      have hfi := hO4.f i
      have HNEW : Hid (Cd.OB (w4.setCell ⟨X, i, none⟩ (.int .i64 (yv : Int))) X (x.1.setI i (yv : Int)) ∧ Wire.RD R ys yf (w4.setCell ⟨X, i, none⟩ (.int .i64 (yv : Int))) ∧ (w4.setCell ⟨X, i, none⟩ (.int .i64 (yv : Int))).heap[Z]? = some (.cells #[.int .u8 0, .int .i64 0, .int .i64 0, .int .i64 0, .int .i64 0] 44 (0, 0)) ∧ w.grownBy (w4.setCell ⟨X, i, none⟩ (.int .i64 (yv : Int))) (some R)) := by
        refine ⟨hO4.set hi _, ?_, ?_, Cd.grown_setX (Wire.grown_trans HS.out.2.2.2 hA4.2) (by have := HNE.out; have := HZE.out; omega)⟩
        · exact (Below.heap_setCell _ _ _ _ (by have := HNE.out; intro e; try dsimp only at e; omega)).trans hA4.1
        · exact (Below.heap_setCell _ _ _ _ (by have := HNE.out; intro e; try dsimp only at e; omega)).trans ((hA4.2.block Z (Cd.ltH HS.out.2.2.1) (fun e => by have := Option.some.inj e; have := HNE.out; omega)).trans HS.out.2.2.1)
      have HRN : Hid ((w4.setCell ⟨X, i, none⟩ (.int .i64 (yv : Int))).ownsRow V.heap.size 133 1 (.slice (some ad) I.length c) I.length (Cd.ptrs X I)) :=
        Cd.rowKeep HR.out (fun q hq => (Below.heap_setCell _ _ _ _ (by intro e; have h1 := (HR.out.lt q hq).1; have := HNE.out; try dsimp only at e; omega)).trans (hA4.2.block q (HR.out.lt q hq).2 (fun e => by have := Option.some.inj e; have h1 := (HR.out.lt q hq).1; have := HNE.out; omega)))
      have hwy : IntKind.i64.wrap (yv : Int) = (yv : Int) := by rw [IntKind.wrap_i64]; omega
      clear hO4 hA4 HS HR HC hi hc
      go_wp2_with fail
      go_roundw
      case rel => exact ⟨j + 1, (x.1.setI i (yv : Int), ys, yf), by omega, by go_num, HTK.out.symm, HNEW.out, HRN.out⟩
      case measure => simp [intOf]; omega
    · have k1 : ¬ ((j : Int) < I.length) := by omega
      have HXE : Hid (x = Cd.rHead s f) := by
        show _ = _
        rw [HX.out, HRH.out, List.take_of_length_le (by omega)]
      clear HX HR hlt
      go_wp2_with fail
      refine (HHN.out _).mono ?_
      rintro e w4 ⟨rfl, rfl⟩
      cases hN : Cd.hN k with
      | false =>
        have HE : Hid (Cd.rOp s f = x) := by show _ = _; rw [HRO.out, hN, HXE.out]; rfl
        clear hN
        go_wp2_with (first
          | refine wpList_load_row rfl 44 (.tmp 5) rfl X rfl 44 x.1.arr (0, 0) _ HS.out.1 Tryz.underlying44 rfl HI.out ?_
          | refine wpList_store_row rfl 44 (.tmp 4) (.tmp 35) rfl Z x.1.arr rfl rfl 44 _ HS.out.2.2.1 HI.out rfl (Cd.OpV.arr_one _) ?_)
        try simp only [Exit.inBlock, Exit.then]
        refine bodyPost_ret (v := .agg x.1.arr) (results_cell_row Tryz.results71 _ _ Z 44 x.1.arr (0, 0) _ rfl (setRow_heap _ _ _ _ _ _ HS.out.2.2.1) Tryz.underlying44 rfl HI.out) rfl ⟨?_, ?_⟩
        · rw [HE.out]
        · rw [HE.out]
          exact ⟨(setRow_other _ Z R _ (by have := HNE.out; omega)).trans HS.out.2.1, Cd.grown_setRow HS.out.2.2.2 (by have := HZE.out; omega)⟩
      | true =>
        have HC := Lib.hid (rInt_any (-9223372036854775808) 9223372036854775807 R x.2.1 x.2.2 _ HS.out.2.1 (HMX.out _ HXS.out))
        have HE : Hid (Cd.rOp s f = (⟨x.1.k, x.1.d, x.1.a, x.1.b, Num.zag (Wire.step (Wire.wI (-9223372036854775808) 9223372036854775807) x.2.1 x.2.2).1⟩, (Wire.step (Wire.wI (-9223372036854775808) 9223372036854775807) x.2.1 x.2.2).2)) := by show _ = _; rw [HRO.out, hN, HXE.out]; rfl
        clear hN
        go_wp2_with fail
        refine HC.out.mono ?_
        rintro e w5 ⟨rfl, hA5⟩
        generalize Wire.step (Wire.wI (-9223372036854775808) 9223372036854775807) x.2.1 x.2.2 = y at hA5 HE ⊢
        obtain ⟨yv, ys, yf⟩ := y
        simp only at hA5 HE ⊢
        have hO5 := HS.out.1.grown hA5.2 (by have := HNE.out; omega)
        have c4 := hO5.c4
        have f4 := hO5.f 4
        have HNEW : Hid (Cd.OB (w5.setCell ⟨X, 4, none⟩ (.int .i64 (Num.zag yv))) X ⟨x.1.k, x.1.d, x.1.a, x.1.b, Num.zag yv⟩ ∧ Wire.RD R ys yf (w5.setCell ⟨X, 4, none⟩ (.int .i64 (Num.zag yv))) ∧ (w5.setCell ⟨X, 4, none⟩ (.int .i64 (Num.zag yv))).heap[Z]? = some (.cells #[.int .u8 0, .int .i64 0, .int .i64 0, .int .i64 0, .int .i64 0] 44 (0, 0)) ∧ w.grownBy (w5.setCell ⟨X, 4, none⟩ (.int .i64 (Num.zag yv))) (some R)) := by
          refine ⟨hO5.set4 _, ?_, ?_, Cd.grown_setX (Wire.grown_trans HS.out.2.2.2 hA5.2) (by have := HNE.out; have := HZE.out; omega)⟩
          · exact (Below.heap_setCell _ _ _ _ (by have := HNE.out; intro e; try dsimp only at e; omega)).trans hA5.1
          · exact (Below.heap_setCell _ _ _ _ (by have := HNE.out; intro e; try dsimp only at e; omega)).trans ((hA5.2.block Z (Cd.ltH HS.out.2.2.1) (fun e => by have := Option.some.inj e; have := HNE.out; omega)).trans HS.out.2.2.1)
        obtain ⟨o2, ho2⟩ : ∃ o2 : Cd.OpV, o2 = ⟨x.1.k, x.1.d, x.1.a, x.1.b, Num.zag yv⟩ := ⟨_, rfl⟩
        rw [← ho2] at HNEW HE
        clear hO5 hA5 ho2 HC
        go_wp2_with (first
          | refine wpList_load_row rfl 44 (.tmp 5) rfl X rfl 44 o2.arr (0, 0) _ HNEW.out.1 Tryz.underlying44 rfl HI.out ?_
          | refine wpList_store_row rfl 44 (.tmp 4) (.tmp 35) rfl Z o2.arr rfl rfl 44 _ HNEW.out.2.2.1 HI.out rfl (Cd.OpV.arr_one _) ?_)
        try simp only [Exit.inBlock, Exit.then]
        refine bodyPost_ret (v := .agg o2.arr) (results_cell_row Tryz.results71 _ _ Z 44 o2.arr (0, 0) _ rfl (setRow_heap _ _ _ _ _ _ HNEW.out.2.2.1) Tryz.underlying44 rfl HI.out) rfl ⟨?_, ?_⟩
        · rw [HE.out]
        · rw [HE.out]
          exact ⟨(setRow_other _ Z R _ (by have := HNE.out; omega)).trans HNEW.out.2.1, Cd.grown_setRow HNEW.out.2.2.2 (by have := HZE.out; omega)⟩
end Go.Proofs.YtkigoidklonhcaaGreatDoor
end

section
namespace Go.Proofs.YtkigoidklonhcaaGreatDoor
open Go.RowKit

namespace Cd
theorem opInfo : (Tryz.prog.info? 44).map (fun i => (i.zero, i.size, i.bytes)) = some (some (.agg #[.int .u8 0, .int .i64 0, .int .i64 0, .int .i64 0, .int .i64 0]), 5, 40) := by kernel_rfl
/-- append(ops, o), at a step of a region that draws. -/
theorem opush_step {ops : Array Oper} {oo : Oper} {a : Act} {w : World} {K : Act → World → Prop} {Q : Exit → Act → World → Prop} {E : Prop} {T1 : TypeId} {base n b : Nat} {v : Value} {xs : List Value}
    (hrow : w.ownsRow base 44 5 v n xs) (hgd : oo.guard = none) (s x : Operand)
    (hop : oo.op = .call { callee := .builtin .append, args := #[s, x], argTypes := #[39, 39] }) (hs : a.eval s = v) (hx : a.eval x = .slice (some ⟨b, 0, none⟩) 1 1) (o : OpV) (hb : w.heap.size = b) (hn : n ≤ 100000) (hbase : base ≤ w.heap.size)
    (h : ∀ g cap w', w'.ownsRow base 44 5 (.slice (some ⟨g, 0, none⟩) (n + 1) cap) (n + 1) (xs ++ o.cells) → (w.alloc (.cells #[.int .u8 (o.k : Int), .int .i64 o.d, .int .i64 o.a, .int .i64 o.b, .int .i64 o.n] T1)).grownBy w' v.ownBlock → K (a.put oo.dst (.slice (some ⟨g, 0, none⟩) (n + 1) cap)) w') :
    if Region.wanted oo (yielded ops a.tmps) = true then Oper.wp Tryz.prog oo a (w.alloc (.cells #[.int .u8 (o.k : Int), .int .i64 o.d, .int .i64 o.a, .int .i64 o.b, .int .i64 o.n] T1)) K Q else E := by
  obtain ⟨i, hi, hz⟩ := Option.map_eq_some_iff.1 opInfo
  simp only [Prod.mk.injEq] at hz
  obtain ⟨z1, z2, z3⟩ := hz
  subst hb
  refine step_append_lies _ hgd s x 39 hop base 44 i (.agg #[.int .u8 0, .int .i64 0, .int .i64 0, .int .i64 0, .int .i64 0]) 5 40 Tryz.underlying39 hi z1 z2 z3 rfl (by decide) v n xs hs (hrow.alloc _) ⟨w.heap.size, 0, none⟩ 1 1 o.cells hx rfl
    (fun j u hu => World.news_of_block (heap_alloc_new w (.cells #[.int .u8 (o.k : Int), .int .i64 o.d, .int .i64 o.a, .int .i64 o.b, .int .i64 o.n] T1)) j u hu) (by unfold OpV.cells; simp [Value.oneCell']) (by decide) (by unfold maxLen; omega) (by omega) (by simp; omega) (w.heap.size + 1) (by simp) ?_
  intro g cap w' h1 h2 _ _
  exact h g cap w' h1 h2
/-- A call of a Go function by its contract, at a step of a region that draws. -/
theorem step_call {P : Program} {ops : Array Oper} {oo : Oper} {a : Act} {w : World} {K : Act → World → Prop} {Q : Exit → Act → World → Prop} {E : Prop} (f : FuncId) (args : Array Value) (PostC : Value → World → Prop)
    (hgd : oo.guard = none) (hrun : (execOp a.eval oo).run P w = .ok (.enter f args) w) (hc : Calls P f args w fun e w' => ∃ v, e = .returned v ∧ PostC v w') (h : ∀ v w', PostC v w' → K (a.put oo.dst v) w') :
    if Region.wanted oo (yielded ops a.tmps) = true then Oper.wp P oo a w K Q else E := by
  have hw : Region.wanted oo (yielded ops a.tmps) = true := by simp [Region.wanted, hgd]
  rw [if_pos hw]
  unfold Oper.wp
  rw [hrun, Oper.upon_enter]
  refine hc.mono fun e w' hh => ?_
  obtain ⟨v, rfl, hp⟩ := hh
  exact h v w' hp
/-- Ops are read, so many. -/
def rOps : Nat → ByteArray → Nat → List OpV × ByteArray × Nat
  | 0, s, f => ([], s, f)
  | n + 1, s, f => ((rOps n s f).1 ++ [(rOp (rOps n s f).2.1 (rOps n s f).2.2).1], (rOp (rOps n s f).2.1 (rOps n s f).2.2).2)
theorem rOps_len (n : Nat) (s : ByteArray) (f : Nat) : (rOps n s f).1.length = n := by
  induction n with
  | zero => rfl
  | succ n ih => unfold rOps; simp [ih]
theorem rOps_size (n : Nat) (s : ByteArray) (f : Nat) : (rOps n s f).2.1.size ≤ s.size := by
  induction n with
  | zero => exact Nat.le_refl _
  | succ n ih => exact Nat.le_trans (rOp_size _ _) ih
def rA (s : ByteArray) (f : Nat) : Nat × ByteArray × Nat := Wire.step (Wire.wU 16) s f
def rC (m : Int) (s : ByteArray) (f : Nat) : Nat × ByteArray × Nat := Wire.step (Wire.wC m) s f
/-- A function is read. -/
def rFn (s : ByteArray) (f : Nat) : FnV × ByteArray × Nat :=
  let a := rA s f
  let b := rA a.2.1 a.2.2
  let c := rC 64 b.2.1 b.2.2
  let r := rOps c.1 c.2.1 c.2.2
  (⟨a.1, b.1, r.1⟩, r.2)
theorem rC_le (m : Nat) (s : ByteArray) (f : Nat) : (rC (m : Int) s f).1 ≤ m := by
  unfold rC Wire.step
  split
  · exact Nat.zero_le _
  · split
    · exact Nat.zero_le _
    · split
      · exact Nat.zero_le _
      · rename_i h
        simp only [ne_eq, Decidable.not_not] at h
        unfold Wire.wC at h
        by_cases h2 : (m : Int) < 0 ∨ (m : Int) < (Num.rd s.data.toList).1
        · rw [if_pos h2] at h; omega
        · show (Num.rd s.data.toList).1 ≤ m
          omega
theorem rFn_size (s : ByteArray) (f : Nat) : (rFn s f).2.1.size ≤ s.size :=
  Nat.le_trans (rOps_size _ _ _) (Nat.le_trans (Wire.step_size _ _) (Nat.le_trans (Wire.step_size _ _) (Wire.step_size s f)))
end Cd
end Go.Proofs.YtkigoidklonhcaaGreatDoor
end

section
namespace Go.Proofs.YtkigoidklonhcaaGreatDoor
open Go.RowKit

namespace Cd
theorem fnSize : (Tryz.prog.info? 41).map (·.size) = some 3 := by kernel_rfl
theorem grown_row {w a b : World} {R : Nat} {row : Option Nat} (h : w.grownBy a (some R)) (hg : a.grownBy b row) (hrow : ∀ k, row = some k → w.heap.size ≤ k) : w.grownBy b (some R) :=
  ⟨hg.os.trans h.os, hg.tape.trans h.tape, hg.output.trans h.output, Nat.le_trans h.size hg.size, fun i hi hne => (hg.block i (Nat.lt_of_lt_of_le hi h.size) (fun e => by have := hrow i e.symm; omega)).trans (h.block i hi hne)⟩
theorem grown_drew {w a : World} {R : Nat} (h : w.grownBy a (some R)) : w.grownBy a.drew (some R) := ⟨h.os, h.tape, h.output, h.size, h.block⟩
/-- A function's block. -/
def FB (w : World) (F : Nat) (a b : Int) (v : Value) : Prop := w.heap[F]? = some (.cells #[.int .i64 a, .int .i64 b, v] 41 (0, 0))
section
variable {w w' : World} {F : Nat} {a b : Int} {v : Value}
theorem FB.lt (h : FB w F a b v) : F < w.heap.size := ltH h
theorem FB.c2 (h : FB w F a b v) : w.cell? ⟨F, 2, none⟩ = some v := cell_of_row _ _ 2 _ _ _ h
theorem FB.f (h : FB w F a b v) (i : Nat) : w.frozen? ⟨F, i, none⟩ = false := Lib.frozen_of_heap h i
theorem FB.of_block (h : FB w F a b v) (hb : w'.heap[F]? = w.heap[F]?) : FB w' F a b v := hb.trans h
theorem FB.set2 (h : FB w F a b v) (u : Value) : FB (w.setCell ⟨F, 2, none⟩ u) F a b u := by
  unfold FB at h ⊢
  simp [World.setCell, Array.getElem?_modify, h]
end
end Cd

set_option maxHeartbeats 1500000 in
set_option maxRecDepth 20000 in
theorem creadFunc (B R : Nat) (hBR : B ≠ R) (s : ByteArray) (f : Nat) (w : World) (h : Wire.RD R s f w) (hs : s.size ≤ maxLen) (hm : Cd.Tbl w B) :
    Calls Tryz.prog 48 #[.map (some B), .pointer (some ⟨R, 0, none⟩)] w fun e w' => ∃ A c, e = .returned (.agg #[.int .i64 (Cd.rFn s f).1.args, .int .i64 (Cd.rFn s f).1.regs, .slice A (Cd.rFn s f).1.ops.length c]) ∧
      w'.ownsRow w.heap.size 44 5 (.slice A (Cd.rFn s f).1.ops.length c) (Cd.rFn s f).1.ops.length (Cd.ocells (Cd.rFn s f).1.ops) ∧ Wire.After R (Cd.rFn s f).2.1 (Cd.rFn s f).2.2 w w' := by
  obtain ⟨W, hW⟩ : ∃ W, W = w.alloc (.cells #[.int .i64 0, .int .i64 0, .slice none 0 0] 41) := ⟨_, rfl⟩
  have hZ : W.heap[w.heap.size]? = some (.cells #[.int .i64 0, .int .i64 0, .slice none 0 0] 41 (0, 0)) := by rw [hW]; exact heap_alloc_new w _
  have hb : Below w.heap.size w W := by rw [hW]; exact Cd.fn1 _ _ _
  have HRD := Lib.hid (h.below hb)
  have HG : Hid (w.grownBy W (some R)) := grown_of hb _
  have HM := Lib.hid hm
  have HRL := Lib.hid h.lt
  have HZ := Lib.hid hZ
  have HI := Lib.hid Cd.fnSize
  have HMX : Hid (∀ t : ByteArray, t.size ≤ s.size → t.size ≤ maxLen) := fun t ht => Nat.le_trans ht hs
  obtain ⟨a, ha⟩ : ∃ a, a = Cd.rA s f := ⟨_, rfl⟩
  obtain ⟨b, hbe⟩ : ∃ b, b = Cd.rA a.2.1 a.2.2 := ⟨_, rfl⟩
  obtain ⟨q, hq⟩ : ∃ q, q = Cd.rC 64 b.2.1 b.2.2 := ⟨_, rfl⟩
  have HFN : Hid (Cd.rFn s f = (⟨a.1, b.1, (Cd.rOps q.1 q.2.1 q.2.2).1⟩, (Cd.rOps q.1 q.2.1 q.2.2).2)) := by
    show _ = _
    rw [hq, hbe, ha]
    rfl
  have HA := Lib.hid (rUint_any 16 R s f W HRD.out hs)
  have hsa : a.2.1.size ≤ s.size := by rw [ha]; exact Wire.step_size s f
  have hsb : b.2.1.size ≤ s.size := Nat.le_trans (by rw [hbe]; exact Wire.step_size _ _) hsa
  have hsq : q.2.1.size ≤ s.size := Nat.le_trans (by rw [hq]; exact Wire.step_size _ _) hsb
  have hal : a.1 ≤ 16 := by rw [ha]; exact Cd.stepU_le 16 _ _
  have hbl : b.1 ≤ 16 := by rw [hbe]; exact Cd.stepU_le 16 _ _
  have hql : q.1 ≤ 64 := by rw [hq]; exact Cd.rC_le 64 _ _
  have HA2 : Hid (Calls Tryz.prog 21 #[.pointer (some ⟨R, 0, none⟩), .int .u64 16] W fun e w' => e = .returned (.int .u64 (a.1 : Int)) ∧ Wire.After R a.2.1 a.2.2 W w') := by rw [ha]; exact HA.out
  have HB2 : Hid (∀ U, Wire.RD R a.2.1 a.2.2 U → Calls Tryz.prog 21 #[.pointer (some ⟨R, 0, none⟩), .int .u64 16] U fun e w' => e = .returned (.int .u64 (b.1 : Int)) ∧ Wire.After R b.2.1 b.2.2 U w') := fun U hU => by rw [hbe]; exact rUint_any 16 R _ _ U hU (HMX.out _ hsa)
  have HQ2 : Hid (∀ U, Wire.RD R b.2.1 b.2.2 U → Calls Tryz.prog 47 #[.pointer (some ⟨R, 0, none⟩), .int .i64 64] U fun e w' => e = .returned (.int .i64 (q.1 : Int)) ∧ Wire.After R q.2.1 q.2.2 U w') := fun U hU => by rw [hq]; exact rCount_any 64 (by omega) (by omega) R _ _ U hU (HMX.out _ hsb)
  have HSQ := Lib.hid hsq
  clear hZ hb h hm hs HA ha hbe hq hsa hsb hsq
  obtain ⟨av, sA, fA⟩ := a
  obtain ⟨bv, sB, fB⟩ := b
  obtain ⟨qv, qs, qf⟩ := q
  simp only at HFN hal hbl hql HA2 HB2 HQ2 HSQ
  go_enter Tryz.func48, Tryz.ntmps48
  go_upto_region 1 with fail
  rw [← hW]
  clear hW
  obtain ⟨Z, hZe⟩ : ∃ Z, Z = w.heap.size := ⟨_, rfl⟩
  rw [← hZe] at HZ ⊢
  have HZE := Lib.hid hZe
  clear hZe
  have hwa : IntKind.i64.wrap (av : Int) = (av : Int) := by rw [IntKind.wrap_i64]; omega
  have hwb : IntKind.i64.wrap (bv : Int) = (bv : Int) := by rw [IntKind.wrap_i64]; omega
  go_wp2_with fail
  refine HA2.out.mono ?_
  rintro e w2 ⟨rfl, hA2⟩
  have HG2 := Lib.hid (Wire.grown_trans HG.out hA2.2)
  have HR2 := Lib.hid hA2.1
  have HZ2 : Hid (w2.heap[Z]? = _) := (hA2.2.block Z (Cd.ltH HZ.out) (fun e => by have := Option.some.inj e; have := HRL.out; have := HZE.out; omega)).trans HZ.out
  clear hA2 HA2 HG HRD HZ
  go_wp2_with fail
  refine (HB2.out _ HR2.out).mono ?_
  rintro e w3 ⟨rfl, hA3⟩
  obtain ⟨F, hF⟩ : ∃ F, F = w3.heap.size := ⟨_, rfl⟩
  obtain ⟨V, hV⟩ : ∃ V, V = w3.alloc (.cells #[.int .i64 (av : Int), .int .i64 (bv : Int), .slice none 0 0] 41) := ⟨_, rfl⟩
  have hbV : Below w3.heap.size w3 V := by rw [hV]; exact Cd.fn1 _ _ _
  have hFV : Cd.FB V F av bv (.slice none 0 0) := by show V.heap[F]? = _; rw [hV, hF]; exact heap_alloc_new w3 _
  have HNE : Hid (R < Z ∧ Z < F ∧ F < V.heap.size) := ⟨by have := HRL.out; have := HZE.out; omega, by have := Cd.ltH HZ2.out; have := hA3.2.size; omega, hFV.lt⟩
  have HR3 := Lib.hid (hA3.1.below hbV)
  have HG3 := Lib.hid (Cd.grown_below (Wire.grown_trans HG2.out hA3.2) hbV)
  have HZ3 : Hid (V.heap[Z]? = _) := (hbV.block Z (by have := Cd.ltH HZ2.out; have := hA3.2.size; omega)).trans ((hA3.2.block Z (Cd.ltH HZ2.out) (fun e => by have := Option.some.inj e; have := HNE.out; omega)).trans HZ2.out)
  have HFV := Lib.hid hFV
  clear hbV hFV hA3 HB2 HG2 HR2 HZ2
  go_upto_region 2 with fail
  rw [← hV, ← hF]
  clear hV hF hwa hwb
  go_wp2_with fail
  refine (HQ2.out _ HR3.out).mono ?_
  rintro e w4 ⟨rfl, hA4⟩
  have HST : Hid (Cd.FB w4 F av bv (.slice none 0 0) ∧ Wire.RD R qs qf w4 ∧ w4.heap[Z]? = some (.cells #[.int .i64 0, .int .i64 0, .slice none 0 0] 41 (0, 0)) ∧ w.grownBy w4 (some R) ∧ V.heap.size ≤ w4.heap.size) :=
    ⟨HFV.out.of_block (hA4.2.block F HFV.out.lt (fun e => by have := Option.some.inj e; have := HNE.out; omega)), hA4.1, (hA4.2.block Z (Cd.ltH HZ3.out) (fun e => by have := Option.some.inj e; have := HNE.out; omega)).trans HZ3.out, Wire.grown_trans HG3.out hA4.2, hA4.2.size⟩
  clear hA4 HQ2 HR3 HG3 HZ3 HFV
  go_wp2_with fail
  go_loopw [15] (fun s15 wr => ∃ (j : Nat) (A : Option Addr) (c : Nat), j ≤ qv ∧ s15 = .int .i64 j ∧ Hid (Cd.FB wr F av bv (.slice A j c) ∧ Wire.RD R (Cd.rOps j qs qf).2.1 (Cd.rOps j qs qf).2.2 wr ∧ wr.heap[Z]? = some (.cells #[.int .i64 0, .int .i64 0, .slice none 0 0] 41 (0, 0)) ∧ w.grownBy wr (some R) ∧ V.heap.size ≤ wr.heap.size) ∧ Hid (wr.ownsRow V.heap.size 44 5 (.slice A j c) j (Cd.ocells (Cd.rOps j qs qf).1))) (fun s15 _ => qv - (intOf s15).toNat)
  case atStart => exact ⟨0, none, 0, Nat.zero_le _, rfl, HST.out, ⟨rfl, .inl ⟨rfl, rfl⟩⟩⟩
  case round =>
    clear HST
    obtain ⟨j, A, c, hj, rfl, HS, HR⟩ := hrel
    by_cases hlt : j < qv
    · have k1 : (j : Int) < qv := by omega
      have HTB := Lib.hid (Cd.Tbl.grown HM.out HS.out.2.2.2.1 hBR)
      have hsz := HMX.out _ (Nat.le_trans (Cd.rOps_size j qs qf) HSQ.out)
      have HC0 := Lib.hid (creadOp B R hBR (Cd.rOps j qs qf).2.1 (Cd.rOps j qs qf).2.2 wr.drew HS.out.2.1 hsz HTB.out)
      have HNX : Hid (Cd.rOps (j + 1) qs qf = ((Cd.rOps j qs qf).1 ++ [(Cd.rOp (Cd.rOps j qs qf).2.1 (Cd.rOps j qs qf).2.2).1], (Cd.rOp (Cd.rOps j qs qf).2.1 (Cd.rOps j qs qf).2.2).2)) := rfl
      generalize Cd.rOps j qs qf = x at HS HR HC0 HNX
      generalize Cd.rOp x.2.1 x.2.2 = y at HC0 HNX
      obtain ⟨o, ys, yf⟩ := y
      have HC : Hid (Calls Tryz.prog 71 #[.map (some B), .pointer (some ⟨R, 0, none⟩)] wr.drew fun e w' => ∃ v, e = .returned v ∧ v = .agg #[.int .u8 (o.k : Int), .int .i64 o.d, .int .i64 o.a, .int .i64 o.b, .int .i64 o.n] ∧ Wire.After R ys yf wr.drew w') := HC0.out.mono fun e w' hh => ⟨_, hh.1, rfl, hh.2⟩
      have cF := HS.out.1.c2
      have hj100 : j ≤ 100000 := by omega
      clear hsz hlt HC0 HTB
      go_upto_region 4 with fail
      go_region_law (first
        | (refine Cd.opush_step hrow5 (by rfl) _ _ (by rfl) (by rfl) (by rfl) o (by rfl) hj100 hsz5 ?_
           intro g cap w6 hown6 hgr6
           have hF6 := hFa.of_block (hgr6.block F hFa.lt (fun e => by have h1 := (hrow5.lt F e.symm).1; have := HNE.out; omega))
           have cF6 := hF6.c2
           have fF6 := hF6.f 2)
        | (refine Cd.step_call 71 #[.map (some B), .pointer (some ⟨R, 0, none⟩)] (fun v w' => v = .agg #[.int .u8 (o.k : Int), .int .i64 o.d, .int .i64 o.a, .int .i64 o.b, .int .i64 o.n] ∧ Wire.After R ys yf wr.drew w') (by rfl) (by kernel_rfl) HC.out ?_
           rintro v w5 ⟨rfl, hA5⟩
           have hF5 : Cd.FB w5 F av bv (.slice A j c) := HS.out.1.of_block (hA5.2.block F HS.out.1.lt (fun e => by have := Option.some.inj e; have := HNE.out; omega))
           have cF5 := hF5.c2
           have hrow5 : w5.ownsRow V.heap.size 44 5 (.slice A j c) j (Cd.ocells x.1) := Cd.rowKeep HR.out (fun p hp => hA5.2.block p (HR.out.lt p hp).2 (fun e => by have := Option.some.inj e; have h1 := (HR.out.lt p hp).1; have := HNE.out; omega))
           have hsz5 : V.heap.size ≤ w5.heap.size := Nat.le_trans HS.out.2.2.2.2 hA5.2.size
           have hFa : Cd.FB (w5.alloc (.cells #[.int .u8 (o.k : Int), .int .i64 o.d, .int .i64 o.a, .int .i64 o.b, .int .i64 o.n] 44)) F av bv (.slice A j c) := hF5.of_block ((Cd.fn1 w5 _ _).block F hF5.lt)
           have cFa := hFa.c2))
      all_goals
        have hsep : ∀ p, (Value.slice A j c).ownBlock = some p → V.heap.size ≤ p := fun p hp => (hrow5.lt p hp).1
        have hw0 : w.heap.size ≤ wr.heap.size := HS.out.2.2.2.1.size
        have hVw : w.heap.size ≤ V.heap.size := by have := HNE.out; have := HZE.out; omega
        obtain ⟨U, hU⟩ : ∃ U, U = w5.alloc (.cells #[.int .u8 (o.k : Int), .int .i64 o.d, .int .i64 o.a, .int .i64 o.b, .int .i64 o.n] 44) := ⟨_, rfl⟩
        have hbU : Below w5.heap.size w5 U := by rw [hU]; exact Cd.fn1 _ _ _
        rw [← hU] at hgr6
        have hZ5 : w5.heap[Z]? = some (.cells #[.int .i64 0, .int .i64 0, .slice none 0 0] 41 (0, 0)) := (hA5.2.block Z (Cd.ltH HS.out.2.2.1) (fun e => by have := Option.some.inj e; have := HNE.out; omega)).trans HS.out.2.2.1
        have hR5 : R < w5.heap.size := hA5.1.lt
        have hRne : ∀ q, q < V.heap.size → some q ≠ (Value.slice A j c).ownBlock := fun q hq e => by have := hsep q e.symm; omega
        have HNEW : Hid (Cd.FB (w6.setCell ⟨F, 2, none⟩ (.slice (some ⟨g, 0, none⟩) (j + 1) cap)) F av bv (.slice (some ⟨g, 0, none⟩) (j + 1) cap) ∧ Wire.RD R ys yf (w6.setCell ⟨F, 2, none⟩ (.slice (some ⟨g, 0, none⟩) (j + 1) cap)) ∧ (w6.setCell ⟨F, 2, none⟩ (.slice (some ⟨g, 0, none⟩) (j + 1) cap)).heap[Z]? = some (.cells #[.int .i64 0, .int .i64 0, .slice none 0 0] 41 (0, 0)) ∧ w.grownBy (w6.setCell ⟨F, 2, none⟩ (.slice (some ⟨g, 0, none⟩) (j + 1) cap)) (some R) ∧ V.heap.size ≤ (w6.setCell ⟨F, 2, none⟩ (.slice (some ⟨g, 0, none⟩) (j + 1) cap)).heap.size) := by
          refine ⟨hF6.set2 _, ?_, ?_, ?_, ?_⟩
          · exact (Below.heap_setCell _ _ _ _ (by have := HNE.out; intro e; try dsimp only at e; omega)).trans ((hgr6.block R (Nat.lt_of_lt_of_le hR5 hbU.size) (hRne R (by have := HNE.out; omega))).trans ((hbU.block R hR5).trans hA5.1))
          · exact (Below.heap_setCell _ _ _ _ (by have := HNE.out; intro e; try dsimp only at e; omega)).trans ((hgr6.block Z (Nat.lt_of_lt_of_le (Cd.ltH hZ5) hbU.size) (hRne Z (by have := HNE.out; omega))).trans ((hbU.block Z (Cd.ltH hZ5)).trans hZ5))
          · exact Cd.grown_setX (Cd.grown_row (Cd.grown_below (Wire.grown_trans (Cd.grown_drew HS.out.2.2.2.1) hA5.2) hbU) hgr6 (fun p hp => Nat.le_trans hVw (hsep p hp))) (by have := HNE.out; have := HZE.out; omega)
          · have h1 := hbU.size
            have h2 := hgr6.size
            simp [World.setCell]
            omega
        have HRN : Hid ((w6.setCell ⟨F, 2, none⟩ (.slice (some ⟨g, 0, none⟩) (j + 1) cap)).ownsRow V.heap.size 44 5 (.slice (some ⟨g, 0, none⟩) (j + 1) cap) (j + 1) (Cd.ocells (x.1 ++ [o]))) := by
          show World.ownsRow _ _ _ _ _ _ _
          rw [Cd.ocells_snoc]
          exact Cd.rowKeep hown6 (fun p hp => Below.heap_setCell _ _ _ _ (by intro e; have h1 := (hown6.lt p hp).1; have := HNE.out; try dsimp only at e; omega))
        clear hsep hw0 hVw hU hbU hgr6 hZ5 hR5 hRne hF6 hown6 hA5 hF5 hrow5 hFa cF6 fF6 cF5 cFa cF
        go_wp2_with fail
        go_roundw
        case rel => exact ⟨j + 1, some ⟨g, 0, none⟩, cap, by omega, by go_num, by rw [HNX.out]; exact HNEW.out, by rw [HNX.out]; exact HRN.out⟩
        case measure => simp [intOf]; omega
    · obtain rfl : j = qv := by omega
      have k1 : ¬ ((j : Int) < j) := by omega
      have HL := Lib.hid (Cd.rOps_len j qs qf)
      clear hlt
      go_wp2_with (first
        | refine wpList_load_row rfl 41 (.tmp 5) rfl F rfl 41 #[.int .i64 (av : Int), .int .i64 (bv : Int), .slice A j c] (0, 0) _ HS.out.1 Tryz.underlying41 rfl HI.out ?_
        | refine wpList_store_row rfl 41 (.tmp 4) (.tmp 26) rfl Z #[.int .i64 (av : Int), .int .i64 (bv : Int), .slice A j c] rfl rfl 41 _ HS.out.2.2.1 HI.out rfl (by simp [Value.oneCell']) ?_)
      try simp only [Exit.inBlock, Exit.then]
      refine bodyPost_ret (v := .agg #[.int .i64 (av : Int), .int .i64 (bv : Int), .slice A j c]) (results_cell_row Tryz.results48 _ _ Z 41 #[.int .i64 (av : Int), .int .i64 (bv : Int), .slice A j c] (0, 0) _ rfl (setRow_heap _ _ _ _ _ _ HS.out.2.2.1) Tryz.underlying41 rfl HI.out) rfl ⟨A, c, ?_, ?_, ?_⟩
      · rw [HFN.out]
        simp only [HL.out]
      · rw [HFN.out]
        simp only [HL.out]
        exact Cd.rowKeep (Cd.rowBase HR.out (by have := HNE.out; have := HZE.out; omega)) (fun p hp => setRow_other _ Z p _ (by have h1 := (HR.out.lt p hp).1; have := HNE.out; omega))
      · rw [HFN.out]
        exact ⟨(setRow_other _ Z R _ (by have := HNE.out; omega)).trans HS.out.2.1, Cd.grown_setRow HS.out.2.2.2.1 (by have := HZE.out; omega)⟩
end Go.Proofs.YtkigoidklonhcaaGreatDoor
end

section
namespace Go.Proofs.YtkigoidklonhcaaGreatDoor
open Go.RowKit

namespace Cd
theorem pgSize : (Tryz.prog.info? 24).map (·.size) = some 1 := by kernel_rfl
theorem fnInfo : (Tryz.prog.info? 41).map (fun i => (i.zero, i.size, i.bytes)) = some (some (.agg #[.int .i64 0, .int .i64 0, .slice none 0 0]), 3, 40) := by kernel_rfl
/-- append(funcs, f), at a step of a region that draws. -/
theorem fpush_step {ops : Array Oper} {oo : Oper} {a : Act} {w : World} {K : Act → World → Prop} {Q : Exit → Act → World → Prop} {E : Prop} {T1 : TypeId} {base n b : Nat} {v : Value} {xs : List Value}
    (hrow : w.ownsRow base 41 3 v n xs) (hgd : oo.guard = none) (s x : Operand)
    (hop : oo.op = .call { callee := .builtin .append, args := #[s, x], argTypes := #[22, 22] }) (hs : a.eval s = v) (hx : a.eval x = .slice (some ⟨b, 0, none⟩) 1 1) (m : Fm) (hb : w.heap.size = b) (hn : n ≤ 100000) (hbase : base ≤ w.heap.size)
    (h : ∀ g cap w', w'.ownsRow base 41 3 (.slice (some ⟨g, 0, none⟩) (n + 1) cap) (n + 1) (xs ++ m.cells) → (w.alloc (.cells #[.int .i64 m.f.args, .int .i64 m.f.regs, .slice m.A m.f.ops.length m.c] T1)).grownBy w' v.ownBlock → K (a.put oo.dst (.slice (some ⟨g, 0, none⟩) (n + 1) cap)) w') :
    if Region.wanted oo (yielded ops a.tmps) = true then Oper.wp Tryz.prog oo a (w.alloc (.cells #[.int .i64 m.f.args, .int .i64 m.f.regs, .slice m.A m.f.ops.length m.c] T1)) K Q else E := by
  obtain ⟨i, hi, hz⟩ := Option.map_eq_some_iff.1 fnInfo
  simp only [Prod.mk.injEq] at hz
  obtain ⟨z1, z2, z3⟩ := hz
  subst hb
  refine step_append_lies _ hgd s x 22 hop base 41 i (.agg #[.int .i64 0, .int .i64 0, .slice none 0 0]) 3 40 Tryz.underlying22 hi z1 z2 z3 rfl (by decide) v n xs hs (hrow.alloc _) ⟨w.heap.size, 0, none⟩ 1 1 m.cells hx rfl
    (fun j u hu => World.news_of_block (heap_alloc_new w (.cells #[.int .i64 m.f.args, .int .i64 m.f.regs, .slice m.A m.f.ops.length m.c] T1)) j u hu) (by unfold Fm.cells; simp [Value.oneCell']) (by decide) (by unfold maxLen; omega) (by omega) (by simp; omega) (w.heap.size + 1) (by simp) ?_
  intro g cap w' h1 h2 _ _
  exact h g cap w' h1 h2
/-- Rows of unlike types are unlike blocks. -/
theorem rowNe {w : World} {b1 b2 n1 n2 m1 m2 : Nat} {T1 T2 : TypeId} {v1 v2 : Value} {x1 x2 : List Value} (h1 : w.ownsRow b1 T1 m1 v1 n1 x1) (h2 : w.ownsRow b2 T2 m2 v2 n2 x2) (hT : T1 ≠ T2) : ∀ k, v1.ownBlock = some k → v2.ownBlock ≠ some k := by
  intro k hk hk2
  rcases h1.2 with ⟨rfl, _⟩ | ⟨g, cap, cur, rfl, _, hg, _⟩
  · simp [Value.ownBlock] at hk
  · rcases h2.2 with ⟨rfl, _⟩ | ⟨g2, cap2, cur2, rfl, _, hg2, _⟩
    · simp [Value.ownBlock] at hk2
    · simp only [Value.ownBlock, Option.some.injEq] at hk hk2
      subst hk
      subst hk2
      rw [hg] at hg2
      simp only [Option.some.injEq, Obj.cells.injEq] at hg2
      exact hT hg2.2.1
/-- Functions are read, so many. -/
def rFns : Nat → ByteArray → Nat → List FnV × ByteArray × Nat
  | 0, s, f => ([], s, f)
  | n + 1, s, f => ((rFns n s f).1 ++ [(rFn (rFns n s f).2.1 (rFns n s f).2.2).1], (rFn (rFns n s f).2.1 (rFns n s f).2.2).2)
theorem rFns_len (n : Nat) (s : ByteArray) (f : Nat) : (rFns n s f).1.length = n := by
  induction n with
  | zero => rfl
  | succ n ih => unfold rFns; simp [ih]
theorem rFns_size (n : Nat) (s : ByteArray) (f : Nat) : (rFns n s f).2.1.size ≤ s.size := by
  induction n with
  | zero => exact Nat.le_refl _
  | succ n ih => exact Nat.le_trans (rFn_size _ _) ih
/-- A program is read, behind its version. -/
def rProg (s : ByteArray) (f : Nat) : List FnV × ByteArray × Nat := rFns (rC 16 s f).1 (rC 16 s f).2.1 (rC 16 s f).2.2
theorem rProg_size (s : ByteArray) (f : Nat) : (rProg s f).2.1.size ≤ s.size := Nat.le_trans (rFns_size _ _ _) (Wire.step_size s f)
/-- A program's block. -/
def PBlk (w : World) (F : Nat) (v : Value) : Prop := w.heap[F]? = some (.cells #[v] 24 (0, 0))
section
variable {w w' : World} {F : Nat} {v : Value}
theorem PBlk.lt (h : PBlk w F v) : F < w.heap.size := ltH h
theorem PBlk.c0 (h : PBlk w F v) : w.cell? ⟨F, 0, none⟩ = some v := cell_of_row _ _ 0 _ _ _ h
theorem PBlk.f (h : PBlk w F v) (i : Nat) : w.frozen? ⟨F, i, none⟩ = false := Lib.frozen_of_heap h i
theorem PBlk.of_block (h : PBlk w F v) (hb : w'.heap[F]? = w.heap[F]?) : PBlk w' F v := hb.trans h
theorem PBlk.set0 (h : PBlk w F v) (u : Value) : PBlk (w.setCell ⟨F, 0, none⟩ u) F u := by
  unfold PBlk at h ⊢
  simp [World.setCell, Array.getElem?_modify, h]
end
end Cd

set_option maxHeartbeats 1500000 in
set_option maxRecDepth 20000 in
theorem creadProgram (B R : Nat) (hBR : B ≠ R) (s : ByteArray) (f : Nat) (w : World) (h : Wire.RD R s f w) (hs : s.size ≤ maxLen) (hm : Cd.Tbl w B) :
    Calls Tryz.prog 23 #[.map (some B), .pointer (some ⟨R, 0, none⟩)] w fun e w' => ∃ (ms : List Cd.Fm) (A : Option Addr) (c : Nat), e = .returned (.agg #[.slice A ms.length c]) ∧
      Cd.fns ms = (Cd.rProg s f).1 ∧ w'.ownsRow w.heap.size 41 3 (.slice A ms.length c) ms.length (Cd.mcells ms) ∧ (∀ m ∈ ms, w'.ownsRow w.heap.size 44 5 (.slice m.A m.f.ops.length m.c) m.f.ops.length (Cd.ocells m.f.ops)) ∧ Wire.After R (Cd.rProg s f).2.1 (Cd.rProg s f).2.2 w w' := by
  obtain ⟨W0, hW0⟩ : ∃ W0, W0 = w.alloc (.cells #[.slice none 0 0] 24) := ⟨_, rfl⟩
  obtain ⟨V, hV⟩ : ∃ V, V = W0.alloc (.cells #[.slice none 0 0] 24) := ⟨_, rfl⟩
  have hs0 : W0.heap.size = w.heap.size + 1 := by rw [hW0]; simp
  have hb0 : Below w.heap.size w W0 := by rw [hW0]; exact Cd.fn1 _ _ _
  have hb1 : Below W0.heap.size W0 V := by rw [hV]; exact Cd.fn1 _ _ _
  have hb : Below w.heap.size w V := hb0.trans (hb1.mono hb0.size)
  have hZ : V.heap[w.heap.size]? = some (.cells #[.slice none 0 0] 24 (0, 0)) := by rw [hb1.block _ (by rw [hs0]; omega), hW0]; exact heap_alloc_new w _
  have hPB : Cd.PBlk V (w.heap.size + 1) (.slice none 0 0) := by show V.heap[w.heap.size + 1]? = _; rw [← hs0, hV]; exact heap_alloc_new W0 _
  have HRD := Lib.hid (h.below hb)
  have HG : Hid (w.grownBy V (some R)) := grown_of hb _
  have HM := Lib.hid hm
  have HRL := Lib.hid h.lt
  have HZ := Lib.hid hZ
  have HFV := Lib.hid hPB
  have HI := Lib.hid Cd.pgSize
  have HMX : Hid (∀ t : ByteArray, t.size ≤ s.size → t.size ≤ maxLen) := fun t ht => Nat.le_trans ht hs
  obtain ⟨q, hq⟩ : ∃ q, q = Cd.rC 16 s f := ⟨_, rfl⟩
  have HFN : Hid (Cd.rProg s f = Cd.rFns q.1 q.2.1 q.2.2) := by show _ = _; rw [hq]; rfl
  have HSQ : Hid (q.2.1.size ≤ s.size) := by show _ ≤ _; rw [hq]; exact Wire.step_size _ _
  have hql : q.1 ≤ 16 := by rw [hq]; exact Cd.rC_le 16 _ _
  have HQ2 : Hid (Calls Tryz.prog 47 #[.pointer (some ⟨R, 0, none⟩), .int .i64 16] V fun e w' => e = .returned (.int .i64 (q.1 : Int)) ∧ Wire.After R q.2.1 q.2.2 V w') := by show Calls _ _ _ _ _; rw [hq]; exact rCount_any 16 (by omega) (by omega) R _ _ V HRD.out hs
  have HNE : Hid (R < w.heap.size ∧ w.heap.size + 1 < V.heap.size) := ⟨h.lt, hPB.lt⟩
  clear hZ hPB hb hb0 hb1 h hm hs hq
  obtain ⟨qv, qs, qf⟩ := q
  simp only at HFN hql HQ2 HSQ
  go_enter Tryz.func23, Tryz.ntmps23
  go_upto_region 2 with fail
  rw [← hW0, ← hs0, ← hV]
  rw [← hs0] at HFV HNE
  clear hV hW0
  obtain ⟨Z, hZe⟩ : ∃ Z, Z = w.heap.size := ⟨_, rfl⟩
  obtain ⟨F, hFe⟩ : ∃ F, F = W0.heap.size := ⟨_, rfl⟩
  rw [← hFe] at HFV HNE hs0 ⊢
  rw [← hZe] at HZ ⊢
  have HZE : Hid (Z = w.heap.size ∧ F = w.heap.size + 1) := ⟨hZe, hs0⟩
  clear hZe hFe hs0
  go_wp2_with fail
  refine HQ2.out.mono ?_
  rintro e w4 ⟨rfl, hA4⟩
  have HST : Hid (Cd.PBlk w4 F (.slice none 0 0) ∧ Wire.RD R qs qf w4 ∧ w4.heap[Z]? = some (.cells #[.slice none 0 0] 24 (0, 0)) ∧ w.grownBy w4 (some R) ∧ V.heap.size ≤ w4.heap.size) :=
    ⟨HFV.out.of_block (hA4.2.block F HFV.out.lt (fun e => by have := Option.some.inj e; have := HNE.out; have := HZE.out; omega)), hA4.1, (hA4.2.block Z (Cd.ltH HZ.out) (fun e => by have := Option.some.inj e; have := HNE.out; have := HZE.out; omega)).trans HZ.out, Wire.grown_trans HG.out hA4.2, hA4.2.size⟩
  clear hA4 HQ2 HRD HG HZ HFV
  go_wp2_with fail
  go_loopw [8] (fun s8 wr => ∃ (j : Nat) (ms : List Cd.Fm) (A : Option Addr) (c : Nat), j ≤ qv ∧ s8 = .int .i64 j ∧ Hid (Cd.fns ms = (Cd.rFns j qs qf).1 ∧ ms.length = j) ∧ Hid (Cd.PBlk wr F (.slice A j c) ∧ Wire.RD R (Cd.rFns j qs qf).2.1 (Cd.rFns j qs qf).2.2 wr ∧ wr.heap[Z]? = some (.cells #[.slice none 0 0] 24 (0, 0)) ∧ w.grownBy wr (some R) ∧ V.heap.size ≤ wr.heap.size) ∧ Hid (wr.ownsRow V.heap.size 41 3 (.slice A j c) j (Cd.mcells ms)) ∧ Hid (∀ m ∈ ms, wr.ownsRow V.heap.size 44 5 (.slice m.A m.f.ops.length m.c) m.f.ops.length (Cd.ocells m.f.ops))) (fun s8 _ => qv - (intOf s8).toNat)
  case atStart => exact ⟨0, [], none, 0, Nat.zero_le _, rfl, ⟨rfl, rfl⟩, HST.out, ⟨rfl, .inl ⟨rfl, rfl⟩⟩, (show Hid _ from fun m hm => by simp at hm)⟩
  case round =>
    clear HST
    obtain ⟨j, ms, A, c, hj, rfl, HMS, HS, HR, HO⟩ := hrel
    by_cases hlt : j < qv
    · have k1 : (j : Int) < qv := by omega
      have HTB := Lib.hid (Cd.Tbl.grown HM.out HS.out.2.2.2.1 hBR)
      have hsz := HMX.out _ (Nat.le_trans (Cd.rFns_size j qs qf) HSQ.out)
      have HC0 := Lib.hid (creadFunc B R hBR (Cd.rFns j qs qf).2.1 (Cd.rFns j qs qf).2.2 wr.drew HS.out.2.1 hsz HTB.out)
      have HNX : Hid (Cd.rFns (j + 1) qs qf = ((Cd.rFns j qs qf).1 ++ [(Cd.rFn (Cd.rFns j qs qf).2.1 (Cd.rFns j qs qf).2.2).1], (Cd.rFn (Cd.rFns j qs qf).2.1 (Cd.rFns j qs qf).2.2).2)) := rfl
      generalize Cd.rFns j qs qf = x at HS HC0 HNX HMS
      generalize Cd.rFn x.2.1 x.2.2 = y at HC0 HNX
      obtain ⟨o, ys, yf⟩ := y
      have HC : Hid (Calls Tryz.prog 48 #[.map (some B), .pointer (some ⟨R, 0, none⟩)] wr.drew fun e w' => ∃ v, e = .returned v ∧ ∃ A2 c2, v = .agg #[.int .i64 o.args, .int .i64 o.regs, .slice A2 o.ops.length c2] ∧ w'.ownsRow wr.heap.size 44 5 (.slice A2 o.ops.length c2) o.ops.length (Cd.ocells o.ops) ∧ Wire.After R ys yf wr.drew w') :=
        HC0.out.mono fun e w' hh => by obtain ⟨A2, c2, h1, h2, h3⟩ := hh; exact ⟨_, h1, A2, c2, rfl, h2, h3⟩
      have cF := HS.out.1.c0
      have hj100 : j ≤ 100000 := by omega
      clear hsz hlt HC0 HTB
      go_upto_region 4 with fail
      go_region_law (first
        | (refine Cd.fpush_step hrow5 (by rfl) _ _ (by rfl) (by rfl) (by rfl) m (by rfl) hj100 hsz5 ?_
           intro g cap w6 hown6 hgr6
           have hF6 := hFa.of_block (hgr6.block F hFa.lt (fun e => by have h1 := (hrow5.lt F e.symm).1; have := HNE.out; omega))
           have cF6 := hF6.c0
           have fF6 := hF6.f 0)
        | (refine Cd.step_call 48 #[.map (some B), .pointer (some ⟨R, 0, none⟩)] (fun v w' => ∃ A2 c2, v = .agg #[.int .i64 o.args, .int .i64 o.regs, .slice A2 o.ops.length c2] ∧ w'.ownsRow wr.heap.size 44 5 (.slice A2 o.ops.length c2) o.ops.length (Cd.ocells o.ops) ∧ Wire.After R ys yf wr.drew w') (by rfl) (by kernel_rfl) HC.out ?_
           rintro v w5 ⟨A2, c2, rfl, hop5, hA5⟩
           have hF5 : Cd.PBlk w5 F (.slice A j c) := HS.out.1.of_block (hA5.2.block F HS.out.1.lt (fun e => by have := Option.some.inj e; have := HNE.out; have := HZE.out; omega))
           have cF5 := hF5.c0
           have hrow5 : w5.ownsRow V.heap.size 41 3 (.slice A j c) j (Cd.mcells ms) := Cd.rowKeep HR.out (fun p hp => hA5.2.block p (HR.out.lt p hp).2 (fun e => by have := Option.some.inj e; have h1 := (HR.out.lt p hp).1; have := HNE.out; have := HZE.out; omega))
           have hsz5 : V.heap.size ≤ w5.heap.size := Nat.le_trans HS.out.2.2.2.2 hA5.2.size
           obtain ⟨m, hm⟩ : ∃ m : Cd.Fm, m = ⟨o, A2, c2⟩ := ⟨_, rfl⟩
           have e0 : o = m.f := by rw [hm]
           have e1 : A2 = m.A := by rw [hm]
           have e2 : c2 = m.c := by rw [hm]
           clear hm
           subst e0 e1 e2
           have hFa : Cd.PBlk (w5.alloc (.cells #[.int .i64 m.f.args, .int .i64 m.f.regs, .slice m.A m.f.ops.length m.c] 41)) F (.slice A j c) := hF5.of_block ((Cd.fn1 w5 _ _).block F hF5.lt)
           have cFa := hFa.c0))
      all_goals
        have hsep : ∀ p, (Value.slice A j c).ownBlock = some p → V.heap.size ≤ p := fun p hp => (hrow5.lt p hp).1
        have hVw : w.heap.size ≤ V.heap.size := by have := HNE.out; have := HZE.out; omega
        obtain ⟨U, hU⟩ : ∃ U, U = w5.alloc (.cells #[.int .i64 m.f.args, .int .i64 m.f.regs, .slice m.A m.f.ops.length m.c] 41) := ⟨_, rfl⟩
        have hbU : Below w5.heap.size w5 U := by rw [hU]; exact Cd.fn1 _ _ _
        rw [← hU] at hgr6
        have hZ5 : w5.heap[Z]? = some (.cells #[.slice none 0 0] 24 (0, 0)) := (hA5.2.block Z (Cd.ltH HS.out.2.2.1) (fun e => by have := Option.some.inj e; have := HNE.out; have := HZE.out; omega)).trans HS.out.2.2.1
        have hR5 : R < w5.heap.size := hA5.1.lt
        have hRne : ∀ q, q < V.heap.size → some q ≠ (Value.slice A j c).ownBlock := fun q hq e => by have := hsep q e.symm; omega
        have HNEW : Hid (Cd.PBlk (w6.setCell ⟨F, 0, none⟩ (.slice (some ⟨g, 0, none⟩) (j + 1) cap)) F (.slice (some ⟨g, 0, none⟩) (j + 1) cap) ∧ Wire.RD R ys yf (w6.setCell ⟨F, 0, none⟩ (.slice (some ⟨g, 0, none⟩) (j + 1) cap)) ∧ (w6.setCell ⟨F, 0, none⟩ (.slice (some ⟨g, 0, none⟩) (j + 1) cap)).heap[Z]? = some (.cells #[.slice none 0 0] 24 (0, 0)) ∧ w.grownBy (w6.setCell ⟨F, 0, none⟩ (.slice (some ⟨g, 0, none⟩) (j + 1) cap)) (some R) ∧ V.heap.size ≤ (w6.setCell ⟨F, 0, none⟩ (.slice (some ⟨g, 0, none⟩) (j + 1) cap)).heap.size) := by
          refine ⟨hF6.set0 _, ?_, ?_, ?_, ?_⟩
          · exact (Below.heap_setCell _ _ _ _ (by have := HNE.out; have := HZE.out; intro e; try dsimp only at e; omega)).trans ((hgr6.block R (Nat.lt_of_lt_of_le hR5 hbU.size) (hRne R (by have := HNE.out; omega))).trans ((hbU.block R hR5).trans hA5.1))
          · exact (Below.heap_setCell _ _ _ _ (by have := HNE.out; have := HZE.out; intro e; try dsimp only at e; omega)).trans ((hgr6.block Z (Nat.lt_of_lt_of_le (Cd.ltH hZ5) hbU.size) (hRne Z (by have := HNE.out; have := HZE.out; omega))).trans ((hbU.block Z (Cd.ltH hZ5)).trans hZ5))
          · exact Cd.grown_setX (Cd.grown_row (Cd.grown_below (Wire.grown_trans (Cd.grown_drew HS.out.2.2.2.1) hA5.2) hbU) hgr6 (fun p hp => Nat.le_trans hVw (hsep p hp))) (by have := HNE.out; have := HZE.out; omega)
          · have h1 := hbU.size
            have h2 := hgr6.size
            simp [World.setCell]
            omega
        have HRN : Hid ((w6.setCell ⟨F, 0, none⟩ (.slice (some ⟨g, 0, none⟩) (j + 1) cap)).ownsRow V.heap.size 41 3 (.slice (some ⟨g, 0, none⟩) (j + 1) cap) (j + 1) (Cd.mcells (ms ++ [m]))) := by
          show World.ownsRow _ _ _ _ _ _ _
          rw [Cd.mcells_snoc]
          exact Cd.rowKeep hown6 (fun p hp => Below.heap_setCell _ _ _ _ (by intro e; have h1 := (hown6.lt p hp).1; have := HNE.out; try dsimp only at e; omega))
        have keepOp : ∀ m' : Cd.Fm, w5.ownsRow V.heap.size 44 5 (.slice m'.A m'.f.ops.length m'.c) m'.f.ops.length (Cd.ocells m'.f.ops) → (w6.setCell ⟨F, 0, none⟩ (.slice (some ⟨g, 0, none⟩) (j + 1) cap)).ownsRow V.heap.size 44 5 (.slice m'.A m'.f.ops.length m'.c) m'.f.ops.length (Cd.ocells m'.f.ops) := fun m' h => by
          refine Cd.rowKeep h (fun p hp => ?_)
          have h1 := h.lt p hp
          exact (Below.heap_setCell _ _ _ _ (by intro e; have := HNE.out; try dsimp only at e; omega)).trans ((hgr6.block p (Nat.lt_of_lt_of_le h1.2 hbU.size) (fun e => Cd.rowNe h hrow5 (by decide) p hp e.symm)).trans (hbU.block p h1.2))
        have HON : Hid (∀ m' ∈ ms ++ [m], (w6.setCell ⟨F, 0, none⟩ (.slice (some ⟨g, 0, none⟩) (j + 1) cap)).ownsRow V.heap.size 44 5 (.slice m'.A m'.f.ops.length m'.c) m'.f.ops.length (Cd.ocells m'.f.ops)) := fun m' hm' => by
          rcases List.mem_append.1 hm' with h | h
          · refine keepOp m' (Cd.rowKeep (HO.out m' h) (fun p hp => ?_))
            have h1 := (HO.out m' h).lt p hp
            exact hA5.2.block p h1.2 (fun e => by have := Option.some.inj e; have := HNE.out; omega)
          · rw [List.mem_singleton.1 h]
            exact keepOp m (Cd.rowBase hop5 HS.out.2.2.2.2)
        have HMN : Hid (Cd.fns (ms ++ [m]) = x.1 ++ [m.f] ∧ (ms ++ [m]).length = j + 1) := by
          refine ⟨?_, by rw [List.length_append, HMS.out.2]; rfl⟩
          unfold Cd.fns
          rw [List.map_append]
          have := HMS.out.1
          unfold Cd.fns at this
          rw [this]
          rfl
        clear hsep hVw hU hbU hgr6 hZ5 hR5 hRne hF6 hown6 hA5 hF5 hrow5 hFa cF6 fF6 cF5 cFa cF keepOp hop5
        go_wp2_with fail
        go_roundw
        case rel => exact ⟨j + 1, ms ++ [m], some ⟨g, 0, none⟩, cap, by omega, by go_num, by rw [HNX.out]; exact HMN.out, by rw [HNX.out]; exact HNEW.out, HRN.out, HON.out⟩
        case measure => simp [intOf]; omega
    · obtain rfl : j = qv := by omega
      have k1 : ¬ ((j : Int) < j) := by omega
      have hml : ms.length = j := HMS.out.2
      clear hlt
      go_wp2_with (first
        | refine wpList_load_row rfl 24 (.tmp 5) rfl F rfl 24 #[.slice A j c] (0, 0) _ HS.out.1 Tryz.underlying24 rfl HI.out ?_
        | refine wpList_store_row rfl 24 (.tmp 4) (.tmp 19) rfl Z #[.slice A j c] rfl rfl 24 _ HS.out.2.2.1 HI.out rfl (by simp [Value.oneCell']) ?_)
      try simp only [Exit.inBlock, Exit.then]
      refine bodyPost_ret (v := .agg #[.slice A j c]) (results_cell_row Tryz.results23 _ _ Z 24 #[.slice A j c] (0, 0) _ rfl (setRow_heap _ _ _ _ _ _ HS.out.2.2.1) Tryz.underlying24 rfl HI.out) rfl ⟨ms, A, c, ?_, ?_, ?_, ?_, ?_⟩
      · rw [hml]
      · rw [HFN.out]
        exact HMS.out.1
      · rw [hml]
        exact Cd.rowKeep (Cd.rowBase HR.out (by have := HNE.out; have := HZE.out; omega)) (fun p hp => setRow_other _ Z p _ (by have h1 := (HR.out.lt p hp).1; have := HNE.out; have := HZE.out; omega))
      · intro m hm
        exact Cd.rowKeep (Cd.rowBase (HO.out m hm) (by have := HNE.out; have := HZE.out; omega)) (fun p hp => setRow_other _ Z p _ (by have h1 := ((HO.out m hm).lt p hp).1; have := HNE.out; have := HZE.out; omega))
      · rw [HFN.out]
        exact ⟨(setRow_other _ Z R _ (by have := HNE.out; have := HZE.out; omega)).trans HS.out.2.1, Cd.grown_setRow HS.out.2.2.2.1 (by have := HZE.out; omega)⟩
end Go.Proofs.YtkigoidklonhcaaGreatDoor
end

section
namespace Go.Proofs.YtkigoidklonhcaaGreatDoor
open Go.RowKit

namespace Cd
/-! What is read fits the Go types. -/
theorem setI_rng {o : OpV} (h : o.Rng) (i : Nat) {x : Int} (hx : 0 ≤ x ∧ x ≤ 16) : (o.setI i x).Rng := by
  unfold OpV.setI
  split
  · exact ⟨h.k, ⟨by show _ ≤ x; omega, by show x ≤ _; omega⟩, h.a, h.b, h.n⟩
  · split
    · exact ⟨h.k, h.d, ⟨by show _ ≤ x; omega, by show x ≤ _; omega⟩, h.b, h.n⟩
    · exact ⟨h.k, h.d, h.a, ⟨by show _ ≤ x; omega, by show x ≤ _; omega⟩, h.n⟩
theorem rRegs_rng (l : List Nat) (x : OpV × ByteArray × Nat) (h : x.1.Rng) : (rRegs l x).1.Rng := by
  unfold rRegs
  induction l generalizing x with
  | nil => exact h
  | cons i l ih => exact ih _ (setI_rng h i ⟨by omega, by have := stepU_le 16 x.2.1 x.2.2; omega⟩)
theorem rng0 (k : Nat) (hk : k < 256) : (⟨k, 0, 0, 0, 0⟩ : OpV).Rng := by
  have h0 : (-9223372036854775808 : Int) ≤ 0 ∧ (0 : Int) ≤ 9223372036854775807 := by decide
  exact ⟨hk, h0, h0, h0, h0⟩
theorem rOp_rng (s : ByteArray) (f : Nat) : (rOp s f).1.Rng := by
  have h1 : (rHead s f).1.Rng := rRegs_rng _ _ (rng0 _ (Nat.lt_succ_of_le (stepU_le 255 s f)))
  unfold rOp
  split
  · exact ⟨h1.k, h1.d, h1.a, h1.b, Num.zag_range _ (Wire.step_lt _ _)⟩
  · exact h1
theorem rOps_rng (n : Nat) (s : ByteArray) (f : Nat) : ∀ o ∈ (rOps n s f).1, o.Rng := by
  induction n with
  | zero => intro o ho; simp [rOps] at ho
  | succ n ih =>
    intro o ho
    unfold rOps at ho
    rcases List.mem_append.1 ho with h | h
    · exact ih o h
    · rw [List.mem_singleton.1 h]; exact rOp_rng _ _
theorem rFn_rng (s : ByteArray) (f : Nat) : (rFn s f).1.Rng := by
  have h1 := stepU_le 16 s f
  have h2 := stepU_le 16 (rA s f).2.1 (rA s f).2.2
  have h3 := rC_le 64 (rA (rA s f).2.1 (rA s f).2.2).2.1 (rA (rA s f).2.1 (rA s f).2.2).2.2
  refine ⟨⟨by show _ ≤ ((rA s f).1 : Int); omega, ?_⟩, ⟨by show _ ≤ ((rA (rA s f).2.1 (rA s f).2.2).1 : Int); omega, ?_⟩, rOps_rng _ _ _, ?_⟩
  · show ((rA s f).1 : Int) ≤ _
    unfold rA
    omega
  · show ((rA (rA s f).2.1 (rA s f).2.2).1 : Int) ≤ _
    have : (rA (rA s f).2.1 (rA s f).2.2).1 ≤ 16 := h2
    omega
  · show (rOps _ _ _).1.length ≤ _
    rw [rOps_len]
    unfold maxLen
    exact Nat.le_trans h3 (by decide)
theorem rFns_rng (n : Nat) (s : ByteArray) (f : Nat) : ∀ o ∈ (rFns n s f).1, o.Rng := by
  induction n with
  | zero => intro o ho; simp [rFns] at ho
  | succ n ih =>
    intro o ho
    unfold rFns at ho
    rcases List.mem_append.1 ho with h | h
    · exact ih o h
    · rw [List.mem_singleton.1 h]; exact rFn_rng _ _
/-- What Decode tells: the program, the code. -/
def dec (s : ByteArray) : List FnV × Int :=
  if 16384 < s.size then ([], 4)
  else if (Wire.step (Wire.wU 18446744073709551615) s 0).2.2 ≠ 0 then ([], 8)
  else if (Wire.step (Wire.wU 18446744073709551615) s 0).1 ≠ 1 then ([], 100)
  else if Wire.fin (rProg (Wire.step (Wire.wU 18446744073709551615) s 0).2.1 (Wire.step (Wire.wU 18446744073709551615) s 0).2.2).2.1 (rProg (Wire.step (Wire.wU 18446744073709551615) s 0).2.1 (Wire.step (Wire.wU 18446744073709551615) s 0).2.2).2.2 ≠ 0 then ([], 8)
  else if pok (rProg (Wire.step (Wire.wU 18446744073709551615) s 0).2.1 (Wire.step (Wire.wU 18446744073709551615) s 0).2.2).1 then ((rProg (Wire.step (Wire.wU 18446744073709551615) s 0).2.1 (Wire.step (Wire.wU 18446744073709551615) s 0).2.2).1, 0) else ([], 8)
theorem dec_rng (s : ByteArray) : ∀ f ∈ (dec s).1, f.Rng := by
  unfold dec
  split
  · intro f hf; simp at hf
  · split
    · intro f hf; simp at hf
    · split
      · intro f hf; simp at hf
      · split
        · intro f hf; simp at hf
        · split
          · exact rFns_rng _ _ _
          · intro f hf; simp at hf
/-- The rows of a program that was read. -/
structure Rows (w : World) (b : Nat) (A : Option Addr) (c : Nat) (ms : List Fm) : Prop where
  fs : w.ownsRow b 41 3 (.slice A ms.length c) ms.length (mcells ms)
  os : ∀ m ∈ ms, w.ownsRow b 44 5 (.slice m.A m.f.ops.length m.c) m.f.ops.length (ocells m.f.ops)
theorem Rows.keep {w w' : World} {b c : Nat} {A : Option Addr} {ms : List Fm} (h : Rows w b A c ms) (hk : ∀ i, b ≤ i → i < w.heap.size → w'.heap[i]? = w.heap[i]?) : Rows w' b A c ms :=
  ⟨rowKeep h.fs fun i hi => hk i (h.fs.lt i hi).1 (h.fs.lt i hi).2, fun m hm => rowKeep (h.os m hm) fun i hi => hk i ((h.os m hm).lt i hi).1 ((h.os m hm).lt i hi).2⟩
theorem Rows.prog {w : World} {b c : Nat} {A : Option Addr} {ms : List Fm} (h : Rows w b A c ms) : Prog w w.heap.size A ms := ⟨rowLies h.fs, fun m hm => rowLies (h.os m hm)⟩
theorem Rows.base {w : World} {b b2 c : Nat} {A : Option Addr} {ms : List Fm} (h : Rows w b A c ms) (hb : b2 ≤ b) : Rows w b2 A c ms := ⟨rowBase h.fs hb, fun m hm => rowBase (h.os m hm) hb⟩
theorem Rows.nil (w : World) (b : Nat) : Rows w b none 0 [] := ⟨⟨rfl, .inl ⟨rfl, rfl⟩⟩, fun m hm => by simp at hm⟩
theorem results_ct {P : Program} {fn : Func} {p t : Tmp} {ty : TypeId} (h : fn.results = #[.cell p ty, .tmp t]) (tmps : Array Value) (w : World) (g : Nat) (T : TypeId) (cs : Array Value) (fr : Nat × Nat) (d : TypeDesc)
    (hp : tmps.getD p undef = .pointer (some ⟨g, 0, none⟩)) (hg : w.heap[g]? = some (.cells cs T fr))
    (hu : P.underlying ty = some d) (hd : (match d with | .struct _ | .array _ _ => true | _ => false) = true) (hi : (P.info? ty).map (·.size) = some cs.size) (v : Value) (hv : tmps.getD t undef = v) :
    (results fn tmps).run P w = .ok (.tuple #[.agg cs, v]) w := by
  have hp' : tmps[p]?.getD undef = .pointer (some ⟨g, 0, none⟩) := by simpa using hp
  have hv' : tmps[t]?.getD undef = v := by simpa using hv
  simp [results, h, hp', hv', asAddr, run_loadVar_row w g T ty cs fr d hg hu hd hi]
end Cd

set_option maxHeartbeats 1500000 in
set_option maxRecDepth 20000 in
theorem cDecode (s : ByteArray) (hs : s.size ≤ maxLen) (w : World) :
    Calls Tryz.prog 8 #[.string s] w fun e w' => ∃ (ms : List Cd.Fm) (A : Option Addr) (c : Nat), e = .returned (.tuple #[.agg #[.slice A ms.length c], .int .i64 (Cd.dec s).2]) ∧ Cd.fns ms = (Cd.dec s).1 ∧ Cd.Rows w' w.heap.size A c ms ∧ Below w.heap.size w w' := by
  obtain ⟨W, hW⟩ : ∃ W, W = w.alloc (.cells #[.slice none 0 0] 24) := ⟨_, rfl⟩
  have hb : Below w.heap.size w W := by rw [hW]; exact Cd.fn1 _ _ _
  have hZ : W.heap[w.heap.size]? = some (.cells #[.slice none 0 0] 24 (0, 0)) := by rw [hW]; exact heap_alloc_new w _
  have HB := Lib.hid hb
  have HZ := Lib.hid hZ
  have HI := Lib.hid Cd.pgSize
  have HSZ := Lib.hid hs
  clear hb hZ
  by_cases hbig : 16384 < s.size
  · have HE : Hid (Cd.dec s = ([], 4)) := by show _ = _; unfold Cd.dec; rw [if_pos hbig]
    have HBD := Lib.hid (cbound s hs W)
    rw [if_pos hbig, if_pos hbig] at HBD
    clear hbig hs
    go_enter Tryz.func8, Tryz.ntmps8
    go_upto_region 1 with fail
    rw [← hW]
    clear hW
    obtain ⟨Z, hZe⟩ : ∃ Z, Z = w.heap.size := ⟨_, rfl⟩
    rw [← hZe] at HZ ⊢
    have HZE := Lib.hid hZe
    clear hZe
    go_wp2_with fail
    refine HBD.out.mono ?_
    rintro e w2 ⟨rfl, rfl⟩
    go_wp2_with (refine wpList_store_row rfl 24 _ _ rfl Z #[.slice none 0 0] rfl rfl 24 _ HZ.out HI.out rfl (by simp [Value.oneCell']) ?_)
    try simp only [Exit.inBlock, Exit.then]
    refine bodyPost_ret (v := .tuple #[.agg #[.slice none 0 0], .int .i64 4]) (Cd.results_ct Tryz.results8 _ _ Z 24 #[.slice none 0 0] (0, 0) _ rfl (setRow_heap _ _ _ _ _ _ HZ.out) Tryz.underlying24 rfl HI.out _ rfl) rfl ⟨[], none, 0, ?_, ?_, Cd.Rows.nil _ _, ?_⟩
    · rw [HE.out]; rfl
    · rw [HE.out]; rfl
    · exact Cd.row_below HB.out (by have := HZE.out; omega) _
  · have HBD := Lib.hid (cbound s hs W)
    rw [if_neg hbig, if_neg hbig] at HBD
    have HNB := Lib.hid hbig
    clear hbig hs
    go_enter Tryz.func8, Tryz.ntmps8
    go_upto_region 1 with fail
    rw [← hW]
    clear hW
    obtain ⟨Z, hZe⟩ : ∃ Z, Z = w.heap.size := ⟨_, rfl⟩
    rw [← hZe] at HZ ⊢
    have HZE := Lib.hid hZe
    clear hZe
    go_wp2_with fail
    refine HBD.out.mono ?_
    rintro e w2 ⟨rfl, rfl⟩
    go_wp2_with fail
    refine (new_any s _).mono ?_
    rintro e w2 ⟨rfl, hR2, hb2⟩
    obtain ⟨R, hR⟩ : ∃ R, R = W.heap.size := ⟨_, rfl⟩
    have HRZ : Hid (Z < R) := by show _ < _; rw [hR]; exact Cd.ltH HZ.out
    have HRW : Hid (w.heap.size ≤ R) := by show _ ≤ _; have := HRZ.out; have := HZE.out; omega
    rw [← hR] at hR2 ⊢
    have HR2 := Lib.hid hR2
    have HB2 := Lib.hid (HB.out.trans (hb2.mono HB.out.size))
    have HZ2 : Hid (w2.heap[Z]? = some (.cells #[.slice none 0 0] 24 (0, 0))) := (hb2.block Z (Cd.ltH HZ.out)).trans HZ.out
    clear hR hR2 hb2 HBD
    have HU := Lib.hid (rUint_any 18446744073709551615 R s 0 w2 HR2.out HSZ.out)
    have HDC : Hid (Cd.dec s = if (Wire.step (Wire.wU 18446744073709551615) s 0).2.2 ≠ 0 then ([], 8)
      else if (Wire.step (Wire.wU 18446744073709551615) s 0).1 ≠ 1 then ([], 100)
      else if Wire.fin (Cd.rProg (Wire.step (Wire.wU 18446744073709551615) s 0).2.1 (Wire.step (Wire.wU 18446744073709551615) s 0).2.2).2.1 (Cd.rProg (Wire.step (Wire.wU 18446744073709551615) s 0).2.1 (Wire.step (Wire.wU 18446744073709551615) s 0).2.2).2.2 ≠ 0 then ([], 8)
      else if Cd.pok (Cd.rProg (Wire.step (Wire.wU 18446744073709551615) s 0).2.1 (Wire.step (Wire.wU 18446744073709551615) s 0).2.2).1 then ((Cd.rProg (Wire.step (Wire.wU 18446744073709551615) s 0).2.1 (Wire.step (Wire.wU 18446744073709551615) s 0).2.2).1, 0) else ([], 8)) := by
      show _ = _
      unfold Cd.dec
      rw [if_neg HNB.out]
    have HS1 := Lib.hid (Wire.step_size (wrong := Wire.wU 18446744073709551615) s 0)
    generalize Wire.step (Wire.wU 18446744073709551615) s 0 = y at HU HDC HS1
    obtain ⟨v, s1, f1⟩ := y
    simp only at HU HDC HS1
    go_wp2_with fail
    refine HU.out.mono ?_
    rintro e w3 ⟨rfl, hA3⟩
    have HR3 := Lib.hid hA3.1
    have HB3 : Hid (Below w.heap.size w w3) := HB2.out.grown hA3.2 HB2.out.size (fun k hk => by cases hk; exact HRW.out)
    have HZ3 : Hid (w3.heap[Z]? = some (.cells #[.slice none 0 0] 24 (0, 0))) := (hA3.2.block Z (Cd.ltH HZ2.out) (fun e => by have := Option.some.inj e; have := HRZ.out; omega)).trans HZ2.out
    clear hA3 HU HR2 HB2 HZ2
    go_wp2_with fail
    refine (err_any R s1 f1 w3 HR3.out).mono ?_
    rintro e w4 ⟨rfl, rfl⟩
    by_cases hf : f1 = 0
    · subst hf
      rw [if_neg (by simp)] at HDC
      by_cases hv : v = 1
      · subst hv
        rw [if_neg (by simp)] at HDC
        go_wp2_with fail
        refine (ckinds _).mono ?_
        rintro e w4 ⟨B, rfl, hk⟩
        have HT4 : Hid (Cd.Tbl w4 B) := hk.m
        have HBR : Hid (B ≠ R) := by have := hk.lo; have := HR3.out.lt; show _ ≠ _; omega
        have HR4 := Lib.hid (HR3.out.below hk.bel)
        have HB4 : Hid (Below w.heap.size w w4) := HB3.out.trans (hk.bel.mono HB3.out.size)
        have HZ4 : Hid (w4.heap[Z]? = some (.cells #[.slice none 0 0] 24 (0, 0))) := (hk.bel.block Z (Cd.ltH HZ3.out)).trans HZ3.out
        clear hk HR3 HB3 HZ3
        have HPC := Lib.hid (creadProgram B R HBR.out s1 0 w4 HR4.out (Nat.le_trans HS1.out HSZ.out) HT4.out)
        have HPS := Lib.hid (Nat.le_trans (Cd.rProg_size s1 0) (Nat.le_trans HS1.out HSZ.out))
        have HPRG : Hid (∀ f ∈ (Cd.rProg s1 0).1, f.Rng) := Cd.rFns_rng _ _ _
        have HPLN : Hid ((Cd.rProg s1 0).1.length ≤ 16) := by
          show _ ≤ _
          unfold Cd.rProg
          rw [Cd.rFns_len]
          exact Cd.rC_le 16 _ _
        generalize Cd.rProg s1 0 = x at HPC HPS HPRG HDC HPLN
        obtain ⟨fs, s2, f2⟩ := x
        simp only at HPC HPS HPRG HDC HPLN
        go_wp2_with fail
        refine HPC.out.mono ?_
        rintro e w5 ⟨ms, A, c, rfl, hms, hrf, hro, hA5⟩
        have HMS := Lib.hid hms
        have hr5 : Cd.Rows w5 w4.heap.size A c ms := ⟨hrf, hro⟩
        have HT5 := Lib.hid (Cd.Tbl.grown HT4.out hA5.2 HBR.out)
        have hB5 : Below w.heap.size w w5 := HB4.out.grown hA5.2 HB4.out.size (fun k hk => by cases hk; exact HRW.out)
        have hZ5 : w5.heap[Z]? = some (.cells #[.slice none 0 0] 24 (0, 0)) := (hA5.2.block Z (Cd.ltH HZ4.out) (fun e => by have := Option.some.inj e; have := HRZ.out; omega)).trans HZ4.out
        obtain ⟨P, hP⟩ : ∃ P, P = w5.heap.size := ⟨_, rfl⟩
        obtain ⟨w6, hw6⟩ : ∃ w6, w6 = w5.alloc (.cells #[.slice A ms.length c] 24) := ⟨_, rfl⟩
        have hb6 : Below w5.heap.size w5 w6 := by rw [hw6]; exact Cd.fn1 _ _ _
        have HP6 : Hid (Cd.PBlk w6 P (.slice A ms.length c)) := by show w6.heap[P]? = _; rw [hw6, hP]; exact heap_alloc_new w5 _
        have HR6 := Lib.hid (hA5.1.below hb6)
        have HT6 := Lib.hid (Gm.MapF.below HT5.out hb6 : Cd.Tbl w6 B)
        have HB6 := Lib.hid (hB5.trans (hb6.mono hB5.size))
        have HZ6 : Hid (w6.heap[Z]? = some (.cells #[.slice none 0 0] 24 (0, 0))) := (hb6.block Z (Cd.ltH hZ5)).trans hZ5
        have HRS6 := Lib.hid (hr5.keep (w' := w6) (fun i h1 h2 => hb6.block i h2))
        have HLW : Hid (R < w4.heap.size ∧ R < P ∧ w4.heap.size ≤ P) := ⟨HR4.out.lt, by have := HR4.out.lt; have := hA5.2.size; omega, by have := hA5.2.size; omega⟩
        clear hms hrf hro hA5 hr5 HT5 hB5 hZ5 hb6 HR4 HB4 HZ4 HPC
        go_upto_region 12 with fail
        rw [← hw6, ← hP]
        clear hw6 hP
        go_wp2_with fail
        refine (rEnd_any R s2 f2 w6 HR6.out HPS.out).mono ?_
        rintro e w7 ⟨rfl, hA7⟩
        have HB7 : Hid (Below w.heap.size w w7) := HB6.out.grown hA7.2 HB6.out.size (fun k hk => by cases hk; exact HRW.out)
        have HZ7 : Hid (w7.heap[Z]? = some (.cells #[.slice none 0 0] 24 (0, 0))) := (hA7.2.block Z (Cd.ltH HZ6.out) (fun e => by have := Option.some.inj e; have := HRZ.out; omega)).trans HZ6.out
        have HP7 : Hid (Cd.PBlk w7 P (.slice A ms.length c)) := HP6.out.of_block (hA7.2.block P HP6.out.lt (fun e => by have := Option.some.inj e; have := HLW.out; omega))
        have HT7 := Lib.hid (Cd.Tbl.grown HT6.out hA7.2 HBR.out)
        have HRS7 := Lib.hid (HRS6.out.keep (w' := w7) (fun i h1 h2 => hA7.2.block i h2 (fun e => by have := Option.some.inj e; have := HLW.out; omega)))
        clear hA7 HB6 HZ6 HP6 HT6 HRS6 HR6
        have cP := HP7.out.c0
        by_cases hfin : Wire.fin s2 f2 = 0
        · rw [if_neg (by simpa using hfin)] at HDC
          rw [hfin]
          clear hfin
          have HMAY := Lib.hid (cmay ms (fun m hm => HPRG.out m.f (by rw [← HMS.out]; exact List.mem_map.2 ⟨m, hm, rfl⟩)) (by have h1 := HPLN.out; rw [← HMS.out, Cd.fns_len] at h1; unfold maxLen; omega) A c B w7 HT7.out HRS7.out.prog)
          rw [HMS.out] at HMAY
          cases hp : Cd.pok fs with
          | false =>
            have HE : Hid (Cd.dec s = ([], 8)) := by show _ = _; rw [HDC.out, hp]; rfl
            rw [hp] at HMAY
            clear hp HDC
            go_wp2_with fail
            refine HMAY.out.mono ?_
            rintro e w8 ⟨rfl, hb8⟩
            have HB8 : Hid (Below w.heap.size w w8) := HB7.out.trans (hb8.mono HB7.out.size)
            have HZ8 : Hid (w8.heap[Z]? = some (.cells #[.slice none 0 0] 24 (0, 0))) := (hb8.block Z (Cd.ltH HZ7.out)).trans HZ7.out
            clear hb8
            go_wp2_with (refine wpList_store_row rfl 24 _ _ rfl Z #[.slice none 0 0] rfl rfl 24 _ HZ8.out HI.out rfl (by simp [Value.oneCell']) ?_)
            try simp only [Exit.inBlock, Exit.then]
            refine bodyPost_ret (v := .tuple #[.agg #[.slice none 0 0], .int .i64 8]) (Cd.results_ct Tryz.results8 _ _ Z 24 #[.slice none 0 0] (0, 0) _ rfl (setRow_heap _ _ _ _ _ _ HZ8.out) Tryz.underlying24 rfl HI.out _ rfl) rfl ⟨[], none, 0, ?_, ?_, Cd.Rows.nil _ _, ?_⟩
            · rw [HE.out]; rfl
            · rw [HE.out]; rfl
            · exact Cd.row_below HB8.out (by have := HZE.out; omega) _
          | true =>
            have HE : Hid (Cd.dec s = (fs, 0)) := by show _ = _; rw [HDC.out, hp]; rfl
            rw [hp] at HMAY
            clear hp HDC
            go_wp2_with fail
            refine HMAY.out.mono ?_
            rintro e w8 ⟨rfl, hb8⟩
            have HB8 : Hid (Below w.heap.size w w8) := HB7.out.trans (hb8.mono HB7.out.size)
            have HZ8 : Hid (w8.heap[Z]? = some (.cells #[.slice none 0 0] 24 (0, 0))) := (hb8.block Z (Cd.ltH HZ7.out)).trans HZ7.out
            have HP8 : Hid (Cd.PBlk w8 P (.slice A ms.length c)) := HP7.out.of_block (hb8.block P HP7.out.lt)
            have HRS8 := Lib.hid (HRS7.out.keep (w' := w8) (fun i h1 h2 => hb8.block i h2))
            clear hb8
            go_wp2_with (first
              | refine wpList_load_row rfl 24 (.tmp 9) rfl P rfl 24 #[.slice A ms.length c] (0, 0) _ HP8.out Tryz.underlying24 rfl HI.out ?_
              | refine wpList_store_row rfl 24 (.tmp 2) (.tmp 46) rfl Z #[.slice A ms.length c] rfl rfl 24 _ HZ8.out HI.out rfl (by simp [Value.oneCell']) ?_)
            try simp only [Exit.inBlock, Exit.then]
            refine bodyPost_ret (v := .tuple #[.agg #[.slice A ms.length c], .int .i64 0]) (Cd.results_ct Tryz.results8 _ _ Z 24 #[.slice A ms.length c] (0, 0) _ rfl (setRow_heap _ _ _ _ _ _ HZ8.out) Tryz.underlying24 rfl HI.out _ rfl) rfl ⟨ms, A, c, ?_, ?_, ?_, ?_⟩
            · rw [HE.out]
            · rw [HE.out]; exact HMS.out
            · exact (HRS8.out.keep (w' := w8.setRow Z #[.slice A ms.length c]) (fun i h1 h2 => setRow_other w8 Z i _ (by have := HLW.out; have := HRZ.out; omega))).base (by have := HLW.out; have := HRW.out; omega)
            · exact Cd.row_below HB8.out (by have := HZE.out; omega) _
        · have HE : Hid (Cd.dec s = ([], 8)) := by show _ = _; rw [HDC.out, if_pos hfin]
          have hfi : ((Wire.fin s2 f2 : Int) == 0) = false := by simp; omega
          have hfn : ((Wire.fin s2 f2 : Int) != 0) = true := by simp; omega
          clear hfin HDC cP
          generalize Wire.fin s2 f2 = ff at hfi hfn ⊢
          go_wp2_with (refine wpList_store_row rfl 24 _ _ rfl Z #[.slice none 0 0] rfl rfl 24 _ HZ7.out HI.out rfl (by simp [Value.oneCell']) ?_)
          try simp only [Exit.inBlock, Exit.then]
          refine bodyPost_ret (v := .tuple #[.agg #[.slice none 0 0], .int .i64 8]) (Cd.results_ct Tryz.results8 _ _ Z 24 #[.slice none 0 0] (0, 0) _ rfl (setRow_heap _ _ _ _ _ _ HZ7.out) Tryz.underlying24 rfl HI.out _ rfl) rfl ⟨[], none, 0, ?_, ?_, Cd.Rows.nil _ _, ?_⟩
          · rw [HE.out]; rfl
          · rw [HE.out]; rfl
          · exact Cd.row_below HB7.out (by have := HZE.out; omega) _
      · have HE : Hid (Cd.dec s = ([], 100)) := by show _ = _; rw [HDC.out, if_pos hv]
        have hvi : ((v : Int) == 1) = false := by simp; omega
        clear hv HDC
        go_wp2_with (refine wpList_store_row rfl 24 _ _ rfl Z #[.slice none 0 0] rfl rfl 24 _ HZ3.out HI.out rfl (by simp [Value.oneCell']) ?_)
        try simp only [Exit.inBlock, Exit.then]
        refine bodyPost_ret (v := .tuple #[.agg #[.slice none 0 0], .int .i64 100]) (Cd.results_ct Tryz.results8 _ _ Z 24 #[.slice none 0 0] (0, 0) _ rfl (setRow_heap _ _ _ _ _ _ HZ3.out) Tryz.underlying24 rfl HI.out _ rfl) rfl ⟨[], none, 0, ?_, ?_, Cd.Rows.nil _ _, ?_⟩
        · rw [HE.out]; rfl
        · rw [HE.out]; rfl
        · exact Cd.row_below HB3.out (by have := HZE.out; omega) _
    · have HE : Hid (Cd.dec s = ([], 8)) := by show _ = _; rw [HDC.out, if_pos hf]
      have hfi : ((f1 : Int) == 0) = false := by simp; omega
      clear hf HDC
      go_wp2_with (refine wpList_store_row rfl 24 _ _ rfl Z #[.slice none 0 0] rfl rfl 24 _ HZ3.out HI.out rfl (by simp [Value.oneCell']) ?_)
      try simp only [Exit.inBlock, Exit.then]
      refine bodyPost_ret (v := .tuple #[.agg #[.slice none 0 0], .int .i64 8]) (Cd.results_ct Tryz.results8 _ _ Z 24 #[.slice none 0 0] (0, 0) _ rfl (setRow_heap _ _ _ _ _ _ HZ3.out) Tryz.underlying24 rfl HI.out _ rfl) rfl ⟨[], none, 0, ?_, ?_, Cd.Rows.nil _ _, ?_⟩
      · rw [HE.out]; rfl
      · rw [HE.out]; rfl
      · exact Cd.row_below HB3.out (by have := HZE.out; omega) _
end Go.Proofs.YtkigoidklonhcaaGreatDoor
end
