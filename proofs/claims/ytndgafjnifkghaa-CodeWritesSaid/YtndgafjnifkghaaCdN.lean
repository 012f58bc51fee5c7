/-
  The contract of code.readOp: an op is read.
-/
import Derived.Test.YtndgafjnifkghaaCdL
namespace Go.Proofs.Ytndgafjnifkghaa
open Go.RowKit

namespace Cd
theorem stepU_le (m : Nat) (s : ByteArray) (f : Nat) : (Wire.step (Wire.wU m) s f).1 ≤ m := by
  unfold Wire.step
  split
  · exact Nat.zero_le _
  · split
    · exact Nat.zero_le _
    · split
      · exact Nat.zero_le _
      · rename_i h
        simp only [ne_eq, Decidable.not_not] at h
        unfold Wire.wU at h
        by_cases h2 : m < (Num.rd s.data.toList).1
        · rw [if_pos h2] at h; omega
        · show (Num.rd s.data.toList).1 ≤ m
          omega
/-- Some registers are read. -/
def rRegs (l : List Nat) (x : OpV × ByteArray × Nat) : OpV × ByteArray × Nat :=
  l.foldl (fun x i => (x.1.setI i ((Wire.step (Wire.wU 16) x.2.1 x.2.2).1 : Int), (Wire.step (Wire.wU 16) x.2.1 x.2.2).2)) x
theorem rRegs_snoc (l : List Nat) (i : Nat) (x : OpV × ByteArray × Nat) : rRegs (l ++ [i]) x = ((rRegs l x).1.setI i ((Wire.step (Wire.wU 16) (rRegs l x).2.1 (rRegs l x).2.2).1 : Int), (Wire.step (Wire.wU 16) (rRegs l x).2.1 (rRegs l x).2.2).2) := by
  unfold rRegs
  rw [List.foldl_append]
  rfl
/-- An op is read: it, what is left, the fault. -/
def rHead (s : ByteArray) (f : Nat) : OpV × ByteArray × Nat :=
  rRegs (ids (hD (Wire.step (Wire.wU 255) s f).1) (hA (Wire.step (Wire.wU 255) s f).1) (hB (Wire.step (Wire.wU 255) s f).1)) (⟨(Wire.step (Wire.wU 255) s f).1, 0, 0, 0, 0⟩, (Wire.step (Wire.wU 255) s f).2)
def stepN (s : ByteArray) (f : Nat) : Nat × ByteArray × Nat := Wire.step (Wire.wI (-9223372036854775808) 9223372036854775807) s f
def rOp (s : ByteArray) (f : Nat) : OpV × ByteArray × Nat :=
  if hN (Wire.step (Wire.wU 255) s f).1 then (⟨(rHead s f).1.k, (rHead s f).1.d, (rHead s f).1.a, (rHead s f).1.b, Num.zag (stepN (rHead s f).2.1 (rHead s f).2.2).1⟩, (stepN (rHead s f).2.1 (rHead s f).2.2).2)
  else rHead s f
theorem rRegs_size (l : List Nat) (x : OpV × ByteArray × Nat) : (rRegs l x).2.1.size ≤ x.2.1.size := by
  unfold rRegs
  induction l generalizing x with
  | nil => exact Nat.le_refl _
  | cons i l ih => exact Nat.le_trans (ih _) (Wire.step_size _ _)
theorem rHead_size (s : ByteArray) (f : Nat) : (rHead s f).2.1.size ≤ s.size := Nat.le_trans (rRegs_size _ _) (Wire.step_size s f)
theorem rOp_size (s : ByteArray) (f : Nat) : (rOp s f).2.1.size ≤ s.size := by
  unfold rOp
  split
  · exact Nat.le_trans (Wire.step_size _ _) (rHead_size s f)
  · exact rHead_size s f
theorem grown_setX {w wr : World} {R X i : Nat} {v : Value} (h : w.grownBy wr (some R)) (hX : w.heap.size ≤ X) : w.grownBy (wr.setCell ⟨X, i, none⟩ v) (some R) :=
  ⟨h.os, h.tape, h.output, by simpa [World.setCell] using h.size, fun k hk hne => (Below.heap_setCell _ _ _ _ (by intro e; dsimp only at e; omega)).trans (h.block k hk hne)⟩
theorem grown_below {w a b : World} {R : Nat} (h : w.grownBy a (some R)) (hb : Below a.heap.size a b) : w.grownBy b (some R) := Wire.grown_trans h (grown_of hb _)
theorem grown_setRow {w wr : World} {R Z : Nat} {cs : Array Value} (h : w.grownBy wr (some R)) (hZ : w.heap.size ≤ Z) : w.grownBy (wr.setRow Z cs) (some R) :=
  ⟨h.os, h.tape, h.output, by simpa using h.size, fun k hk hne => (setRow_other wr Z k cs (by omega)).trans (h.block k hk hne)⟩
theorem Tbl.grown {w w' : World} {B R : Nat} (h : Tbl w B) (hg : w.grownBy w' (some R)) (hne : B ≠ R) : Tbl w' B := Gm.MapF.of_block h (hg.block B (Gm.MapF.lt h) (fun e => hne (Option.some.inj e)))
theorem OB.grown {w w' : World} {X R : Nat} {o : OpV} (h : OB w X o) (hg : w.grownBy w' (some R)) (hne : X ≠ R) : OB w' X o := h.of_block (hg.block X h.lt (fun e => hne (Option.some.inj e)))
end Cd

set_option maxHeartbeats 1000000 in
set_option maxRecDepth 20000 in
theorem creadOp (B R : Nat) (hBR : B ≠ R) (s : ByteArray) (f : Nat) (w : World) (h : Wire.RD R s f w) (hs : s.size ≤ maxLen) (hm : Cd.Tbl w B) :
    Calls Try.prog 80 #[.map (some B), .pointer (some ⟨R, 0, none⟩)] w fun e w' => e = .returned (.agg (Cd.rOp s f).1.arr) ∧ Wire.After R (Cd.rOp s f).2.1 (Cd.rOp s f).2.2 w w' := by
  obtain ⟨W, hW⟩ : ∃ W, W = w.alloc (.cells #[.int .u8 0, .int .i64 0, .int .i64 0, .int .i64 0, .int .i64 0] 43) := ⟨_, rfl⟩
  have hZ : W.heap[w.heap.size]? = some (.cells #[.int .u8 0, .int .i64 0, .int .i64 0, .int .i64 0, .int .i64 0] 43 (0, 0)) := by rw [hW]; exact heap_alloc_new w _
  have hb : Below w.heap.size w W := by rw [hW]; exact Cd.fn1 _ _ _
  have HRD := Lib.hid (h.below hb)
  have HM := Lib.hid (Gm.MapF.below hm hb : Cd.Tbl W B)
  have HG : Hid (w.grownBy W (some R)) := grown_of hb _
  have HRL := Lib.hid h.lt
  have HZ := Lib.hid hZ
  have HSZ := Lib.hid hs
  have HI := Lib.hid Cd.opSize
  have HMX : Hid (∀ t : ByteArray, t.size ≤ s.size → t.size ≤ maxLen) := fun t ht => Nat.le_trans ht hs
  clear hZ hb h hm hs
  go_enter Try.func80, Try.ntmps80
  go_upto_region 1 with fail
  rw [← hW]
  clear hW
  obtain ⟨Z, hZe⟩ : ∃ Z, Z = w.heap.size := ⟨_, rfl⟩
  rw [← hZe] at HZ ⊢
  have HZE := Lib.hid hZe
  clear hZe
  go_wp2_with fail
  refine (rUint_any 255 R s f W HRD.out HSZ.out).mono ?_
  rintro e w2 ⟨rfl, hA2⟩
  have hk := Cd.stepU_le 255 s f
  have HRO : Hid (Cd.rOp s f = if Cd.hN (Wire.step (Wire.wU 255) s f).1 then (⟨(Cd.rHead s f).1.k, (Cd.rHead s f).1.d, (Cd.rHead s f).1.a, (Cd.rHead s f).1.b, Num.zag (Cd.stepN (Cd.rHead s f).2.1 (Cd.rHead s f).2.2).1⟩, (Cd.stepN (Cd.rHead s f).2.1 (Cd.rHead s f).2.2).2) else Cd.rHead s f) := rfl
  have HRH : Hid (Cd.rHead s f = Cd.rRegs (Cd.ids (Cd.hD (Wire.step (Wire.wU 255) s f).1) (Cd.hA (Wire.step (Wire.wU 255) s f).1) (Cd.hB (Wire.step (Wire.wU 255) s f).1)) (⟨(Wire.step (Wire.wU 255) s f).1, 0, 0, 0, 0⟩, (Wire.step (Wire.wU 255) s f).2)) := rfl
  have HS1 := Lib.hid (Wire.step_size (wrong := Wire.wU 255) s f)
  have HHS := Lib.hid (Cd.rHead_size s f)
  generalize Wire.step (Wire.wU 255) s f = a at hA2 hk HRO HRH HS1 ⊢
  obtain ⟨k, s1, f1⟩ := a
  simp only at hA2 hk HRO HRH HS1 ⊢
  have hwk : IntKind.u8.wrap (k : Int) = (k : Int) := by rw [IntKind.wrap_u8]; omega
  obtain ⟨X, hX⟩ : ∃ X, X = w2.heap.size := ⟨_, rfl⟩
  obtain ⟨V, hV⟩ : ∃ V, V = w2.alloc (.cells #[.int .u8 (k : Int), .int .i64 0, .int .i64 0, .int .i64 0, .int .i64 0] 43) := ⟨_, rfl⟩
  have hbV : Below w2.heap.size w2 V := by rw [hV]; exact Cd.fn1 _ _ _
  have hOV : Cd.OB V X ⟨k, 0, 0, 0, 0⟩ := by show V.heap[X]? = _; rw [hV, hX]; exact heap_alloc_new w2 _
  have hlt : W.heap.size ≤ w2.heap.size := hA2.2.size
  have hZW := Cd.ltH HZ.out
  have HNE : Hid (R < Z ∧ Z < X ∧ X < V.heap.size) := ⟨by have := HRL.out; have := HZE.out; omega, by omega, hOV.lt⟩
  have HST : Hid (Cd.OB V X ⟨k, 0, 0, 0, 0⟩ ∧ Wire.RD R s1 f1 V ∧ V.heap[Z]? = some (.cells #[.int .u8 0, .int .i64 0, .int .i64 0, .int .i64 0, .int .i64 0] 43 (0, 0)) ∧ w.grownBy V (some R)) :=
    ⟨hOV, hA2.1.below hbV, (hbV.block Z (by omega)).trans ((hA2.2.block Z hZW (fun e => by have := Option.some.inj e; have := HNE.out.1; omega)).trans HZ.out), Cd.grown_below (Wire.grown_trans HG.out hA2.2) hbV⟩
  have HTV := Lib.hid (Gm.MapF.below (Cd.Tbl.grown HM.out hA2.2 hBR) hbV : Cd.Tbl V B)
  have HLK := Lib.hid (Cd.Tbl.look1 (w := V) HTV.out (by omega : k < 256))
  have c0 := hOV.c0
  clear hbV hOV hlt hZW hA2 HTV HZ HG HRD HM
  go_upto_region 2 with fail
  rw [← hV, ← hX]
  clear hV hX
  have HRG := Lib.hid (fun U => cregs (Cd.hD k) (Cd.hA k) (Cd.hB k) (Cd.hN k) X U)
  have HHN := Lib.hid (fun U => chasN (Cd.hD k) (Cd.hA k) (Cd.hB k) (Cd.hN k) U)
  have HIM : Hid (∀ i, i ∈ Cd.ids (Cd.hD k) (Cd.hA k) (Cd.hB k) → i = 1 ∨ i = 2 ∨ i = 3) := fun i h => Cd.ids_mem h
  have hI3 := Cd.ids_len (Cd.hD k) (Cd.hA k) (Cd.hB k)
  generalize Cd.pb (Cd.hD k) (Cd.hA k) (Cd.hB k) (Cd.hN k) = P at HLK HRG HHN
  generalize Cd.ids (Cd.hD k) (Cd.hA k) (Cd.hB k) = I at HRG HIM hI3 HRH
  go_wp2_with (at_lookup; refine Gm.gpl_look _ rfl _ _ _ _ rfl _ _ _ rfl rfl HLK.out ?_)
  refine (HRG.out _).mono ?_
  rintro e w3 ⟨v, rfl, hs3⟩
  obtain ⟨A, c, rfl⟩ := Cd.rowForm hs3.row
  have HST3 : Hid (Cd.OB w3 X ⟨k, 0, 0, 0, 0⟩ ∧ Wire.RD R s1 f1 w3 ∧ w3.heap[Z]? = some (.cells #[.int .u8 0, .int .i64 0, .int .i64 0, .int .i64 0, .int .i64 0] 43 (0, 0)) ∧ w.grownBy w3 (some R)) :=
    ⟨HST.out.1.below hs3.bel, HST.out.2.1.below hs3.bel, (hs3.bel.block Z (Cd.ltH HST.out.2.2.1)).trans HST.out.2.2.1, Cd.grown_below HST.out.2.2.2 hs3.bel⟩
  have HROW := Lib.hid hs3.row
  clear hs3 HST HRG HLK c0 hwk
  go_wp2_with fail
  go_loopw [20] (fun s20 wr => ∃ (j : Nat) (x : Cd.OpV × ByteArray × Nat), j ≤ I.length ∧ s20 = .int .i64 j ∧ Hid (x = Cd.rRegs (I.take j) (⟨k, 0, 0, 0, 0⟩, s1, f1)) ∧ Hid (Cd.OB wr X x.1 ∧ Wire.RD R x.2.1 x.2.2 wr ∧ wr.heap[Z]? = some (.cells #[.int .u8 0, .int .i64 0, .int .i64 0, .int .i64 0, .int .i64 0] 43 (0, 0)) ∧ w.grownBy wr (some R)) ∧ Hid (wr.ownsRow V.heap.size 112 1 (.slice A I.length c) I.length (Cd.ptrs X I))) (fun s20 _ => I.length - (intOf s20).toNat)
  case atStart => exact ⟨0, (⟨k, 0, 0, 0, 0⟩, s1, f1), Nat.zero_le _, rfl, rfl, HST3.out, HROW.out⟩
  case round =>
    clear HST3 HROW
    obtain ⟨j, x, hj, rfl, HX, HS, HR⟩ := hrel
    have HXS : Hid (x.2.1.size ≤ s.size) := by
      show _ ≤ _
      rw [HX.out]
      exact Nat.le_trans (Cd.rRegs_size _ _) HS1.out
    by_cases hlt : j < I.length
    · obtain ⟨ad, rfl, hadb, hc⟩ := (Cd.rowLies HR.out).at_ (Cd.ptrs_at hlt)
      have hi := HIM.out _ (List.getElem_mem hlt)
      have HTK : Hid (Cd.rRegs (I.take (j + 1)) (⟨k, 0, 0, 0, 0⟩, s1, f1) = (x.1.setI I[j] ((Wire.step (Wire.wU 16) x.2.1 x.2.2).1 : Int), (Wire.step (Wire.wU 16) x.2.1 x.2.2).2)) := by
        show _ = _
        rw [List.take_succ_eq_append_getElem hlt, Cd.rRegs_snoc, ← HX.out]
      generalize I[j] = i at hc hi HTK
      have k0 : (0 : Int) ≤ (j : Int) := by omega
      have k1 : (j : Int) < I.length := by omega
      have HC := Lib.hid (rUint_any 16 R x.2.1 x.2.2 wr HS.out.2.1 (HMX.out _ HXS.out))
      have hy := Cd.stepU_le 16 x.2.1 x.2.2
      clear hadb hlt
      go_wp2_with fail
      refine HC.out.mono ?_
      rintro e w4 ⟨rfl, hA4⟩
      generalize Wire.step (Wire.wU 16) x.2.1 x.2.2 = y at hA4 HTK hy ⊢
      obtain ⟨yv, ys, yf⟩ := y
      simp only at hA4 HTK hy ⊢
      have hO4 := HS.out.1.grown hA4.2 (by have := HNE.out; omega)
      have hci := hO4.cI hi
      have hfi := hO4.f i
      have HNEW : Hid (Cd.OB (w4.setCell ⟨X, i, none⟩ (.int .i64 (yv : Int))) X (x.1.setI i (yv : Int)) ∧ Wire.RD R ys yf (w4.setCell ⟨X, i, none⟩ (.int .i64 (yv : Int))) ∧ (w4.setCell ⟨X, i, none⟩ (.int .i64 (yv : Int))).heap[Z]? = some (.cells #[.int .u8 0, .int .i64 0, .int .i64 0, .int .i64 0, .int .i64 0] 43 (0, 0)) ∧ w.grownBy (w4.setCell ⟨X, i, none⟩ (.int .i64 (yv : Int))) (some R)) := by
        refine ⟨hO4.set hi _, ?_, ?_, Cd.grown_setX (Wire.grown_trans HS.out.2.2.2 hA4.2) (by have := HNE.out; have := HZE.out; omega)⟩
        · exact (Below.heap_setCell _ _ _ _ (by have := HNE.out; intro e; try dsimp only at e; omega)).trans hA4.1
        · exact (Below.heap_setCell _ _ _ _ (by have := HNE.out; intro e; try dsimp only at e; omega)).trans ((hA4.2.block Z (Cd.ltH HS.out.2.2.1) (fun e => by have := Option.some.inj e; have := HNE.out; omega)).trans HS.out.2.2.1)
      have HRN : Hid ((w4.setCell ⟨X, i, none⟩ (.int .i64 (yv : Int))).ownsRow V.heap.size 112 1 (.slice (some ad) I.length c) I.length (Cd.ptrs X I)) :=
        Cd.rowKeep HR.out (fun q hq => (Below.heap_setCell _ _ _ _ (by intro e; have h1 := (HR.out.lt q hq).1; have := HNE.out; try dsimp only at e; omega)).trans (hA4.2.block q (HR.out.lt q hq).2 (fun e => by have := Option.some.inj e; have h1 := (HR.out.lt q hq).1; have := HNE.out; omega)))
      have hwy : IntKind.i64.wrap (yv : Int) = (yv : Int) := by rw [IntKind.wrap_i64]; omega
      clear hO4 hA4 HS HR HC hi hc
      go_wp2_with fail
      go_roundw
      case rel => exact ⟨j + 1, (x.1.setI i (yv : Int), ys, yf), by omega, by go_num, HTK.out.symm, HNEW.out, HRN.out⟩
      case measure => simp [intOf]; omega
    · have k1 : ¬ ((j : Int) < I.length) := by omega
      have HXE : Hid (x = Cd.rHead s f) := by
        show _ = _
        rw [HX.out, HRH.out, List.take_of_length_le (by omega)]
      clear HX HR hlt
      go_wp2_with fail
      refine (HHN.out _).mono ?_
      rintro e w4 ⟨rfl, rfl⟩
      cases hN : Cd.hN k with
      | false =>
        have HE : Hid (Cd.rOp s f = x) := by show _ = _; rw [HRO.out, hN, HXE.out]; rfl
        clear hN
        go_wp2_with (first
          | refine wpList_load_row rfl 43 (.tmp 5) rfl X rfl 43 x.1.arr (0, 0) _ HS.out.1 Try.underlying43 rfl HI.out ?_
          | refine wpList_store_row rfl 43 (.tmp 4) (.tmp 35) rfl Z x.1.arr rfl rfl 43 _ HS.out.2.2.1 HI.out rfl (Cd.OpV.arr_one _) ?_)
        try simp only [Exit.inBlock, Exit.then]
        refine bodyPost_ret (v := .agg x.1.arr) (results_cell_row Try.results80 _ _ Z 43 x.1.arr (0, 0) _ rfl (setRow_heap _ _ _ _ _ _ HS.out.2.2.1) Try.underlying43 rfl HI.out) rfl ⟨?_, ?_⟩
        · rw [HE.out]
        · rw [HE.out]
          exact ⟨(setRow_other _ Z R _ (by have := HNE.out; omega)).trans HS.out.2.1, Cd.grown_setRow HS.out.2.2.2 (by have := HZE.out; omega)⟩
      | true =>
        have HC := Lib.hid (rInt_any (-9223372036854775808) 9223372036854775807 R x.2.1 x.2.2 _ HS.out.2.1 (HMX.out _ HXS.out))
        have HE : Hid (Cd.rOp s f = (⟨x.1.k, x.1.d, x.1.a, x.1.b, Num.zag (Wire.step (Wire.wI (-9223372036854775808) 9223372036854775807) x.2.1 x.2.2).1⟩, (Wire.step (Wire.wI (-9223372036854775808) 9223372036854775807) x.2.1 x.2.2).2)) := by show _ = _; rw [HRO.out, hN, HXE.out]; rfl
        clear hN
        go_wp2_with fail
        refine HC.out.mono ?_
        rintro e w5 ⟨rfl, hA5⟩
        generalize Wire.step (Wire.wI (-9223372036854775808) 9223372036854775807) x.2.1 x.2.2 = y at hA5 HE ⊢
        obtain ⟨yv, ys, yf⟩ := y
        simp only at hA5 HE ⊢
        have hO5 := HS.out.1.grown hA5.2 (by have := HNE.out; omega)
        have c4 := hO5.c4
        have f4 := hO5.f 4
        have HNEW : Hid (Cd.OB (w5.setCell ⟨X, 4, none⟩ (.int .i64 (Num.zag yv))) X ⟨x.1.k, x.1.d, x.1.a, x.1.b, Num.zag yv⟩ ∧ Wire.RD R ys yf (w5.setCell ⟨X, 4, none⟩ (.int .i64 (Num.zag yv))) ∧ (w5.setCell ⟨X, 4, none⟩ (.int .i64 (Num.zag yv))).heap[Z]? = some (.cells #[.int .u8 0, .int .i64 0, .int .i64 0, .int .i64 0, .int .i64 0] 43 (0, 0)) ∧ w.grownBy (w5.setCell ⟨X, 4, none⟩ (.int .i64 (Num.zag yv))) (some R)) := by
          refine ⟨hO5.set4 _, ?_, ?_, Cd.grown_setX (Wire.grown_trans HS.out.2.2.2 hA5.2) (by have := HNE.out; have := HZE.out; omega)⟩
          · exact (Below.heap_setCell _ _ _ _ (by have := HNE.out; intro e; try dsimp only at e; omega)).trans hA5.1
          · exact (Below.heap_setCell _ _ _ _ (by have := HNE.out; intro e; try dsimp only at e; omega)).trans ((hA5.2.block Z (Cd.ltH HS.out.2.2.1) (fun e => by have := Option.some.inj e; have := HNE.out; omega)).trans HS.out.2.2.1)
        obtain ⟨o2, ho2⟩ : ∃ o2 : Cd.OpV, o2 = ⟨x.1.k, x.1.d, x.1.a, x.1.b, Num.zag yv⟩ := ⟨_, rfl⟩
        rw [← ho2] at HNEW HE
        clear hO5 hA5 ho2 HC
        go_wp2_with (first
          | refine wpList_load_row rfl 43 (.tmp 5) rfl X rfl 43 o2.arr (0, 0) _ HNEW.out.1 Try.underlying43 rfl HI.out ?_
          | refine wpList_store_row rfl 43 (.tmp 4) (.tmp 35) rfl Z o2.arr rfl rfl 43 _ HNEW.out.2.2.1 HI.out rfl (Cd.OpV.arr_one _) ?_)
        try simp only [Exit.inBlock, Exit.then]
        refine bodyPost_ret (v := .agg o2.arr) (results_cell_row Try.results80 _ _ Z 43 o2.arr (0, 0) _ rfl (setRow_heap _ _ _ _ _ _ HNEW.out.2.2.1) Try.underlying43 rfl HI.out) rfl ⟨?_, ?_⟩
        · rw [HE.out]
        · rw [HE.out]
          exact ⟨(setRow_other _ Z R _ (by have := HNE.out; omega)).trans HNEW.out.2.1, Cd.grown_setRow HNEW.out.2.2.2 (by have := HZE.out; omega)⟩
end Go.Proofs.Ytndgafjnifkghaa
