/-
  The document's readOp (layer 10): an op is read.
-/
import Derived.Test.YtndgafjnifkghaaCrF
import Derived.Test.YtndgafjnifkghaaCdZ
import Derived.Test.YtndgafjnifkghaaWireH
namespace Go.Proofs.Ytndgafjnifkghaa
open Go.RowKit

namespace Cd
/-- A kind, as the document reads it: none that is 0. -/
def dKind (s : ByteArray) (f : Nat) : Nat × ByteArray × Nat :=
  if (Wire.step (Wire.wU 14) s f).1 = 0 then (0, (Wire.step (Wire.wU 14) s f).2.1, 8) else Wire.step (Wire.wU 14) s f
def dHead (s : ByteArray) (f : Nat) : OpV × ByteArray × Nat := rRegs (ids (hD (dKind s f).1) (hA (dKind s f).1) (hB (dKind s f).1)) (⟨(dKind s f).1, 0, 0, 0, 0⟩, (dKind s f).2)
def dOp (s : ByteArray) (f : Nat) : OpV × ByteArray × Nat :=
  if hN (dKind s f).1 then (⟨(dHead s f).1.k, (dHead s f).1.d, (dHead s f).1.a, (dHead s f).1.b, Num.zag (stepN (dHead s f).2.1 (dHead s f).2.2).1⟩, (stepN (dHead s f).2.1 (dHead s f).2.2).2)
  else dHead s f
/-- In the midst of reading an op: the op's block X, the result's Z, the reader's R. -/
structure DSt (w0 : World) (X Z R n : Nat) (x : OpV × ByteArray × Nat) (w : World) : Prop where
  o : OB w X x.1
  r : Wire.RR R x.2.1 x.2.2 w
  z : w.heap[Z]? = some (.cells #[.int .u8 0, .int .i64 0, .int .i64 0, .int .i64 0, .int .i64 0] 43 (0, 0))
  g : w0.grownBy w (some R)
  sz : x.2.1.size ≤ n
  ne : R < Z ∧ Z < X ∧ w0.heap.size ≤ Z
section
variable {w0 w w' : World} {X Z R n : Nat} {x : OpV × ByteArray × Nat}
theorem DSt.after (h : DSt w0 X Z R n x w) {ys : ByteArray} {yf : Nat} (hA : Wire.Post R ys yf w w') (hs : ys.size ≤ n) : DSt w0 X Z R n (x.1, ys, yf) w' :=
  ⟨h.o.grown hA.2 (by have := h.ne; omega), hA.1, (hA.2.block Z (ltH h.z) (fun e => by have := Option.some.inj e; have := h.ne; omega)).trans h.z, Wire.grown_trans h.g hA.2, hs, h.ne⟩
theorem DSt.put {o : OpV} {ys : ByteArray} {yf : Nat} (h : DSt w0 X Z R n (o, ys, yf) w) {i : Nat} (hi : i = 1 ∨ i = 2 ∨ i = 3) (v : Int) : DSt w0 X Z R n (o.setI i v, ys, yf) (w.setCell ⟨X, i, none⟩ (.int .i64 v)) :=
  ⟨h.o.set hi v, (Below.heap_setCell _ _ _ _ (by have := h.ne; intro e; try dsimp only at e; omega)).trans h.r, (Below.heap_setCell _ _ _ _ (by have := h.ne; intro e; try dsimp only at e; omega)).trans h.z, grown_setX h.g (by have := h.ne; omega), h.sz, h.ne⟩
theorem DSt.put4 {o : OpV} {ys : ByteArray} {yf : Nat} (h : DSt w0 X Z R n (o, ys, yf) w) (v : Int) : DSt w0 X Z R n (⟨o.k, o.d, o.a, o.b, v⟩, ys, yf) (w.setCell ⟨X, 4, none⟩ (.int .i64 v)) :=
  ⟨h.o.set4 v, (Below.heap_setCell _ _ _ _ (by have := h.ne; intro e; try dsimp only at e; omega)).trans h.r, (Below.heap_setCell _ _ _ _ (by have := h.ne; intro e; try dsimp only at e; omega)).trans h.z, grown_setX h.g (by have := h.ne; omega), h.sz, h.ne⟩
theorem DSt.fault {o : OpV} {ys : ByteArray} {yf : Nat} (h : DSt w0 X Z R n (o, ys, yf) w) (g : Nat) : DSt w0 X Z R n (o, ys, g) (w.setCell ⟨R, 1, none⟩ (.int .i64 (g : Int))) :=
  ⟨(Below.heap_setCell _ _ _ _ (by have := h.ne; intro e; try dsimp only at e; omega)).trans h.o, h.r.set1 g, (Below.heap_setCell _ _ _ _ (by have := h.ne; intro e; try dsimp only at e; omega)).trans h.z, Wire.grown_trans h.g (Wire.grown_set _ _ _ _), h.sz, h.ne⟩
theorem DSt.last {o : OpV} {ys : ByteArray} {yf : Nat} (h : DSt w0 X Z R n (o, ys, yf) w) (cs : Array Value) : Wire.Post R ys yf w0 (w.setRow Z cs) :=
  ⟨(setRow_other _ Z R _ (by have := h.ne; omega)).trans h.r, grown_setRow h.g (by have := h.ne; omega)⟩
end
end Cd

set_option maxHeartbeats 4000000 in
set_option maxRecDepth 20000 in
theorem rReadOp10 (R : Nat) (s : ByteArray) (f : Nat) (w : World) (h : Wire.RR R s f w) (hs : s.size ≤ maxLen) :
    Calls Try.prog 35 #[.pointer (some ⟨R, 0, none⟩)] w fun e w' => e = .returned (.agg (Cd.dOp s f).1.arr) ∧ Wire.Post R (Cd.dOp s f).2.1 (Cd.dOp s f).2.2 w w' := by
  obtain ⟨W, hW⟩ : ∃ W, W = w.alloc (.cells #[.int .u8 0, .int .i64 0, .int .i64 0, .int .i64 0, .int .i64 0] 43) := ⟨_, rfl⟩
  have hZ : W.heap[w.heap.size]? = some (.cells #[.int .u8 0, .int .i64 0, .int .i64 0, .int .i64 0, .int .i64 0] 43 (0, 0)) := by rw [hW]; exact heap_alloc_new w _
  have hb : Below w.heap.size w W := by rw [hW]; exact Cd.fn1 _ _ _
  have HRD := Lib.hid (h.below hb)
  have HG : Hid (w.grownBy W (some R)) := grown_of hb _
  have HRL := Lib.hid h.lt
  have HZ := Lib.hid hZ
  have HSZ := Lib.hid hs
  have HI := Lib.hid Cd.opSize
  clear hZ hb h hs
  go_enter Try.func35, Try.ntmps35
  go_upto_region 1 with fail
  rw [← hW]
  clear hW
  obtain ⟨Z, hZe⟩ : ∃ Z, Z = w.heap.size := ⟨_, rfl⟩
  rw [← hZe] at HZ ⊢
  have HZE := Lib.hid hZe
  clear hZe
  go_wp2_with fail
  refine (frUint_any 14 R s f W HRD.out HSZ.out).mono ?_
  rintro e w2 ⟨rfl, hA2⟩
  have hk := Cd.stepU_le 14 s f
  have HDK : Hid (Cd.dKind s f = if (Wire.step (Wire.wU 14) s f).1 = 0 then (0, (Wire.step (Wire.wU 14) s f).2.1, 8) else Wire.step (Wire.wU 14) s f) := rfl
  have HS1 := Lib.hid (Nat.le_trans (Wire.step_size (wrong := Wire.wU 14) s f) HSZ.out)
  generalize Wire.step (Wire.wU 14) s f = a at hA2 hk HDK HS1 ⊢
  obtain ⟨k, s1, f1⟩ := a
  simp only at hA2 hk HDK HS1 ⊢
  have hwk : IntKind.u8.wrap (k : Int) = (k : Int) := by rw [IntKind.wrap_u8]; omega
  obtain ⟨X, hX⟩ : ∃ X, X = w2.heap.size := ⟨_, rfl⟩
  obtain ⟨V, hV⟩ : ∃ V, V = w2.alloc (.cells #[.int .u8 (k : Int), .int .i64 0, .int .i64 0, .int .i64 0, .int .i64 0] 43) := ⟨_, rfl⟩
  have hbV : Below w2.heap.size w2 V := by rw [hV]; exact Cd.fn1 _ _ _
  have hOV : Cd.OB V X ⟨k, 0, 0, 0, 0⟩ := by show V.heap[X]? = _; rw [hV, hX]; exact heap_alloc_new w2 _
  have hlt : W.heap.size ≤ w2.heap.size := hA2.2.size
  have hZW := Cd.ltH HZ.out
  have HST : Hid (Cd.DSt w X Z R maxLen (⟨k, 0, 0, 0, 0⟩, s1, f1) V) :=
    ⟨hOV, hA2.1.below hbV, (hbV.block Z (by omega)).trans ((hA2.2.block Z hZW (fun e => by have := Option.some.inj e; have := HRL.out; have := HZE.out; omega)).trans HZ.out), Cd.grown_below (Wire.grown_trans HG.out hA2.2) hbV, HS1.out, by have := HRL.out; have := HZE.out; omega⟩
  clear hbV hOV hlt hZW hA2 HZ HG HRD HS1
  go_upto_region 2 with fail
  rw [← hV, ← hX]
  clear hV hX
  have HLOAD : Hid (∀ {x : Cd.OpV × ByteArray × Nat} {wx : World}, Cd.DSt w X Z R maxLen x wx → wx.cell? ⟨X, 0, none⟩ = some (.int .u8 (x.1.k : Int))) := fun h => h.o.c0
  have c0 : V.cell? ⟨X, 0, none⟩ = some (.int .u8 (k : Int)) := HST.out.o.c0
  have HHAS := Lib.hid (fun U => rHas10 k (by omega) U)
  by_cases hk0 : k = 0
  · subst hk0
    have HDO : Hid (Cd.dOp s f = (⟨0, 0, 0, 0, 0⟩, s1, 8)) := by
      have e : Cd.dKind s f = (0, s1, 8) := HDK.out
      show _ = _
      unfold Cd.dOp Cd.dHead
      rw [e]
      rfl
    have HST2 := Lib.hid (HST.out.fault 8)
    have f1' := HST.out.r.c1
    have g1' := HST.out.r.f 1
    have hh : (Cd.hD 0 = false ∧ Cd.hA 0 = false ∧ Cd.hB 0 = false ∧ Cd.hN 0 = false) := ⟨rfl, rfl, rfl, rfl⟩
    rw [hh.1, hh.2.1, hh.2.2.1, hh.2.2.2] at HHAS
    have c02 := HST2.out.o.c0
    clear HST HDK hh hwk
    obtain ⟨o2, ho2⟩ : ∃ o2 : Cd.OpV, o2 = ⟨0, 0, 0, 0, 0⟩ := ⟨_, rfl⟩
    rw [← ho2] at HST2 HDO
    have e8 : ((8 : Nat) : Int) = 8 := rfl
    rw [e8] at HST2 c02
    clear ho2 e8
    go_wp2_with fail
    refine (HHAS.out _).mono ?_
    rintro e w3 ⟨rfl, rfl⟩
    go_wp2_with (first
      | refine wpList_load_row rfl 43 (.tmp 3) rfl X rfl 43 o2.arr (0, 0) _ HST2.out.o Try.underlying43 rfl HI.out ?_
      | refine wpList_store_row rfl 43 (.tmp 2) (.tmp 45) rfl Z o2.arr rfl rfl 43 _ HST2.out.z HI.out rfl (Cd.OpV.arr_one _) ?_)
    try simp only [Exit.inBlock, Exit.then]
    refine bodyPost_ret (v := .agg o2.arr) (results_cell_row Try.results35 _ _ Z 43 o2.arr (0, 0) _ rfl (setRow_heap _ _ _ _ _ _ HST2.out.z) Try.underlying43 rfl HI.out) rfl ⟨?_, ?_⟩
    · rw [HDO.out]
    · rw [HDO.out]
      exact HST2.out.last _
  · have hkb : ((k : Int) == 0) = false := by simpa using (by omega : ¬ (k : Int) = 0)
    have HDO : Hid (Cd.dOp s f = if Cd.hN k then (⟨(Cd.rRegs (Cd.ids (Cd.hD k) (Cd.hA k) (Cd.hB k)) (⟨k, 0, 0, 0, 0⟩, s1, f1)).1.k, (Cd.rRegs (Cd.ids (Cd.hD k) (Cd.hA k) (Cd.hB k)) (⟨k, 0, 0, 0, 0⟩, s1, f1)).1.d, (Cd.rRegs (Cd.ids (Cd.hD k) (Cd.hA k) (Cd.hB k)) (⟨k, 0, 0, 0, 0⟩, s1, f1)).1.a, (Cd.rRegs (Cd.ids (Cd.hD k) (Cd.hA k) (Cd.hB k)) (⟨k, 0, 0, 0, 0⟩, s1, f1)).1.b, Num.zag (Cd.stepN (Cd.rRegs (Cd.ids (Cd.hD k) (Cd.hA k) (Cd.hB k)) (⟨k, 0, 0, 0, 0⟩, s1, f1)).2.1 (Cd.rRegs (Cd.ids (Cd.hD k) (Cd.hA k) (Cd.hB k)) (⟨k, 0, 0, 0, 0⟩, s1, f1)).2.2).1⟩, (Cd.stepN (Cd.rRegs (Cd.ids (Cd.hD k) (Cd.hA k) (Cd.hB k)) (⟨k, 0, 0, 0, 0⟩, s1, f1)).2.1 (Cd.rRegs (Cd.ids (Cd.hD k) (Cd.hA k) (Cd.hB k)) (⟨k, 0, 0, 0, 0⟩, s1, f1)).2.2).2) else Cd.rRegs (Cd.ids (Cd.hD k) (Cd.hA k) (Cd.hB k)) (⟨k, 0, 0, 0, 0⟩, s1, f1)) := by
      have e : Cd.dKind s f = (k, s1, f1) := HDK.out.trans (if_neg hk0)
      show _ = _
      unfold Cd.dOp Cd.dHead
      rw [e]
    clear HDK hk0
    generalize Cd.hD k = pd at HHAS HDO
    generalize Cd.hA k = pa at HHAS HDO
    generalize Cd.hB k = pb at HHAS HDO
    generalize Cd.hN k = pn at HHAS HDO
    go_wp2_with fail
    refine (HHAS.out _).mono ?_
    rintro e w3 ⟨rfl, rfl⟩
    clear HHAS c0 hwk hkb
    obtain ⟨x0, hx0⟩ : ∃ x0 : Cd.OpV × ByteArray × Nat, x0 = (⟨k, 0, 0, 0, 0⟩, s1, f1) := ⟨_, rfl⟩
    rw [← hx0] at HST HDO
    clear hx0
    have H := HST
    clear HST
    cases pd with
    | true =>
      have HC := Lib.hid (frUint_any 16 R x0.2.1 x0.2.2 _ H.out.r H.out.sz)
      have hy := Cd.stepU_le 16 x0.2.1 x0.2.2
      have HSS := Lib.hid (Nat.le_trans (Wire.step_size (wrong := Wire.wU 16) x0.2.1 x0.2.2) H.out.sz)
      have HX0 : Hid ((x0.1.setI 1 ((Wire.step (Wire.wU 16) x0.2.1 x0.2.2).1 : Int), (Wire.step (Wire.wU 16) x0.2.1 x0.2.2).2) = (x0.1.setI 1 ((Wire.step (Wire.wU 16) x0.2.1 x0.2.2).1 : Int), (Wire.step (Wire.wU 16) x0.2.1 x0.2.2).2)) := rfl
      clear HX0
      obtain ⟨y, hye⟩ : ∃ y, y = Wire.step (Wire.wU 16) x0.2.1 x0.2.2 := ⟨_, rfl⟩
      rw [← hye] at HC hy HSS
      obtain ⟨x1, hx⟩ : ∃ x : Cd.OpV × ByteArray × Nat, x = (x0.1.setI 1 (y.1 : Int), y.2) := ⟨_, rfl⟩
      have HX0 : Hid (x1 = (x0.1.setI 1 ((Wire.step (Wire.wU 16) x0.2.1 x0.2.2).1 : Int), (Wire.step (Wire.wU 16) x0.2.1 x0.2.2).2)) := by show _ = _; rw [hx, hye]
      clear hye
      obtain ⟨yv, ys, yf⟩ := y
      simp only at HC hy HSS hx
      go_wp2_with fail
      refine HC.out.mono ?_
      rintro e w5 ⟨rfl, hA5⟩
      have hwy : IntKind.i64.wrap (yv : Int) = (yv : Int) := by rw [IntKind.wrap_i64]; omega
      have H5 := Lib.hid (H.out.after hA5 HSS.out)
      have cc := H5.out.o.c1
      have ff := H5.out.o.f 1
      have H6 := Lib.hid (H5.out.put (i := 1) (by omega) (yv : Int))
      rw [← hx] at H6
      clear H HC hA5 H5 HSS hx hy
      go_upto_region 7 with fail
      have H := H6
      clear H6 hwy cc ff
      cases pa with
      | true =>
        have HC := Lib.hid (frUint_any 16 R x1.2.1 x1.2.2 _ H.out.r H.out.sz)
        have hy := Cd.stepU_le 16 x1.2.1 x1.2.2
        have HSS := Lib.hid (Nat.le_trans (Wire.step_size (wrong := Wire.wU 16) x1.2.1 x1.2.2) H.out.sz)
        have HX1 : Hid ((x1.1.setI 2 ((Wire.step (Wire.wU 16) x1.2.1 x1.2.2).1 : Int), (Wire.step (Wire.wU 16) x1.2.1 x1.2.2).2) = (x1.1.setI 2 ((Wire.step (Wire.wU 16) x1.2.1 x1.2.2).1 : Int), (Wire.step (Wire.wU 16) x1.2.1 x1.2.2).2)) := rfl
        clear HX1
        obtain ⟨y, hye⟩ : ∃ y, y = Wire.step (Wire.wU 16) x1.2.1 x1.2.2 := ⟨_, rfl⟩
        rw [← hye] at HC hy HSS
        obtain ⟨x2, hx⟩ : ∃ x : Cd.OpV × ByteArray × Nat, x = (x1.1.setI 2 (y.1 : Int), y.2) := ⟨_, rfl⟩
        have HX1 : Hid (x2 = (x1.1.setI 2 ((Wire.step (Wire.wU 16) x1.2.1 x1.2.2).1 : Int), (Wire.step (Wire.wU 16) x1.2.1 x1.2.2).2)) := by show _ = _; rw [hx, hye]
        clear hye
        obtain ⟨yv, ys, yf⟩ := y
        simp only at HC hy HSS hx
        go_wp2_with fail
        refine HC.out.mono ?_
        rintro e w5 ⟨rfl, hA5⟩
        have hwy : IntKind.i64.wrap (yv : Int) = (yv : Int) := by rw [IntKind.wrap_i64]; omega
        have H5 := Lib.hid (H.out.after hA5 HSS.out)
        have cc := H5.out.o.c2
        have ff := H5.out.o.f 2
        have H6 := Lib.hid (H5.out.put (i := 2) (by omega) (yv : Int))
        rw [← hx] at H6
        clear H HC hA5 H5 HSS hx hy
        go_upto_region 9 with fail
        have H := H6
        clear H6 hwy cc ff
        cases pb with
        | true =>
          have HC := Lib.hid (frUint_any 16 R x2.2.1 x2.2.2 _ H.out.r H.out.sz)
          have hy := Cd.stepU_le 16 x2.2.1 x2.2.2
          have HSS := Lib.hid (Nat.le_trans (Wire.step_size (wrong := Wire.wU 16) x2.2.1 x2.2.2) H.out.sz)
          have HX2 : Hid ((x2.1.setI 3 ((Wire.step (Wire.wU 16) x2.2.1 x2.2.2).1 : Int), (Wire.step (Wire.wU 16) x2.2.1 x2.2.2).2) = (x2.1.setI 3 ((Wire.step (Wire.wU 16) x2.2.1 x2.2.2).1 : Int), (Wire.step (Wire.wU 16) x2.2.1 x2.2.2).2)) := rfl
          clear HX2
          obtain ⟨y, hye⟩ : ∃ y, y = Wire.step (Wire.wU 16) x2.2.1 x2.2.2 := ⟨_, rfl⟩
          rw [← hye] at HC hy HSS
          obtain ⟨x3, hx⟩ : ∃ x : Cd.OpV × ByteArray × Nat, x = (x2.1.setI 3 (y.1 : Int), y.2) := ⟨_, rfl⟩
          have HX2 : Hid (x3 = (x2.1.setI 3 ((Wire.step (Wire.wU 16) x2.2.1 x2.2.2).1 : Int), (Wire.step (Wire.wU 16) x2.2.1 x2.2.2).2)) := by show _ = _; rw [hx, hye]
          clear hye
          obtain ⟨yv, ys, yf⟩ := y
          simp only at HC hy HSS hx
          go_wp2_with fail
          refine HC.out.mono ?_
          rintro e w5 ⟨rfl, hA5⟩
          have hwy : IntKind.i64.wrap (yv : Int) = (yv : Int) := by rw [IntKind.wrap_i64]; omega
          have H5 := Lib.hid (H.out.after hA5 HSS.out)
          have cc := H5.out.o.c3
          have ff := H5.out.o.f 3
          have H6 := Lib.hid (H5.out.put (i := 3) (by omega) (yv : Int))
          rw [← hx] at H6
          clear H HC hA5 H5 HSS hx hy
          go_upto_region 11 with fail
          have H := H6
          clear H6 hwy cc ff
          have HR : Hid (Cd.dOp s f = if pn then (⟨x3.1.k, x3.1.d, x3.1.a, x3.1.b, Num.zag (Cd.stepN x3.2.1 x3.2.2).1⟩, (Cd.stepN x3.2.1 x3.2.2).2) else x3) := by
            show _ = _
            rw [HDO.out, HX2.out, HX1.out, HX0.out]
            rfl
          clear HDO
          cases pn with
          | false =>
            have HE : Hid (Cd.dOp s f = x3) := HR.out
            clear HR
            obtain ⟨o2, t2, g2⟩ := x3
            go_wp2_with (first
              | refine wpList_load_row rfl 43 (.tmp 3) rfl X rfl 43 o2.arr (0, 0) _ H.out.o Try.underlying43 rfl HI.out ?_
              | refine wpList_store_row rfl 43 (.tmp 2) (.tmp 45) rfl Z o2.arr rfl rfl 43 _ H.out.z HI.out rfl (Cd.OpV.arr_one _) ?_)
            try simp only [Exit.inBlock, Exit.then]
            refine bodyPost_ret (v := .agg o2.arr) (results_cell_row Try.results35 _ _ Z 43 o2.arr (0, 0) _ rfl (setRow_heap _ _ _ _ _ _ H.out.z) Try.underlying43 rfl HI.out) rfl ⟨?_, ?_⟩
            · rw [HE.out]
            · rw [HE.out]
              exact H.out.last _
          | true =>
            have HR2 : Hid (Cd.dOp s f = (⟨x3.1.k, x3.1.d, x3.1.a, x3.1.b, Num.zag (Cd.stepN x3.2.1 x3.2.2).1⟩, (Cd.stepN x3.2.1 x3.2.2).2)) := HR.out
            clear HR
            have HC := Lib.hid (frInt_any (-9223372036854775808) 9223372036854775807 R x3.2.1 x3.2.2 _ H.out.r H.out.sz)
            have HSS := Lib.hid (Nat.le_trans (Wire.step_size (wrong := Wire.wI (-9223372036854775808) 9223372036854775807) x3.2.1 x3.2.2) H.out.sz)
            unfold Cd.stepN at HR2
            generalize Wire.step (Wire.wI (-9223372036854775808) 9223372036854775807) x3.2.1 x3.2.2 = y at HC HSS HR2
            obtain ⟨yv, ys, yf⟩ := y
            simp only at HC HSS HR2
            go_wp2_with fail
            refine HC.out.mono ?_
            rintro e w5 ⟨rfl, hA5⟩
            have H5 := Lib.hid (H.out.after hA5 HSS.out)
            have c4 := H5.out.o.c4
            have f4 := H5.out.o.f 4
            have H6 := Lib.hid (H5.out.put4 (Num.zag yv))
            obtain ⟨o2, ho2⟩ : ∃ o2 : Cd.OpV, o2 = ⟨x3.1.k, x3.1.d, x3.1.a, x3.1.b, Num.zag yv⟩ := ⟨_, rfl⟩
            rw [← ho2] at H6 HR2
            have HE : Hid (Cd.dOp s f = (o2, ys, yf)) := HR2.out
            clear hA5 ho2 HC HR2 H5 H
            go_wp2_with (first
              | refine wpList_load_row rfl 43 (.tmp 3) rfl X rfl 43 o2.arr (0, 0) _ H6.out.o Try.underlying43 rfl HI.out ?_
              | refine wpList_store_row rfl 43 (.tmp 2) (.tmp 45) rfl Z o2.arr rfl rfl 43 _ H6.out.z HI.out rfl (Cd.OpV.arr_one _) ?_)
            try simp only [Exit.inBlock, Exit.then]
            refine bodyPost_ret (v := .agg o2.arr) (results_cell_row Try.results35 _ _ Z 43 o2.arr (0, 0) _ rfl (setRow_heap _ _ _ _ _ _ H6.out.z) Try.underlying43 rfl HI.out) rfl ⟨?_, ?_⟩
            · rw [HE.out]
            · rw [HE.out]
              exact H6.out.last _
        | false =>
          have HR : Hid (Cd.dOp s f = if pn then (⟨x2.1.k, x2.1.d, x2.1.a, x2.1.b, Num.zag (Cd.stepN x2.2.1 x2.2.2).1⟩, (Cd.stepN x2.2.1 x2.2.2).2) else x2) := by
            show _ = _
            rw [HDO.out, HX1.out, HX0.out]
            rfl
          clear HDO
          cases pn with
          | false =>
            have HE : Hid (Cd.dOp s f = x2) := HR.out
            clear HR
            obtain ⟨o2, t2, g2⟩ := x2
            go_wp2_with (first
              | refine wpList_load_row rfl 43 (.tmp 3) rfl X rfl 43 o2.arr (0, 0) _ H.out.o Try.underlying43 rfl HI.out ?_
              | refine wpList_store_row rfl 43 (.tmp 2) (.tmp 45) rfl Z o2.arr rfl rfl 43 _ H.out.z HI.out rfl (Cd.OpV.arr_one _) ?_)
            try simp only [Exit.inBlock, Exit.then]
            refine bodyPost_ret (v := .agg o2.arr) (results_cell_row Try.results35 _ _ Z 43 o2.arr (0, 0) _ rfl (setRow_heap _ _ _ _ _ _ H.out.z) Try.underlying43 rfl HI.out) rfl ⟨?_, ?_⟩
            · rw [HE.out]
            · rw [HE.out]
              exact H.out.last _
          | true =>
            have HR2 : Hid (Cd.dOp s f = (⟨x2.1.k, x2.1.d, x2.1.a, x2.1.b, Num.zag (Cd.stepN x2.2.1 x2.2.2).1⟩, (Cd.stepN x2.2.1 x2.2.2).2)) := HR.out
            clear HR
            have HC := Lib.hid (frInt_any (-9223372036854775808) 9223372036854775807 R x2.2.1 x2.2.2 _ H.out.r H.out.sz)
            have HSS := Lib.hid (Nat.le_trans (Wire.step_size (wrong := Wire.wI (-9223372036854775808) 9223372036854775807) x2.2.1 x2.2.2) H.out.sz)
            unfold Cd.stepN at HR2
            generalize Wire.step (Wire.wI (-9223372036854775808) 9223372036854775807) x2.2.1 x2.2.2 = y at HC HSS HR2
            obtain ⟨yv, ys, yf⟩ := y
            simp only at HC HSS HR2
            go_wp2_with fail
            refine HC.out.mono ?_
            rintro e w5 ⟨rfl, hA5⟩
            have H5 := Lib.hid (H.out.after hA5 HSS.out)
            have c4 := H5.out.o.c4
            have f4 := H5.out.o.f 4
            have H6 := Lib.hid (H5.out.put4 (Num.zag yv))
            obtain ⟨o2, ho2⟩ : ∃ o2 : Cd.OpV, o2 = ⟨x2.1.k, x2.1.d, x2.1.a, x2.1.b, Num.zag yv⟩ := ⟨_, rfl⟩
            rw [← ho2] at H6 HR2
            have HE : Hid (Cd.dOp s f = (o2, ys, yf)) := HR2.out
            clear hA5 ho2 HC HR2 H5 H
            go_wp2_with (first
              | refine wpList_load_row rfl 43 (.tmp 3) rfl X rfl 43 o2.arr (0, 0) _ H6.out.o Try.underlying43 rfl HI.out ?_
              | refine wpList_store_row rfl 43 (.tmp 2) (.tmp 45) rfl Z o2.arr rfl rfl 43 _ H6.out.z HI.out rfl (Cd.OpV.arr_one _) ?_)
            try simp only [Exit.inBlock, Exit.then]
            refine bodyPost_ret (v := .agg o2.arr) (results_cell_row Try.results35 _ _ Z 43 o2.arr (0, 0) _ rfl (setRow_heap _ _ _ _ _ _ H6.out.z) Try.underlying43 rfl HI.out) rfl ⟨?_, ?_⟩
            · rw [HE.out]
            · rw [HE.out]
              exact H6.out.last _
      | false =>
        cases pb with
        | true =>
          have HC := Lib.hid (frUint_any 16 R x1.2.1 x1.2.2 _ H.out.r H.out.sz)
          have hy := Cd.stepU_le 16 x1.2.1 x1.2.2
          have HSS := Lib.hid (Nat.le_trans (Wire.step_size (wrong := Wire.wU 16) x1.2.1 x1.2.2) H.out.sz)
          have HX2 : Hid ((x1.1.setI 3 ((Wire.step (Wire.wU 16) x1.2.1 x1.2.2).1 : Int), (Wire.step (Wire.wU 16) x1.2.1 x1.2.2).2) = (x1.1.setI 3 ((Wire.step (Wire.wU 16) x1.2.1 x1.2.2).1 : Int), (Wire.step (Wire.wU 16) x1.2.1 x1.2.2).2)) := rfl
          clear HX2
          obtain ⟨y, hye⟩ : ∃ y, y = Wire.step (Wire.wU 16) x1.2.1 x1.2.2 := ⟨_, rfl⟩
          rw [← hye] at HC hy HSS
          obtain ⟨x3, hx⟩ : ∃ x : Cd.OpV × ByteArray × Nat, x = (x1.1.setI 3 (y.1 : Int), y.2) := ⟨_, rfl⟩
          have HX2 : Hid (x3 = (x1.1.setI 3 ((Wire.step (Wire.wU 16) x1.2.1 x1.2.2).1 : Int), (Wire.step (Wire.wU 16) x1.2.1 x1.2.2).2)) := by show _ = _; rw [hx, hye]
          clear hye
          obtain ⟨yv, ys, yf⟩ := y
          simp only at HC hy HSS hx
          go_wp2_with fail
          refine HC.out.mono ?_
          rintro e w5 ⟨rfl, hA5⟩
          have hwy : IntKind.i64.wrap (yv : Int) = (yv : Int) := by rw [IntKind.wrap_i64]; omega
          have H5 := Lib.hid (H.out.after hA5 HSS.out)
          have cc := H5.out.o.c3
          have ff := H5.out.o.f 3
          have H6 := Lib.hid (H5.out.put (i := 3) (by omega) (yv : Int))
          rw [← hx] at H6
          clear H HC hA5 H5 HSS hx hy
          go_upto_region 11 with fail
          have H := H6
          clear H6 hwy cc ff
          have HR : Hid (Cd.dOp s f = if pn then (⟨x3.1.k, x3.1.d, x3.1.a, x3.1.b, Num.zag (Cd.stepN x3.2.1 x3.2.2).1⟩, (Cd.stepN x3.2.1 x3.2.2).2) else x3) := by
            show _ = _
            rw [HDO.out, HX2.out, HX0.out]
            rfl
          clear HDO
          cases pn with
          | false =>
            have HE : Hid (Cd.dOp s f = x3) := HR.out
            clear HR
            obtain ⟨o2, t2, g2⟩ := x3
            go_wp2_with (first
              | refine wpList_load_row rfl 43 (.tmp 3) rfl X rfl 43 o2.arr (0, 0) _ H.out.o Try.underlying43 rfl HI.out ?_
              | refine wpList_store_row rfl 43 (.tmp 2) (.tmp 45) rfl Z o2.arr rfl rfl 43 _ H.out.z HI.out rfl (Cd.OpV.arr_one _) ?_)
            try simp only [Exit.inBlock, Exit.then]
            refine bodyPost_ret (v := .agg o2.arr) (results_cell_row Try.results35 _ _ Z 43 o2.arr (0, 0) _ rfl (setRow_heap _ _ _ _ _ _ H.out.z) Try.underlying43 rfl HI.out) rfl ⟨?_, ?_⟩
            · rw [HE.out]
            · rw [HE.out]
              exact H.out.last _
          | true =>
            have HR2 : Hid (Cd.dOp s f = (⟨x3.1.k, x3.1.d, x3.1.a, x3.1.b, Num.zag (Cd.stepN x3.2.1 x3.2.2).1⟩, (Cd.stepN x3.2.1 x3.2.2).2)) := HR.out
            clear HR
            have HC := Lib.hid (frInt_any (-9223372036854775808) 9223372036854775807 R x3.2.1 x3.2.2 _ H.out.r H.out.sz)
            have HSS := Lib.hid (Nat.le_trans (Wire.step_size (wrong := Wire.wI (-9223372036854775808) 9223372036854775807) x3.2.1 x3.2.2) H.out.sz)
            unfold Cd.stepN at HR2
            generalize Wire.step (Wire.wI (-9223372036854775808) 9223372036854775807) x3.2.1 x3.2.2 = y at HC HSS HR2
            obtain ⟨yv, ys, yf⟩ := y
            simp only at HC HSS HR2
            go_wp2_with fail
            refine HC.out.mono ?_
            rintro e w5 ⟨rfl, hA5⟩
            have H5 := Lib.hid (H.out.after hA5 HSS.out)
            have c4 := H5.out.o.c4
            have f4 := H5.out.o.f 4
            have H6 := Lib.hid (H5.out.put4 (Num.zag yv))
            obtain ⟨o2, ho2⟩ : ∃ o2 : Cd.OpV, o2 = ⟨x3.1.k, x3.1.d, x3.1.a, x3.1.b, Num.zag yv⟩ := ⟨_, rfl⟩
            rw [← ho2] at H6 HR2
            have HE : Hid (Cd.dOp s f = (o2, ys, yf)) := HR2.out
            clear hA5 ho2 HC HR2 H5 H
            go_wp2_with (first
              | refine wpList_load_row rfl 43 (.tmp 3) rfl X rfl 43 o2.arr (0, 0) _ H6.out.o Try.underlying43 rfl HI.out ?_
              | refine wpList_store_row rfl 43 (.tmp 2) (.tmp 45) rfl Z o2.arr rfl rfl 43 _ H6.out.z HI.out rfl (Cd.OpV.arr_one _) ?_)
            try simp only [Exit.inBlock, Exit.then]
            refine bodyPost_ret (v := .agg o2.arr) (results_cell_row Try.results35 _ _ Z 43 o2.arr (0, 0) _ rfl (setRow_heap _ _ _ _ _ _ H6.out.z) Try.underlying43 rfl HI.out) rfl ⟨?_, ?_⟩
            · rw [HE.out]
            · rw [HE.out]
              exact H6.out.last _
        | false =>
          have HR : Hid (Cd.dOp s f = if pn then (⟨x1.1.k, x1.1.d, x1.1.a, x1.1.b, Num.zag (Cd.stepN x1.2.1 x1.2.2).1⟩, (Cd.stepN x1.2.1 x1.2.2).2) else x1) := by
            show _ = _
            rw [HDO.out, HX0.out]
            rfl
          clear HDO
          cases pn with
          | false =>
            have HE : Hid (Cd.dOp s f = x1) := HR.out
            clear HR
            obtain ⟨o2, t2, g2⟩ := x1
            go_wp2_with (first
              | refine wpList_load_row rfl 43 (.tmp 3) rfl X rfl 43 o2.arr (0, 0) _ H.out.o Try.underlying43 rfl HI.out ?_
              | refine wpList_store_row rfl 43 (.tmp 2) (.tmp 45) rfl Z o2.arr rfl rfl 43 _ H.out.z HI.out rfl (Cd.OpV.arr_one _) ?_)
            try simp only [Exit.inBlock, Exit.then]
            refine bodyPost_ret (v := .agg o2.arr) (results_cell_row Try.results35 _ _ Z 43 o2.arr (0, 0) _ rfl (setRow_heap _ _ _ _ _ _ H.out.z) Try.underlying43 rfl HI.out) rfl ⟨?_, ?_⟩
            · rw [HE.out]
            · rw [HE.out]
              exact H.out.last _
          | true =>
            have HR2 : Hid (Cd.dOp s f = (⟨x1.1.k, x1.1.d, x1.1.a, x1.1.b, Num.zag (Cd.stepN x1.2.1 x1.2.2).1⟩, (Cd.stepN x1.2.1 x1.2.2).2)) := HR.out
            clear HR
            have HC := Lib.hid (frInt_any (-9223372036854775808) 9223372036854775807 R x1.2.1 x1.2.2 _ H.out.r H.out.sz)
            have HSS := Lib.hid (Nat.le_trans (Wire.step_size (wrong := Wire.wI (-9223372036854775808) 9223372036854775807) x1.2.1 x1.2.2) H.out.sz)
            unfold Cd.stepN at HR2
            generalize Wire.step (Wire.wI (-9223372036854775808) 9223372036854775807) x1.2.1 x1.2.2 = y at HC HSS HR2
            obtain ⟨yv, ys, yf⟩ := y
            simp only at HC HSS HR2
            go_wp2_with fail
            refine HC.out.mono ?_
            rintro e w5 ⟨rfl, hA5⟩
            have H5 := Lib.hid (H.out.after hA5 HSS.out)
            have c4 := H5.out.o.c4
            have f4 := H5.out.o.f 4
            have H6 := Lib.hid (H5.out.put4 (Num.zag yv))
            obtain ⟨o2, ho2⟩ : ∃ o2 : Cd.OpV, o2 = ⟨x1.1.k, x1.1.d, x1.1.a, x1.1.b, Num.zag yv⟩ := ⟨_, rfl⟩
            rw [← ho2] at H6 HR2
            have HE : Hid (Cd.dOp s f = (o2, ys, yf)) := HR2.out
            clear hA5 ho2 HC HR2 H5 H
            go_wp2_with (first
              | refine wpList_load_row rfl 43 (.tmp 3) rfl X rfl 43 o2.arr (0, 0) _ H6.out.o Try.underlying43 rfl HI.out ?_
              | refine wpList_store_row rfl 43 (.tmp 2) (.tmp 45) rfl Z o2.arr rfl rfl 43 _ H6.out.z HI.out rfl (Cd.OpV.arr_one _) ?_)
            try simp only [Exit.inBlock, Exit.then]
            refine bodyPost_ret (v := .agg o2.arr) (results_cell_row Try.results35 _ _ Z 43 o2.arr (0, 0) _ rfl (setRow_heap _ _ _ _ _ _ H6.out.z) Try.underlying43 rfl HI.out) rfl ⟨?_, ?_⟩
            · rw [HE.out]
            · rw [HE.out]
              exact H6.out.last _
    | false =>
      cases pa with
      | true =>
        have HC := Lib.hid (frUint_any 16 R x0.2.1 x0.2.2 _ H.out.r H.out.sz)
        have hy := Cd.stepU_le 16 x0.2.1 x0.2.2
        have HSS := Lib.hid (Nat.le_trans (Wire.step_size (wrong := Wire.wU 16) x0.2.1 x0.2.2) H.out.sz)
        have HX1 : Hid ((x0.1.setI 2 ((Wire.step (Wire.wU 16) x0.2.1 x0.2.2).1 : Int), (Wire.step (Wire.wU 16) x0.2.1 x0.2.2).2) = (x0.1.setI 2 ((Wire.step (Wire.wU 16) x0.2.1 x0.2.2).1 : Int), (Wire.step (Wire.wU 16) x0.2.1 x0.2.2).2)) := rfl
        clear HX1
        obtain ⟨y, hye⟩ : ∃ y, y = Wire.step (Wire.wU 16) x0.2.1 x0.2.2 := ⟨_, rfl⟩
        rw [← hye] at HC hy HSS
        obtain ⟨x2, hx⟩ : ∃ x : Cd.OpV × ByteArray × Nat, x = (x0.1.setI 2 (y.1 : Int), y.2) := ⟨_, rfl⟩
        have HX1 : Hid (x2 = (x0.1.setI 2 ((Wire.step (Wire.wU 16) x0.2.1 x0.2.2).1 : Int), (Wire.step (Wire.wU 16) x0.2.1 x0.2.2).2)) := by show _ = _; rw [hx, hye]
        clear hye
        obtain ⟨yv, ys, yf⟩ := y
        simp only at HC hy HSS hx
        go_wp2_with fail
        refine HC.out.mono ?_
        rintro e w5 ⟨rfl, hA5⟩
        have hwy : IntKind.i64.wrap (yv : Int) = (yv : Int) := by rw [IntKind.wrap_i64]; omega
        have H5 := Lib.hid (H.out.after hA5 HSS.out)
        have cc := H5.out.o.c2
        have ff := H5.out.o.f 2
        have H6 := Lib.hid (H5.out.put (i := 2) (by omega) (yv : Int))
        rw [← hx] at H6
        clear H HC hA5 H5 HSS hx hy
        go_upto_region 9 with fail
        have H := H6
        clear H6 hwy cc ff
        cases pb with
        | true =>
          have HC := Lib.hid (frUint_any 16 R x2.2.1 x2.2.2 _ H.out.r H.out.sz)
          have hy := Cd.stepU_le 16 x2.2.1 x2.2.2
          have HSS := Lib.hid (Nat.le_trans (Wire.step_size (wrong := Wire.wU 16) x2.2.1 x2.2.2) H.out.sz)
          have HX2 : Hid ((x2.1.setI 3 ((Wire.step (Wire.wU 16) x2.2.1 x2.2.2).1 : Int), (Wire.step (Wire.wU 16) x2.2.1 x2.2.2).2) = (x2.1.setI 3 ((Wire.step (Wire.wU 16) x2.2.1 x2.2.2).1 : Int), (Wire.step (Wire.wU 16) x2.2.1 x2.2.2).2)) := rfl
          clear HX2
          obtain ⟨y, hye⟩ : ∃ y, y = Wire.step (Wire.wU 16) x2.2.1 x2.2.2 := ⟨_, rfl⟩
          rw [← hye] at HC hy HSS
          obtain ⟨x3, hx⟩ : ∃ x : Cd.OpV × ByteArray × Nat, x = (x2.1.setI 3 (y.1 : Int), y.2) := ⟨_, rfl⟩
          have HX2 : Hid (x3 = (x2.1.setI 3 ((Wire.step (Wire.wU 16) x2.2.1 x2.2.2).1 : Int), (Wire.step (Wire.wU 16) x2.2.1 x2.2.2).2)) := by show _ = _; rw [hx, hye]
          clear hye
          obtain ⟨yv, ys, yf⟩ := y
          simp only at HC hy HSS hx
          go_wp2_with fail
          refine HC.out.mono ?_
          rintro e w5 ⟨rfl, hA5⟩
          have hwy : IntKind.i64.wrap (yv : Int) = (yv : Int) := by rw [IntKind.wrap_i64]; omega
          have H5 := Lib.hid (H.out.after hA5 HSS.out)
          have cc := H5.out.o.c3
          have ff := H5.out.o.f 3
          have H6 := Lib.hid (H5.out.put (i := 3) (by omega) (yv : Int))
          rw [← hx] at H6
          clear H HC hA5 H5 HSS hx hy
          go_upto_region 11 with fail
          have H := H6
          clear H6 hwy cc ff
          have HR : Hid (Cd.dOp s f = if pn then (⟨x3.1.k, x3.1.d, x3.1.a, x3.1.b, Num.zag (Cd.stepN x3.2.1 x3.2.2).1⟩, (Cd.stepN x3.2.1 x3.2.2).2) else x3) := by
            show _ = _
            rw [HDO.out, HX2.out, HX1.out]
            rfl
          clear HDO
          cases pn with
          | false =>
            have HE : Hid (Cd.dOp s f = x3) := HR.out
            clear HR
            obtain ⟨o2, t2, g2⟩ := x3
            go_wp2_with (first
              | refine wpList_load_row rfl 43 (.tmp 3) rfl X rfl 43 o2.arr (0, 0) _ H.out.o Try.underlying43 rfl HI.out ?_
              | refine wpList_store_row rfl 43 (.tmp 2) (.tmp 45) rfl Z o2.arr rfl rfl 43 _ H.out.z HI.out rfl (Cd.OpV.arr_one _) ?_)
            try simp only [Exit.inBlock, Exit.then]
            refine bodyPost_ret (v := .agg o2.arr) (results_cell_row Try.results35 _ _ Z 43 o2.arr (0, 0) _ rfl (setRow_heap _ _ _ _ _ _ H.out.z) Try.underlying43 rfl HI.out) rfl ⟨?_, ?_⟩
            · rw [HE.out]
            · rw [HE.out]
              exact H.out.last _
          | true =>
            have HR2 : Hid (Cd.dOp s f = (⟨x3.1.k, x3.1.d, x3.1.a, x3.1.b, Num.zag (Cd.stepN x3.2.1 x3.2.2).1⟩, (Cd.stepN x3.2.1 x3.2.2).2)) := HR.out
            clear HR
            have HC := Lib.hid (frInt_any (-9223372036854775808) 9223372036854775807 R x3.2.1 x3.2.2 _ H.out.r H.out.sz)
            have HSS := Lib.hid (Nat.le_trans (Wire.step_size (wrong := Wire.wI (-9223372036854775808) 9223372036854775807) x3.2.1 x3.2.2) H.out.sz)
            unfold Cd.stepN at HR2
            generalize Wire.step (Wire.wI (-9223372036854775808) 9223372036854775807) x3.2.1 x3.2.2 = y at HC HSS HR2
            obtain ⟨yv, ys, yf⟩ := y
            simp only at HC HSS HR2
            go_wp2_with fail
            refine HC.out.mono ?_
            rintro e w5 ⟨rfl, hA5⟩
            have H5 := Lib.hid (H.out.after hA5 HSS.out)
            have c4 := H5.out.o.c4
            have f4 := H5.out.o.f 4
            have H6 := Lib.hid (H5.out.put4 (Num.zag yv))
            obtain ⟨o2, ho2⟩ : ∃ o2 : Cd.OpV, o2 = ⟨x3.1.k, x3.1.d, x3.1.a, x3.1.b, Num.zag yv⟩ := ⟨_, rfl⟩
            rw [← ho2] at H6 HR2
            have HE : Hid (Cd.dOp s f = (o2, ys, yf)) := HR2.out
            clear hA5 ho2 HC HR2 H5 H
            go_wp2_with (first
              | refine wpList_load_row rfl 43 (.tmp 3) rfl X rfl 43 o2.arr (0, 0) _ H6.out.o Try.underlying43 rfl HI.out ?_
              | refine wpList_store_row rfl 43 (.tmp 2) (.tmp 45) rfl Z o2.arr rfl rfl 43 _ H6.out.z HI.out rfl (Cd.OpV.arr_one _) ?_)
            try simp only [Exit.inBlock, Exit.then]
            refine bodyPost_ret (v := .agg o2.arr) (results_cell_row Try.results35 _ _ Z 43 o2.arr (0, 0) _ rfl (setRow_heap _ _ _ _ _ _ H6.out.z) Try.underlying43 rfl HI.out) rfl ⟨?_, ?_⟩
            · rw [HE.out]
            · rw [HE.out]
              exact H6.out.last _
        | false =>
          have HR : Hid (Cd.dOp s f = if pn then (⟨x2.1.k, x2.1.d, x2.1.a, x2.1.b, Num.zag (Cd.stepN x2.2.1 x2.2.2).1⟩, (Cd.stepN x2.2.1 x2.2.2).2) else x2) := by
            show _ = _
            rw [HDO.out, HX1.out]
            rfl
          clear HDO
          cases pn with
          | false =>
            have HE : Hid (Cd.dOp s f = x2) := HR.out
            clear HR
            obtain ⟨o2, t2, g2⟩ := x2
            go_wp2_with (first
              | refine wpList_load_row rfl 43 (.tmp 3) rfl X rfl 43 o2.arr (0, 0) _ H.out.o Try.underlying43 rfl HI.out ?_
              | refine wpList_store_row rfl 43 (.tmp 2) (.tmp 45) rfl Z o2.arr rfl rfl 43 _ H.out.z HI.out rfl (Cd.OpV.arr_one _) ?_)
            try simp only [Exit.inBlock, Exit.then]
            refine bodyPost_ret (v := .agg o2.arr) (results_cell_row Try.results35 _ _ Z 43 o2.arr (0, 0) _ rfl (setRow_heap _ _ _ _ _ _ H.out.z) Try.underlying43 rfl HI.out) rfl ⟨?_, ?_⟩
            · rw [HE.out]
            · rw [HE.out]
              exact H.out.last _
          | true =>
            have HR2 : Hid (Cd.dOp s f = (⟨x2.1.k, x2.1.d, x2.1.a, x2.1.b, Num.zag (Cd.stepN x2.2.1 x2.2.2).1⟩, (Cd.stepN x2.2.1 x2.2.2).2)) := HR.out
            clear HR
            have HC := Lib.hid (frInt_any (-9223372036854775808) 9223372036854775807 R x2.2.1 x2.2.2 _ H.out.r H.out.sz)
            have HSS := Lib.hid (Nat.le_trans (Wire.step_size (wrong := Wire.wI (-9223372036854775808) 9223372036854775807) x2.2.1 x2.2.2) H.out.sz)
            unfold Cd.stepN at HR2
            generalize Wire.step (Wire.wI (-9223372036854775808) 9223372036854775807) x2.2.1 x2.2.2 = y at HC HSS HR2
            obtain ⟨yv, ys, yf⟩ := y
            simp only at HC HSS HR2
            go_wp2_with fail
            refine HC.out.mono ?_
            rintro e w5 ⟨rfl, hA5⟩
            have H5 := Lib.hid (H.out.after hA5 HSS.out)
            have c4 := H5.out.o.c4
            have f4 := H5.out.o.f 4
            have H6 := Lib.hid (H5.out.put4 (Num.zag yv))
            obtain ⟨o2, ho2⟩ : ∃ o2 : Cd.OpV, o2 = ⟨x2.1.k, x2.1.d, x2.1.a, x2.1.b, Num.zag yv⟩ := ⟨_, rfl⟩
            rw [← ho2] at H6 HR2
            have HE : Hid (Cd.dOp s f = (o2, ys, yf)) := HR2.out
            clear hA5 ho2 HC HR2 H5 H
            go_wp2_with (first
              | refine wpList_load_row rfl 43 (.tmp 3) rfl X rfl 43 o2.arr (0, 0) _ H6.out.o Try.underlying43 rfl HI.out ?_
              | refine wpList_store_row rfl 43 (.tmp 2) (.tmp 45) rfl Z o2.arr rfl rfl 43 _ H6.out.z HI.out rfl (Cd.OpV.arr_one _) ?_)
            try simp only [Exit.inBlock, Exit.then]
            refine bodyPost_ret (v := .agg o2.arr) (results_cell_row Try.results35 _ _ Z 43 o2.arr (0, 0) _ rfl (setRow_heap _ _ _ _ _ _ H6.out.z) Try.underlying43 rfl HI.out) rfl ⟨?_, ?_⟩
            · rw [HE.out]
            · rw [HE.out]
              exact H6.out.last _
      | false =>
        cases pb with
        | true =>
          have HC := Lib.hid (frUint_any 16 R x0.2.1 x0.2.2 _ H.out.r H.out.sz)
          have hy := Cd.stepU_le 16 x0.2.1 x0.2.2
          have HSS := Lib.hid (Nat.le_trans (Wire.step_size (wrong := Wire.wU 16) x0.2.1 x0.2.2) H.out.sz)
          have HX2 : Hid ((x0.1.setI 3 ((Wire.step (Wire.wU 16) x0.2.1 x0.2.2).1 : Int), (Wire.step (Wire.wU 16) x0.2.1 x0.2.2).2) = (x0.1.setI 3 ((Wire.step (Wire.wU 16) x0.2.1 x0.2.2).1 : Int), (Wire.step (Wire.wU 16) x0.2.1 x0.2.2).2)) := rfl
          clear HX2
          obtain ⟨y, hye⟩ : ∃ y, y = Wire.step (Wire.wU 16) x0.2.1 x0.2.2 := ⟨_, rfl⟩
          rw [← hye] at HC hy HSS
          obtain ⟨x3, hx⟩ : ∃ x : Cd.OpV × ByteArray × Nat, x = (x0.1.setI 3 (y.1 : Int), y.2) := ⟨_, rfl⟩
          have HX2 : Hid (x3 = (x0.1.setI 3 ((Wire.step (Wire.wU 16) x0.2.1 x0.2.2).1 : Int), (Wire.step (Wire.wU 16) x0.2.1 x0.2.2).2)) := by show _ = _; rw [hx, hye]
          clear hye
          obtain ⟨yv, ys, yf⟩ := y
          simp only at HC hy HSS hx
          go_wp2_with fail
          refine HC.out.mono ?_
          rintro e w5 ⟨rfl, hA5⟩
          have hwy : IntKind.i64.wrap (yv : Int) = (yv : Int) := by rw [IntKind.wrap_i64]; omega
          have H5 := Lib.hid (H.out.after hA5 HSS.out)
          have cc := H5.out.o.c3
          have ff := H5.out.o.f 3
          have H6 := Lib.hid (H5.out.put (i := 3) (by omega) (yv : Int))
          rw [← hx] at H6
          clear H HC hA5 H5 HSS hx hy
          go_upto_region 11 with fail
          have H := H6
          clear H6 hwy cc ff
          have HR : Hid (Cd.dOp s f = if pn then (⟨x3.1.k, x3.1.d, x3.1.a, x3.1.b, Num.zag (Cd.stepN x3.2.1 x3.2.2).1⟩, (Cd.stepN x3.2.1 x3.2.2).2) else x3) := by
            show _ = _
            rw [HDO.out, HX2.out]
            rfl
          clear HDO
          cases pn with
          | false =>
            have HE : Hid (Cd.dOp s f = x3) := HR.out
            clear HR
            obtain ⟨o2, t2, g2⟩ := x3
            go_wp2_with (first
              | refine wpList_load_row rfl 43 (.tmp 3) rfl X rfl 43 o2.arr (0, 0) _ H.out.o Try.underlying43 rfl HI.out ?_
              | refine wpList_store_row rfl 43 (.tmp 2) (.tmp 45) rfl Z o2.arr rfl rfl 43 _ H.out.z HI.out rfl (Cd.OpV.arr_one _) ?_)
            try simp only [Exit.inBlock, Exit.then]
            refine bodyPost_ret (v := .agg o2.arr) (results_cell_row Try.results35 _ _ Z 43 o2.arr (0, 0) _ rfl (setRow_heap _ _ _ _ _ _ H.out.z) Try.underlying43 rfl HI.out) rfl ⟨?_, ?_⟩
            · rw [HE.out]
            · rw [HE.out]
              exact H.out.last _
          | true =>
            have HR2 : Hid (Cd.dOp s f = (⟨x3.1.k, x3.1.d, x3.1.a, x3.1.b, Num.zag (Cd.stepN x3.2.1 x3.2.2).1⟩, (Cd.stepN x3.2.1 x3.2.2).2)) := HR.out
            clear HR
            have HC := Lib.hid (frInt_any (-9223372036854775808) 9223372036854775807 R x3.2.1 x3.2.2 _ H.out.r H.out.sz)
            have HSS := Lib.hid (Nat.le_trans (Wire.step_size (wrong := Wire.wI (-9223372036854775808) 9223372036854775807) x3.2.1 x3.2.2) H.out.sz)
            unfold Cd.stepN at HR2
            generalize Wire.step (Wire.wI (-9223372036854775808) 9223372036854775807) x3.2.1 x3.2.2 = y at HC HSS HR2
            obtain ⟨yv, ys, yf⟩ := y
            simp only at HC HSS HR2
            go_wp2_with fail
            refine HC.out.mono ?_
            rintro e w5 ⟨rfl, hA5⟩
            have H5 := Lib.hid (H.out.after hA5 HSS.out)
            have c4 := H5.out.o.c4
            have f4 := H5.out.o.f 4
            have H6 := Lib.hid (H5.out.put4 (Num.zag yv))
            obtain ⟨o2, ho2⟩ : ∃ o2 : Cd.OpV, o2 = ⟨x3.1.k, x3.1.d, x3.1.a, x3.1.b, Num.zag yv⟩ := ⟨_, rfl⟩
            rw [← ho2] at H6 HR2
            have HE : Hid (Cd.dOp s f = (o2, ys, yf)) := HR2.out
            clear hA5 ho2 HC HR2 H5 H
            go_wp2_with (first
              | refine wpList_load_row rfl 43 (.tmp 3) rfl X rfl 43 o2.arr (0, 0) _ H6.out.o Try.underlying43 rfl HI.out ?_
              | refine wpList_store_row rfl 43 (.tmp 2) (.tmp 45) rfl Z o2.arr rfl rfl 43 _ H6.out.z HI.out rfl (Cd.OpV.arr_one _) ?_)
            try simp only [Exit.inBlock, Exit.then]
            refine bodyPost_ret (v := .agg o2.arr) (results_cell_row Try.results35 _ _ Z 43 o2.arr (0, 0) _ rfl (setRow_heap _ _ _ _ _ _ H6.out.z) Try.underlying43 rfl HI.out) rfl ⟨?_, ?_⟩
            · rw [HE.out]
            · rw [HE.out]
              exact H6.out.last _
        | false =>
          have HR : Hid (Cd.dOp s f = if pn then (⟨x0.1.k, x0.1.d, x0.1.a, x0.1.b, Num.zag (Cd.stepN x0.2.1 x0.2.2).1⟩, (Cd.stepN x0.2.1 x0.2.2).2) else x0) := by
            show _ = _
            rw [HDO.out]
            rfl
          clear HDO
          cases pn with
          | false =>
            have HE : Hid (Cd.dOp s f = x0) := HR.out
            clear HR
            obtain ⟨o2, t2, g2⟩ := x0
            go_wp2_with (first
              | refine wpList_load_row rfl 43 (.tmp 3) rfl X rfl 43 o2.arr (0, 0) _ H.out.o Try.underlying43 rfl HI.out ?_
              | refine wpList_store_row rfl 43 (.tmp 2) (.tmp 45) rfl Z o2.arr rfl rfl 43 _ H.out.z HI.out rfl (Cd.OpV.arr_one _) ?_)
            try simp only [Exit.inBlock, Exit.then]
            refine bodyPost_ret (v := .agg o2.arr) (results_cell_row Try.results35 _ _ Z 43 o2.arr (0, 0) _ rfl (setRow_heap _ _ _ _ _ _ H.out.z) Try.underlying43 rfl HI.out) rfl ⟨?_, ?_⟩
            · rw [HE.out]
            · rw [HE.out]
              exact H.out.last _
          | true =>
            have HR2 : Hid (Cd.dOp s f = (⟨x0.1.k, x0.1.d, x0.1.a, x0.1.b, Num.zag (Cd.stepN x0.2.1 x0.2.2).1⟩, (Cd.stepN x0.2.1 x0.2.2).2)) := HR.out
            clear HR
            have HC := Lib.hid (frInt_any (-9223372036854775808) 9223372036854775807 R x0.2.1 x0.2.2 _ H.out.r H.out.sz)
            have HSS := Lib.hid (Nat.le_trans (Wire.step_size (wrong := Wire.wI (-9223372036854775808) 9223372036854775807) x0.2.1 x0.2.2) H.out.sz)
            unfold Cd.stepN at HR2
            generalize Wire.step (Wire.wI (-9223372036854775808) 9223372036854775807) x0.2.1 x0.2.2 = y at HC HSS HR2
            obtain ⟨yv, ys, yf⟩ := y
            simp only at HC HSS HR2
            go_wp2_with fail
            refine HC.out.mono ?_
            rintro e w5 ⟨rfl, hA5⟩
            have H5 := Lib.hid (H.out.after hA5 HSS.out)
            have c4 := H5.out.o.c4
            have f4 := H5.out.o.f 4
            have H6 := Lib.hid (H5.out.put4 (Num.zag yv))
            obtain ⟨o2, ho2⟩ : ∃ o2 : Cd.OpV, o2 = ⟨x0.1.k, x0.1.d, x0.1.a, x0.1.b, Num.zag yv⟩ := ⟨_, rfl⟩
            rw [← ho2] at H6 HR2
            have HE : Hid (Cd.dOp s f = (o2, ys, yf)) := HR2.out
            clear hA5 ho2 HC HR2 H5 H
            go_wp2_with (first
              | refine wpList_load_row rfl 43 (.tmp 3) rfl X rfl 43 o2.arr (0, 0) _ H6.out.o Try.underlying43 rfl HI.out ?_
              | refine wpList_store_row rfl 43 (.tmp 2) (.tmp 45) rfl Z o2.arr rfl rfl 43 _ H6.out.z HI.out rfl (Cd.OpV.arr_one _) ?_)
            try simp only [Exit.inBlock, Exit.then]
            refine bodyPost_ret (v := .agg o2.arr) (results_cell_row Try.results35 _ _ Z 43 o2.arr (0, 0) _ rfl (setRow_heap _ _ _ _ _ _ H6.out.z) Try.underlying43 rfl HI.out) rfl ⟨?_, ?_⟩
            · rw [HE.out]
            · rw [HE.out]
              exact H6.out.last _
end Go.Proofs.Ytndgafjnifkghaa
