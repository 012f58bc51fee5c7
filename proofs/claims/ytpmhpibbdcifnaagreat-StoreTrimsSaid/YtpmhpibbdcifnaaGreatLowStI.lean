/-
  The program's store: Make, on a disk that is let alone.
  The program's store: Open, on a disk that is let alone.
  The program's store: Trim, on a disk that is let alone.
  The program's store, on a disk that is let alone: Open as a law sees it; a crash.
-/
import Derived.Test.YtpmhpibbdcifnaaGreatLowStC
section
namespace Go.Proofs.YtpmhpibbdcifnaaGreat
open Go.RowKit
attribute [local go_sem ↓] Go.wp_at_zero Go.wp_at_succ

theorem sindex (p : Value) (m k ak : Nat) (hk : k < 2) (hak : ak = k * m) (w : World) : (Instr.index 49 (.agg #[p, .int .i64 0, .int .i64 (m : Int), p, .int .i64 (m : Int), .int .i64 (m : Int)]) (.int .i64 (k : Int))).run Tryz.prog w = .ok (.agg #[p, .int .i64 (ak : Int), .int .i64 (m : Int)]) w := by
  rcases (by omega : k = 0 ∨ k = 1) with rfl | rfl
  · obtain rfl : ak = 0 := by omega
    kernel_rfl
  · obtain rfl : ak = m := by omega
    kernel_rfl

namespace Store
/-- The halves behind k rounds of Make's loop. -/
def Swept (m N : Nat) (S R : List UInt8) (k : Nat) (s : Sec.St) : Prop := Halves 0 m N (if 0 < k then [] else S) (if 1 < k then [] else R) s
end Store

theorem sclear_swept {D : Sec.Bl} {s : Sec.St} {w : World} (h : Sec.At D s w) (a k m N : Nat) (ha : a = k * m) (hk : k < 2) (S R : List UInt8) (H : Store.Swept m N S R k s) (hlim : s.loose.length ≤ 900000000) :
    Calls Tryz.prog 20 #[.agg #[.pointer (some ⟨D.b, 0, none⟩), .int .i64 (a : Int), .int .i64 (m : Int)]] w fun e w' => e = .returned (.int .i64 0) ∧ ∃ D' s', Sec.At D' s' w' ∧ Sec.Moves D D' w w' ∧ Store.Swept m N S R (k + 1) s' ∧ s'.loose.length ≤ s.loose.length + 2 * m := by
  rcases (by omega : k = 0 ∨ k = 1) with rfl | rfl
  · refine (sclear D s w h a 0 m N ha S R H hlim).mono ?_
    rintro e w' ⟨he, D', s', k1, k2, k3, k4⟩
    exact ⟨he, D', s', k1, k2, k3, k4⟩
  · refine (sclear D s w h a 1 m N ha R [] H.swap hlim).mono ?_
    rintro e w' ⟨he, D', s', k1, k2, k3, k4⟩
    exact ⟨he, D', s', k1, k2, k3.swap, k4⟩

set_option maxHeartbeats 4000000 in
set_option maxRecDepth 20000 in
theorem smake (D : Sec.Bl) (s : Sec.St) (w : World) (h : Sec.At D s w) (m N : Nat) (S R : List UInt8) (H : Store.Halves 0 m N S R s) (hlim : s.loose.length ≤ 800000000) (t : ByteArray) (ht : t.size ≤ 65536) (hfit : (Frame.raw 1 (Store.hd 1 t)).length ≤ m * 127) :
    Calls Tryz.prog 7 #[.pointer (some ⟨D.b, 0, none⟩), .string t] w fun e w' => e = .returned (.int .i64 0) ∧ ∃ D' s', Sec.At D' s' w' ∧ Store.Mx Store.no D D' w w' ∧ Store.Halves 0 m N (Book.frs [Store.hd 1 t]) [] s' ∧ s'.loose = [] := by
  have hN := H.han
  have hok := H.here.ok
  have hnn := H.nn
  have HFT := Lib.hid (sfault D s w h hok (by omega))
  have HHV := Lib.hid (shalves D s w h hok m (by rw [hnn]; exact H.hn))
  have HREF : Hid (∀ wx : World, Calls Tryz.prog 19 #[.agg #[.pointer (some ⟨D.b, 0, none⟩), .int .i64 0, .int .i64 (m : Int)], .agg #[.int .u64 1, .string t]] wx fun e w' => e = .returned (.int .i64 0) ∧ Below wx.heap.size wx w') := fun wx => srefuse D.b 0 m 1 t (by omega) ht (by omega) hfit wx
  have HCLR : Hid (∀ (D' : Sec.Bl) (s' : Sec.St) (wx : World) (k ak : Nat), D'.b = D.b → k < 2 → ak = k * m → Sec.At D' s' wx → Store.Swept m N S R k s' → s'.loose.length ≤ 900000000 → Calls Tryz.prog 20 #[.agg #[.pointer (some ⟨D.b, 0, none⟩), .int .i64 (ak : Int), .int .i64 (m : Int)]] wx fun e w' =>
      e = .returned (.int .i64 0) ∧ ∃ D'' s'', Sec.At D'' s'' w' ∧ Sec.Moves D' D'' wx w' ∧ Store.Swept m N S R (k + 1) s'' ∧ s''.loose.length ≤ s'.loose.length + 2 * m) := fun D' s' wx k ak hb hk hak hA hS hl => by
    rw [← hb]
    exact sclear_swept hA ak k m N hak hk S R hS hl
  have HBEG : Hid (∀ (D' : Sec.Bl) (s' : Sec.St) (wx : World), D'.b = D.b → Sec.At D' s' wx → Store.Swept m N S R 2 s' → s'.loose.length ≤ 900000000 → Calls Tryz.prog 21 #[.agg #[.pointer (some ⟨D.b, 0, none⟩), .int .i64 0, .int .i64 (m : Int)], .agg #[.int .u64 1, .string t]] wx (Store.Begun D' 0 0 m N 1 (Store.hd 1 t) [] wx)) := fun D' s' wx hb hA hS hl => by
    rw [← hb]
    exact sbegin D' s' wx hA 0 0 m N (by omega) [] hS hl 1 t (by omega) ht hfit
  have HS0 : Hid (Store.Swept m N S R 0 s) := H
  have HA := Lib.hid h
  have HM : Hid (m ≤ 2048 ∧ s.loose.length ≤ 800000000) := ⟨hN.2.2.2, hlim⟩
  clear h H hlim hfit hN hok hnn ht
  go_enter Tryz.func7, Tryz.ntmps7
  go_wp2_with fail
  refine HFT.out.mono ?_
  rintro e w1 ⟨rfl, rfl⟩
  go_wp2_with fail
  refine HHV.out.mono ?_
  rintro e w1 ⟨rfl, hb1⟩
  obtain ⟨W, hW⟩ : ∃ W, W = (w1.alloc (.cells #[.pointer (some ⟨D.b, 0, none⟩), .int .i64 0, .int .i64 (m : Int), .pointer (some ⟨D.b, 0, none⟩), .int .i64 (m : Int), .int .i64 (m : Int)] 49)).alloc (.cells #[.int .u64 1, .string t] 56) := ⟨_, rfl⟩
  obtain ⟨P, hP⟩ : ∃ P, P = w1.heap.size := ⟨_, rfl⟩
  have r6 : W.heap[P]? = some (.cells #[.pointer (some ⟨D.b, 0, none⟩), .int .i64 0, .int .i64 (m : Int), .pointer (some ⟨D.b, 0, none⟩), .int .i64 (m : Int), .int .i64 (m : Int)] 49 (0, 0)) := by
    rw [hW, hP, Below.heap_alloc _ _ _ (by simp)]
    exact heap_alloc_new w1 _
  have r7 : W.heap[P + 1]? = some (.cells #[.int .u64 1, .string t] 56 (0, 0)) := by
    rw [hW, hP]
    have := heap_alloc_new (w1.alloc (.cells #[.pointer (some ⟨D.b, 0, none⟩), .int .i64 0, .int .i64 (m : Int), .pointer (some ⟨D.b, 0, none⟩), .int .i64 (m : Int), .int .i64 (m : Int)] 49)) (.cells #[.int .u64 1, .string t] 56)
    simpa using this
  have hbW : Below w.heap.size w W := by rw [hW]; exact (hb1.alloc hb1.size _).alloc (by have := hb1.size; simp; omega) _
  have hPw : w.heap.size ≤ P := by rw [hP]; exact hb1.size
  have HBW := Lib.hid hbW
  have R6 := Lib.hid r6
  have R7 := Lib.hid r7
  clear hb1 r6 r7 hbW
  go_wp2_with fail
  rw [← hW, ← hP]
  clear hW hP
  refine (HREF.out _).mono ?_
  rintro e w2 ⟨rfl, hb2⟩
  have R61 : Hid _ := (hb2.block _ (Sec.lt_of_heap R6.out)).trans R6.out
  have R71 : Hid _ := (hb2.block _ (Sec.lt_of_heap R7.out)).trans R7.out
  have HB2 : Hid (Below w.heap.size w w2) := HBW.out.trans (hb2.mono HBW.out.size)
  clear hb2
  have HA2 := Lib.hid (HA.out.below HB2.out)
  have HOF : Hid (D.off P ∧ D.off (P + 1)) := ⟨Sec.off_fresh HA.out hPw, Sec.off_fresh HA.out (by omega)⟩
  have c0 := cell_of_row _ _ 0 _ _ _ R61.out
  have c1 := cell_of_row _ _ 1 _ _ _ R61.out
  have c2 := cell_of_row _ _ 2 _ _ _ R61.out
  have c3 := cell_of_row _ _ 3 _ _ _ R61.out
  have c4 := cell_of_row _ _ 4 _ _ _ R61.out
  have c5 := cell_of_row _ _ 5 _ _ _ R61.out
  simp only [List.getElem?_toArray, List.getElem?_cons_zero, List.getElem?_cons_succ] at c0 c1 c2 c3 c4 c5
  go_wp2_with fail
  clear c0 c1 c2 c3 c4 c5
  go_loopw [31] (fun i wr => ∃ (k : Nat) (D' : Sec.Bl) (s' : Sec.St), k ≤ 2 ∧ i = .int .i64 k ∧ Hid (Sec.At D' s' wr) ∧ Hid (Store.Mx Store.no D D' w2 wr) ∧ Hid (Store.Swept m N S R k s' ∧ s'.loose.length ≤ 800000000 + k * 4096)) (fun i _ => 2 - (intOf i).toNat)
  case atStart => exact ⟨0, D, s, by omega, rfl, HA2.out, .of_below (Below.refl _ _), HS0.out, by have := HM.out.2; omega⟩
  case round =>
    obtain ⟨k, D1, s1, hk, rfl, HA1, HM1, HS1⟩ := hrel
    by_cases hlt : k < 2
    · have hk0 : (0 : Int) ≤ (k : Int) := by omega
      have hk1 : (k : Int) < 2 := by omega
      obtain ⟨ak, hak⟩ : ∃ ak, ak = k * m := ⟨_, rfl⟩
      have hix := fun w => sindex (.pointer (some ⟨D.b, 0, none⟩)) m k ak hlt hak w
      have HCL := Lib.hid (HCLR.out D1 s1 (wr.alloc (.cells #[.pointer (some ⟨D.b, 0, none⟩), .int .i64 (ak : Int), .int .i64 (m : Int)] 44)) k ak HM1.out.b hlt hak (HA1.out.below ((Below.refl _ _).alloc (Nat.le_refl _) _)) HS1.out.1 (by have := HS1.out.2; omega))
      clear hak
      go_wp2_with fail
      refine HCL.out.mono ?_
      rintro e w3 ⟨rfl, D3, s3, hA3, hM3, hS3, hl3⟩
      have HF : Hid (Sec.At D3 s3 w3 ∧ Store.Mx Store.no D D3 w2 w3 ∧ Store.Swept m N S R (k + 1) s3 ∧ s3.loose.length ≤ 800000000 + (k + 1) * 4096) := ⟨hA3, (HM1.out.trans (.of_below ((Below.refl _ _).alloc (Nat.le_refl _) _))).trans (.of_moves hM3), hS3, by have := HS1.out.2; have := HM.out.1; omega⟩
      clear hA3 hM3 hS3 hl3 HCL hix
      go_wp2_with fail
      go_roundw
      case rel => exact ⟨k + 1, D3, s3, by omega, by go_num, HF.out.1, HF.out.2.1, HF.out.2.2⟩
      case measure => simp [intOf]; omega
    · have hk1 : ¬ ((k : Int) < 2) := by omega
      have HS2 : Hid (Store.Swept m N S R 2 s1 ∧ s1.loose.length ≤ 900000000) := by
        have e : k = 2 := by omega
        have := HS1.out
        rw [e] at this
        exact ⟨this.1, by omega⟩
      have R62 := HM1.out.keeps R61.out HOF.out.1 id
      have R72 := HM1.out.keeps R71.out HOF.out.2 id
      have c0 := cell_of_row _ _ 0 _ _ _ R62
      have c1 := cell_of_row _ _ 1 _ _ _ R62
      have c2 := cell_of_row _ _ 2 _ _ _ R62
      have d0 := cell_of_row _ _ 0 _ _ _ R72
      have d1 := cell_of_row _ _ 1 _ _ _ R72
      simp only [List.getElem?_toArray, List.getElem?_cons_zero, List.getElem?_cons_succ] at c0 c1 c2 d0 d1
      clear R62 R72
      go_wp2_with fail
      refine (HBEG.out D1 s1 _ HM1.out.b HA1.out HS2.out.1 HS2.out.2).mono ?_
      rintro e w3 ⟨D3, B3, s3, rfl, hA3, hM3, _, _, _, hH3, hl3⟩
      have HF : Hid (∃ D' s', Sec.At D' s' (w3.alloc (.cells #[.pointer (some ⟨B3, 0, none⟩), .pointer (some ⟨D1.b, 0, none⟩), .int .i64 0, .int .i64 (m : Int), .int .u64 1] 46)) ∧ Store.Mx Store.no D D' w (w3.alloc (.cells #[.pointer (some ⟨B3, 0, none⟩), .pointer (some ⟨D1.b, 0, none⟩), .int .i64 0, .int .i64 (m : Int), .int .u64 1] 46)) ∧ Store.Halves 0 m N (Book.frs [Store.hd 1 t]) [] s' ∧ s'.loose = []) := by
        refine ⟨D3, s3, hA3.below ((Below.refl _ _).alloc (Nat.le_refl _) _), ?_, hH3, hl3⟩
        exact ((Store.Mx.of_below HB2.out).trans (HM1.out.trans hM3)).trans (.of_below ((Below.refl _ _).alloc (Nat.le_refl _) _))
      clear hA3 hM3 hH3 hl3
      go_wp2_with fail
      go_ret
      exact ⟨rfl, HF.out⟩
end Go.Proofs.YtpmhpibbdcifnaaGreat
end

section
namespace Go.Proofs.YtpmhpibbdcifnaaGreat
open Go.RowKit
attribute [local go_sem ↓] Go.wp_at_zero Go.wp_at_succ

namespace Store
/-- What a half has: nothing, or a store's generation, snapshot, records. -/
abbrev Rec := Nat × ByteArray × List (List UInt8)
def strm : Option Rec → List UInt8
  | none => []
  | some (g, t, r) => Book.frs (hd g t :: r)
def gn : Option Rec → Nat
  | none => 0
  | some (g, _, _) => g
def may : Option Rec → Prop
  | none => True
  | some (g, t, r) => 1 ≤ g ∧ g ≤ 4611686018427387904 ∧ t.size ≤ 65536 ∧ ∀ x ∈ r, x.length ≤ 131072
/-- A found, cell by cell. -/
structure Fval where
  o0 : Option Addr
  o1 : Option Addr
  i2 : Int
  i3 : Int
  g : Nat
  t : ByteArray
  A : Option Addr
  n : Nat
  c : Nat
def Fval.none : Fval := ⟨Option.none, Option.none, 0, 0, 0, ⟨#[]⟩, Option.none, 0, 0⟩
def Fval.cells (v : Fval) : Array Value := #[.pointer v.o0, .pointer v.o1, .int .i64 v.i2, .int .i64 v.i3, .int .u64 (v.g : Int), .string v.t, .slice v.A v.n v.c]
/-- It is what that half has: its book, and its row of records, lie from lo on. -/
def Fis (X : Option Rec) (p a m lo : Nat) (D : Sec.Bl) (v : Fval) (w : World) : Prop :=
  match X with
  | Option.none => v = Fval.none
  | some (g, t, r) => v.g = g ∧ v.t = t ∧ v.n = r.length ∧ ∃ B, v.o0 = some ⟨B, 0, Option.none⟩ ∧ v.o1 = some ⟨p, 0, Option.none⟩ ∧ v.i2 = (a : Int) ∧ v.i3 = (m : Int) ∧ lo ≤ B ∧ D.off B ∧ Book.PB B p (a : Int) (m : Int) (Book.frs (hd g t :: r)) false w ∧
      Lies w w.heap.size v.A (tcells (r.map fun x => ⟨x.toArray⟩)) ∧ ∀ ad, v.A = some ad → lo ≤ ad.block ∧ D.off ad.block ∧ ad.block < w.heap.size
theorem Fis.gn {X : Option Rec} {p a m lo : Nat} {D : Sec.Bl} {v : Fval} {w : World} (h : Fis X p a m lo D v w) : v.g = gn X := by
  cases X with
  | none => rw [show v = Fval.none from h]; rfl
  | some x => exact h.1
theorem Fis.mx {X : Option Rec} {p a m lo : Nat} {D D' : Sec.Bl} {v : Fval} {w w' : World} {Y : Nat → Prop} (h : Fis X p a m lo D v w) (hm : Mx Y D D' w w') (hy : ∀ j, Y j → j < lo) : Fis X p a m lo D' v w' := by
  cases X with
  | none => exact h
  | some x =>
    obtain ⟨h1, h2, h3, B, k1, k2, k3, k4, k5, k6, k7, k8, k9⟩ := h
    refine ⟨h1, h2, h3, B, k1, k2, k3, k4, k5, hm.keep _ k7.ltb k6, hm.keeps k7 k6 (fun hj => by have := hy _ hj; omega), fun hp => ?_, fun ad had => ?_⟩
    · obtain ⟨ad, e, hb, hc⟩ := k8 hp
      obtain ⟨q1, q2, q3⟩ := k9 ad e
      exact ⟨ad, e, Nat.lt_of_lt_of_le hb hm.size, fun j u hu => (World.cell?_of_block (by rw [Lies.add_block]; exact hm.block _ hb q2 (fun hj => by have := hy _ hj; omega))).trans (hc j u hu)⟩
    · obtain ⟨q1, q2, q3⟩ := k9 ad had
      exact ⟨q1, hm.keep _ q3 q2, Nat.lt_of_lt_of_le q3 hm.size⟩
theorem Fis.low {X : Option Rec} {p a m lo lo' : Nat} {D : Sec.Bl} {v : Fval} {w : World} (h : Fis X p a m lo' D v w) (hl : lo ≤ lo') : Fis X p a m lo D v w := by
  cases X with
  | none => exact h
  | some x =>
    obtain ⟨h1, h2, h3, B, k1, k2, k3, k4, k5, k6, k7, k8, k9⟩ := h
    exact ⟨h1, h2, h3, B, k1, k2, k3, k4, Nat.le_trans hl k5, k6, k7, k8, fun ad had => ⟨Nat.le_trans hl (k9 ad had).1, (k9 ad had).2⟩⟩
/-- The halves' own, by number; the last of them so far, and where. -/
def two (X0 X1 : Option Rec) (k : Nat) : Option Rec := if k = 0 then X0 else X1
def bst (X0 X1 : Option Rec) : Nat → Nat × Option Rec
  | 0 => (0, none)
  | k + 1 => if gn (bst X0 X1 k).2 < gn (two X0 X1 k) then (k, two X0 X1 k) else bst X0 X1 k
theorem bst_yes {X0 X1 : Option Rec} {k : Nat} (h : gn (bst X0 X1 k).2 < gn (two X0 X1 k)) : bst X0 X1 (k + 1) = (k, two X0 X1 k) := by rw [bst, if_pos h]
theorem bst_no {X0 X1 : Option Rec} {k : Nat} (h : ¬ gn (bst X0 X1 k).2 < gn (two X0 X1 k)) : bst X0 X1 (k + 1) = bst X0 X1 k := by rw [bst, if_neg h]
theorem bst_pos {X0 X1 : Option Rec} {g : Nat} {t : ByteArray} {r : List (List UInt8)} : ∀ k, (bst X0 X1 k).2 = some (g, t, r) → 1 ≤ g := by
  intro k
  induction k with
  | zero => intro h; cases h
  | succ k ih =>
    intro h
    rw [bst] at h
    split at h
    · rename_i hlt
      have e : gn (two X0 X1 k) = g := by
        have : two X0 X1 k = some (g, t, r) := h
        rw [this]; rfl
      omega
    · exact ih h
theorem Fval.has {w : World} {B : Nat} {T : TypeId} {v : Fval} (h : w.heap[B]? = some (.cells v.cells T (0, 0))) : w.cell? ⟨B, 0, Option.none⟩ = some (.pointer v.o0) ∧ w.cell? ⟨B, 1, Option.none⟩ = some (.pointer v.o1) ∧ w.cell? ⟨B, 2, Option.none⟩ = some (.int .i64 v.i2) ∧ w.cell? ⟨B, 3, Option.none⟩ = some (.int .i64 v.i3) ∧
    w.cell? ⟨B, 4, Option.none⟩ = some (.int .u64 (v.g : Int)) ∧ w.cell? ⟨B, 5, Option.none⟩ = some (.string v.t) ∧ w.cell? ⟨B, 6, Option.none⟩ = some (.slice v.A v.n v.c) :=
  ⟨cell_of_row _ _ 0 _ _ _ h, cell_of_row _ _ 1 _ _ _ h, cell_of_row _ _ 2 _ _ _ h, cell_of_row _ _ 3 _ _ _ h, cell_of_row _ _ 4 _ _ _ h, cell_of_row _ _ 5 _ _ _ h, cell_of_row _ _ 6 _ _ _ h⟩
theorem row7v {w : World} {B : Nat} {T : TypeId} (v u : Fval) (h : w.heap[B]? = some (.cells v.cells T (0, 0))) :
    (((((((w.setCell ⟨B, 0, none⟩ (.pointer u.o0)).setCell ⟨B, 1, none⟩ (.pointer u.o1)).setCell ⟨B, 2, none⟩ (.int .i64 u.i2)).setCell ⟨B, 3, none⟩ (.int .i64 u.i3)).setCell ⟨B, 4, none⟩ (.int .u64 (u.g : Int))).setCell ⟨B, 5, none⟩ (.string u.t)).setCell ⟨B, 6, none⟩ (.slice u.A u.n u.c)).heap[B]? = some (.cells u.cells T (0, 0)) :=
  row7 h _ _ _ _ _ _ _
end Store

theorem sfind_any {N : Nat} (X : Option Store.Rec) (D : Sec.Bl) (s : Sec.St) (w : World) (h : Sec.At D s w) (a m : Nat) (hL : Book.Laid a m N (Store.strm X) s) (h1 : 1 ≤ m) (hlim : s.loose.length ≤ 900000000) (hX : Store.may X) :
    Calls Tryz.prog 18 #[.agg #[.pointer (some ⟨D.b, 0, none⟩), .int .i64 (a : Int), .int .i64 (m : Int)]] w fun e w' => ∃ D' v, e = .returned (.tuple #[.agg (Store.Fval.cells v), .int .i64 0]) ∧ Sec.At D' s w' ∧ Store.Mx Store.no D D' w w' ∧ Store.Fis X D.b a m w.heap.size D' v w' := by
  cases X with
  | none =>
    refine (sfind_none D s w h a m N hL h1 hlim).mono ?_
    rintro e w' ⟨he, D', k1, k2⟩
    exact ⟨D', Store.Fval.none, he, k1, k2, rfl⟩
  | some x =>
    obtain ⟨g, t, r⟩ := x
    refine (sfind D s w h a m N g t r hL h1 hlim hX.1 hX.2.1 hX.2.2.1 hX.2.2.2).mono ?_
    rintro e w' ⟨D', B, A, c, he, k1, k2, k3, k4, k5, k6, k7⟩
    exact ⟨D', ⟨some ⟨B, 0, none⟩, some ⟨D.b, 0, none⟩, a, m, g, t, A, r.length, c⟩, he, k1, k2, rfl, rfl, rfl, B, rfl, rfl, rfl, rfl, k3, k4, k5, k6, k7⟩

/-- What Open comes to. -/
def Store.Opens (D : Sec.Bl) (s : Sec.St) (m : Nat) (X0 X1 : Option Store.Rec) (w : World) (e : Ending) (w' : World) : Prop :=
  ∃ D', Sec.At D' s w' ∧ Store.Mx Store.no D D' w w' ∧
    match (Store.bst X0 X1 2).2 with
    | none => e = .returned (.tuple #[.pointer none, .string ⟨#[]⟩, .slice none 0 0, .int .i64 70])
    | some (g, t, r) => ∃ (T B : Nat) (A : Option Addr) (c : Nat), e = .returned (.tuple #[.pointer (some ⟨T, 0, none⟩), .string t, .slice A r.length c, .int .i64 0]) ∧ w.heap.size ≤ T ∧ w.heap.size ≤ B ∧ D'.off B ∧ D'.off T ∧ T ≠ B ∧
        Book.PB B D.b (((Store.bst X0 X1 2).1 * m : Nat) : Int) (m : Int) (Book.frs (Store.hd g t :: r)) false w' ∧
        w'.heap[T]? = some (.cells #[.pointer (some ⟨B, 0, none⟩), .pointer (some ⟨D.b, 0, none⟩), .int .i64 (((Store.bst X0 X1 2).1 * m : Nat) : Int), .int .i64 (m : Int), .int .u64 (g : Int), .bool false] 54 (0, 0)) ∧
        Lies w' w'.heap.size A (tcells (r.map fun x => ⟨x.toArray⟩))

set_option maxHeartbeats 4000000 in
set_option maxRecDepth 20000 in
theorem sopen (D : Sec.Bl) (s : Sec.St) (w : World) (h : Sec.At D s w) (m N : Nat) (X0 X1 : Option Store.Rec) (H : Store.Halves 0 m N (Store.strm X0) (Store.strm X1) s) (hX0 : Store.may X0) (hX1 : Store.may X1) (hlim : s.loose.length ≤ 800000000) :
    Calls Tryz.prog 6 #[.pointer (some ⟨D.b, 0, none⟩)] w (Store.Opens D s m X0 X1 w) := by
  have hN := H.han
  have hok := H.here.ok
  have hnn := H.nn
  have HFT := Lib.hid (sfault D s w h hok (by omega))
  have HHV : Hid (∀ wx, Below w.heap.size w wx → Calls Tryz.prog 17 #[.pointer (some ⟨D.b, 0, none⟩)] wx fun e w' => e = .returned (.agg #[.pointer (some ⟨D.b, 0, none⟩), .int .i64 0, .int .i64 (m : Int), .pointer (some ⟨D.b, 0, none⟩), .int .i64 (m : Int), .int .i64 (m : Int)]) ∧ Below wx.heap.size wx w') := fun wx hb => shalves D s wx (h.below hb) hok m (by rw [hnn]; exact H.hn)
  have HFIND : Hid (∀ (D' : Sec.Bl) (wx : World) (k ak : Nat), D'.b = D.b → k < 2 → ak = k * m → Sec.At D' s wx → Calls Tryz.prog 18 #[.agg #[.pointer (some ⟨D.b, 0, none⟩), .int .i64 (ak : Int), .int .i64 (m : Int)]] wx fun e w' =>
      ∃ D'' v, e = .returned (.tuple #[.agg (Store.Fval.cells v), .int .i64 0]) ∧ Sec.At D'' s w' ∧ Store.Mx Store.no D' D'' wx w' ∧ Store.Fis (Store.two X0 X1 k) D.b ak m wx.heap.size D'' v w') := fun D' wx k ak hb hk hak hA => by
    rw [← hb]
    rcases (by omega : k = 0 ∨ k = 1) with rfl | rfl
    · exact sfind_any X0 D' s wx hA ak m (hak ▸ H.here) H.h1 (by omega) hX0
    · exact sfind_any X1 D' s wx hA ak m (hak ▸ H.there) H.h1 (by omega) hX1
  have HA := Lib.hid h
  clear h H hlim hN hok hnn hX0 hX1
  go_enter Tryz.func6, Tryz.ntmps6
  go_wp2_with fail
  refine HFT.out.mono ?_
  rintro e w1 ⟨rfl, rfl⟩
  obtain ⟨W, hW⟩ : ∃ W, W = w.alloc (.cells #[.pointer none, .pointer none, .int .i64 0, .int .i64 0, .int .u64 0, .string ⟨#[]⟩, .slice none 0 0] 48) := ⟨_, rfl⟩
  obtain ⟨L, hL⟩ : ∃ L, L = w.heap.size := ⟨_, rfl⟩
  have rL : W.heap[L]? = some (.cells Store.Fval.none.cells 48 (0, 0)) := by rw [hW, hL]; exact heap_alloc_new w _
  have hbW : Below w.heap.size w W := by rw [hW]; exact (Below.refl _ _).alloc (Nat.le_refl _) _
  have HBW := Lib.hid hbW
  have RL := Lib.hid rL
  have HLw : Hid (w.heap.size ≤ L) := by show _ ≤ _; omega
  clear rL hbW
  go_wp2_with fail
  rw [← hW, ← hL]
  clear hW hL
  refine (HHV.out _ HBW.out).mono ?_
  rintro e w1 ⟨rfl, hb1⟩
  have RL1 : Hid _ := (hb1.block _ (Sec.lt_of_heap RL.out)).trans RL.out
  have HB1 : Hid (Below w.heap.size w w1) := HBW.out.trans (hb1.mono HBW.out.size)
  have HLl : Hid (L < w1.heap.size) := Sec.lt_of_heap RL1.out
  have HOL : Hid (D.off L) := Sec.off_fresh HA.out HLw.out
  have HA1 := Lib.hid (HA.out.below HB1.out)
  clear hb1
  go_wp2_with fail
  go_loopw [19] (fun i wr => ∃ (k ab : Nat) (D' : Sec.Bl) (v : Store.Fval), k ≤ 2 ∧ i = .int .i64 k ∧ Hid (ab = (Store.bst X0 X1 k).1 * m) ∧ Hid (Sec.At D' s wr) ∧ Hid (Store.Mx (fun j => j = L) D D' w1 wr) ∧ Hid (wr.heap[L]? = some (.cells v.cells 48 (0, 0))) ∧ Hid (Store.Fis (Store.bst X0 X1 k).2 D.b ab m w1.heap.size D' v wr)) (fun i _ => 2 - (intOf i).toNat)
  case atStart => exact ⟨0, 0, D, Store.Fval.none, by omega, rfl, (Nat.zero_mul _).symm, HA1.out, .of_below (Below.refl _ _), RL1.out, rfl⟩
  case round =>
    obtain ⟨k, ab, D1, v, hk, rfl, HAB, HA2, HM2, HRL, HF⟩ := hrel
    by_cases hlt : k < 2
    · have hk0 : (0 : Int) ≤ (k : Int) := by omega
      have hk1 : (k : Int) < 2 := by omega
      obtain ⟨ak, hak⟩ : ∃ ak, ak = k * m := ⟨_, rfl⟩
      have hix := fun w => sindex (.pointer (some ⟨D.b, 0, none⟩)) m k ak hlt hak w
      have HAK := Lib.hid hak
      have HFN := Lib.hid (HFIND.out D1 (wr.alloc (.cells #[.pointer (some ⟨D.b, 0, none⟩), .int .i64 (ak : Int), .int .i64 (m : Int)] 44)) k ak HM2.out.b hlt hak (HA2.out.below ((Below.refl _ _).alloc (Nat.le_refl _) _)))
      clear hak
      go_wp2_with fail
      refine HFN.out.mono ?_
      rintro e w3 ⟨D3, u, rfl, hA3, hM3, hF3⟩
      have hgu := hF3.gn
      obtain ⟨o0, o1, i2, i3, gu, tu, Au, nu, cu⟩ := u
      rw [show Store.Fval.cells ⟨o0, o1, i2, i3, gu, tu, Au, nu, cu⟩ = #[.pointer o0, .pointer o1, .int .i64 i2, .int .i64 i3, .int .u64 (gu : Int), .string tu, .slice Au nu cu] from rfl]
      have hoL1 : D1.off L := HM2.out.keep _ HLl.out HOL.out
      have hLr : L < wr.heap.size := Sec.lt_of_heap HRL.out
      have rL3 := hM3.keeps (Store.alloc_keep HRL.out (.cells #[.pointer (some ⟨D.b, 0, none⟩), .int .i64 (ak : Int), .int .i64 (m : Int)] 44)) hoL1 id
      have hoL3 : D3.off L := hM3.keep _ (by simp; omega) hoL1
      obtain ⟨W3, hW3⟩ : ∃ W3, W3 = w3.alloc (.cells #[.pointer o0, .pointer o1, .int .i64 i2, .int .i64 i3, .int .u64 (gu : Int), .string tu, .slice Au nu cu] 48) := ⟨_, rfl⟩
      obtain ⟨Q, hQ⟩ : ∃ Q, Q = w3.heap.size := ⟨_, rfl⟩
      have rQ : W3.heap[Q]? = some (.cells (Store.Fval.cells ⟨o0, o1, i2, i3, gu, tu, Au, nu, cu⟩) 48 (0, 0)) := by rw [hW3, hQ]; exact heap_alloc_new w3 _
      have rL4 : W3.heap[L]? = some (.cells v.cells 48 (0, 0)) := by rw [hW3]; exact Store.alloc_keep rL3 _
      have hb3 : Below w3.heap.size w3 W3 := by rw [hW3]; exact (Below.refl _ _).alloc (Nat.le_refl _) _
      have HX3 : Hid (Store.Mx (fun j => j = L) D D3 w1 W3) := (HM2.out.trans (.of_below ((Below.refl _ _).alloc (Nat.le_refl _) _))).trans ((hM3.mono fun _ _ h => h.elim).trans (.of_below hb3))
      have hsz1 := HM2.out.size
      have HF4 : Hid (Store.Fis (Store.two X0 X1 k) D.b ak m w1.heap.size D3 ⟨o0, o1, i2, i3, gu, tu, Au, nu, cu⟩ W3) := (hF3.low (by simp; omega)).mx (Y := Store.no) (.of_below hb3) (fun _ h => h.elim)
      have HF5 : Hid (Store.Fis (Store.bst X0 X1 k).2 D.b ab m w1.heap.size D3 v W3) := by
        have q1 := HF.out.mx (Y := Store.no) (D' := D1) (.of_below ((Below.refl _ _).alloc (Nat.le_refl _) (.cells #[.pointer (some ⟨D.b, 0, none⟩), .int .i64 (ak : Int), .int .i64 (m : Int)] 44))) (fun _ h => h.elim)
        have q2 := q1.mx hM3 (fun _ h => h.elim)
        exact q2.mx (Y := Store.no) (.of_below hb3) (fun _ h => h.elim)
      have HA3 := Lib.hid (hA3.below hb3)
      have RQ := Lib.hid rQ
      have RL4 := Lib.hid rL4
      have HG := Lib.hid (And.intro hgu HF.out.gn)
      have HO3 := Lib.hid hoL3
      have HLQ : Hid (L < w3.heap.size) := Sec.lt_of_heap rL3
      have HQE : Hid (Q = w3.heap.size) := hQ
      clear rQ rL4 rL3 hb3 hA3 hM3 hF3 hgu hoL1 hLr hoL3 hsz1 HFN hix
      go_upto_region 9 with fail
      rw [← hW3, ← hQ]
      clear hW3 hQ
      have hne : L ≠ Q := fun e => by
        have h1 := HLQ.out
        have := HQE.out
        omega
      obtain ⟨q0, q1, q2, q3, q4, q5, q6⟩ := Store.Fval.has RQ.out
      obtain ⟨e0, e1, e2, e3, e4, e5, e6⟩ := Store.Fval.has RL4.out
      have f0 := frozen_of_row _ _ 0 _ _ RL4.out
      have f1 := frozen_of_row _ _ 1 _ _ RL4.out
      have f2 := frozen_of_row _ _ 2 _ _ RL4.out
      have f3 := frozen_of_row _ _ 3 _ _ RL4.out
      have f4 := frozen_of_row _ _ 4 _ _ RL4.out
      have f5 := frozen_of_row _ _ 5 _ _ RL4.out
      have f6 := frozen_of_row _ _ 6 _ _ RL4.out
      simp only [] at q0 q1 q2 q3 q4 q5 q6
      by_cases hgt : v.g < gu
      · have hd1 : decide ((v.g : Int) < (gu : Int)) = true := by simp; omega
        have hd2 : decide (v.g < gu) = true := by simpa using hgt
        have HE : Hid (Store.bst X0 X1 (k + 1) = (k, Store.two X0 X1 k)) := Store.bst_yes (by rw [← HG.out.1, ← HG.out.2]; exact hgt)
        clear hgt
        have R5 := Lib.hid (Store.row7v v ⟨o0, o1, i2, i3, gu, tu, Au, nu, cu⟩ RL4.out)
        have G5 := Lib.hid (Store.grow7 W3 L (.pointer o0) (.pointer o1) (.int .i64 i2) (.int .i64 i3) (.int .u64 (gu : Int)) (.string tu) (.slice Au nu cu))
        go_wp2_with fail
        go_roundw
        case rel =>
          refine ⟨k + 1, ak, D3, ⟨o0, o1, i2, i3, gu, tu, Au, nu, cu⟩, by omega, by go_num, ?_, Sec.at_grown HA3.out HO3.out G5.out, HX3.out.trans (.of_grown G5.out), R5.out, ?_⟩
          · show _ = _
            rw [HE.out]; exact HAK.out
          · show Store.Fis _ _ _ _ _ _ _ _
            rw [HE.out]
            exact HF4.out.mx (.of_grown G5.out) (fun j hj => by rw [show j = L from hj]; exact HLl.out)
        case measure => simp [intOf]; omega
      · have hd1 : decide ((v.g : Int) < (gu : Int)) = false := by simp; omega
        have hd2 : decide (v.g < gu) = false := by simpa using hgt
        have HE : Hid (Store.bst X0 X1 (k + 1) = Store.bst X0 X1 k) := Store.bst_no (by rw [← HG.out.1, ← HG.out.2]; exact hgt)
        clear hgt
        go_wp2_with fail
        go_roundw
        case rel =>
          refine ⟨k + 1, ab, D3, v, by omega, by go_num, ?_, HA3.out, HX3.out, RL4.out, ?_⟩
          · show _ = _
            rw [HE.out]; exact HAB.out
          · show Store.Fis _ _ _ _ _ _ _ _
            rw [HE.out]; exact HF5.out
        case measure => simp [intOf]; omega
    · have hk1 : ¬ ((k : Int) < 2) := by omega
      have e2 : k = 2 := by omega
      have HF2 : Hid (Store.Fis (Store.bst X0 X1 2).2 D.b ab m w1.heap.size D1 v wr) := by have := HF.out; rw [e2] at this; exact this
      have HAB2 : Hid (ab = (Store.bst X0 X1 2).1 * m) := by have := HAB.out; rw [e2] at this; exact this
      clear e2
      have HMX : Hid (Store.Mx Store.no D D1 w wr) := (Store.Mx.of_below HB1.out).trans_new HM2.out (fun j hj hlt => by have : j = L := hj; have := HLw.out; omega)
      have hLr : L < wr.heap.size := Sec.lt_of_heap HRL.out
      obtain ⟨e0, e1, e2, e3, e4, e5, e6⟩ := Store.Fval.has HRL.out
      have hgn := HF2.out.gn
      cases hbs : (Store.bst X0 X1 2).2 with
      | none =>
        rw [hbs] at hgn
        have hv0 : v.g = 0 := hgn
        have hd1 : decide ((v.g : Int) < 1) = true := by rw [hv0]; rfl
        have HBS := Lib.hid hbs
        clear hgn hv0 hbs
        go_wp2_with fail
        refine bodyPost_ret (v := .tuple #[.pointer none, .string ⟨#[]⟩, .slice none 0 0, .int .i64 70]) (by simp [results, Tryz.results6, go_sem]) rfl ?_
        exact ⟨D1, HA2.out, HMX.out, by rw [HBS.out]⟩
      | some x =>
        obtain ⟨g, t, r⟩ := x
        have hgp := Store.bst_pos 2 hbs
        obtain ⟨vo0, vo1, vi2, vi3, vg, vt, vA, vn, vc⟩ := v
        have hf := HF2.out
        rw [hbs] at hf
        obtain ⟨h1, h2, h3, B, k1, k2, k3, k4, k5, k6, k7, k8, k9⟩ := hf
        simp only [] at h1 h2 h3 k1 k2 k3 k4
        subst h1 h2 h3 k1 k2 k3 k4
        simp only [] at e0 e1 e2 e3 e4 e5 e6
        have hd1 : decide ((vg : Int) < 1) = false := by simp; omega
        have HBS := Lib.hid hbs
        have HK := Lib.hid (And.intro k5 (And.intro k6 (And.intro k7 k8)))
        clear hgn hgp hbs k5 k6 k7 k8 k9
        go_upto_region 16 with fail
        go_region
        obtain ⟨w4, hw4⟩ : ∃ w4, w4 = (wr.alloc (.cells #[.pointer (some ⟨B, 0, none⟩), .pointer (some ⟨D.b, 0, none⟩), .int .i64 (ab : Int), .int .i64 (m : Int), .int .u64 (vg : Int), .bool false] 54)).drew := ⟨_, rfl⟩
        have hrT : w4.heap[wr.heap.size]? = some (.cells #[.pointer (some ⟨B, 0, none⟩), .pointer (some ⟨D.b, 0, none⟩), .int .i64 (ab : Int), .int .i64 (m : Int), .int .u64 (vg : Int), .bool false] 54 (0, 0)) := by rw [hw4]; exact heap_alloc_new wr _
        have hb4 : Below wr.heap.size wr w4 := by rw [hw4]; exact ((Below.refl _ _).alloc (Nat.le_refl _) _).drew
        have HRT := Lib.hid hrT
        have HB4 := Lib.hid hb4
        rw [← hw4]
        clear hrT hb4 hw4 e0 e1 e2 e3 e4 e5 e6
        simp only [Exit.then]
        go_at_K
        go_wp2_with fail
        refine bodyPost_ret (v := .tuple #[.pointer (some ⟨wr.heap.size, 0, none⟩), .string vt, .slice vA r.length vc, .int .i64 0]) (by simp [results, Tryz.results6, go_sem]) rfl ?_
        refine ⟨D1, HA2.out.below HB4.out, HMX.out.trans (.of_below HB4.out), ?_⟩
        rw [HBS.out]
        have hw := HB1.out.size
        have hB := HK.out.2.2.1.ltb
        refine ⟨wr.heap.size, B, vA, vc, rfl, HMX.out.size, Nat.le_trans hw HK.out.1, HK.out.2.1, Sec.off_fresh HA2.out (Nat.le_refl _), by omega, ?_, ?_, (Lies.below HK.out.2.2.2 HB4.out).mono HB4.out.size⟩
        · rw [← HAB2.out]; exact HK.out.2.2.1.below HB4.out
        · rw [← HAB2.out]; exact HRT.out
end Go.Proofs.YtpmhpibbdcifnaaGreat
end

section
namespace Go.Proofs.YtpmhpibbdcifnaaGreat
open Go.RowKit
attribute [local go_sem ↓] Go.wp_at_zero Go.wp_at_succ

theorem frb_none : Book.frb ([] : List ByteArray) = [] := rfl
theorem puts_same {a m : Nat} {S : List UInt8} {s : Sec.St} : (Book.puts (Book.todo a m S (S ++ Book.frb [])) s).2 = s := by
  rw [frb_none, List.append_nil, Book.todo_nil]
  rfl

set_option maxHeartbeats 4000000 in
set_option maxRecDepth 20000 in
theorem strim {D : Sec.Bl} {T B a i m N g : Nat} {S R : List UInt8} {s : Sec.St} {w : World} (h : Store.Sv D T B a i m N g S R s w) (hlim : s.loose.length ≤ 800000000) (t : ByteArray) (ht : t.size ≤ 65536) (hg : g + 1 ≤ 4611686018427387904)
    (hfit : (Frame.raw 1 (Store.hd (g + 1) t)).length ≤ m * 127) :
    Calls Tryz.prog 10 #[.pointer (some ⟨T, 0, none⟩), .string t] w fun e w' => e = .returned (.int .i64 0) ∧ ∃ D' B' a' s', Store.Sv D' T B' a' (1 - i) m N (g + 1) (Book.frs [Store.hd (g + 1) t]) S s' w' ∧ Store.Mx (fun j => j = B ∨ j = T) D D' w w' ∧ s'.loose = [] ∧ w.heap.size ≤ B' := by
  have hN := h.hh.han
  have hi2 := h.hh.i2
  obtain ⟨a', ha'⟩ : ∃ a', a' = (1 - i) * m := ⟨_, rfl⟩
  have hsub : (m : Int) - (a : Int) = (a' : Int) := by
    have := h.ha
    rcases (by omega : i = 0 ∨ i = 1) with rfl | rfl
    · simp at this ha'; omega
    · simp at this ha'; omega
  have hal : a ≤ 4096 := by
    have := h.ha
    rcases (by omega : i = 0 ∨ i = 1) with rfl | rfl
    · simp at this; omega
    · simp at this; omega
  have HAT := Lib.hid (sat h.obj)
  have HAP : Hid (∀ wx, Below w.heap.size w wx → Calls Tryz.prog 23 #[.pointer (some ⟨B, 0, none⟩), .slice none 0 0] wx fun e w' => e = .returned (.int .i64 0) ∧ ∃ D', Sec.At D' s w' ∧ Book.PB B D.b (a : Int) (m : Int) S false w' ∧ D'.off B ∧ Book.Mvb D D' B wx w') := fun wx hb => by
    have := at_append_ok (h.hA.below hb) (h.pb.below hb) h.oB h.here (by omega) [] none 0 (by simp [maxLen]) (by simp) (fun hh => absurd hh (by simp [tcells])) rfl (by have := h.here.fit; simpa [frb_none] using this)
    rw [puts_same, frb_none, List.append_nil] at this
    exact this
  have HOT : Hid (∀ wx : World, Calls Tryz.prog 25 #[.agg #[.pointer (some ⟨D.b, 0, none⟩), .int .i64 (a : Int), .int .i64 (m : Int)]] wx fun e w' => e = .returned (.agg #[.pointer (some ⟨D.b, 0, none⟩), .int .i64 (a' : Int), .int .i64 (m : Int)]) ∧ Below wx.heap.size wx w') := fun wx => sother D.b a m a' hal (by omega) hsub wx
  have HREF : Hid (∀ wx : World, Calls Tryz.prog 19 #[.agg #[.pointer (some ⟨D.b, 0, none⟩), .int .i64 (a' : Int), .int .i64 (m : Int)], .agg #[.int .u64 ((g : Int) + 1), .string t]] wx fun e w' => e = .returned (.int .i64 0) ∧ Below wx.heap.size wx w') := fun wx => srefuse D.b a' m (g + 1) t hg ht (by omega) hfit wx
  have HCLR : Hid (∀ (D' : Sec.Bl) (wx : World), D'.b = D.b → Sec.At D' s wx → Calls Tryz.prog 20 #[.agg #[.pointer (some ⟨D.b, 0, none⟩), .int .i64 (a' : Int), .int .i64 (m : Int)]] wx fun e w' =>
      e = .returned (.int .i64 0) ∧ ∃ D'' s'', Sec.At D'' s'' w' ∧ Sec.Moves D' D'' wx w' ∧ Store.Halves (1 - i) m N [] S s'' ∧ s''.loose.length ≤ s.loose.length + 2 * m) := fun D' wx hb hA => by
    rw [← hb]
    exact sclear D' s wx hA a' (1 - i) m N ha' R S h.hh.swap (by omega)
  have HBEG : Hid (∀ (D' : Sec.Bl) (s' : Sec.St) (wx : World), D'.b = D.b → Sec.At D' s' wx → Store.Halves (1 - i) m N [] S s' → s'.loose.length ≤ s.loose.length + 2 * m → Calls Tryz.prog 21 #[.agg #[.pointer (some ⟨D.b, 0, none⟩), .int .i64 (a' : Int), .int .i64 (m : Int)], .agg #[.int .u64 ((g : Int) + 1), .string t]] wx (Store.Begun D' a' (1 - i) m N (g + 1) (Store.hd (g + 1) t) S wx)) := fun D' s' wx hb hA hS hl => by
    rw [← hb]
    exact sbegin D' s' wx hA a' (1 - i) m N ha' S hS (by omega) (g + 1) t (by omega) ht hfit
  have hw1 : IntKind.u64.wrap ((g : Int) + 1) = (g : Int) + 1 := by rw [IntKind.wrap_u64]; omega
  have H := Lib.hid h
  have HAE := Lib.hid ha'
  clear h hsub hal hN hi2 ha' hfit ht hlim
  go_enter Tryz.func10, Tryz.ntmps10
  go_wp2_with fail
  refine HAT.out.mono ?_
  rintro e w1 ⟨rfl, hb1⟩
  obtain ⟨W, hW⟩ : ∃ W, W = w1.alloc (.cells #[.pointer (some ⟨B, 0, none⟩), .pointer (some ⟨D.b, 0, none⟩), .int .i64 (a : Int), .int .i64 (m : Int), .int .u64 (g : Int)] 46) := ⟨_, rfl⟩
  obtain ⟨P, hP⟩ : ∃ P, P = w1.heap.size := ⟨_, rfl⟩
  have r5 : W.heap[P]? = some (.cells #[.pointer (some ⟨B, 0, none⟩), .pointer (some ⟨D.b, 0, none⟩), .int .i64 (a : Int), .int .i64 (m : Int), .int .u64 (g : Int)] 46 (0, 0)) := by rw [hW, hP]; exact heap_alloc_new w1 _
  have hbW : Below w.heap.size w W := by rw [hW]; exact hb1.alloc hb1.size _
  have hPw : w.heap.size ≤ P := by rw [hP]; exact hb1.size
  have HBW := Lib.hid hbW
  have R5 := Lib.hid r5
  have HPW := Lib.hid hPw
  clear hb1 r5 hbW hPw
  go_wp2_with fail
  rw [← hW, ← hP]
  clear hW hP
  refine (HAP.out _ HBW.out).mono ?_
  rintro e w2 ⟨rfl, D1, hA1, hP1, hO1, hM1⟩
  have HX1 : Hid (Store.Mx (fun j => j = B) D D1 W w2) := .of_mvb hM1
  have HOF : Hid (D1.off P ∧ D1.off T ∧ P ≠ B ∧ P ≠ T) := by
    have hBl := H.out.pb.ltb
    have hTl := Sec.lt_of_heap H.out.obj
    have hp := HPW.out
    have hs := HBW.out.size
    exact ⟨HX1.out.keep _ (Sec.lt_of_heap R5.out) (Sec.off_fresh H.out.hA hp), HX1.out.keep _ (by omega) H.out.oT, by omega, by omega⟩
  have R52 : Hid _ := HX1.out.keeps R5.out (Sec.off_fresh H.out.hA HPW.out) HOF.out.2.2.1
  have RT2 : Hid _ := HX1.out.keeps ((HBW.out.block _ (Sec.lt_of_heap H.out.obj)).trans H.out.obj) H.out.oT H.out.ne
  have HA1 := Lib.hid hA1
  have hb12 : D1.b = D.b := hM1.b
  have HDB := Lib.hid hb12
  clear hA1 hP1 hO1 hM1 hb12
  have c0 := cell_of_row _ _ 5 _ _ _ RT2.out
  simp only [List.getElem?_toArray, List.getElem?_cons_zero, List.getElem?_cons_succ] at c0
  go_upto_region 7 with fail
  clear c0
  go_cut [7, 8] (fun v7 v8 wx => ∃ P7 P8 : Nat, v7 = .pointer (some ⟨P7, 0, none⟩) ∧ v8 = .pointer (some ⟨P8, 0, none⟩) ∧ Hid (w2.heap.size ≤ P7 ∧ w2.heap.size ≤ P8 ∧ wx.heap[P7]? = some (.cells #[.pointer (some ⟨D.b, 0, none⟩), .int .i64 (a' : Int), .int .i64 (m : Int)] 44 (0, 0)) ∧
      wx.heap[P8]? = some (.cells #[.int .u64 ((g : Int) + 1), .string t] 56 (0, 0))) ∧ Hid (Below w2.heap.size w2 wx))
  case first =>
    have c0 := cell_of_row _ _ 0 _ _ _ R52.out
    have c1 := cell_of_row _ _ 1 _ _ _ R52.out
    have c2 := cell_of_row _ _ 2 _ _ _ R52.out
    have c3 := cell_of_row _ _ 3 _ _ _ R52.out
    have c4 := cell_of_row _ _ 4 _ _ _ R52.out
    simp only [List.getElem?_toArray, List.getElem?_cons_zero, List.getElem?_cons_succ] at c0 c1 c2 c3 c4
    have hPl := Sec.lt_of_heap R52.out
    have HCS : Hid (∀ wx, Below w2.heap.size w2 wx → wx.cell? ⟨P, 0, none⟩ = some (.pointer (some ⟨B, 0, none⟩)) ∧ wx.cell? ⟨P, 1, none⟩ = some (.pointer (some ⟨D.b, 0, none⟩)) ∧ wx.cell? ⟨P, 2, none⟩ = some (.int .i64 (a : Int)) ∧ wx.cell? ⟨P, 3, none⟩ = some (.int .i64 (m : Int)) ∧ wx.cell? ⟨P, 4, none⟩ = some (.int .u64 (g : Int))) := fun wx hb =>
      ⟨(hb.cell (p := ⟨P, 0, none⟩) hPl).trans c0, (hb.cell (p := ⟨P, 1, none⟩) hPl).trans c1, (hb.cell (p := ⟨P, 2, none⟩) hPl).trans c2, (hb.cell (p := ⟨P, 3, none⟩) hPl).trans c3, (hb.cell (p := ⟨P, 4, none⟩) hPl).trans c4⟩
    clear c0 c1 c2 c3 c4
    have HS0 := Lib.hid (HCS.out w2 (Below.refl _ _))
    have HS1 := Lib.hid (HCS.out w2.drew (Below.refl _ _).drew)
    have HSA : Hid (∀ (wx : World) (o : Obj), (wx.cell? ⟨P, 0, none⟩ = some (.pointer (some ⟨B, 0, none⟩)) ∧ wx.cell? ⟨P, 1, none⟩ = some (.pointer (some ⟨D.b, 0, none⟩)) ∧ wx.cell? ⟨P, 2, none⟩ = some (.int .i64 (a : Int)) ∧ wx.cell? ⟨P, 3, none⟩ = some (.int .i64 (m : Int)) ∧ wx.cell? ⟨P, 4, none⟩ = some (.int .u64 (g : Int))) → ((wx.alloc o).cell? ⟨P, 0, none⟩ = some (.pointer (some ⟨B, 0, none⟩)) ∧ (wx.alloc o).cell? ⟨P, 1, none⟩ = some (.pointer (some ⟨D.b, 0, none⟩)) ∧ (wx.alloc o).cell? ⟨P, 2, none⟩ = some (.int .i64 (a : Int)) ∧ (wx.alloc o).cell? ⟨P, 3, none⟩ = some (.int .i64 (m : Int)) ∧ (wx.alloc o).cell? ⟨P, 4, none⟩ = some (.int .u64 (g : Int)))) := fun wx o h =>
      have e : ∀ (i : Nat) (u : Value), wx.cell? ⟨P, i, none⟩ = some u → (wx.alloc o).cell? ⟨P, i, none⟩ = some u := fun i u h => (World.cell?_alloc_some wx ⟨P, i, none⟩ o (by rw [h]; rfl)).trans h
      ⟨e _ _ h.1, e _ _ h.2.1, e _ _ h.2.2.1, e _ _ h.2.2.2.1, e _ _ h.2.2.2.2⟩
    have HSS : Hid (∀ (wx : World) (k j : Nat) (u : Value), (wx.cell? ⟨P, 0, none⟩ = some (.pointer (some ⟨B, 0, none⟩)) ∧ wx.cell? ⟨P, 1, none⟩ = some (.pointer (some ⟨D.b, 0, none⟩)) ∧ wx.cell? ⟨P, 2, none⟩ = some (.int .i64 (a : Int)) ∧ wx.cell? ⟨P, 3, none⟩ = some (.int .i64 (m : Int)) ∧ wx.cell? ⟨P, 4, none⟩ = some (.int .u64 (g : Int))) → k ≠ P → ((wx.setCell ⟨k, j, none⟩ u).cell? ⟨P, 0, none⟩ = some (.pointer (some ⟨B, 0, none⟩)) ∧ (wx.setCell ⟨k, j, none⟩ u).cell? ⟨P, 1, none⟩ = some (.pointer (some ⟨D.b, 0, none⟩)) ∧ (wx.setCell ⟨k, j, none⟩ u).cell? ⟨P, 2, none⟩ = some (.int .i64 (a : Int)) ∧ (wx.setCell ⟨k, j, none⟩ u).cell? ⟨P, 3, none⟩ = some (.int .i64 (m : Int)) ∧ (wx.setCell ⟨k, j, none⟩ u).cell? ⟨P, 4, none⟩ = some (.int .u64 (g : Int)))) := fun wx k j u h hk => by
      have e : ∀ i, (wx.setCell ⟨k, j, none⟩ u).cell? ⟨P, i, none⟩ = wx.cell? ⟨P, i, none⟩ := fun i => World.cell?_setCell_other _ _ _ _ (by intro hh; injection hh with h1 _ _; exact hk h1)
      rw [e, e, e, e, e]
      exact h
    have HSD : Hid (∀ (wx : World), (wx.cell? ⟨P, 0, none⟩ = some (.pointer (some ⟨B, 0, none⟩)) ∧ wx.cell? ⟨P, 1, none⟩ = some (.pointer (some ⟨D.b, 0, none⟩)) ∧ wx.cell? ⟨P, 2, none⟩ = some (.int .i64 (a : Int)) ∧ wx.cell? ⟨P, 3, none⟩ = some (.int .i64 (m : Int)) ∧ wx.cell? ⟨P, 4, none⟩ = some (.int .u64 (g : Int))) → (wx.drew.cell? ⟨P, 0, none⟩ = some (.pointer (some ⟨B, 0, none⟩)) ∧ wx.drew.cell? ⟨P, 1, none⟩ = some (.pointer (some ⟨D.b, 0, none⟩)) ∧ wx.drew.cell? ⟨P, 2, none⟩ = some (.int .i64 (a : Int)) ∧ wx.drew.cell? ⟨P, 3, none⟩ = some (.int .i64 (m : Int)) ∧ wx.drew.cell? ⟨P, 4, none⟩ = some (.int .u64 (g : Int)))) := fun wx h => h
    have hL1 : ∀ a : Nat, a < a + 1 := fun a => by omega
    have hL2 : ∀ a : Nat, a < a + 1 + 1 := fun a => by omega
    go_region_held3 (fun wx => wx.cell? ⟨P, 0, none⟩ = some (.pointer (some ⟨B, 0, none⟩)) ∧ wx.cell? ⟨P, 1, none⟩ = some (.pointer (some ⟨D.b, 0, none⟩)) ∧ wx.cell? ⟨P, 2, none⟩ = some (.int .i64 (a : Int)) ∧ wx.cell? ⟨P, 3, none⟩ = some (.int .i64 (m : Int)) ∧ wx.cell? ⟨P, 4, none⟩ = some (.int .u64 (g : Int)))
      (first | with_reducible assumption | with_reducible exact HS0.out | with_reducible exact HS1.out | with_reducible exact HS3.out | (repeat (first | with_reducible assumption | with_reducible exact HS1.out | with_reducible exact HS3.out | with_reducible exact HS0.out | with_reducible apply HSD.out | with_reducible apply HSA.out | with_reducible apply HSS.out)); all_goals (first | omega | (simp; omega)))
      (first | (go_at_call 25; refine (HOT.out _).mono ?_; rintro e w3 ⟨rfl, hb3⟩; obtain ⟨hcl3, hfr3⟩ := kept_cells hb3; have hz3 := hb3.size; (try simp at hz3); (try (have q1 : w2.heap.size < w3.heap.size := by omega)); (try (have q2 : w2.heap.size + 1 < w3.heap.size := by omega))
                have HBL3 : Hid (Below w2.heap.size w2 w3) := by
                  show Below _ _ _
                  refine Below.trans ?_ (hb3.mono ?_)
                  · repeat (first | with_reducible exact Below.refl _ _ | with_reducible refine Below.drew ?_ | with_reducible refine Below.alloc ?_ ?_ _)
                    all_goals (first | exact Nat.le_refl _ | (simp; done) | (simp; omega))
                  · first | exact Nat.le_refl _ | (simp; done) | (simp; omega)
                try (have z7 : w3.heap[w2.heap.size]? = some (.cells #[.pointer none, .int .i64 0, .int .i64 0] 44 (0, 0)) := (hb3.block _ (by simp)).trans (heap_alloc_new w2 _); have Z7 := Lib.hid z7; clear z7)
                try (have z7 : w3.heap[w2.heap.size]? = some (.cells #[.pointer none, .int .i64 0, .int .i64 0] 44 (0, 0)) := (hb3.block _ (by simp; omega)).trans (Store.alloc2_fst w2 _ _); have Z7 := Lib.hid z7; clear z7)
                try (have z7 : w3.heap[w2.heap.size + 1]? = some (.cells #[.pointer none, .int .i64 0, .int .i64 0] 44 (0, 0)) := (hb3.block _ (by simp)).trans (Store.alloc2_snd w2 _ _); have Z7 := Lib.hid z7; clear z7)
                try (have z8 : w3.heap[w2.heap.size]? = some (.cells #[.int .u64 0, .string ⟨#[]⟩] 56 (0, 0)) := (hb3.block _ (by simp)).trans (heap_alloc_new w2 _); have Z8 := Lib.hid z8; clear z8)
                try (have z8 : w3.heap[w2.heap.size]? = some (.cells #[.int .u64 0, .string ⟨#[]⟩] 56 (0, 0)) := (hb3.block _ (by simp; omega)).trans (Store.alloc2_fst w2 _ _); have Z8 := Lib.hid z8; clear z8)
                try (have z8 : w3.heap[w2.heap.size + 1]? = some (.cells #[.int .u64 0, .string ⟨#[]⟩] 56 (0, 0)) := (hb3.block _ (by simp)).trans (Store.alloc2_snd w2 _ _); have Z8 := Lib.hid z8; clear z8)
                have HS3 := Lib.hid (HCS.out w3 HBL3.out)))
    all_goals
      have hsz3 := HBL3.out.size
      go_wp2
      go_meet
      refine ⟨_, _, rfl, rfl, ⟨?_, ?_, ?_, ?_⟩, ?_⟩
      · first | exact Nat.le_refl _ | omega
      · first | exact Nat.le_refl _ | omega
      · first
        | with_reducible exact Store.alloc2_fst _ _ _
        | with_reducible exact Store.alloc2_snd _ _ _
        | with_reducible exact Store.alloc_at2 _ _ _ _ _
        | with_reducible exact Store.alloc_keep (Store.row3 Z7.out _ _ _) _
        | with_reducible exact Store.keep2 (Store.row3 Z7.out _ _ _) (by omega) _ _
      · first
        | with_reducible exact Store.alloc2_fst _ _ _
        | with_reducible exact Store.alloc2_snd _ _ _
        | with_reducible exact Store.alloc_at3 _ _ _ _ _ _
        | with_reducible exact Store.alloc_keep (Store.row2 Z8.out _ _) _
        | with_reducible exact Store.row2 (Store.keep3 Z8.out (by omega) _ _ _) _ _
      · show Below _ _ _
        repeat (first | with_reducible exact HBL3.out | with_reducible apply Below.setCell | with_reducible apply Below.alloc)
        all_goals (first | exact hsz3 | exact Nat.le_refl _ | omega | (simp; done) | (simp; omega))
  case rest =>
    obtain ⟨P7, P8, rfl, rfl, HPP, HB3⟩ := hcut
    have HAC := Lib.hid (HA1.out.below HB3.out)
    have R5C : Hid _ := (HB3.out.block _ (Sec.lt_of_heap R52.out)).trans R52.out
    have RTC : Hid _ := (HB3.out.block _ (Sec.lt_of_heap RT2.out)).trans RT2.out
    have HO7 : Hid (D1.off P7 ∧ D1.off P8) := ⟨Sec.off_fresh HA1.out HPP.out.1, Sec.off_fresh HA1.out HPP.out.2.1⟩
    have c0 := cell_of_row _ _ 0 _ _ _ HPP.out.2.2.1
    have c1 := cell_of_row _ _ 1 _ _ _ HPP.out.2.2.1
    have c2 := cell_of_row _ _ 2 _ _ _ HPP.out.2.2.1
    have d0 := cell_of_row _ _ 0 _ _ _ HPP.out.2.2.2
    have d1 := cell_of_row _ _ 1 _ _ _ HPP.out.2.2.2
    simp only [List.getElem?_toArray, List.getElem?_cons_zero, List.getElem?_cons_succ] at c0 c1 c2 d0 d1
    go_wp2_with fail
    clear c0 c1 c2 d0 d1
    refine (HREF.out _).mono ?_
    rintro e w4 ⟨rfl, hb4⟩
    have HM4 : Hid (Store.Mx Store.no D1 D1 wc w4) := .of_below hb4
    have HA4 := Lib.hid (HAC.out.below hb4)
    clear hb4
    have r7 := HM4.out.keeps HPP.out.2.2.1 HO7.out.1 id
    have c0 := cell_of_row _ _ 0 _ _ _ r7
    have c1 := cell_of_row _ _ 1 _ _ _ r7
    have c2 := cell_of_row _ _ 2 _ _ _ r7
    simp only [List.getElem?_toArray, List.getElem?_cons_zero, List.getElem?_cons_succ] at c0 c1 c2
    clear r7
    go_wp2_with fail
    clear c0 c1 c2
    refine (HCLR.out D1 _ HDB.out HA4.out).mono ?_
    rintro e w5 ⟨rfl, D5, s5, hA5, hM5, hH5, hl5⟩
    have HM5 : Hid (Store.Mx Store.no D1 D5 wc w5) := HM4.out.trans (.of_moves hM5)
    have HA5 := Lib.hid hA5
    have HH5 := Lib.hid (And.intro hH5 hl5)
    clear hA5 hM5 hH5 hl5
    have r7 := HM5.out.keeps HPP.out.2.2.1 HO7.out.1 id
    have r8 := HM5.out.keeps HPP.out.2.2.2 HO7.out.2 id
    have c0 := cell_of_row _ _ 0 _ _ _ r7
    have c1 := cell_of_row _ _ 1 _ _ _ r7
    have c2 := cell_of_row _ _ 2 _ _ _ r7
    have d0 := cell_of_row _ _ 0 _ _ _ r8
    have d1 := cell_of_row _ _ 1 _ _ _ r8
    simp only [List.getElem?_toArray, List.getElem?_cons_zero, List.getElem?_cons_succ] at c0 c1 c2 d0 d1
    clear r7 r8
    go_wp2_with fail
    clear c0 c1 c2 d0 d1
    refine (HBEG.out D5 s5 _ (HM5.out.b.trans HDB.out) HA5.out HH5.out.1 HH5.out.2).mono ?_
    rintro e w6 ⟨D6, B6, s6, rfl, hA6, hM6, hB6, hO6, hP6, hH6, hl6⟩
    have hb56 : D5.b = D.b := HM5.out.b.trans HDB.out
    rw [hb56] at hP6
    have HM6 : Hid (Store.Mx Store.no D1 D6 wc w6) := HM5.out.trans hM6
    have HA6 := Lib.hid hA6
    have HP6 := Lib.hid hP6
    have HO6 := Lib.hid hO6
    have HH6 := Lib.hid (And.intro hH6 hl6)
    have HB6 : Hid (w5.heap.size ≤ B6) := hB6
    have r5 := HM6.out.keeps R5C.out HOF.out.1 id
    have rT := HM6.out.keeps RTC.out HOF.out.2.1 id
    have R56 := Lib.hid r5
    have RT6 := Lib.hid rT
    clear hA6 hM6 hB6 hO6 hP6 hH6 hl6 r5 rT
    rw [hb56]
    clear hb56
    have e0 := cell_of_row _ _ 0 _ _ _ R56.out
    have e1 := cell_of_row _ _ 1 _ _ _ R56.out
    have e2 := cell_of_row _ _ 2 _ _ _ R56.out
    have e3 := cell_of_row _ _ 3 _ _ _ R56.out
    have e4 := cell_of_row _ _ 4 _ _ _ R56.out
    have f0 := frozen_of_row _ _ 0 _ _ R56.out
    have f1 := frozen_of_row _ _ 1 _ _ R56.out
    have f2 := frozen_of_row _ _ 2 _ _ R56.out
    have f3 := frozen_of_row _ _ 3 _ _ R56.out
    have f4 := frozen_of_row _ _ 4 _ _ R56.out
    simp only [List.getElem?_toArray, List.getElem?_cons_zero, List.getElem?_cons_succ] at e0 e1 e2 e3 e4
    go_upto_region 14 with fail
    have hPl5 := Nat.lt_of_lt_of_le (Sec.lt_of_heap R5C.out) HM5.out.size
    have hTl5 := Nat.lt_of_lt_of_le (Sec.lt_of_heap RTC.out) HM5.out.size
    have HL5 := Lib.hid (And.intro hPl5 hTl5)
    have R57 := Lib.hid (Store.row5 R56.out (.pointer (some ⟨B6, 0, none⟩)) (.pointer (some ⟨D.b, 0, none⟩)) (.int .i64 (a' : Int)) (.int .i64 (m : Int)) (.int .u64 ((g : Int) + 1)))
    have G7 := Lib.hid (Store.grow5 w6 P (.pointer (some ⟨B6, 0, none⟩)) (.pointer (some ⟨D.b, 0, none⟩)) (.int .i64 (a' : Int)) (.int .i64 (m : Int)) (.int .u64 ((g : Int) + 1)))
    obtain ⟨w7, hw7⟩ : ∃ w7, w7 = (((((w6.setCell ⟨P, 0, none⟩ (.pointer (some ⟨B6, 0, none⟩))).setCell ⟨P, 1, none⟩ (.pointer (some ⟨D.b, 0, none⟩))).setCell ⟨P, 2, none⟩ (.int .i64 (a' : Int))).setCell ⟨P, 3, none⟩ (.int .i64 (m : Int))).setCell ⟨P, 4, none⟩ (.int .u64 ((g : Int) + 1))) := ⟨_, rfl⟩
    rw [← hw7] at R57 G7
    rw [← hw7]
    clear hw7 e0 e1 e2 e3 e4 f0 f1 f2 f3 f4 hPl5 hTl5
    have RT7 : Hid _ := (G7.out.block _ (Sec.lt_of_heap RT6.out) (fun e => HOF.out.2.2.2 (Option.some.inj e).symm)).trans RT6.out
    have e0 := cell_of_row _ _ 0 _ _ _ R57.out
    have e1 := cell_of_row _ _ 1 _ _ _ R57.out
    have e2 := cell_of_row _ _ 2 _ _ _ R57.out
    have e3 := cell_of_row _ _ 3 _ _ _ R57.out
    have e4 := cell_of_row _ _ 4 _ _ _ R57.out
    have k0 := cell_of_row _ _ 0 _ _ _ RT7.out
    have k1 := cell_of_row _ _ 1 _ _ _ RT7.out
    have k2 := cell_of_row _ _ 2 _ _ _ RT7.out
    have k3 := cell_of_row _ _ 3 _ _ _ RT7.out
    have k4 := cell_of_row _ _ 4 _ _ _ RT7.out
    have f0 := frozen_of_row _ _ 0 _ _ RT7.out
    have f1 := frozen_of_row _ _ 1 _ _ RT7.out
    have f2 := frozen_of_row _ _ 2 _ _ RT7.out
    have f3 := frozen_of_row _ _ 3 _ _ RT7.out
    have f4 := frozen_of_row _ _ 4 _ _ RT7.out
    simp only [List.getElem?_toArray, List.getElem?_cons_zero, List.getElem?_cons_succ] at e0 e1 e2 e3 e4 k0 k1 k2 k3 k4
    go_wp2_with fail
    clear e0 e1 e2 e3 e4 k0 k1 k2 k3 k4 f0 f1 f2 f3 f4
    have G8 := Lib.hid (Store.grow5 w7 T (.pointer (some ⟨B6, 0, none⟩)) (.pointer (some ⟨D.b, 0, none⟩)) (.int .i64 (a' : Int)) (.int .i64 (m : Int)) (.int .u64 ((g : Int) + 1)))
    have R8 := Lib.hid (Store.row6 RT7.out (.pointer (some ⟨B6, 0, none⟩)) (.pointer (some ⟨D.b, 0, none⟩)) (.int .i64 (a' : Int)) (.int .i64 (m : Int)) (.int .u64 ((g : Int) + 1)))
    go_ret
    have hb6 : D6.b = D.b := HM6.out.b.trans HDB.out
    have hoP := HM6.out.keep _ (Sec.lt_of_heap R5C.out) HOF.out.1
    have hoT := HM6.out.keep _ (Sec.lt_of_heap RTC.out) HOF.out.2.1
    have hPB : B6 ≠ P := by have := HB6.out; have := HL5.out.1; omega
    have hTB : T ≠ B6 := by have := HB6.out; have := HL5.out.2; omega
    have hP7 := HP6.out.keep (G7.out.block _ HP6.out.ltb (fun e => hPB (Option.some.inj e)))
    have hP8 := hP7.keep (G8.out.block _ hP7.ltb (fun e => hTB (Option.some.inj e).symm))
    have hcast : ((g : Int) + 1) = (((g + 1 : Nat)) : Int) := by omega
    have r8 := R8.out
    rw [hcast] at r8
    refine ⟨rfl, D6, B6, a', s6, ⟨Sec.at_grown (Sec.at_grown HA6.out hoP G7.out) hoT G8.out, HAE.out, by rw [hb6]; exact hP8, by rw [hb6]; exact r8, HO6.out, hoT, hTB, HH6.out.1⟩, ?_, HH6.out.2, by have := HB6.out; have := HM5.out.size; have := HB3.out.size; have := HX1.out.size; have := HBW.out.size; omega⟩
    have m1 : Store.Mx (fun j => j = B ∨ j = T) D D1 w w2 := (Store.Mx.of_below HBW.out).trans (HX1.out.mono fun _ _ h => .inl h)
    have m2 : Store.Mx (fun j => j = B ∨ j = T) D D6 w w6 := m1.trans ((Store.Mx.of_below HB3.out).trans (HM6.out.mono fun _ _ h => h.elim))
    have m3 : Store.Mx (fun j => j = B ∨ j = T) D D6 w w7 := m2.trans_new (.of_grown G7.out) (fun j hj hlt => by have : j = P := hj; have := HPW.out; omega)
    exact m3.trans_new (.of_grown G8.out) (fun j hj _ => .inr hj)
end Go.Proofs.YtpmhpibbdcifnaaGreat
end

section
namespace Go.Proofs.YtpmhpibbdcifnaaGreat
open Go.RowKit
attribute [local go_sem ↓] Go.wp_at_zero Go.wp_at_succ

theorem strm_snoc (g : Nat) (t : ByteArray) (r : List (List UInt8)) (x : ByteArray) : Store.strm (some (g, t, r)) ++ Book.frb [x] = Store.strm (some (g, t, r ++ [x.data.toList])) := by
  have e : Book.frb [x] = Book.frs [x.data.toList] := rfl
  unfold Store.strm
  rw [e, ← Book.frs_app]
  rfl
theorem strm_one (g : Nat) (t : ByteArray) : Book.frs [Store.hd g t] = Store.strm (some (g, t, [])) := rfl

theorem sopen_none (D : Sec.Bl) (s : Sec.St) (w : World) (h : Sec.At D s w) (m N : Nat) (H : Store.Halves 0 m N [] [] s) (hlim : s.loose.length ≤ 800000000) :
    Calls Tryz.prog 6 #[.pointer (some ⟨D.b, 0, none⟩)] w fun e w' => e = .returned (.tuple #[.pointer none, .string ⟨#[]⟩, .slice none 0 0, .int .i64 70]) ∧ ∃ D', Sec.At D' s w' ∧ Store.Mx Store.no D D' w w' := by
  refine (sopen D s w h m N none none H trivial trivial hlim).mono ?_
  rintro e w' ⟨D', k1, k2, k3⟩
  have e2 : (Store.bst none none 2).2 = none := rfl
  rw [e2] at k3
  exact ⟨k3, D', k1, k2⟩

/-- A disk of which half i has the store, and the other one none, or an elder one. -/
theorem sopen_at (D : Sec.Bl) (s : Sec.St) (w : World) (h : Sec.At D s w) (i m N g : Nat) (t : ByteArray) (r : List (List UInt8)) (Y : Option Store.Rec) (H : Store.Halves i m N (Store.strm (some (g, t, r))) (Store.strm Y) s) (hY : Store.gn Y < g) (h1 : Store.may (some (g, t, r))) (h2 : Store.may Y) (hlim : s.loose.length ≤ 800000000) :
    Calls Tryz.prog 6 #[.pointer (some ⟨D.b, 0, none⟩)] w fun e w' => ∃ (D' : Sec.Bl) (T B : Nat) (A : Option Addr) (c : Nat), e = .returned (.tuple #[.pointer (some ⟨T, 0, none⟩), .string t, .slice A r.length c, .int .i64 0]) ∧
      Store.Sv D' T B (i * m) i m N g (Store.strm (some (g, t, r))) (Store.strm Y) s w' ∧ Store.Mx Store.no D D' w w' ∧ w.heap.size ≤ T ∧ w.heap.size ≤ B ∧ Lies w' w'.heap.size A (tcells (r.map fun x => ⟨x.toArray⟩)) := by
  have hg : 0 < g := by omega
  have hi := H.i2
  have key : ∀ (X0 X1 : Option Store.Rec), Store.bst X0 X1 2 = (i, some (g, t, r)) → ∀ e w', Store.Opens D s m X0 X1 w e w' → ∃ (D' : Sec.Bl) (T B : Nat) (A : Option Addr) (c : Nat), e = .returned (.tuple #[.pointer (some ⟨T, 0, none⟩), .string t, .slice A r.length c, .int .i64 0]) ∧
      Store.Sv D' T B (i * m) i m N g (Store.strm (some (g, t, r))) (Store.strm Y) s w' ∧ Store.Mx Store.no D D' w w' ∧ w.heap.size ≤ T ∧ w.heap.size ≤ B ∧ Lies w' w'.heap.size A (tcells (r.map fun x => ⟨x.toArray⟩)) := by
    rintro X0 X1 hb e w' ⟨D', k1, k2, k3⟩
    rw [hb] at k3
    obtain ⟨T, B, A, c, he, a1, a2, a3, a4, a5, a6, a7, a8⟩ := k3
    refine ⟨D', T, B, A, c, he, ⟨k1, rfl, ?_, ?_, a3, a4, a5, H⟩, k2, a1, a2, a8⟩
    · rw [k2.b]; exact a6
    · rw [k2.b]; exact a7
  rcases (by omega : i = 0 ∨ i = 1) with rfl | rfl
  · refine (sopen D s w h m N (some (g, t, r)) Y H h1 h2 hlim).mono (key _ _ ?_)
    have e1 : Store.bst (some (g, t, r)) Y 1 = (0, some (g, t, r)) := Store.bst_yes (X0 := some (g, t, r)) (X1 := Y) (k := 0) hg
    rw [Store.bst_no (by rw [e1]; show ¬ g < Store.gn Y; omega), e1]
  · refine (sopen D s w h m N Y (some (g, t, r)) H.swap h2 h1 hlim).mono (key _ _ ?_)
    have e1 : Store.gn (Store.bst Y (some (g, t, r)) 1).2 ≤ Store.gn Y := by
      by_cases hp : 0 < Store.gn Y
      · rw [Store.bst_yes (X0 := Y) (X1 := some (g, t, r)) (k := 0) hp]; exact Nat.le_refl _
      · rw [Store.bst_no (X0 := Y) (X1 := some (g, t, r)) (k := 0) hp]; exact Nat.zero_le _
    rw [Store.bst_yes (by show _ < g; omega)]
    rfl

theorem scrash (D : Sec.Bl) (s : Sec.St) (w : World) (h : Sec.At D s w) (hs : s.Ok) (hlim : s.loose.length ≤ 800000000) :
    Calls Tryz.prog 14 #[.pointer (some ⟨D.b, 0, none⟩), .slice none 0 0] w fun e w' => e = .returned (.int .i64 0) ∧ ∃ D', Sec.At D' (s.crash []) w' ∧ Store.Mx Store.no D D' w w' := by
  refine (sec_crash D s w h hs none 0 [] Sec.Picks.none (Nat.zero_le _) (by omega)).mono ?_
  rintro e w' ⟨rfl, D', hA, hM⟩
  exact ⟨rfl, D', hA, .of_moves hM⟩
end Go.Proofs.YtpmhpibbdcifnaaGreat
end
