/-
  The contract of layer 7's 'alive': it is true.
-/
import Derived.Test.YtpmhpibbdcifnaaGreatLowStI
import Derived.Test.YtpmhpibbdcifnaaGreatL06A
namespace Go.Proofs.YtpmhpibbdcifnaaGreat
open Go.RowKit
attribute [local go_sem ↓] Go.wp_at_zero Go.wp_at_succ

namespace Store
theorem step {base : Nat} {X : Nat → Prop} {D D' : Sec.Bl} {s : Sec.St} {w0 w w' : World} (hb : Below base w0 w) (hA : Sec.At D s w) (hl : base ≤ D.lo) (hm : Mx X D D' w w') (hx : ∀ i, X i → base ≤ i) : Below base w0 w' ∧ base ≤ D'.lo :=
  ⟨hb.trans (hm.below hA hl hx), by rw [hm.lo]; exact hl⟩
theorem strm_len {g : Nat} {t : ByteArray} (r : List (List UInt8)) (hg : g < 18446744073709551616) (ht : t.size < 1048576) : (strm (some (g, t, r))).length ≤ 36 + t.size + (Book.frs r).length := by
  have h := hd_raw hg ht
  show (Book.frs (hd g t :: r)).length ≤ _
  rw [Book.frs_cons, List.length_append]
  omega
def tS : ByteArray := ⟨#[115]⟩
def tT : ByteArray := ⟨#[116]⟩
def tA : ByteArray := ⟨#[97]⟩
def tB : ByteArray := ⟨#[98]⟩
def tC : ByteArray := ⟨#[99]⟩
theorem frb_small {x : ByteArray} (h : x.data.toList.length = 1) : (Book.frb [x]).length ≤ 17 := by
  have e : Book.frb [x] = Frame.raw 1 x.data.toList ++ [] := rfl
  rw [e, List.append_nil]
  exact Book.raw_small h
theorem frs_small {x : ByteArray} (h : x.data.toList.length = 1) : (Book.frs [x.data.toList]).length ≤ 17 := frb_small h
theorem may1 {g : Nat} {t : ByteArray} {r : List (List UInt8)} (h1 : 1 ≤ g) (h2 : g ≤ 5) (h3 : t.size = 1) (h4 : ∀ x ∈ r, x.length = 1) : may (some (g, t, r)) :=
  ⟨h1, by omega, by omega, fun x hx => by rw [h4 x hx]; omega⟩
theorem one_max {x : ByteArray} (h : x.size = 1) : ∀ y ∈ [x], y.size ≤ maxLen := fun y hy => by rw [List.mem_singleton.1 hy, h]; unfold maxLen; omega
end Store

set_option maxHeartbeats 4000000 in
set_option maxRecDepth 20000 in
theorem alive7_any (w : World) :
    Calls Tryz.prog 5 #[] w fun e w' => e = .returned (.bool true) ∧ Below w.heap.size w w' := by
  have HNEW : Hid (Calls Tryz.prog 13 #[.int .i64 6] w fun e w' => ∃ D : Sec.Bl, e = .returned (.tuple #[.pointer (some ⟨D.b, 0, none⟩), .int .i64 0]) ∧ Sec.At D (Sec.St.fresh 6) w' ∧ Below w.heap.size w w' ∧ D.lo = w.heap.size) := sec_new 6 w (by omega) (by omega)
  have HH0 : Hid (Store.Halves 0 3 6 [] [] (Sec.St.fresh 6)) := Store.Halves.fresh (by omega) (by omega) (by omega)
  have HL0 : Hid ((Sec.St.fresh 6).loose = []) := rfl
  generalize Sec.St.fresh 6 = s0 at HNEW HH0 HL0
  go_enter Tryz.func5, Tryz.ntmps5
  go_wp2_with fail
  refine HNEW.out.mono ?_
  rintro e w1 ⟨D0, rfl, hA, hb1, hlo⟩
  obtain ⟨p, hp⟩ : ∃ p, p = D0.b := ⟨_, rfl⟩
  rw [← hp]
  have HA1 := Lib.hid hA
  have HB1 : Hid (Below w.heap.size w w1 ∧ w.heap.size ≤ D0.lo) := ⟨hb1, by omega⟩
  have HP1 : Hid (D0.b = p) := hp.symm
  clear hA hb1 hlo hp HNEW
  -- Open: nothing
  have HC : Hid (Calls Tryz.prog 6 #[.pointer (some ⟨p, 0, none⟩)] w1 fun e w' => e = .returned (.tuple #[.pointer none, .string ⟨#[]⟩, .slice none 0 0, .int .i64 70]) ∧ ∃ D', Sec.At D' s0 w' ∧ Store.Mx Store.no D0 D' w1 w') := by
    have := sopen_none D0 s0 w1 HA1.out 3 6 HH0.out (by rw [HL0.out]; simp)
    rw [HP1.out] at this
    exact this
  go_wp2_with fail
  refine HC.out.mono ?_
  rintro e w2 ⟨rfl, D2, hA, hM⟩
  have HB2 := Lib.hid (Store.step HB1.out.1 HA1.out HB1.out.2 hM (fun _ h => h.elim))
  have HP2 : Hid (D2.b = p) := hM.b.trans HP1.out
  have HA2 := Lib.hid hA
  clear hA hM HC HA1 HP1
  -- Make
  have HC : Hid (Calls Tryz.prog 7 #[.pointer (some ⟨p, 0, none⟩), .string Store.tS] w2 fun e w' => e = .returned (.int .i64 0) ∧ ∃ D' s', Sec.At D' s' w' ∧ Store.Mx Store.no D2 D' w2 w' ∧ Store.Halves 0 3 6 (Store.strm (some (1, Store.tS, []))) (Store.strm none) s' ∧ s'.loose = []) := by
    have := smake D2 s0 w2 HA2.out 3 6 [] [] HH0.out (by rw [HL0.out]; simp) Store.tS (by decide) (by have := Store.hd_raw (g := 1) (t := Store.tS) (by omega) (by decide); have e : Store.tS.size = 1 := rfl; omega)
    rw [HP2.out] at this
    exact this
  go_wp2_with fail
  refine HC.out.mono ?_
  rintro e w3 ⟨rfl, D3, s3, hA, hM, hH, hl⟩
  have HB3 := Lib.hid (Store.step HB2.out.1 HA2.out HB2.out.2 hM (fun _ h => h.elim))
  have HP3 : Hid (D3.b = p) := hM.b.trans HP2.out
  have HA3 := Lib.hid hA
  have HH3 := Lib.hid (And.intro hH hl)
  clear hA hM hH hl HC HA2 HP2 HH0 HL0
  -- Open
  have HC : Hid (Calls Tryz.prog 6 #[.pointer (some ⟨p, 0, none⟩)] w3 fun e w' => ∃ (D' : Sec.Bl) (T B : Nat) (A : Option Addr) (c : Nat), e = .returned (.tuple #[.pointer (some ⟨T, 0, none⟩), .string Store.tS, .slice A 0 c, .int .i64 0]) ∧
      Store.Sv D' T B (0 * 3) 0 3 6 1 (Store.strm (some (1, Store.tS, []))) (Store.strm none) s3 w' ∧ Store.Mx Store.no D3 D' w3 w' ∧ w3.heap.size ≤ T ∧ w3.heap.size ≤ B ∧ Lies w' w'.heap.size A (tcells [])) := by
    have := sopen_at D3 s3 w3 HA3.out 0 3 6 1 Store.tS [] none HH3.out.1 (by decide) (Store.may1 (by omega) (by omega) rfl (by simp)) trivial (by rw [HH3.out.2]; simp)
    rw [HP3.out] at this
    exact this
  go_wp2_with fail
  refine HC.out.mono ?_
  rintro e w4 ⟨D4, T, B, A, c, rfl, hS, hM, hT, hB, _⟩
  have HB4 := Lib.hid (Store.step HB3.out.1 HA3.out HB3.out.2 hM (fun _ h => h.elim))
  have HP4 : Hid (D4.b = p) := hM.b.trans HP3.out
  have HS4 := Lib.hid hS
  have HTB : Hid (w.heap.size ≤ T ∧ w.heap.size ≤ B) := by have := HB3.out.1.size; exact ⟨by omega, by omega⟩
  clear hS hM hT hB HC HA3 HP3
  have hts : (Store.tS.toList == [115]) = true := by rw [Lib.toList_data]; rfl
  have HC : Hid (Calls Tryz.prog 11 #[.pointer (some ⟨T, 0, none⟩)] w4 fun e w' => e = .returned (.int .u64 1) ∧ Below w4.heap.size w4 w') := sgen_ok HS4.out
  go_wp2_with fail
  refine HC.out.mono ?_
  rintro e w5 ⟨rfl, hb⟩
  have HS5 := Lib.hid (HS4.out.below hb)
  have HB5 : Hid (Below w.heap.size w w5 ∧ w.heap.size ≤ D4.lo) := ⟨HB4.out.1.trans (hb.mono HB4.out.1.size), HB4.out.2⟩
  clear hb HC hts HS4
  have hl0 := Store.strm_len (g := 1) (t := Store.tS) [] (by omega) (by decide)
  have hsz : Store.tS.size = 1 := rfl
  have hf0 : (Book.frs []).length = 0 := rfl
  have HL0 : Hid ((Store.strm (some (1, Store.tS, []))).length ≤ 37) := by show _ ≤ _; omega
  clear hl0 hsz hf0
  -- Append a
  have HAL : Hid (Below w5.heap.size w5 (w5.alloc (.cells #[.string Store.tA] 9))) := (Below.refl _ _).alloc (Nat.le_refl _) _
  have HC : Hid (Calls Tryz.prog 8 #[.pointer (some ⟨T, 0, none⟩), .slice (some ⟨w5.heap.size, 0, none⟩) 1 1] (w5.alloc (.cells #[.string Store.tA] 9)) fun e w' => e = .returned (.int .i64 0) ∧ ∃ D' s', Store.Sv D' T B (0 * 3) 0 3 6 1 (Store.strm (some (1, Store.tS, [[97]]))) (Store.strm none) s' w' ∧
      Store.Mx (fun i => i = B) D4 D' (w5.alloc (.cells #[.string Store.tA] 9)) w' ∧ s'.good = s3.good ∧ s'.loose.length ≤ s3.loose.length + 3) := by
    have := sappend_ok (HS5.out.below HAL.out) (by rw [HH3.out.2]; simp) [Store.tA] (some ⟨w5.heap.size, 0, none⟩) 1 (by simp [maxLen]) (Store.one_max rfl) (Book.one_lies w5 _) rfl (by have := HL0.out; have := Store.frb_small (x := Store.tA) rfl; omega)
    rw [strm_snoc] at this
    exact this
  go_wp2_with fail
  refine HC.out.mono ?_
  rintro e w6 ⟨rfl, D6, s6, hS, hM, hg, hl⟩
  have HB6 := Lib.hid (Store.step (HB5.out.1.trans (HAL.out.mono HB5.out.1.size)) (HS5.out.below HAL.out).hA HB5.out.2 hM (fun i h => by rw [show i = B from h]; exact HTB.out.2))
  have HP6 : Hid (D6.b = p) := hM.b.trans HP4.out
  have HS6 := Lib.hid hS
  have HLO6 : Hid (s6.loose.length ≤ 3) := by show _ ≤ _; rw [HH3.out.2] at hl; simpa using hl
  clear hS hM hg hl HC HAL HS5 HP4
  -- Sync
  have HC := Lib.hid (ssync_ok HS6.out (by have := HLO6.out; omega))
  go_wp2_with fail
  refine HC.out.mono ?_
  rintro e w7 ⟨rfl, D7, s7, hS, hM, hl⟩
  have HB7 := Lib.hid (Store.step HB6.out.1 HS6.out.hA HB6.out.2 hM (fun i h => by rw [show i = B from h]; exact HTB.out.2))
  have HP7 : Hid (D7.b = p) := hM.b.trans HP6.out
  have HS7 := Lib.hid hS
  have HLO7 := Lib.hid hl
  clear hS hM hl HC HS6 HP6 HLO6
  -- Append b
  have hl1 := Store.strm_len (g := 1) (t := Store.tS) [[97]] (by omega) (by decide)
  have hsz : Store.tS.size = 1 := rfl
  have hf0 := Store.frs_small (x := Store.tA) rfl
  have HL1 : Hid ((Store.strm (some (1, Store.tS, [[97]]))).length ≤ 54) := by show _ ≤ _; have : (Book.frs [[97]]).length ≤ 17 := hf0; omega
  clear hl1 hsz hf0
  have HAL : Hid (Below w7.heap.size w7 (w7.alloc (.cells #[.string Store.tB] 9))) := (Below.refl _ _).alloc (Nat.le_refl _) _
  have HC : Hid (Calls Tryz.prog 8 #[.pointer (some ⟨T, 0, none⟩), .slice (some ⟨w7.heap.size, 0, none⟩) 1 1] (w7.alloc (.cells #[.string Store.tB] 9)) fun e w' => e = .returned (.int .i64 0) ∧ ∃ D' s', Store.Sv D' T B (0 * 3) 0 3 6 1 (Store.strm (some (1, Store.tS, [[97], [98]]))) (Store.strm none) s' w' ∧
      Store.Mx (fun i => i = B) D7 D' (w7.alloc (.cells #[.string Store.tB] 9)) w' ∧ s'.good = s7.good ∧ s'.loose.length ≤ s7.loose.length + 3) := by
    have := sappend_ok (HS7.out.below HAL.out) (by rw [HLO7.out]; simp) [Store.tB] (some ⟨w7.heap.size, 0, none⟩) 1 (by simp [maxLen]) (Store.one_max rfl) (Book.one_lies w7 _) rfl (by have := HL1.out; have := Store.frb_small (x := Store.tB) rfl; omega)
    rw [strm_snoc] at this
    exact this
  go_wp2_with fail
  refine HC.out.mono ?_
  rintro e w8 ⟨rfl, D8, s8, hS, hM, hg, hl⟩
  have HB8 := Lib.hid (Store.step (HB7.out.1.trans (HAL.out.mono HB7.out.1.size)) (HS7.out.below HAL.out).hA HB7.out.2 hM (fun i h => by rw [show i = B from h]; exact HTB.out.2))
  have HP8 : Hid (D8.b = p) := hM.b.trans HP7.out
  have HS8 := Lib.hid hS
  have HLO8 : Hid (s8.loose.length ≤ 3) := by show _ ≤ _; rw [HLO7.out] at hl; simpa using hl
  have HH9 : Hid (Store.Halves 0 3 6 (Store.strm (some (1, Store.tS, [[97]]))) (Store.strm none) (s8.crash []) ∧ (s8.crash []).loose = []) := ⟨Store.Halves.crash hS.hh.here.ok hS.hh.nn HS7.out.hh HLO7.out hg, rfl⟩
  clear hS hM hg hl HC HAL HS7 HP7
  -- Crash
  have HC : Hid (Calls Tryz.prog 14 #[.pointer (some ⟨p, 0, none⟩), .slice none 0 0] w8 fun e w' => e = .returned (.int .i64 0) ∧ ∃ D', Sec.At D' (s8.crash []) w' ∧ Store.Mx Store.no D8 D' w8 w') := by
    have := scrash D8 s8 w8 HS8.out.hA HS8.out.hh.here.ok (by have := HLO8.out; omega)
    rw [HP8.out] at this
    exact this
  generalize s8.crash [] = s9 at HC HH9
  go_wp2_with fail
  refine HC.out.mono ?_
  rintro e w9 ⟨rfl, D9, hA, hM⟩
  have HB9 := Lib.hid (Store.step HB8.out.1 HS8.out.hA HB8.out.2 hM (fun _ h => h.elim))
  have HP9 : Hid (D9.b = p) := hM.b.trans HP8.out
  have HA9 := Lib.hid hA
  clear hA hM HC HS8 HP8 HLO8 HLO7
  -- Open
  have HC : Hid (Calls Tryz.prog 6 #[.pointer (some ⟨p, 0, none⟩)] w9 fun e w' => ∃ (D' : Sec.Bl) (T B : Nat) (A : Option Addr) (c : Nat), e = .returned (.tuple #[.pointer (some ⟨T, 0, none⟩), .string Store.tS, .slice A 1 c, .int .i64 0]) ∧
      Store.Sv D' T B (0 * 3) 0 3 6 1 (Store.strm (some (1, Store.tS, [[97]]))) (Store.strm none) s9 w' ∧ Store.Mx Store.no D9 D' w9 w' ∧ w9.heap.size ≤ T ∧ w9.heap.size ≤ B ∧ Lies w' w'.heap.size A (tcells [Store.tA])) := by
    have := sopen_at D9 s9 w9 HA9.out 0 3 6 1 Store.tS [[97]] none HH9.out.1 (by decide) (Store.may1 (by omega) (by omega) rfl (by simp)) trivial (by rw [HH9.out.2]; simp)
    rw [HP9.out] at this
    exact this
  go_wp2_with fail
  refine HC.out.mono ?_
  rintro e w10 ⟨D10, T2, B2, A2, c2, rfl, hS, hM, hT, hB, hli⟩
  have HB10 := Lib.hid (Store.step HB9.out.1 HA9.out HB9.out.2 hM (fun _ h => h.elim))
  have HP10 : Hid (D10.b = p) := hM.b.trans HP9.out
  have HS10 := Lib.hid hS
  have HTB2 : Hid (w.heap.size ≤ T2 ∧ w.heap.size ≤ B2) := by have := HB9.out.1.size; exact ⟨by omega, by omega⟩
  have HLI := Lib.hid hli
  clear hS hM hT hB hli HC HA9 HP9
  -- Texts
  have HAL : Hid (Below w10.heap.size w10 (w10.alloc (.cells #[.string Store.tA] 9))) := (Below.refl _ _).alloc (Nat.le_refl _) _
  have HC : Hid (Calls Tryz.prog 15 #[.slice A2 1 c2, .slice (some ⟨w10.heap.size, 0, none⟩) 1 1] (w10.alloc (.cells #[.string Store.tA] 9)) fun e w' => e = .returned (.bool true) ∧ Below (w10.alloc (.cells #[.string Store.tA] 9)).heap.size (w10.alloc (.cells #[.string Store.tA] 9)) w') := by
    have := ktexts [Store.tA] [Store.tA] A2 (some ⟨w10.heap.size, 0, none⟩) c2 1 _ ((Lies.below HLI.out HAL.out).mono HAL.out.size) (Book.one_lies w10 _) (by simp [maxLen]) (by simp [maxLen])
    have e : decide ([Store.tA] = [Store.tA]) = true := by simp
    rw [e] at this
    exact this
  go_wp2_with fail
  refine HC.out.mono ?_
  rintro e w11 ⟨rfl, hb⟩
  have HS11 := Lib.hid ((HS10.out.below HAL.out).below hb)
  have HB11 : Hid (Below w.heap.size w w11 ∧ w.heap.size ≤ D10.lo) := ⟨(HB10.out.1.trans (HAL.out.mono HB10.out.1.size)).trans (hb.mono (Nat.le_trans HB10.out.1.size HAL.out.size)), HB10.out.2⟩
  clear hb HC HAL HS10 HLI
  -- Trim
  have HC : Hid (Calls Tryz.prog 10 #[.pointer (some ⟨T2, 0, none⟩), .string Store.tT] w11 fun e w' => e = .returned (.int .i64 0) ∧ ∃ D' B' a' s', Store.Sv D' T2 B' a' 1 3 6 2 (Store.strm (some (2, Store.tT, []))) (Store.strm (some (1, Store.tS, [[97]]))) s' w' ∧ Store.Mx (fun j => j = B2 ∨ j = T2) D10 D' w11 w' ∧ s'.loose = [] ∧ w11.heap.size ≤ B') :=
    strim HS11.out (by rw [HH9.out.2]; simp) Store.tT (by decide) (by omega) (by have := Store.hd_raw (g := 1 + 1) (t := Store.tT) (by omega) (by decide); have e : Store.tT.size = 1 := rfl; omega)
  go_wp2_with fail
  refine HC.out.mono ?_
  rintro e w12 ⟨rfl, D12, B3, a3, s12, hS, hM, hl, hB3⟩
  have HB12 := Lib.hid (Store.step HB11.out.1 HS11.out.hA HB11.out.2 hM (fun i h => by
    rcases h with h | h
    · rw [h]; exact HTB2.out.2
    · rw [h]; exact HTB2.out.1))
  have HP12 : Hid (D12.b = p) := hM.b.trans HP10.out
  have HS12 := Lib.hid hS
  have HLO12 := Lib.hid hl
  have HTB3 : Hid (w.heap.size ≤ B3) := Nat.le_trans HB11.out.1.size hB3
  clear hS hM hl hB3 HC HS11 HP10 HH9
  -- Append c
  have hl0 := Store.strm_len (g := 2) (t := Store.tT) [] (by omega) (by decide)
  have hsz : Store.tT.size = 1 := rfl
  have hf0 : (Book.frs []).length = 0 := rfl
  have HL2 : Hid ((Store.strm (some (2, Store.tT, []))).length ≤ 37) := by show _ ≤ _; omega
  clear hl0 hsz hf0
  have HAL : Hid (Below w12.heap.size w12 (w12.alloc (.cells #[.string Store.tC] 9))) := (Below.refl _ _).alloc (Nat.le_refl _) _
  have HC : Hid (Calls Tryz.prog 8 #[.pointer (some ⟨T2, 0, none⟩), .slice (some ⟨w12.heap.size, 0, none⟩) 1 1] (w12.alloc (.cells #[.string Store.tC] 9)) fun e w' => e = .returned (.int .i64 0) ∧ ∃ D' s', Store.Sv D' T2 B3 a3 1 3 6 2 (Store.strm (some (2, Store.tT, [[99]]))) (Store.strm (some (1, Store.tS, [[97]]))) s' w' ∧
      Store.Mx (fun i => i = B3) D12 D' (w12.alloc (.cells #[.string Store.tC] 9)) w' ∧ s'.good = s12.good ∧ s'.loose.length ≤ s12.loose.length + 3) := by
    have := sappend_ok (HS12.out.below HAL.out) (by rw [HLO12.out]; simp) [Store.tC] (some ⟨w12.heap.size, 0, none⟩) 1 (by simp [maxLen]) (Store.one_max rfl) (Book.one_lies w12 _) rfl (by have := HL2.out; have := Store.frb_small (x := Store.tC) rfl; omega)
    rw [strm_snoc] at this
    exact this
  go_wp2_with fail
  refine HC.out.mono ?_
  rintro e w13 ⟨rfl, D13, s13, hS, hM, hg, hl⟩
  have HB13 := Lib.hid (Store.step (HB12.out.1.trans (HAL.out.mono HB12.out.1.size)) (HS12.out.below HAL.out).hA HB12.out.2 hM (fun i h => by rw [show i = B3 from h]; exact HTB3.out))
  have HP13 : Hid (D13.b = p) := hM.b.trans HP12.out
  have HS13 := Lib.hid hS
  have HLO13 : Hid (s13.loose.length ≤ 3) := by show _ ≤ _; rw [HLO12.out] at hl; simpa using hl
  clear hS hM hg hl HC HAL HS12 HP12
  -- Sync
  have HC := Lib.hid (ssync_ok HS13.out (by have := HLO13.out; omega))
  go_wp2_with fail
  refine HC.out.mono ?_
  rintro e w14 ⟨rfl, D14, s14, hS, hM, hl⟩
  have HB14 := Lib.hid (Store.step HB13.out.1 HS13.out.hA HB13.out.2 hM (fun i h => by rw [show i = B3 from h]; exact HTB3.out))
  have HP14 : Hid (D14.b = p) := hM.b.trans HP13.out
  have HS14 := Lib.hid hS
  have HLO14 := Lib.hid hl
  have HH15 : Hid (Store.Halves 1 3 6 (Store.strm (some (2, Store.tT, [[99]]))) (Store.strm (some (1, Store.tS, [[97]]))) (s14.crash []) ∧ (s14.crash []).loose = []) := ⟨Store.Halves.crash hS.hh.here.ok hS.hh.nn hS.hh hl rfl, rfl⟩
  clear hS hM hl HC HS13 HP13 HLO13
  -- Crash
  have HC : Hid (Calls Tryz.prog 14 #[.pointer (some ⟨p, 0, none⟩), .slice none 0 0] w14 fun e w' => e = .returned (.int .i64 0) ∧ ∃ D', Sec.At D' (s14.crash []) w' ∧ Store.Mx Store.no D14 D' w14 w') := by
    have := scrash D14 s14 w14 HS14.out.hA HS14.out.hh.here.ok (by rw [HLO14.out]; simp)
    rw [HP14.out] at this
    exact this
  generalize s14.crash [] = s15 at HC HH15
  go_wp2_with fail
  refine HC.out.mono ?_
  rintro e w15 ⟨rfl, D15, hA, hM⟩
  have HB15 := Lib.hid (Store.step HB14.out.1 HS14.out.hA HB14.out.2 hM (fun _ h => h.elim))
  have HP15 : Hid (D15.b = p) := hM.b.trans HP14.out
  have HA15 := Lib.hid hA
  clear hA hM HC HS14 HP14 HLO14
  -- Open
  have HC : Hid (Calls Tryz.prog 6 #[.pointer (some ⟨p, 0, none⟩)] w15 fun e w' => ∃ (D' : Sec.Bl) (T B : Nat) (A : Option Addr) (c : Nat), e = .returned (.tuple #[.pointer (some ⟨T, 0, none⟩), .string Store.tT, .slice A 1 c, .int .i64 0]) ∧
      Store.Sv D' T B (1 * 3) 1 3 6 2 (Store.strm (some (2, Store.tT, [[99]]))) (Store.strm (some (1, Store.tS, [[97]]))) s15 w' ∧ Store.Mx Store.no D15 D' w15 w' ∧ w15.heap.size ≤ T ∧ w15.heap.size ≤ B ∧ Lies w' w'.heap.size A (tcells [Store.tC])) := by
    have := sopen_at D15 s15 w15 HA15.out 1 3 6 2 Store.tT [[99]] (some (1, Store.tS, [[97]])) HH15.out.1 (by show 1 < 2; omega) (Store.may1 (by omega) (by omega) rfl (by simp)) (Store.may1 (by omega) (by omega) rfl (by simp)) (by rw [HH15.out.2]; simp)
    rw [HP15.out] at this
    exact this
  go_wp2_with fail
  refine HC.out.mono ?_
  rintro e w16 ⟨D16, T4, B4, A4, c4, rfl, hS, hM, hT, hB, hli⟩
  have HB16 := Lib.hid (Store.step HB15.out.1 HA15.out HB15.out.2 hM (fun _ h => h.elim))
  have HS16 := Lib.hid hS
  have HLI := Lib.hid hli
  clear hS hM hT hB hli HC HA15 HP15
  have htt : (Store.tT.toList == [116]) = true := by rw [Lib.toList_data]; rfl
  -- Texts
  have HAL : Hid (Below w16.heap.size w16 (w16.alloc (.cells #[.string Store.tC] 9))) := (Below.refl _ _).alloc (Nat.le_refl _) _
  have HC : Hid (Calls Tryz.prog 15 #[.slice A4 1 c4, .slice (some ⟨w16.heap.size, 0, none⟩) 1 1] (w16.alloc (.cells #[.string Store.tC] 9)) fun e w' => e = .returned (.bool true) ∧ Below (w16.alloc (.cells #[.string Store.tC] 9)).heap.size (w16.alloc (.cells #[.string Store.tC] 9)) w') := by
    have := ktexts [Store.tC] [Store.tC] A4 (some ⟨w16.heap.size, 0, none⟩) c4 1 _ ((Lies.below HLI.out HAL.out).mono HAL.out.size) (Book.one_lies w16 _) (by simp [maxLen]) (by simp [maxLen])
    have e : decide ([Store.tC] = [Store.tC]) = true := by simp
    rw [e] at this
    exact this
  go_wp2_with fail
  refine HC.out.mono ?_
  rintro e w17 ⟨rfl, hb⟩
  have HS17 := Lib.hid ((HS16.out.below HAL.out).below hb)
  have HB17 : Hid (Below w.heap.size w w17) := (HB16.out.1.trans (HAL.out.mono HB16.out.1.size)).trans (hb.mono (Nat.le_trans HB16.out.1.size HAL.out.size))
  clear hb HC HAL HS16 HLI
  have HC : Hid (Calls Tryz.prog 11 #[.pointer (some ⟨T4, 0, none⟩)] w17 fun e w' => e = .returned (.int .u64 2) ∧ Below w17.heap.size w17 w') := sgen_ok HS17.out
  go_wp2_with fail
  refine HC.out.mono ?_
  rintro e w18 ⟨rfl, hb⟩
  have HB18 := Lib.hid (HB17.out.trans (hb.mono HB17.out.size))
  clear hb HC
  go_wp2_with fail
  go_ret
  exact ⟨rfl, HB18.out⟩
end Go.Proofs.YtpmhpibbdcifnaaGreat
