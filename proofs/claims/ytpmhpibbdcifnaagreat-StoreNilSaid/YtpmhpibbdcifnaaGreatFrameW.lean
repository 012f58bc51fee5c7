/-
  Contracts of frame.Write and frame.Size.
-/
import Derived.Test.YtpmhpibbdcifnaaGreatLowJoin
import Derived.Test.YtpmhpibbdcifnaaGreatLowFrameRef
import Derived.Test.YtpmhpibbdcifnaaGreatLowSum
import Derived.Test.YtpmhpibbdcifnaaGreatLowNum
namespace Go.Proofs.YtpmhpibbdcifnaaGreat
open Go.RowKit

theorem lies_one (W : World) (B : Nat) (x : ByteArray) (h : W.cell? ⟨B, 0, none⟩ = some (.string x)) (hB : B < W.heap.size) : Lies W W.heap.size (some ⟨B, 0, none⟩) (tcells [x]) := fun _ =>
  ⟨_, rfl, hB, fun j u hu => by
    have : j = 0 := by have := (List.getElem?_eq_some_iff.1 hu).1; simp [tcells] at this; exact this
    subst this
    rw [show tcells [x] = [.string x] from rfl] at hu
    cases hu
    exact h⟩

theorem lies_two (W : World) (B : Nat) (x y : ByteArray) (h : W.cell? ⟨B, 0, none⟩ = some (.string x)) (h' : W.cell? ⟨B, 1, none⟩ = some (.string y)) (hB : B < W.heap.size) : Lies W W.heap.size (some ⟨B, 0, none⟩) (tcells [x, y]) := fun _ =>
  ⟨_, rfl, hB, fun j u hu => by
    have : j = 0 ∨ j = 1 := by have := (List.getElem?_eq_some_iff.1 hu).1; simp [tcells] at this; omega
    rw [show tcells [x, y] = [.string x, .string y] from rfl] at hu
    rcases this with rfl | rfl
    · cases hu; exact h
    · cases hu; exact h'⟩

theorem Frame.conv_behind {w w1 : World} {x : Int} (hb : Below (w.alloc (.cells #[.int .u8 1, .int .u8 x] 5)).drew.heap.size (w.alloc (.cells #[.int .u8 1, .int .u8 x] 5)).drew w1) (o : Obj) :
    (convert 94 9 (.slice (some ⟨w.heap.size, 0, none⟩) 2 2)).run Tryz.prog (w1.alloc o) = .ok (.string ⟨#[UInt8.ofNat (1 : Int).toNat, UInt8.ofNat x.toNat]⟩) (w1.alloc o) := by
  obtain ⟨hcl, _⟩ := kept_cells hb
  have hz := hb.size
  have hz' : w.heap.size + 1 ≤ w1.heap.size := by simpa using hz
  refine conv_two _ _ 1 x ?_ ?_
  · rw [World.cell?_alloc_lt _ _ _ (show w.heap.size < w1.heap.size by omega), hcl _ _ (by simp)]
    simp [go_sem]
  · rw [World.cell?_alloc_lt _ _ _ (show w.heap.size < w1.heap.size by omega), hcl _ _ (by simp)]
    simp [go_sem]

theorem Frame.conv_behind2 {w w1 w2 : World} {x : Int} {o : Obj} (hb : Below (w.alloc (.cells #[.int .u8 1, .int .u8 x] 5)).drew.heap.size (w.alloc (.cells #[.int .u8 1, .int .u8 x] 5)).drew w1)
    (hb2 : Below (w1.alloc o).heap.size (w1.alloc o) w2) :
    (convert 94 9 (.slice (some ⟨w.heap.size, 0, none⟩) 2 2)).run Tryz.prog w2 = .ok (.string ⟨#[UInt8.ofNat (1 : Int).toNat, UInt8.ofNat x.toNat]⟩) w2 := by
  obtain ⟨hcl, _⟩ := kept_cells hb
  obtain ⟨hcl2, _⟩ := kept_cells hb2
  have hz := hb.size
  have hz' : w.heap.size + 1 ≤ w1.heap.size := by simpa using hz
  refine conv_two _ _ 1 x ?_ ?_
  · rw [hcl2 _ _ (by simp; omega), World.cell?_alloc_lt _ _ _ (show w.heap.size < w1.heap.size by omega), hcl _ _ (by simp)]
    simp [go_sem]
  · rw [hcl2 _ _ (by simp; omega), World.cell?_alloc_lt _ _ _ (show w.heap.size < w1.heap.size by omega), hcl _ _ (by simp)]
    simp [go_sem]

theorem Frame.conv_at {V w2 : World} (B : Nat) (x : Int) (hb2 : Below V.heap.size V w2) (h0 : V.cell? ⟨B, 0, none⟩ = some (.int .u8 1)) (h1 : V.cell? ⟨B, 1, none⟩ = some (.int .u8 x)) (hB : B < V.heap.size) :
    (convert 94 9 (.slice (some ⟨B, 0, none⟩) 2 2)).run Tryz.prog w2 = .ok (.string ⟨#[UInt8.ofNat (1 : Int).toNat, UInt8.ofNat x.toNat]⟩) w2 := by
  obtain ⟨hcl2, _⟩ := kept_cells hb2
  exact conv_two _ _ 1 x ((hcl2 _ _ hB).trans h0) ((hcl2 _ _ hB).trans h1)

theorem tBytes_one (x : ByteArray) : tBytes [x] = Lib.uvarint x.size ++ x.data.toList := by
  unfold tBytes; simp

theorem mk_list (l : List UInt8) : (⟨l.toArray⟩ : ByteArray).data.toList = l := rfl

/-- How many bytes a frame of a text of so many bytes has. -/
def Frame.fsz (n : Int) : Int := if n < 0 ∨ 131072 < n then 0 else 2 + ((Lib.uvarint n.toNat).length : Int) + n + 4

set_option maxRecDepth 20000 in
set_option maxHeartbeats 1000000 in
/-- frame.Size -/
theorem fsize_any (n : Int) (w : World) (h0 : -9223372036854775808 ≤ n) (h1 : n ≤ 9223372036854775807) :
    Calls Tryz.prog 34 #[.int .i64 n] w fun e w' => e = .returned (.int .i64 (Frame.fsz n)) ∧ w = w' := by
  by_cases a : n < 0
  · have HF : Hid (Frame.fsz n = 0) := by show _ = _; unfold Frame.fsz; rw [if_pos (.inl a)]
    go_enter Tryz.func34, Tryz.ntmps34
    go_wp2
    go_ret
    exact ⟨by rw [HF.out]; rfl, rfl⟩
  · by_cases b : 131072 < n
    · have HF : Hid (Frame.fsz n = 0) := by show _ = _; unfold Frame.fsz; rw [if_pos (.inr b)]
      go_enter Tryz.func34, Tryz.ntmps34
      go_wp2
      go_ret
      exact ⟨by rw [HF.out]; rfl, rfl⟩
    · have HF : Hid (Frame.fsz n = 2 + ((Lib.uvarint n.toNat).length : Int) + n + 4) := by show _ = _; unfold Frame.fsz; rw [if_neg (by omega)]
      have hlen := Lib.uvarint_length64 (x := n.toNat) (by omega)
      have a0 : 0 ≤ n := by omega
      have b0 : n ≤ 131072 := by omega
      have hl10 : ((Lib.uvarint n.toNat).length : Int) ≤ 10 := by omega
      go_enter Tryz.func34, Tryz.ntmps34
      go_wp2_with fail
      refine (size_any n _ (by omega) (by omega)).mono ?_
      rintro e w' ⟨rfl, rfl⟩
      go_wp2_with fail
      go_ret
      exact ⟨by rw [HF.out]; rfl, rfl⟩

set_option maxRecDepth 20000 in
set_option maxHeartbeats 2000000 in
theorem fwrite_tail (tag : UInt8) (xs : List ByteArray) (A : Option Addr) (c : Nat) (w : World) (hl : Lies w w.heap.size A (tcells xs)) (hn : xs.length ≤ maxLen) (hc : xs.length ≤ c) (hs : (catL xs).length ≤ 131072) :
    Calls Tryz.prog 64 #[.int .u8 (tag.toNat : Int), .slice A xs.length c] w fun e w' => e = .returned (.tuple #[.string ⟨(Frame.raw tag (catL xs)).toArray⟩, .int .i64 0]) ∧ Below w.heap.size w w' := by
  have hm := hn
  unfold maxLen at hm
  have HL := Lib.hid hl
  have HLE := Lib.hid (catL_le xs)
  have HN := Lib.hid hn
  clear hn
  have hlen := Lib.uvarint_length64 (x := (catL xs).length) (by omega)
  have hJ : ∀ W, Below w.heap.size w W → Calls Tryz.prog 91 #[.slice A xs.length c, .string ⟨#[]⟩] W fun e w' => e = .returned (.string ⟨(catL xs).toArray⟩) ∧ Below W.heap.size W w' := fun W hb =>
    sjoin_any xs A c W ((HL.out.below hb).mono hb.size) HN.out hc (by omega)
  have HJ := Lib.hid hJ
  have hcv := fun b W => conv_two W b 1 (tag.toNat : Int)
  have HB := Lib.hid (show (⟨#[1, tag]⟩ : ByteArray) ++ ⟨(Lib.uvarint (catL xs).length ++ catL xs).toArray⟩ = ⟨(Frame.hd tag (catL xs)).toArray⟩ from Frame.hd_bytes tag ⟨(catL xs).toArray⟩)
  have HR := Lib.hid (Frame.raw_bytes tag (catL xs))
  have hT : ∀ (W : World) (B : Nat), W.cell? ⟨B, 0, none⟩ = some (.string ⟨(catL xs).toArray⟩) → B < W.heap.size → Calls Tryz.prog 60 #[.slice (some ⟨B, 0, none⟩) 1 1] W fun e w' => e = .returned (.string ⟨(Lib.uvarint (catL xs).length ++ catL xs).toArray⟩) ∧ Below W.heap.size W w' := fun W B h hB => by
    have := texts_big [⟨(catL xs).toArray⟩] (some ⟨B, 0, none⟩) 1 W (lies_one W B _ h hB) (by simp) (by intro x hx; simp at hx; subst hx; rw [mk_size]; omega)
    rw [tBytes_one] at this
    exact this
  have HT := Lib.hid hT
  have HH : Hid ((Frame.hd tag (catL xs)).length ≤ 131172) := by show _ ≤ _; rw [Frame.hd_length]; omega
  have hlt := Crc.on_lt (a := 0) (Frame.hd tag (catL xs)) (by decide)
  have HTG := Lib.hid (show UInt8.ofNat ((tag.toNat : Int)).toNat = tag by simp)
  clear hl hJ hT
  go_enter Tryz.func64, Tryz.ntmps64
  go_wp2_with fail
  go_loop [6, 12] (fun r i => ∃ k : Nat, k ≤ xs.length ∧ i = .int .i64 k ∧ r = .int .i64 (131072 - ((catL (xs.take k)).length : Int))) (fun _ i => xs.length - (intOf i).toNat)
  case atStart => exact ⟨0, Nat.zero_le _, rfl, rfl⟩
  case round =>
    obtain ⟨k, hk, rfl, rfl⟩ := hrel
    by_cases hkn : k < xs.length
    · obtain ⟨ad, rfl, _, hck⟩ := HL.out.at_ (tcells_at hkn)
      have hstep := catL_len xs k hkn
      have hbound := HLE.out (k + 1)
      generalize hA1 : (catL (xs.take (k + 1))).length = A1 at hstep hbound
      generalize (catL (xs.take k)).length = A0 at hstep
      have HA1 := Lib.hid hA1
      have HST := Lib.hid hstep
      have hx : (xs[k].size : Int) ≤ 131072 - (A0 : Int) := by omega
      have ha : (A0 : Int) ≤ 131072 := by omega
      clear hA1 hstep
      go_wp2_with fail
      go_round
      case rel => exact ⟨k + 1, by omega, by go_num, by rw [HA1.out, HST.out]; go_num⟩
      case measure => simp [intOf]; omega
    · have hke : k = xs.length := by omega
      subst hke
      rw [List.take_of_length_le (Nat.le_refl _)]
      go_upto_region 9 with fail
      go_cut [9] (fun v wx => v = .string ⟨(Frame.hd tag (catL xs)).toArray⟩ ∧ Below w.heap.size w wx)
      case first =>
        have hL2 : ∀ a : Nat, a < a + 1 + 1 := fun a => by omega
        go_region_with (first
          | (go_at_call 91; refine (HJ.out _ (by first | exact Below.refl _ _ | exact (Below.refl _ _).drew | exact (Below.refl _ _).alloc (Nat.le_refl _) _ | exact ((Below.refl _ _).drew).alloc (Nat.le_refl _) _ | exact ((Below.refl _ _).alloc (Nat.le_refl _) _).drew)).mono ?_; rintro e w1 ⟨rfl, hb⟩; obtain ⟨hcl, hfr⟩ := kept_cells hb; have hz := hb.size; (try simp at hz); (try (have hq := Frame.conv_behind hb)))
          | (go_at_call 60; refine (HT.out _ _ (by simp [go_sem, *]) (by simp <;> omega)).mono ?_; rintro e w2 ⟨rfl, hb2⟩; obtain ⟨hcl2, hfr2⟩ := kept_cells hb2; have hz2 := hb2.size; (try simp at hz2); (try (have hq2 := Frame.conv_behind2 hb hb2))))
        all_goals
          go_wp2
          go_meet
          refine ⟨by rw [HB.out], ?_⟩
          have hU : Below w.heap.size w w1 := by
            refine Below.trans ?_ (hb.mono ?_)
            · repeat (first | with_reducible exact Below.refl _ _ | with_reducible refine Below.drew ?_ | with_reducible refine Below.alloc ?_ ?_ _)
              all_goals (first | exact Nat.le_refl _ | (simp; done) | (simp; omega))
            · first | exact Nat.le_refl _ | (simp; done) | (simp; omega)
          have hs1 := hU.size
          have hV : Below w.heap.size w w2 := by
            refine Below.trans ?_ (hb2.mono ?_)
            · repeat (first | with_reducible exact hU | with_reducible refine Below.drew ?_ | with_reducible refine Below.alloc ?_ ?_ _)
              all_goals (first | exact hs1 | (simp; done) | (simp; omega))
            · first | exact hs1 | (simp; done) | (simp; omega)
          have hs2 := hV.size
          repeat (first | with_reducible exact hV | with_reducible refine Below.drew ?_ | with_reducible refine Below.alloc ?_ ?_ _)
          all_goals (first | exact hs2 | (simp; done) | (simp; omega))
      case rest =>
        obtain ⟨rfl, hbel⟩ := hcut
        have l1 : (Frame.hd tag (catL xs)).length ≤ 131172 := HH.out
        have l2 : (Crc.four (Crc.on 0 (Frame.hd tag (catL xs)))).size ≤ 4 := Nat.le_refl 4
        clear hcv
        go_wp2_with fail
        refine (of_any _ _ (by rw [mk_size]; unfold maxLen; omega)).mono ?_
        rintro e w2 ⟨rfl, hb2⟩
        go_wp2_with fail
        refine (bytes_any _ _ hlt).mono ?_
        rintro e w3 ⟨rfl, hb3⟩
        go_wp2_with fail
        go_ret2
        exact ⟨by rw [HR.out]; rfl, (hbel.trans (hb2.mono hbel.size)).trans (hb3.mono (by have := hbel.size; have := hb2.size; omega))⟩

set_option maxRecDepth 20000 in
set_option maxHeartbeats 2000000 in
theorem fwrite_long (tag : UInt8) (xs : List ByteArray) (A : Option Addr) (c : Nat) (w : World) (hl : Lies w w.heap.size A (tcells xs)) (hn : xs.length ≤ maxLen) (hs : 131072 < (catL xs).length) (hx : ∀ x ∈ xs, x.size ≤ maxLen) :
    Calls Tryz.prog 64 #[.int .u8 (tag.toNat : Int), .slice A xs.length c] w fun e w' => e = .returned (.tuple #[.string ⟨#[]⟩, .int .i64 4]) ∧ w = w' := by
  have hm := hn
  unfold maxLen at hm
  have HL := Lib.hid hl
  have HX := Lib.hid hx
  clear hl hn hx
  go_enter Tryz.func64, Tryz.ntmps64
  go_wp2_with fail
  go_loop [6, 12] (fun r i => ∃ k : Nat, k ≤ xs.length ∧ i = .int .i64 k ∧ r = .int .i64 (131072 - ((catL (xs.take k)).length : Int)) ∧ (catL (xs.take k)).length ≤ 131072) (fun _ i => xs.length - (intOf i).toNat)
  case atStart => exact ⟨0, Nat.zero_le _, rfl, rfl, by simp [catL]⟩
  case round =>
    obtain ⟨k, hk, rfl, rfl, hle⟩ := hrel
    by_cases hkn : k < xs.length
    · obtain ⟨ad, rfl, _, hck⟩ := HL.out.at_ (tcells_at hkn)
      have hstep := catL_len xs k hkn
      have hxs := HX.out xs[k] (List.getElem_mem hkn)
      unfold maxLen at hxs
      generalize hA1 : (catL (xs.take (k + 1))).length = A1 at hstep
      generalize (catL (xs.take k)).length = A0 at hstep hle
      have HA1 := Lib.hid hA1
      have HST := Lib.hid hstep
      clear hA1 hstep
      by_cases hgt : (131072 : Int) - (A0 : Int) < xs[k].size
      · go_wp2_with fail
        go_ret2
        exact ⟨rfl, rfl⟩
      · have hx2 : (xs[k].size : Int) ≤ 131072 - (A0 : Int) := by omega
        clear hgt
        go_wp2_with fail
        go_round
        case rel => exact ⟨k + 1, by omega, by go_num, by rw [HA1.out, HST.out]; go_num, by rw [HA1.out, HST.out]; omega⟩
        case measure => simp [intOf]; omega
    · have hke : k = xs.length := by omega
      subst hke
      rw [List.take_of_length_le (Nat.le_refl _)] at hle
      omega
end Go.Proofs.YtpmhpibbdcifnaaGreat
