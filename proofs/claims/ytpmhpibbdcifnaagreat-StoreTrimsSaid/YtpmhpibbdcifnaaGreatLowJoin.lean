/-
  Contracts of strings.Builder's Grow at a fresh builder, and of strings.Join with nothing between.
  The contract of strings.Join with nothing between.
-/
import Derived.Test.YtpmhpibbdcifnaaGreatLowWireW
import Derived.Shelf.Strings.Builder2
section
namespace Go.Proofs.YtpmhpibbdcifnaaGreat
open Go.RowKit

set_option maxHeartbeats 2000000 in
set_option maxRecDepth 100000 in
theorem grow_in (B b n : Nat) (w : World) (hB : B ≤ b) (hbk : w.heap[b]? = some (.cells #[.pointer (some ⟨b, 0, none⟩), .slice none 0 0] 113 (0, 0))) (hBw : B ≤ w.heap.size) (hn : n ≤ 281474976710656) :
    Calls Tryz.prog 108 #[.pointer (some ⟨b, 0, none⟩), .int .i64 n] w fun e w' => e = .returned (.tuple #[]) ∧ (Lib.BuilderAt 113 5 B b (.pointer (some ⟨b, 0, none⟩)) [] w' ∧ Below B w w') := by
  obtain ⟨cs, hrun, hle, hmax⟩ := Lib.run_makeNoZero (P := Tryz.prog) w.drew #[3] 94 5 Tryz.underlying94 n hn
  have hw : IntKind.i64.wrap (IntKind.i64.wrap 0 + (n : Int)) = n := by
    rw [IntKind.wrap_i64, IntKind.wrap_i64]
    omega
  have hcall : (callFunc 113 #[.int .i64 (IntKind.i64.wrap (IntKind.i64.wrap 0 + (n : Int)))]).run Tryz.prog w.drew = .ok (.value (.slice (some ⟨w.drew.heap.size, 0, none⟩) n cs.size)) (w.drew.drew.drew.alloc (.cells cs 5)) := by
    rw [hw, run_callFunc_extern Tryz.func113 (by kernel_rfl) (by kernel_rfl) (by kernel_rfl) (e := Extern.BytealgMakeNoZero.makeNoZero #[3] #[94]) (by kernel_rfl), hrun]
    rfl
  have hlt : b < w.heap.size := by
    rcases Nat.lt_or_ge b w.heap.size with h' | h'
    · exact h'
    · simp [Array.getElem?_eq_none h'] at hbk
  have c1 : w.drew.cell? ⟨b, 1, none⟩ = some (.slice none 0 0) := by
    have : w.drew.heap[b]? = _ := hbk
    rw [Lib.cell_of_heap this]; rfl
  have c2 : (w.alloc (.cells cs 5)).cell? ⟨b, 1, none⟩ = some (.slice none 0 0) := by
    have : (w.alloc (.cells cs 5)).heap[b]? = _ := (Lib.alloc_old w _ b hlt).trans hbk
    rw [Lib.cell_of_heap this]; rfl
  have f2 : (w.alloc (.cells cs 5)).frozen? ⟨b, 1, none⟩ = false := Lib.frozen_of_heap ((Lib.alloc_old w _ b hlt).trans hbk) 1
  have hcopy : ∀ W : World, (Builtin.copy_ #[94, 94] 3 #[.slice (some ⟨w.heap.size, 0, none⟩) 0 cs.size, .slice none 0 0]).run Tryz.prog W = .ok (goInt 0) W :=
    fun W => run_copy_none W 94 94 3 5 _ _ 0 cs.size 0 0 Tryz.underlying94 (by kernel_rfl) rfl
  clear hw hlt
  go_enter Tryz.func108, Tryz.ntmps108
  go_wp2
  have hfin := Lib.grown_fresh (T := 113) (e := 5) (cs := cs) hB hbk hBw (hmax (by unfold maxLen; omega)) (by decide)
  go_region
  all_goals (go_wp2; go_end0; exact ⟨rfl, hfin⟩)

set_option maxHeartbeats 2000000 in
set_option maxRecDepth 100000 in
theorem grow_fresh (B b n : Nat) (w : World) (hB : B ≤ b) (hbk : w.heap[b]? = some (.cells #[.pointer none, .slice none 0 0] 113 (0, 0))) (hBw : B ≤ w.heap.size) (hn : n ≤ 281474976710656) :
    Calls Tryz.prog 103 #[.pointer (some ⟨b, 0, none⟩), .int .i64 n] w fun e w' => e = .returned (.tuple #[]) ∧ (Lib.BuilderAt 113 5 B b (.pointer (some ⟨b, 0, none⟩)) [] w' ∧ Below B w w') := by
  have hbk1 : (w.setCell ⟨b, 0, none⟩ (.pointer (some ⟨b, 0, none⟩))).heap[b]? = some (.cells #[.pointer (some ⟨b, 0, none⟩), .slice none 0 0] 113 (0, 0)) := by
    simp [World.setCell, Array.getElem?_modify, hbk]
  have c1 : (w.setCell ⟨b, 0, none⟩ (.pointer (some ⟨b, 0, none⟩))).cell? ⟨b, 1, none⟩ = some (.slice none 0 0) := by rw [Lib.cell_of_heap hbk1]; rfl
  have hb1 : Below B w (w.setCell ⟨b, 0, none⟩ (.pointer (some ⟨b, 0, none⟩))) := (Below.refl B w).setCell (p := ⟨b, 0, none⟩) hB _
  have HU := Lib.hid (show Lib.BuilderAt 113 5 B b (.pointer (some ⟨b, 0, none⟩)) [] (w.setCell ⟨b, 0, none⟩ (.pointer (some ⟨b, 0, none⟩))) from ⟨hB, .slice none 0 0, hbk1, World.ownsRow_nil _ _ _ _, by simp [Value.ownBlock]⟩)
  have c1' : (w.setCell ⟨b, 0, none⟩ (.pointer (some ⟨b, 0, none⟩))).drew.cell? ⟨b, 1, none⟩ = some (.slice none 0 0) := c1
  have hBw1 : B ≤ (w.setCell ⟨b, 0, none⟩ (.pointer (some ⟨b, 0, none⟩))).drew.heap.size := by simpa [World.setCell, World.drew, -World.drew_eq] using hBw
  have HK := Lib.hid (copy_fresh b w (by rw [Lib.cell_of_heap hbk]; rfl) (by simp [World.shape?, hbk]) (Lib.frozen_of_heap hbk 0))
  have HG := Lib.hid (grow_in B b n (w.setCell ⟨b, 0, none⟩ (.pointer (some ⟨b, 0, none⟩))).drew hB hbk1 hBw1 hn)
  clear hbk hbk1 hBw1
  go_enter Tryz.func103, Tryz.ntmps103
  go_wp2_with fail
  refine HK.out.mono ?_
  rintro e w' ⟨rfl, rfl⟩
  go_wp2_with fail
  go_region
  all_goals go_wp2_with (go_at_call 108; refine HG.out.mono ?_; rintro e w' ⟨rfl, h1, h2⟩)
  all_goals first
    | (go_end0; exact ⟨rfl, h1, hb1.drew.trans h2⟩)
    | (go_end0; exact ⟨rfl, HU.out.drew, hb1.drew⟩)

/-- Texts one behind the other. -/
def catL (xs : List ByteArray) : List UInt8 := xs.flatMap fun x => x.data.toList
theorem catL_snoc (xs : List ByteArray) (k : Nat) (h : k < xs.length) : catL (xs.take (k + 1)) = catL (xs.take k) ++ (xs[k]).data.toList := by
  unfold catL
  rw [List.take_succ_eq_append_getElem h, List.flatMap_append]
  simp
theorem catL_le (xs : List ByteArray) (k : Nat) : (catL (xs.take k)).length ≤ (catL xs).length := by
  have : catL xs = catL (xs.take k) ++ catL (xs.drop k) := by
    unfold catL
    rw [← List.flatMap_append, List.take_append_drop]
  rw [this, List.length_append]
  omega
theorem catL_len (xs : List ByteArray) (k : Nat) (h : k < xs.length) : (catL (xs.take (k + 1))).length = (catL (xs.take k)).length + (xs[k]).size := by
  rw [catL_snoc xs k h, List.length_append]
  simp
end Go.Proofs.YtpmhpibbdcifnaaGreat
end

section
namespace Go.Proofs.YtpmhpibbdcifnaaGreat
open Go.RowKit

theorem Join.add1 (ad : Addr) (k : Nat) : (⟨ad.block, ad.off + 1 + k, none⟩ : Addr) = ad.add (k + 1) := by
  simp [Addr.add]; omega

theorem Join.strs (l : List UInt8) (s : ByteArray) : Lib.byteCells l ++ Lib.strCells s = Lib.byteCells (l ++ s.data.toList) := by
  rw [Lib.strCells_eq, Lib.byteCells_append]

set_option maxRecDepth 20000 in
set_option maxHeartbeats 2000000 in
theorem sjoin_many (xs : List ByteArray) (A : Option Addr) (c : Nat) (w : World) (hl : Lies w w.heap.size A (tcells xs)) (hn : xs.length ≤ maxLen) (hc : xs.length ≤ c) (hs : (catL xs).length ≤ 1048576) (h2 : 2 ≤ xs.length) :
    Calls Tryz.prog 91 #[.slice A xs.length c, .string ⟨#[]⟩] w fun e w' => e = .returned (.string ⟨(catL xs).toArray⟩) ∧ Below w.heap.size w w' := by
  unfold maxLen at hn
  have hne0 : ((xs.length : Int) == 0) = false := beq_eq_false_iff_ne.2 (by omega)
  have hne1 : ((xs.length : Int) == 1) = false := beq_eq_false_iff_ne.2 (by omega)
  have HL := Lib.hid hl
  have HLE := Lib.hid (catL_le xs)
  obtain ⟨ad, rfl, hadb, hc0⟩ := hl.at_ (tcells_at (show 0 < xs.length by omega))
  have HC0 := Lib.hid hc0
  clear hl hc0
  go_enter Tryz.func91, Tryz.ntmps91
  go_wp2_with fail
  go_loop [5, 41] (fun n i => ∃ k : Nat, k ≤ xs.length ∧ i = .int .i64 k ∧ n = .int .i64 ((catL (xs.take k)).length : Nat)) (fun _ i => xs.length - (intOf i).toNat)
  case atStart => exact ⟨0, Nat.zero_le _, rfl, rfl⟩
  case round =>
    obtain ⟨k, hk, rfl, rfl⟩ := hrel
    by_cases hkn : k < xs.length
    · obtain ⟨ad', hA, _, hck⟩ := HL.out.at_ (tcells_at hkn)
      cases hA
      have hstep := catL_len xs k hkn
      have hbound := HLE.out (k + 1)
      generalize hA1 : (catL (xs.take (k + 1))).length = A1 at hstep hbound
      generalize (catL (xs.take k)).length = A0 at hstep
      have HA1 := Lib.hid hA1
      have HST := Lib.hid hstep
      have hx : (xs[k].size : Int) ≤ 1048576 := by omega
      have ha : (A0 : Int) ≤ 1048576 := by omega
      clear hA1 hstep
      go_wp2_with fail
      go_round
      case rel => exact ⟨k + 1, by omega, by go_num, by rw [HA1.out, HST.out]; go_num⟩
      case measure => simp [intOf]; omega
    · have hke : k = xs.length := by omega
      subst hke
      rw [List.take_of_length_le (Nat.le_refl _)]
      generalize hT : (catL xs).length = T at hs
      have HT := Lib.hid hT
      clear hT
      go_wp2_with fail
      refine (grow_fresh w.heap.size w.heap.size T _ (Nat.le_refl _) (heap_alloc_new w _) (by simp) (by omega)).mono ?_
      rintro e w1 ⟨rfl, h1, hb1⟩
      have hb1' : Below w.heap.size w w1 := ((Below.refl w.heap.size w).alloc (Nat.le_refl _) _).trans hb1
      have hc0 : w1.cell? ad = some (.string xs[0]) := (hb1'.cell hadb).trans HC0.out
      have H1 := Lib.hid (Or.inr h1 : Lib.IsBuilder 113 5 w.heap.size w.heap.size [] w1)
      have Hb1 := Lib.hid hb1'
      have hBw1 : w.heap.size ≤ w1.heap.size := hb1'.size
      have h0s := catL_len xs 0 (by omega)
      have h0b := HLE.out (0 + 1)
      have hx0 : (xs[0]).size ≤ 1048576 := by rw [HT.out] at h0b; omega
      clear h1 hb1 hb1' h0s h0b
      go_wp2_with fail
      refine (write_any w.heap.size w.heap.size [] xs[0] w1 H1.out (by simp; omega) hBw1).mono ?_
      rintro e w2 ⟨rfl, h2', hb2⟩
      have hstart : ([] : List Value) ++ Lib.strCells xs[0] = Lib.byteCells (catL (xs.take (0 + 1))) := by
        rw [catL_snoc xs 0 (by omega), ← Join.strs]
        rfl
      rw [hstart] at h2'
      have H2 := Lib.hid (Or.inr h2' : Lib.IsBuilder 113 5 w.heap.size w.heap.size (Lib.byteCells (catL (xs.take (0 + 1)))) w2)
      have Hb2 := Lib.hid (Hb1.out.trans hb2)
      clear h2' hb2 hstart hc0
      go_wp2_with fail
      go_loopw [65] (fun i wr => ∃ k : Nat, k ≤ xs.length - 1 ∧ i = .int .i64 k ∧ Hid (Lib.IsBuilder 113 5 w.heap.size w.heap.size (Lib.byteCells (catL (xs.take (k + 1)))) wr) ∧ Hid (Below w.heap.size w wr)) (fun i _ => xs.length - 1 - (intOf i).toNat)
      case atStart => exact ⟨0, Nat.zero_le _, rfl, H2, Hb2⟩
      case round =>
        obtain ⟨k, hk', rfl, HB, HW⟩ := hrel
        by_cases hkr : k < xs.length - 1
        · obtain ⟨ad', hA, _, hck⟩ := (HL.out.below HW.out).at_ (tcells_at (show k + 1 < xs.length by omega))
          cases hA
          have hcy : wr.cell? ⟨ad.block, ad.off + 1 + k, none⟩ = some (.string xs[k + 1]) := by rw [Join.add1]; exact hck
          have hBw : w.heap.size ≤ wr.heap.size := HW.out.size
          have hstep := catL_len xs (k + 1) (by omega)
          have hbound := HLE.out (k + 1 + 1)
          rw [HT.out] at hbound
          have HS := Lib.hid (catL_snoc xs (k + 1) (by omega))
          have hlen0 : (Lib.byteCells (catL (xs.take (k + 1)))).length + (xs[k + 1]).size ≤ 1048576 := by rw [Lib.byteCells_length]; omega
          have HL0 := Lib.hid hlen0
          clear hck hstep hbound hlen0
          go_wp2_with fail
          refine (write_any w.heap.size w.heap.size _ ⟨#[]⟩ wr HB.out (by have := HL0.out; have e0 : (⟨#[]⟩ : ByteArray).size = 0 := rfl; omega) hBw).mono ?_
          rintro e w3 ⟨rfl, h3, hb3⟩
          have hBw3 : w.heap.size ≤ w3.heap.size := Nat.le_trans hBw hb3.size
          have e0 : Lib.byteCells (catL (xs.take (k + 1))) ++ Lib.strCells ⟨#[]⟩ = Lib.byteCells (catL (xs.take (k + 1))) := by rw [Join.strs]; simp
          rw [e0] at h3
          have H3 := Lib.hid h3
          have Hb3 := Lib.hid hb3
          clear h3 hb3 e0
          go_wp2_with fail
          refine (write_any w.heap.size w.heap.size _ xs[k + 1] w3 (Or.inr H3.out) (by have := HL0.out; omega) hBw3).mono ?_
          rintro e w4 ⟨rfl, h4, hb4⟩
          rw [Join.strs, ← HS.out] at h4
          have H4 := Lib.hid (Or.inr h4 : Lib.IsBuilder 113 5 w.heap.size w.heap.size _ w4)
          have Hb4 := Lib.hid ((HW.out.trans Hb3.out).trans hb4)
          clear h4 hb4
          go_wp2_with fail
          go_roundw
          case rel => exact ⟨k + 1, by omega, by go_num, H4, Hb4⟩
          case measure => simp [intOf]; omega
        · have hke : k + 1 = xs.length := by omega
          have hB' := HB.out
          rw [hke, List.take_of_length_le (Nat.le_refl _)] at hB'
          have hBw : w.heap.size ≤ wr.heap.size := HW.out.size
          have HB' := Lib.hid hB'
          clear hB' hke
          go_wp2_with fail
          refine (Sh.Builder_String_any w.heap.size w.heap.size _ wr HB'.out hBw).mono ?_
          rintro e w5 ⟨rfl, hb5⟩
          have Hb5 := Lib.hid (HW.out.trans hb5)
          clear hb5
          go_wp2_with fail
          go_ret
          exact ⟨rfl, Hb5.out⟩

set_option maxHeartbeats 1000000 in
theorem sjoin_any (xs : List ByteArray) (A : Option Addr) (c : Nat) (w : World) (hl : Lies w w.heap.size A (tcells xs)) (hn : xs.length ≤ maxLen) (hc : xs.length ≤ c) (hs : (catL xs).length ≤ 1048576) :
    Calls Tryz.prog 91 #[.slice A xs.length c, .string ⟨#[]⟩] w fun e w' => e = .returned (.string ⟨(catL xs).toArray⟩) ∧ Below w.heap.size w w' := by
  match xs, hl, hn, hc, hs with
  | [], _, _, _, _ =>
    go_enter Tryz.func91, Tryz.ntmps91
    go_wp2
    go_ret
    exact ⟨rfl, Below.refl _ _⟩
  | [x], hl, _, _, _ =>
    obtain ⟨ad, rfl, _, hc0⟩ := hl.at_ (tcells_at (xs := [x]) (show 0 < [x].length by simp))
    have hc0' : w.cell? ad = some (.string x) := hc0
    have HX : Hid (x = ⟨(catL [x]).toArray⟩) := by
      show x = _
      apply ByteArray.ext
      simp [catL]
    clear hl hc0
    go_enter Tryz.func91, Tryz.ntmps91
    go_wp2
    go_ret
    exact ⟨by rw [← HX.out]; rfl, Below.refl _ _⟩
  | x :: y :: r, hl, hn, hc, hs => exact sjoin_many (x :: y :: r) A c w hl hn hc hs (by simp)
end Go.Proofs.YtpmhpibbdcifnaaGreat
end
