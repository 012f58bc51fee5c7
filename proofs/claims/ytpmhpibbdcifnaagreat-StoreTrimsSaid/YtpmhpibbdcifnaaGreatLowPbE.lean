/-
  The program's book on its disk: fault, read, put.
  The program's book on its disk: read of a disk that stands still; put, turn.
  The program's book on its disk: turn.
  The program's book on its disk: renew, Clear.
  The program's book: Clear, end, is, Open.
  The program's book: end, is, Open.
  The program's book: Open of a disk that stands still, of a part that is not there; Len, Room, fits.
  The program's book: add, after, Append, Sync.
  The program's book: no book, no disk; a book on a disk that is let alone.
-/
import Derived.Test.YtpmhpibbdcifnaaGreatLowPbA
import Derived.Test.YtpmhpibbdcifnaaGreatLowBkT
import Derived.Test.YtpmhpibbdcifnaaGreatLowBkP
import Derived.Test.YtpmhpibbdcifnaaGreatLowSecA
section
namespace Go.Proofs.YtpmhpibbdcifnaaGreat
open Go.RowKit
attribute [local go_sem ↓] Go.wp_at_zero Go.wp_at_succ

namespace Sec
theorem off_fresh {D : Bl} {s : St} {w : World} (h : At D s w) {i : Nat} (hi : w.heap.size ≤ i) : D.off i := by
  have h1 := h.ltb
  have h2 := h.lts
  have h3 := h.ltm
  exact ⟨by omega, by omega, by omega, fun e => by have := (h.row.lt i e.symm).2; omega⟩
theorem Moves.off {D D' : Bl} {w w' : World} (h : Moves D D' w w') {i : Nat} (hi : i < w.heap.size) (ho : D.off i) : D'.off i := h.mv.keep i hi ho
end Sec

/-- Write, of a sector that is there. -/
theorem dwrite (D : Sec.Bl) (p : Nat) (hp : D.b = p) (s : Sec.St) (w : World) (h : Sec.At D s w) (hs : s.Ok) (k : Nat) (hk : k < s.n) (y : List UInt8) (hy : y.length = 128) (hlim : s.loose.length ≤ 1000000000) :
    Calls Tryz.prog 89 #[.pointer (some ⟨p, 0, none⟩), .int .i64 (k : Int), .string ⟨y.toArray⟩] w fun e w' => e = .returned (.int .i64 (Book.wput s k y).1) ∧ Sec.Behind D (Book.wput s k y).2 w w' := by
  subst hp
  have hys : (⟨y.toArray⟩ : ByteArray).size ≤ 128 := by show y.toArray.size ≤ 128; simp; omega
  have hpad : Sec.pad (⟨y.toArray⟩ : ByteArray).data.toList = y := by simp [Sec.pad, hy]
  unfold Book.wput
  cases hd : s.still with
  | true =>
    rw [if_pos rfl]
    exact (sec_write_down D s w h hs k _ hk hys hd).mono fun e w' ⟨a, b⟩ => ⟨a, by subst b; exact ⟨D, h, .refl _ _⟩⟩
  | false =>
    rw [if_neg (by simp)]
    have := sec_write_ok D s w h hs k _ hk hys hd hlim
    rw [hpad] at this
    exact this
theorem dsync (D : Sec.Bl) (p : Nat) (hp : D.b = p) (s : Sec.St) (w : World) (h : Sec.At D s w) (hs : s.Ok) (hlim : s.loose.length ≤ 1000000000) :
    Calls Tryz.prog 44 #[.pointer (some ⟨p, 0, none⟩)] w fun e w' => e = .returned (.int .i64 (Book.wsync s).1) ∧ Sec.Behind D (Book.wsync s).2 w w' := by
  subst hp
  unfold Book.wsync
  cases hd : s.still with
  | true =>
    rw [if_pos rfl]
    exact (sec_sync_down D s w h hs hd).mono fun e w' ⟨a, b⟩ => ⟨a, by subst b; exact ⟨D, h, .refl _ _⟩⟩
  | false =>
    rw [if_neg (by simp)]
    exact sec_sync D s w h hs hd hlim

namespace Book
/-- A part of a disk, in a block of its own. -/
def Box (B p : Nat) (a n : Int) (w : World) : Prop := w.heap[B]? = some (.cells #[.pointer (some ⟨p, 0, none⟩), .int .i64 a, .int .i64 n] 81 (0, 0))
variable {B p : Nat} {a n : Int} {w w' : World}
theorem Box.ltb (h : Box B p a n w) : B < w.heap.size := Sec.lt_of_heap h
theorem Box.keep (h : Box B p a n w) (hk : w'.heap[B]? = w.heap[B]?) : Box B p a n w' := hk.trans h
theorem Box.below (h : Box B p a n w) (hb : Below w.heap.size w w') : Box B p a n w' := h.keep (hb.block _ h.ltb)
theorem Box.cell (h : Box B p a n w) (j : Nat) : w.cell? ⟨B, j, none⟩ = (#[.pointer (some ⟨p, 0, none⟩), .int .i64 a, .int .i64 n] : Array Value)[j]? := cell_of_row w B j _ _ _ h
theorem Box.c0 (h : Box B p a n w) : w.cell? ⟨B, 0, none⟩ = some (.pointer (some ⟨p, 0, none⟩)) := h.cell 0
theorem Box.c1 (h : Box B p a n w) : w.cell? ⟨B, 1, none⟩ = some (.int .i64 a) := h.cell 1
theorem Box.c2 (h : Box B p a n w) : w.cell? ⟨B, 2, none⟩ = some (.int .i64 n) := h.cell 2
end Book

set_option maxHeartbeats 1000000 in
set_option maxRecDepth 20000 in
theorem pfault (D : Sec.Bl) (s : Sec.St) (w : World) (h : Sec.At D s w) (hs : s.Ok) (a n : Int) (ha : a ≤ 9223372036854775807) (c : Int) (hc : c = if Book.fits s.n a n then 0 else 2) :
    Calls Tryz.prog 48 #[Book.pv D.b a n] w fun e w' => e = .returned (.int .i64 c) ∧ Below w.heap.size w w' := by
  unfold Book.pv
  have hn1 := hs.n1
  have hn2 := hs.n2
  have HLEN : Hid (∀ wx, Below w.heap.size w wx → Calls Tryz.prog 30 #[.pointer (some ⟨D.b, 0, none⟩)] wx fun e w' => e = .returned (.int .i64 (s.n : Int)) ∧ wx = w') := fun wx hb => sec_len D s wx (h.below hb) hs
  have hne : ((s.n : Int) == 0) = false := by rw [beq_eq_false_iff_ne]; omega
  have hb0 : Below w.heap.size w (w.alloc (.cells #[.pointer (some ⟨D.b, 0, none⟩), .int .i64 a, .int .i64 n] 81)) := (Below.refl _ _).alloc (Nat.le_refl _) _
  have HB0 := Lib.hid hb0
  clear h hs hb0
  by_cases h1 : 0 ≤ a
  · by_cases h2 : 1 ≤ n
    · by_cases h3 : n ≤ (s.n : Int) - a
      · have HF : Hid (c = 0) := by
          show _ = _
          rw [hc]
          rw [if_pos]
          unfold Book.fits
          simp
          omega
        clear hc
        have d1 : decide (a < 0) = false := by simpa using h1
        have d2 : decide (n < 1) = false := by simpa using h2
        have d3 : decide ((s.n : Int) - a < n) = false := by simpa using h3
        have hw : IntKind.i64.wrap ((s.n : Int) - a) = (s.n : Int) - a := by rw [IntKind.wrap_i64]; omega
        go_enter Tryz.func48, Tryz.ntmps48
        go_wp2_with fail
        refine (HLEN.out _ HB0.out).mono ?_
        rintro e w1 ⟨rfl, rfl⟩
        go_wp2_with fail
        go_ret
        exact ⟨by rw [HF.out]; rfl, HB0.out⟩
      · have HF : Hid (c = 2) := by
          show _ = _
          rw [hc]
          rw [if_neg]
          unfold Book.fits
          simp
          omega
        clear hc
        have d1 : decide (a < 0) = false := by simpa using h1
        have d2 : decide (n < 1) = false := by simpa using h2
        have d3 : decide ((s.n : Int) - a < n) = true := by simpa using h3
        have hw : IntKind.i64.wrap ((s.n : Int) - a) = (s.n : Int) - a := by rw [IntKind.wrap_i64]; omega
        go_enter Tryz.func48, Tryz.ntmps48
        go_wp2_with fail
        refine (HLEN.out _ HB0.out).mono ?_
        rintro e w1 ⟨rfl, rfl⟩
        go_wp2_with fail
        go_ret
        exact ⟨by rw [HF.out]; rfl, HB0.out⟩
    · have HF : Hid (c = 2) := by
        show _ = _
        rw [hc]
        rw [if_neg]
        unfold Book.fits
        simp
        omega
      clear hc
      have d1 : decide (a < 0) = false := by simpa using h1
      have d2 : decide (n < 1) = true := by simp; omega
      go_enter Tryz.func48, Tryz.ntmps48
      go_wp2_with fail
      refine (HLEN.out _ HB0.out).mono ?_
      rintro e w1 ⟨rfl, rfl⟩
      go_wp2_with fail
      go_ret
      exact ⟨by rw [HF.out]; rfl, HB0.out⟩
  · have HF : Hid (c = 2) := by
      show _ = _
      rw [hc]
      rw [if_neg]
      unfold Book.fits
      simp
      omega
    clear hc
    have d1 : decide (a < 0) = true := by simp; omega
    go_enter Tryz.func48, Tryz.ntmps48
    go_wp2_with fail
    refine (HLEN.out _ HB0.out).mono ?_
    rintro e w1 ⟨rfl, rfl⟩
    go_wp2_with fail
    go_ret
    exact ⟨by rw [HF.out]; rfl, HB0.out⟩

theorem Book.secsL_front (xs : List UInt8) (a n : Nat) : (List.range n).map (fun k => (xs.drop ((a + k) * 128)).take 128) = Book.secsL xs a n := rfl

set_option maxHeartbeats 2000000 in
set_option maxRecDepth 20000 in
theorem pread (D : Sec.Bl) (s : Sec.St) (w : World) (h : Sec.At D s w) (hs : s.Ok) (hd : s.still = false) (a n : Nat) (han : a + n ≤ s.n) :
    Calls Tryz.prog 49 #[Book.pv D.b a n] w fun e w' => ∃ G, e = .returned (.tuple #[.slice (some ⟨G, 0, none⟩) n n, .int .i64 0]) ∧ w.heap.size ≤ G ∧ Book.Row G (Book.secsL s.now a n) w' ∧ Below w.heap.size w w' := by
  unfold Book.pv
  have hn2 := hs.n2
  have hni : (a : Int) + (n : Int) ≤ 4096 := by omega
  have ha0 : (0 : Int) ≤ (a : Int) := by omega
  have hmk := run_make_row' (P := Tryz.prog) 25 9 (.string ByteArray.empty) 16 Tryz.underlying25 str_info rfl .i64 .i64 n (by omega) (by omega)
  obtain ⟨f, hf⟩ : ∃ f : Nat → List UInt8, f = fun k => (s.now.drop ((a + k) * 128)).take 128 := ⟨_, rfl⟩
  have HR : Hid (∀ (wx : World) (k : Nat), k < n → Below w.heap.size w wx → Calls Tryz.prog 70 #[.pointer (some ⟨D.b, 0, none⟩), .int .i64 ((a : Int) + (k : Int))] wx fun e w' => e = .returned (.tuple #[.string ⟨(f k).toArray⟩, .int .i64 0]) ∧ wx = w') := fun wx k hk hb => by
    have := sec_read D s wx (h.below hb) hs (a + k) (by omega) hd
    rw [Int.natCast_add] at this
    rw [hf]
    exact this
  have HFIN : Hid ((List.range n).map f = Book.secsL s.now a n) := by show _ = _; rw [hf]; rfl
  obtain ⟨w0, hw0⟩ : ∃ w0, w0 = w.alloc (.cells #[.pointer (some ⟨D.b, 0, none⟩), .int .i64 (a : Int), .int .i64 (n : Int)] 81) := ⟨_, rfl⟩
  have hs0 : w0.heap.size = w.heap.size + 1 := by rw [hw0]; simp
  have HBX0 : Hid (Book.Box w.heap.size D.b a n w0) := by show Book.Box _ _ _ _ _; rw [hw0]; exact heap_alloc_new w _
  have HB0 : Hid (Below w.heap.size w w0) := by show Below _ _ _; rw [hw0]; exact (Below.refl _ _).alloc (Nat.le_refl _) _
  have HM : Hid (Book.Row (w.heap.size + 1) (List.replicate n []) (w0.alloc (.cells (madeCells #[.string ByteArray.empty] n) 9))) := by
    have := Book.row_made n w0
    rwa [hs0] at this
  have HBX1 : Hid (Book.Box w.heap.size D.b a n (w0.alloc (.cells (madeCells #[.string ByteArray.empty] n) 9))) := HBX0.out.below ((Below.refl _ _).alloc (Nat.le_refl _) _)
  have HB1 : Hid (Below w.heap.size w (w0.alloc (.cells (madeCells #[.string ByteArray.empty] n) 9))) := HB0.out.alloc (by omega) _
  clear h hs hd hf
  go_enter Tryz.func49, Tryz.ntmps49
  go_wp2_with fail
  rw [← hw0]
  clear hw0 hmk
  go_loopw [13] (fun t wr => ∃ k : Nat, k ≤ n ∧ t = .int .i64 k ∧ Hid (Book.Row (w.heap.size + 1) (Book.front f n k) wr) ∧ Hid (Book.Box w.heap.size D.b a n wr) ∧ Hid (Below w.heap.size w wr)) (fun t _ => n - (intOf t).toNat)
  case atStart => exact ⟨0, Nat.zero_le _, rfl, by show Book.Row _ _ _; rw [Book.front_zero]; exact HM.out, HBX1.out, HB1.out⟩
  case round =>
    obtain ⟨k, hk, rfl, HROW, HBX, HB⟩ := hrel
    by_cases hlt : k < n
    · have hk0 : (0 : Int) ≤ (k : Int) := by omega
      have hk1 : (k : Int) < (n : Int) := by omega
      have HSUCC := Lib.hid (Book.front_succ f hlt)
      have HRK := Lib.hid (HR.out wr k hlt HB.out)
      have hl := Book.front_len (f := f) (Nat.le_of_lt hlt)
      have c := HROW.out.cell (i := k) (by rw [hl]; exact hlt)
      have fz := HROW.out.fro k
      have c0 := HBX.out.c0
      have c1 := HBX.out.c1
      generalize f k = y at HSUCC HRK
      clear hl
      go_wp2_with fail
      refine HRK.out.mono ?_
      rintro e w1 ⟨rfl, rfl⟩
      go_wp2_with fail
      go_roundw
      case rel =>
        refine ⟨k + 1, by omega, by go_num, by show Book.Row _ _ _; rw [← HSUCC.out]; exact HROW.out.set k y, ?_, HB.out.setCell (p := ⟨w.heap.size + 1, k, none⟩) (Nat.le_succ _) _⟩
        exact HBX.out.keep (heap_setCell_other _ _ _ _ (by simp))
      case measure => simp [intOf]; omega
    · obtain rfl : k = n := by omega
      have HR2 : Hid (Book.Row (w.heap.size + 1) (Book.secsL s.now a k) wr) := by
        have := HROW.out
        rwa [Book.front_all, HFIN.out] at this
      go_wp2_with fail
      refine bodyPost_ret (v := .tuple #[.slice (some ⟨w.heap.size + 1, 0, none⟩) k k, .int .i64 0]) (by simp [results, Tryz.results49, go_sem]) rfl ?_
      exact ⟨w.heap.size + 1, rfl, Nat.le_succ _, HR2.out, HB.out⟩
end Go.Proofs.YtpmhpibbdcifnaaGreat
end

section
namespace Go.Proofs.YtpmhpibbdcifnaaGreat
open Go.RowKit
attribute [local go_sem ↓] Go.wp_at_zero Go.wp_at_succ

set_option maxHeartbeats 2000000 in
set_option maxRecDepth 20000 in
theorem pread_down (D : Sec.Bl) (s : Sec.St) (w : World) (h : Sec.At D s w) (hs : s.Ok) (hd : s.still = true) (a n : Nat) (hn : 1 ≤ n) (han : a + n ≤ 4096) :
    Calls Tryz.prog 49 #[Book.pv D.b a n] w fun e w' => e = .returned (.tuple #[.slice none 0 0, .int .i64 51]) ∧ Below w.heap.size w w' := by
  unfold Book.pv
  have hni : (a : Int) + (n : Int) ≤ 4096 := by omega
  have ha0 : (0 : Int) ≤ (a : Int) := by omega
  have hn1 : (0 : Int) < (n : Int) := by omega
  have hmk := run_make_row' (P := Tryz.prog) 25 9 (.string ByteArray.empty) 16 Tryz.underlying25 str_info rfl .i64 .i64 n (by omega) (by omega)
  have HR : Hid (∀ (wx : World), Below w.heap.size w wx → Calls Tryz.prog 70 #[.pointer (some ⟨D.b, 0, none⟩), .int .i64 (a : Int)] wx fun e w' => e = .returned (.tuple #[.string ByteArray.empty, .int .i64 51]) ∧ wx = w') := fun wx hb => sec_read_down D s wx (h.below hb) hs a hd
  obtain ⟨w0, hw0⟩ : ∃ w0, w0 = w.alloc (.cells #[.pointer (some ⟨D.b, 0, none⟩), .int .i64 (a : Int), .int .i64 (n : Int)] 81) := ⟨_, rfl⟩
  have hs0 : w0.heap.size = w.heap.size + 1 := by rw [hw0]; simp
  have HBX0 : Hid (Book.Box w.heap.size D.b a n w0) := by show Book.Box _ _ _ _ _; rw [hw0]; exact heap_alloc_new w _
  have HB0 : Hid (Below w.heap.size w w0) := by show Below _ _ _; rw [hw0]; exact (Below.refl _ _).alloc (Nat.le_refl _) _
  have HBX1 : Hid (Book.Box w.heap.size D.b a n (w0.alloc (.cells (madeCells #[.string ByteArray.empty] n) 9))) := HBX0.out.below ((Below.refl _ _).alloc (Nat.le_refl _) _)
  have HB1 : Hid (Below w.heap.size w (w0.alloc (.cells (madeCells #[.string ByteArray.empty] n) 9))) := HB0.out.alloc (by omega) _
  clear h hs hd
  go_enter Tryz.func49, Tryz.ntmps49
  go_wp2_with fail
  rw [← hw0]
  clear hw0 hmk
  go_loopw [13] (fun t wr => t = .int .i64 0 ∧ Hid (Book.Box w.heap.size D.b a n wr) ∧ Hid (Below w.heap.size w wr)) (fun t _ => 1 - (intOf t).toNat)
  case atStart => exact ⟨rfl, HBX1.out, HB1.out⟩
  case round =>
    obtain ⟨rfl, HBX, HB⟩ := hrel
    have c0 := HBX.out.c0
    have c1 := HBX.out.c1
    have HRK := Lib.hid (HR.out wr HB.out)
    go_wp2_with fail
    refine HRK.out.mono ?_
    rintro e w1 ⟨rfl, rfl⟩
    go_wp2_with fail
    refine bodyPost_ret (v := .tuple #[.slice none 0 0, .int .i64 51]) (by simp [results, Tryz.results49, go_sem]) rfl ?_
    exact ⟨rfl, HB.out⟩

set_option maxHeartbeats 2000000 in
set_option maxRecDepth 20000 in
theorem pput (D : Sec.Bl) (s : Sec.St) (w : World) (h : Sec.At D s w) (hs : s.Ok) (a k : Nat) (n : Int) (ys : List (List UInt8)) (hy : ∀ y ∈ ys, y.length = 128) (hk : a + k + ys.length ≤ s.n) (hlim : s.loose.length + ys.length ≤ 1000000000)
    (G c : Nat) (hG : Book.Row G ys w) (ho : D.off G) :
    Calls Tryz.prog 62 #[Book.pv D.b a n, .int .i64 (k : Int), .slice (some ⟨G, 0, none⟩) ys.length c] w fun e w' =>
      e = .returned (.int .i64 (Book.puts (Book.from_ (a + k) ys) s).1) ∧ Sec.Behind D (Book.puts (Book.from_ (a + k) ys) s).2 w w' := by
  unfold Book.pv
  obtain ⟨P, hP⟩ : ∃ P, P = Book.puts (Book.from_ (a + k) ys) s := ⟨_, rfl⟩
  rw [← hP]
  have HPP := Lib.hid hP
  clear hP
  have hn2 := hs.n2
  have hki : (a : Int) + (k : Int) + (ys.length : Int) ≤ 4096 := by omega
  have ha0 : (0 : Int) ≤ (a : Int) := by omega
  have hk0 : (0 : Int) ≤ (k : Int) := by omega
  have HY := Lib.hid hy
  obtain ⟨w0, hw0⟩ : ∃ w0, w0 = w.alloc (.cells #[.pointer (some ⟨D.b, 0, none⟩), .int .i64 (a : Int), .int .i64 n] 81) := ⟨_, rfl⟩
  have hb0 : Below w.heap.size w w0 := by rw [hw0]; exact (Below.refl _ _).alloc (Nat.le_refl _) _
  have hbx : Book.Box w.heap.size D.b a n w0 := by rw [hw0]; exact heap_alloc_new w _
  have HA0 := Lib.hid (h.below hb0)
  have HM0 := Lib.hid (Sec.Moves.of_below (D := D) hb0)
  have HR0 := Lib.hid (hG.below hb0)
  have HO := Lib.hid ho
  have HOB := Lib.hid (Sec.off_fresh h (Nat.le_refl w.heap.size))
  have HBX0 := Lib.hid hbx
  have HOK := Lib.hid hs
  clear h hs ho hG hb0 hbx hy
  go_enter Tryz.func62, Tryz.ntmps62
  go_wp2_with fail
  rw [← hw0]
  clear hw0
  go_loopw [12] (fun t wr => ∃ (i : Nat) (D' : Sec.Bl) (si : Sec.St), i ≤ ys.length ∧ t = .int .i64 i ∧ Hid (Sec.At D' si wr) ∧ Hid (Sec.Moves D D' w0 wr) ∧ Hid (si.Ok ∧ si.n = s.n ∧ si.loose.length ≤ s.loose.length + i) ∧ Hid (P = Book.puts (Book.from_ (a + k + i) (ys.drop i)) si)) (fun t _ => ys.length - (intOf t).toNat)
  case atStart => exact ⟨0, D, s, Nat.zero_le _, rfl, HA0.out, Sec.Moves.refl _ _, ⟨HOK.out, rfl, Nat.le_refl _⟩, HPP.out⟩
  case round =>
    obtain ⟨i, D', si, hi, rfl, HA, HMV, HST, HP⟩ := hrel
    by_cases hlt : i < ys.length
    · have hi0 : (0 : Int) ≤ (i : Int) := by omega
      have hi1 : (i : Int) < (ys.length : Int) := by omega
      have hROW : Book.Row G ys wr := HR0.out.keep (HMV.out.block G HR0.out.ltb HO.out)
      have hBOX : Book.Box w.heap.size D.b a n wr := HBX0.out.keep (HMV.out.block _ HBX0.out.ltb HOB.out)
      have c := hROW.cell hlt
      have c0 := hBOX.c0
      have c1 := hBOX.c1
      have hyl : (ys.getD i []).length = 128 := by
        rw [List.getD, List.getElem?_eq_getElem hlt]
        exact HY.out _ (List.getElem_mem _)
      have HF := Lib.hid (Book.from_at ys (a + k) i hlt)
      generalize ys.getD i [] = y at c hyl HF
      obtain ⟨hok, hsn, hsl⟩ := HST.out
      have HW : Hid (Calls Tryz.prog 89 #[.pointer (some ⟨D.b, 0, none⟩), .int .i64 ((a : Int) + (k : Int) + (i : Int)), .string ⟨y.toArray⟩] wr fun e w' => e = .returned (.int .i64 (Book.wput si (a + k + i) y).1) ∧ Sec.Behind D' (Book.wput si (a + k + i) y).2 wr w') := by
        have := dwrite D' D.b HMV.out.b si wr HA.out hok (a + k + i) (by omega) y hyl (by omega)
        rw [Int.natCast_add, Int.natCast_add] at this
        exact this
      have HOK2 := Lib.hid (Book.wput_ok hok (show a + k + i < si.n by omega) hyl)
      have HN2 := Lib.hid ((Book.wput_n si (a + k + i) y).trans hsn)
      have HL2 : Hid ((Book.wput si (a + k + i) y).2.loose.length ≤ s.loose.length + (i + 1)) := by
        have := Book.wput_len si (a + k + i) y
        show _ ≤ _
        omega
      have HGO : Hid ((Book.wput si (a + k + i) y).1 = 0 → P = Book.puts (Book.from_ (a + k + (i + 1)) (ys.drop (i + 1))) (Book.wput si (a + k + i) y).2) := Book.go_from HP.out HF.out
      have HSTOP : Hid ((Book.wput si (a + k + i) y).1 ≠ 0 → P = Book.wput si (a + k + i) y) := Book.stop_from HP.out HF.out
      have hcode := Book.wput_code si (a + k + i) y
      generalize Book.wput si (a + k + i) y = r at HW HOK2 HN2 HL2 HGO HSTOP hcode
      obtain ⟨rc, rs⟩ := r
      simp only [] at hcode
      clear hROW hBOX hok hsn hsl HF
      rcases hcode with rfl | rfl
      · have HG2 := Lib.hid (HGO.out rfl)
        clear HGO HSTOP
        go_wp2_with fail
        refine HW.out.mono ?_
        rintro e w2 ⟨rfl, D2, hA2, hM2⟩
        have HA2 := Lib.hid hA2
        have HM2 := Lib.hid (HMV.out.trans hM2)
        clear hA2 hM2 c c0 c1
        go_wp2_with fail
        go_roundw
        case rel => exact ⟨i + 1, D2, rs, by omega, by go_num, HA2.out, HM2.out, ⟨HOK2.out, HN2.out, HL2.out⟩, HG2.out⟩
        case measure => simp [intOf]; omega
      · have HG2 := Lib.hid (HSTOP.out (by show (51 : Int) ≠ 0; decide))
        clear HGO HSTOP
        go_wp2_with fail
        refine HW.out.mono ?_
        rintro e w2 ⟨rfl, D2, hA2, hM2⟩
        have HA2 := Lib.hid hA2
        have HM2 := Lib.hid ((HM0.out.trans HMV.out).trans hM2)
        clear hA2 hM2 c c0 c1
        go_wp2_with fail
        go_ret
        exact ⟨by rw [HG2.out]; rfl, D2, by rw [HG2.out]; exact HA2.out, HM2.out⟩
    · have HG2 : Hid (P = (0, si)) := by
        show _ = _
        rw [HP.out, List.drop_of_length_le (by omega)]
        rfl
      go_wp2_with fail
      go_ret
      exact ⟨by rw [HG2.out]; rfl, D', by rw [HG2.out]; exact HA.out, HM0.out.trans HMV.out⟩
end Go.Proofs.YtpmhpibbdcifnaaGreat
end

section
namespace Go.Proofs.YtpmhpibbdcifnaaGreat
open Go.RowKit
attribute [local go_sem ↓] Go.wp_at_zero Go.wp_at_succ

theorem Book.mk_inj {l m : List (List UInt8)} (h : l.map (fun x => (⟨x.toArray⟩ : ByteArray)) = m.map fun x => ⟨x.toArray⟩) : l = m := by
  have key := congrArg (List.map fun b : ByteArray => b.data.toList) h
  rw [List.map_map, List.map_map] at key
  have e : ((fun b : ByteArray => b.data.toList) ∘ fun x : List UInt8 => (⟨x.toArray⟩ : ByteArray)) = id := rfl
  rw [e, List.map_id, List.map_id] at key
  exact key

set_option maxHeartbeats 4000000 in
set_option maxRecDepth 20000 in
theorem pturn (D : Sec.Bl) (s : Sec.St) (w : World) (h : Sec.At D s w) (hs : s.Ok) (a n step : Nat) (xs : List UInt8) (lw lb : List (List UInt8)) (hlw : lw.length = n) (hlb : lb.length = n) (han : a + n ≤ s.n) (hlim : s.loose.length + n ≤ 1000000000)
    (hz : ∀ y ∈ lb, y.length = 128) (hwant : ∀ i, i < n → lb.getD i [] = Book.want step xs (lw.getD i []) i) (G1 G2 c1 c2 : Nat) (hG1 : Book.Row G1 lw w) (hG2 : Book.Row G2 lb w) (ho1 : D.off G1) (ho2 : D.off G2)
    (P : Int × List (List UInt8) × Sec.St) (hP : P = Book.stepA step xs a lw s) :
    Calls Tryz.prog 73 #[Book.pv D.b a n, .slice (some ⟨G1, 0, none⟩) n c1, .slice (some ⟨G2, 0, none⟩) n c2] w fun e w' =>
      e = .returned (.int .i64 P.1) ∧ Sec.Behind D P.2.2 w w' ∧ (P.1 = 0 → P.2.1 = lb) := by
  unfold Book.pv
  have hn2 := hs.n2
  have hki : (a : Int) + (n : Int) ≤ 4096 := by omega
  have ha0 : (0 : Int) ≤ (a : Int) := by omega
  have hlen : lb.length = lw.length := by omega
  obtain ⟨w0, hw0⟩ : ∃ w0, w0 = w.alloc (.cells #[.pointer (some ⟨D.b, 0, none⟩), .int .i64 (a : Int), .int .i64 (n : Int)] 81) := ⟨_, rfl⟩
  have hb0 : Below w.heap.size w w0 := by rw [hw0]; exact (Below.refl _ _).alloc (Nat.le_refl _) _
  have hbx : Book.Box w.heap.size D.b a n w0 := by rw [hw0]; exact heap_alloc_new w _
  have HA0 := Lib.hid (h.below hb0)
  have HM0 := Lib.hid (Sec.Moves.of_below (D := D) hb0)
  have HR1 := Lib.hid (hG1.below hb0)
  have HR2 := Lib.hid (hG2.below hb0)
  have HO1 := Lib.hid ho1
  have HO2 := Lib.hid ho2
  have HOB := Lib.hid (Sec.off_fresh h (Nat.le_refl w.heap.size))
  have HBX0 := Lib.hid hbx
  have HOK := Lib.hid hs
  have HW := Lib.hid hwant
  have HZ := Lib.hid hz
  have HPP : Hid (∀ r, Book.inner step xs a n 0 ⟨false, lw, s, false⟩ = r → Book.inner step xs a lw.length 0 ⟨false, lw, s, false⟩ = r) := fun r hr => by rw [hlw]; exact hr
  have HP := Lib.hid hP
  have HEQ : Hid (∀ wx, Below w0.heap.size w0 wx → Calls Tryz.prog 96 #[.slice (some ⟨G1, 0, none⟩) n c1, .slice (some ⟨G2, 0, none⟩) n c2] wx fun e w' => e = .returned (.bool (decide (lw = lb))) ∧ Below wx.heap.size wx w') := fun wx hb => by
    have := pequal (lw.map fun x => ⟨x.toArray⟩) (lb.map fun x => ⟨x.toArray⟩) _ _ c1 c2 wx (Book.Row.lies (HR1.out.below hb)) (Book.Row.lies (HR2.out.below hb)) (by simp; omega) (by simp [maxLen]; omega)
    rw [List.length_map, List.length_map, hlw, hlb] at this
    have e : decide (lw.map (fun x => (⟨x.toArray⟩ : ByteArray)) = lb.map fun x => ⟨x.toArray⟩) = decide (lw = lb) := by
      rw [decide_eq_decide]
      exact ⟨Book.mk_inj, fun h => by rw [h]⟩
    rw [e] at this
    exact this
  have HLW := Lib.hid hlw
  have HLB := Lib.hid hlb
  have HLEN := Lib.hid hlen
  clear h hs ho1 ho2 hG1 hG2 hb0 hbx hwant hz hP hlw hlb hlen
  by_cases heq : lw = lb
  · have hd : decide (lw = lb) = true := by simpa using heq
    rw [hd] at HEQ
    have HPE : Hid (P = (0, lw, s)) := by
      show _ = _
      rw [HP.out]
      refine Book.stepA_none (HPP.out _ ?_)
      refine Book.inner_none (fun i hi => ?_) n 0 (by have := HLW.out; omega)
      have := HW.out i (by have := HLW.out; omega)
      rw [← this, heq]
    have HE := Lib.hid heq
    clear heq hd HP HPP
    go_enter Tryz.func73, Tryz.ntmps73
    go_wp2_with fail
    rw [← hw0]
    refine (HEQ.out _ (Below.refl _ _)).mono ?_
    rintro e w1 ⟨rfl, hb⟩
    have HA1 := Lib.hid (HA0.out.below hb)
    have HM1 := Lib.hid (HM0.out.trans (Sec.Moves.of_below (D := D) hb))
    clear hb hw0
    go_wp2_with fail
    go_ret
    exact ⟨by rw [HPE.out]; rfl, ⟨D, by rw [HPE.out]; exact HA1.out, HM1.out⟩, fun _ => by rw [HPE.out]; exact HE.out⟩
  · have hd : decide (lw = lb) = false := by simpa using heq
    rw [hd] at HEQ
    have HNE := Lib.hid heq
    clear heq hd
    go_enter Tryz.func73, Tryz.ntmps73
    go_wp2_with fail
    rw [← hw0]
    refine (HEQ.out _ (Below.refl _ _)).mono ?_
    rintro e w1 ⟨rfl, hb⟩
    have HA1 := Lib.hid (HA0.out.below hb)
    have HM1 := Lib.hid (Sec.Moves.of_below (D := D) hb)
    clear hb hw0
    go_wp2_with fail
    go_loopw [15] (fun t wr => ∃ (i : Nat) (D' : Sec.Bl) (si : Sec.St) (bi : Bool), i ≤ n ∧ t = .int .i64 i ∧ Hid (Sec.At D' si wr) ∧ Hid (Sec.Moves D D' w0 wr) ∧ Hid (si.Ok ∧ si.n = s.n ∧ si.loose.length ≤ s.loose.length + i) ∧
        Hid (Book.inner step xs a n 0 ⟨false, lw, s, false⟩ = Book.inner step xs a (n - i) i ⟨false, Book.mix lb lw i, si, bi⟩) ∧ Hid (bi = false → Book.mix lb lw i = lw)) (fun t _ => n - (intOf t).toNat)
    case atStart => exact ⟨0, D, s, false, Nat.zero_le _, rfl, HA1.out, HM1.out, ⟨HOK.out, rfl, Nat.le_refl _⟩, by show _ = _; rw [Book.mix_zero]; rfl, fun _ => Book.mix_zero⟩
    case round =>
      obtain ⟨i, D', si, bi, hi, rfl, HA, HMV, HST, HI, HB⟩ := hrel
      by_cases hlt : i < n
      · have hi0 : (0 : Int) ≤ (i : Int) := by omega
        have hi1 : (i : Int) < (n : Int) := by omega
        have hlw := HLW.out
        have hlb := HLB.out
        have hROW1 : Book.Row G1 lw wr := HR1.out.keep (HMV.out.block G1 HR1.out.ltb HO1.out)
        have hROW2 : Book.Row G2 lb wr := HR2.out.keep (HMV.out.block G2 HR2.out.ltb HO2.out)
        have hBOX : Book.Box w.heap.size D.b a n wr := HBX0.out.keep (HMV.out.block _ HBX0.out.ltb HOB.out)
        have cw := hROW1.cell (i := i) (by omega)
        have cb := hROW2.cell (i := i) (by omega)
        have c0 := hBOX.c0
        have c1 := hBOX.c1
        have c2 := hBOX.c2
        have hyl : (lb.getD i []).length = 128 := by
          rw [List.getD, List.getElem?_eq_getElem (by omega)]
          exact HZ.out _ (List.getElem_mem _)
        have hwi := HW.out i hlt
        have HMX := Lib.hid (Book.mix_get (lb := lb) HLEN.out (show i < lw.length by omega))
        have HSET := Lib.hid (Book.mix_set (lb := lb) HLEN.out (show i < lw.length by omega))
        have HSAME := Lib.hid (Book.mix_same (lb := lb) HLEN.out (show i < lw.length by omega))
        have hsub : n - i = (n - (i + 1)) + 1 := by omega
        have H1 : Hid (lb.getD i [] = lw.getD i [] → Book.inner step xs a n 0 ⟨false, lw, s, false⟩ = Book.inner step xs a (n - (i + 1)) (i + 1) ⟨false, Book.mix lb lw (i + 1), si, bi⟩) := fun e => by
          refine HI.out.trans ?_
          rw [hsub, HSAME.out e]
          exact Book.inner_same (by simp only []; rw [HMX.out, ← hwi, e])
        have H2 : Hid (lb.getD i [] ≠ lw.getD i [] → (Book.wput si (a + i) (lb.getD i [])).1 = 0 → Book.inner step xs a n 0 ⟨false, lw, s, false⟩ = Book.inner step xs a (n - (i + 1)) (i + 1) ⟨false, Book.mix lb lw (i + 1), (Book.wput si (a + i) (lb.getD i [])).2, true⟩) := fun e hc => by
          refine HI.out.trans ?_
          rw [hsub]
          have key := Book.inner_go (step := step) (xs := xs) (a := a) (f := n - (i + 1)) (i := i) (r := ⟨false, Book.mix lb lw i, si, bi⟩) (by simp only []; rw [HMX.out, ← hwi]; exact fun h => e h.symm) (by simp only []; rw [HMX.out, ← hwi]; exact hc)
          rw [key]
          simp only []
          rw [HMX.out, ← hwi, HSET.out]
        have H3 : Hid (lb.getD i [] ≠ lw.getD i [] → (Book.wput si (a + i) (lb.getD i [])).1 ≠ 0 → P = (51, Book.mix lb lw i, si) ∧ Book.wput si (a + i) (lb.getD i []) = (51, si)) := fun e hc => by
          have key := Book.inner_stop (step := step) (xs := xs) (a := a) (f := n - (i + 1)) (i := i) (r := ⟨false, Book.mix lb lw i, si, bi⟩) (by simp only []; rw [HMX.out, ← hwi]; exact fun h => e h.symm) (by simp only []; rw [HMX.out, ← hwi]; exact hc)
          refine ⟨?_, ?_⟩
          · rw [HP.out]
            refine Book.stepA_bad (b := bi) (HPP.out _ (HI.out.trans ?_))
            rw [hsub]
            exact key.1
          · have k2 := key.2
            simp only [] at k2
            rw [HMX.out, ← hwi] at k2
            exact k2
        have HBS : Hid (lb.getD i [] = lw.getD i [] → bi = false → Book.mix lb lw (i + 1) = lw) := fun e hb => by rw [HSAME.out e]; exact HB.out hb
        clear hwi HMX HSET HSAME hsub hlw hlb hROW1 hROW2 hBOX
        obtain ⟨x, hx⟩ : ∃ x, x = lw.getD i [] := ⟨_, rfl⟩
        rw [← hx] at cw H1 H2 H3 HBS
        generalize lb.getD i [] = y at cb hyl H1 H2 H3 HBS
        clear hx
        by_cases he : y = x
        · have G1 := Lib.hid (H1.out he)
          have G2 := Lib.hid (HBS.out he)
          subst he
          clear H1 H2 H3 HBS
          go_wp2_with fail
          go_roundw
          case rel => exact ⟨i + 1, D', si, bi, by omega, by go_num, HA.out, HMV.out, ⟨HST.out.1, HST.out.2.1, by have := HST.out.2.2; omega⟩, G1.out, G2.out⟩
          case measure => simp [intOf]; omega
        · have he2 : (y == x) = false := by rw [beq_eq_false_iff_ne]; exact he
          have G2 := Lib.hid (H2.out he)
          have G3 := Lib.hid (H3.out he)
          obtain ⟨hok, hsn, hsl⟩ := HST.out
          have hws : w0.heap.size ≤ wr.heap.size := HMV.out.size
          have HPUT : Hid (∀ wx, wx = wr.alloc (.cells #[.string ⟨y.toArray⟩] 9) → Calls Tryz.prog 62 #[.agg #[.pointer (some ⟨D.b, 0, none⟩), .int .i64 (a : Int), .int .i64 (n : Int)], .int .i64 (i : Int), .slice (some ⟨wr.heap.size, 0, none⟩) 1 1] wx fun e w' =>
              e = .returned (.int .i64 (Book.wput si (a + i) y).1) ∧ Sec.Behind D' (Book.wput si (a + i) y).2 wr w') := fun wx hwx => by
            have hbw : Below wr.heap.size wr wx := by rw [hwx]; exact (Below.refl _ _).alloc (Nat.le_refl _) _
            have hrow : Book.Row wr.heap.size [y] wx := by rw [hwx]; exact heap_alloc_new wr _
            have := pput D' si wx (HA.out.below hbw) hok a i (n : Int) [y] (fun z hz => by rw [List.mem_singleton.1 hz]; exact hyl) (by simp only [List.length_cons, List.length_nil]; omega) (by simp only [List.length_cons, List.length_nil]; omega) wr.heap.size 1 hrow (Sec.off_fresh HA.out (Nat.le_refl _))
            have hp : Book.puts (Book.from_ (a + i) [y]) si = ((Book.wput si (a + i) y).1, (Book.wput si (a + i) y).2) := by
              show Book.puts [(a + i, y)] si = _
              rw [Book.puts]
              split
              · rename_i h0
                rw [Book.puts, h0]
              · rfl
            rw [hp] at this
            unfold Book.pv at this
            rw [HMV.out.b] at this
            refine this.mono ?_
            rintro e w' ⟨h1, D2, h2, h3⟩
            exact ⟨h1, D2, h2, (Sec.Moves.of_below hbw).trans h3⟩
          have HOK2 := Lib.hid (Book.wput_ok hok (show a + i < si.n by omega) hyl)
          have HN2 := Lib.hid ((Book.wput_n si (a + i) y).trans hsn)
          have HL2 : Hid ((Book.wput si (a + i) y).2.loose.length ≤ s.loose.length + (i + 1)) := by
            have := Book.wput_len si (a + i) y
            show _ ≤ _
            omega
          have hcode := Book.wput_code si (a + i) y
          generalize Book.wput si (a + i) y = r at HPUT HOK2 HN2 HL2 G2 G3 hcode
          obtain ⟨rc, rs⟩ := r
          simp only [] at hcode
          clear H1 H2 H3 HBS hok hsn hsl
          rcases hcode with rfl | rfl
          · have G4 := Lib.hid (G2.out rfl)
            clear G2 G3
            go_wp2_with fail
            refine (HPUT.out _ rfl).mono ?_
            rintro e w2 ⟨rfl, D2, hA2, hM2⟩
            have HA2 := Lib.hid hA2
            have HM2 := Lib.hid (HMV.out.trans hM2)
            clear hA2 hM2 cw cb c0 c1 c2 HPUT
            go_wp2_with fail
            go_roundw
            case rel => exact ⟨i + 1, D2, rs, true, by omega, by go_num, HA2.out, HM2.out, ⟨HOK2.out, HN2.out, HL2.out⟩, G4.out, fun h => by cases h⟩
            case measure => simp [intOf]; omega
          · have G4 := Lib.hid (G3.out (by show (51 : Int) ≠ 0; decide))
            clear G2 G3
            go_wp2_with fail
            refine (HPUT.out _ rfl).mono ?_
            rintro e w2 ⟨rfl, D2, hA2, hM2⟩
            have HA2 := Lib.hid hA2
            have HM2 := Lib.hid ((HM0.out.trans HMV.out).trans hM2)
            clear hA2 hM2 cw cb c0 c1 c2 HPUT
            go_wp2_with fail
            go_ret
            obtain ⟨g1, g2⟩ := G4.out
            have g3 : rs = si := congrArg Prod.snd g2
            rw [g1]
            exact ⟨rfl, ⟨D2, by rw [← g3]; exact HA2.out, HM2.out⟩, fun h => by cases h⟩
      · obtain rfl : i = n := by omega
        have hlw := HLW.out
        have HALL : Hid (Book.mix lb lw i = lb) := by
          have := Book.mix_all (lb := lb) (lw := lw) HLEN.out
          rwa [hlw] at this
        have hbi : bi = true := by
          cases bi with
          | true => rfl
          | false => exact absurd ((HB.out rfl).symm.trans HALL.out) HNE.out
        subst hbi
        have hBOX : Book.Box w.heap.size D.b a i wr := HBX0.out.keep (HMV.out.block _ HBX0.out.ltb HOB.out)
        have c0 := hBOX.c0
        obtain ⟨hok, hsn, hsl⟩ := HST.out
        have HSY := Lib.hid (dsync D' D.b HMV.out.b si wr HA.out hok (by omega))
        have HPE : Hid (P = ((Book.wsync si).1, lb, (Book.wsync si).2)) := by
          show _ = _
          rw [HP.out]
          have h1 := HI.out
          rw [Nat.sub_self, HALL.out] at h1
          exact Book.stepA_end (HPP.out _ h1)
        clear hBOX hok hsn hsl hlw
        generalize Book.wsync si = r at HSY HPE
        go_wp2_with fail
        refine HSY.out.mono ?_
        rintro e w2 ⟨rfl, D2, hA2, hM2⟩
        have HA2 := Lib.hid hA2
        have HM2 := Lib.hid ((HM0.out.trans HMV.out).trans hM2)
        clear hA2 hM2 c0
        go_wp2_with fail
        go_ret
        rw [HPE.out]
        exact ⟨rfl, ⟨D2, HA2.out, HM2.out⟩, fun _ => rfl⟩
end Go.Proofs.YtpmhpibbdcifnaaGreat
end

section
namespace Go.Proofs.YtpmhpibbdcifnaaGreat
open Go.RowKit
attribute [local go_sem ↓] Go.wp_at_zero Go.wp_at_succ

theorem Book.range_getD (f : Nat → List UInt8) {n i : Nat} (h : i < n) : ((List.range n).map f).getD i [] = f i := by
  simp [List.getD, h]
theorem Book.anew_one {xs : List UInt8} {a : Nat} {l : List (List UInt8)} {s : Sec.St} {P : Int × List (List UInt8) × Sec.St} (hP : P = Book.stepA 0 xs a l s) (hc : P.1 ≠ 0) : Book.anew xs a l s = P := by
  have h1 : Book.steps xs a l s 1 = P := by rw [hP]; exact Book.steps_next (k := 0) rfl
  unfold Book.anew
  rw [Book.steps, h1, if_neg hc]
theorem Book.anew_two {xs : List UInt8} {a : Nat} {l l1 : List (List UInt8)} {s s1 : Sec.St} (hP : (0, l1, s1) = Book.stepA 0 xs a l s) : Book.anew xs a l s = Book.stepA 1 xs a l1 s1 := by
  have h1 : Book.steps xs a l s 1 = (0, l1, s1) := by rw [hP]; exact Book.steps_next (k := 0) rfl
  exact Book.steps_next h1
theorem Book.stepA_code (step : Nat) (xs : List UInt8) (a : Nat) (l : List (List UInt8)) (s : Sec.St) : (Book.stepA step xs a l s).1 = 0 ∨ (Book.stepA step xs a l s).1 = 51 := by
  unfold Book.stepA
  simp only []
  split
  · exact .inr rfl
  · split
    · split
      · exact .inr rfl
      · exact .inl rfl
    · exact .inl rfl
/-- What a disk is behind sectors made anew. -/
theorem Book.inner_keep (step : Nat) (xs : List UInt8) (a : Nat) : ∀ (f i : Nat) (r : Book.An), r.s.Ok → a + i + f ≤ r.s.n → (∀ x ∈ r.l, x.length = 128) → i + f = r.l.length →
    (Book.inner step xs a f i r).s.Ok ∧ (Book.inner step xs a f i r).s.n = r.s.n ∧ (Book.inner step xs a f i r).s.loose.length ≤ r.s.loose.length + f ∧ (r.s.Seen → (Book.inner step xs a f i r).s.Seen) ∧ (∀ x ∈ (Book.inner step xs a f i r).l, x.length = 128) ∧ (Book.inner step xs a f i r).l.length = r.l.length := by
  intro f
  induction f with
  | zero => exact fun i r h _ hz _ => ⟨h, rfl, Nat.le_refl _, fun h => h, hz, rfl⟩
  | succ f ih =>
    intro i r h hn hz hl
    rw [Book.inner]
    split
    · obtain ⟨a1, a2, a3, a4, a5, a6⟩ := ih (i + 1) r h (by omega) hz (by omega)
      exact ⟨a1, a2, by omega, a4, a5, a6⟩
    · split
      · exact ⟨h, rfl, by simp only []; omega, fun h => h, hz, rfl⟩
      · have hx : (r.l.getD i []).length = 128 := by
          rw [List.getD, List.getElem?_eq_getElem (by omega)]
          exact hz _ (List.getElem_mem _)
        have hy : (Book.want step xs (r.l.getD i []) i).length = 128 := Book.want_len hx
        generalize Book.want step xs (r.l.getD i []) i = y at hy
        have hk : a + i < r.s.burn.n := by show a + i < r.s.n; omega
        obtain ⟨a1, a2, a3, a4, a5, a6⟩ := ih (i + 1) ⟨r.bad, r.l.set i y, r.s.burn.put (a + i) y, true⟩ ((h.burn).put hk hy) (by show a + (i + 1) + f ≤ r.s.n; omega)
          (fun x hx => by rcases List.mem_or_eq_of_mem_set hx with hx | rfl; exact hz x hx; exact hy) (by show i + 1 + f = (r.l.set i y).length; rw [List.length_set]; omega)
        refine ⟨a1, a2, ?_, fun hs => a4 ((hs.burn).put h.burn hk hy), a5, by rw [a6]; exact List.length_set⟩
        have : (r.s.burn.put (a + i) y).loose.length = r.s.loose.length + 1 := by show (r.s.loose ++ [_]).length = _; simp
        simp only [] at a3
        omega
theorem Book.stepA_keep {step : Nat} {xs : List UInt8} {a : Nat} {l : List (List UInt8)} {s : Sec.St} (h : s.Ok) (hn : a + l.length ≤ s.n) (hz : ∀ x ∈ l, x.length = 128) :
    (Book.stepA step xs a l s).2.2.Ok ∧ (Book.stepA step xs a l s).2.2.n = s.n ∧ (Book.stepA step xs a l s).2.2.loose.length ≤ s.loose.length + l.length ∧ (s.Seen → (Book.stepA step xs a l s).2.2.Seen) ∧ (∀ x ∈ (Book.stepA step xs a l s).2.1, x.length = 128) ∧ (Book.stepA step xs a l s).2.1.length = l.length := by
  obtain ⟨a1, a2, a3, a4, a5, a6⟩ := Book.inner_keep step xs a l.length 0 ⟨false, l, s, false⟩ h hn hz (by simp)
  unfold Book.stepA
  generalize Book.inner step xs a l.length 0 ⟨false, l, s, false⟩ = r at a1 a2 a3 a4 a5 a6
  simp only [] at a2 a3 a4 a6 ⊢
  split
  · exact ⟨a1, a2, a3, a4, a5, a6⟩
  · split
    · split
      · exact ⟨a1, a2, a3, a4, a5, a6⟩
      · exact ⟨(a1.burn).settle _, a2, Nat.zero_le _, fun _ => Sec.St.Seen.settle a1.burn _, a5, a6⟩
    · exact ⟨a1, a2, a3, a4, a5, a6⟩
theorem Book.anew_keep {xs : List UInt8} {a : Nat} {l : List (List UInt8)} {s : Sec.St} (h : s.Ok) (hn : a + l.length ≤ s.n) (hz : ∀ x ∈ l, x.length = 128) :
    (Book.anew xs a l s).2.2.Ok ∧ (Book.anew xs a l s).2.2.n = s.n ∧ (Book.anew xs a l s).2.2.loose.length ≤ s.loose.length + 2 * l.length ∧ (s.Seen → (Book.anew xs a l s).2.2.Seen) := by
  obtain ⟨a1, a2, a3, a4, a5, a6⟩ := Book.stepA_keep (step := 0) (xs := xs) h hn hz
  rcases Book.stepA_code 0 xs a l s with hc | hc
  · have e : ((0 : Int), (Book.stepA 0 xs a l s).2.1, (Book.stepA 0 xs a l s).2.2) = Book.stepA 0 xs a l s := by rw [← hc]
    rw [Book.anew_two e]
    obtain ⟨b1, b2, b3, b4, _, _⟩ := Book.stepA_keep (step := 1) (xs := xs) a1 (by rw [a2, a6]; exact hn) a5
    exact ⟨b1, b2.trans a2, by omega, fun hs => b4 (a4 hs)⟩
  · rw [Book.anew_one rfl (by rw [hc]; decide)]
    exact ⟨a1, a2, by omega, a4⟩

set_option maxHeartbeats 4000000 in
set_option maxRecDepth 20000 in
theorem prenew (D : Sec.Bl) (s : Sec.St) (w : World) (h : Sec.At D s w) (hs : s.Ok) (a n : Nat) (xs : List UInt8) (hxs : xs.length ≤ 1000000) (lw : List (List UInt8)) (hlw : lw.length = n) (han : a + n ≤ s.n) (hlim : s.loose.length + 2 * n ≤ 1000000000)
    (hz : ∀ y ∈ lw, y.length = 128) (G c : Nat) (hG : Book.Row G lw w) (ho : D.off G)
    (P : Int × List (List UInt8) × Sec.St) (hP : P = Book.anew xs a lw s) :
    Calls Tryz.prog 52 #[Book.pv D.b a n, .slice (some ⟨G, 0, none⟩) n c, .string ⟨xs.toArray⟩] w fun e w' => e = .returned (.int .i64 P.1) ∧ Sec.Behind D P.2.2 w w' := by
  have hn2 := hs.n2
  have hki : (a : Int) + (n : Int) ≤ 4096 := by omega
  have hni : (n : Int) ≤ 4096 := by omega
  have hmk := run_make_row' (P := Tryz.prog) 25 9 (.string ByteArray.empty) 16 Tryz.underlying25 str_info rfl .i64 .i64 n (by omega) (by omega)
  obtain ⟨f, hf⟩ : ∃ f : Nat → List UInt8, f = fun k => Book.want 0 xs (lw.getD k []) k := ⟨_, rfl⟩
  obtain ⟨w0, hw0⟩ : ∃ w0, w0 = w.alloc (.cells #[.pointer (some ⟨D.b, 0, none⟩), .int .i64 (a : Int), .int .i64 (n : Int)] 81) := ⟨_, rfl⟩
  have hb0 : Below w.heap.size w w0 := by rw [hw0]; exact (Below.refl _ _).alloc (Nat.le_refl _) _
  have hbx : Book.Box w.heap.size D.b a n w0 := by rw [hw0]; exact heap_alloc_new w _
  have hs0 : w0.heap.size = w.heap.size + 1 := by rw [hw0]; simp
  -- the two steps, plain
  have hgw : ∀ k, k < n → (lw.getD k []).length = 128 := fun k hk => by
    rw [List.getD, List.getElem?_eq_getElem (by omega)]
    exact hz _ (List.getElem_mem _)
  have HT1 : Hid (∀ (D' : Sec.Bl) (wx : World) (Gc cc : Nat), D'.b = D.b → Sec.At D' s wx → Book.Row G lw wx → Book.Row Gc ((List.range n).map f) wx → D'.off G → D'.off Gc →
      Calls Tryz.prog 73 #[.agg #[.pointer (some ⟨D.b, 0, none⟩), .int .i64 (a : Int), .int .i64 (n : Int)], .slice (some ⟨G, 0, none⟩) n c, .slice (some ⟨Gc, 0, none⟩) n cc] wx fun e w' =>
        e = .returned (.int .i64 (Book.stepA 0 xs a lw s).1) ∧ Sec.Behind D' (Book.stepA 0 xs a lw s).2.2 wx w' ∧ ((Book.stepA 0 xs a lw s).1 = 0 → (Book.stepA 0 xs a lw s).2.1 = (List.range n).map f)) := fun D' wx Gc cc hp h1 h2 h3 h4 h5 => by
    have := pturn D' s wx h1 hs a n 0 xs lw ((List.range n).map f) hlw (by simp) han (by omega) (fun y hy => by
      obtain ⟨k, hk, rfl⟩ := List.mem_map.1 hy
      rw [hf]
      exact Book.want_len (hgw k (List.mem_range.1 hk))) (fun i hi => by rw [Book.range_getD f hi, hf]) G Gc c cc h2 h3 h4 h5 _ rfl
    unfold Book.pv at this
    rw [hp] at this
    exact this
  have hkeep := Book.stepA_keep (step := 0) (xs := xs) hs (show a + lw.length ≤ s.n by omega) hz
  have HT2 : Hid (∀ (D' : Sec.Bl) (s1 : Sec.St) (wx : World) (Gc cc Gb cb : Nat) (Q : Int × List (List UInt8) × Sec.St), D'.b = D.b → Sec.At D' s1 wx → s1.Ok → s1.n = s.n → s1.loose.length ≤ s.loose.length + n → Book.Row Gc ((List.range n).map f) wx → Book.Row Gb ((List.range n).map (Book.made xs)) wx → D'.off Gc → D'.off Gb → Q = Book.stepA 1 xs a ((List.range n).map f) s1 →
      Calls Tryz.prog 73 #[.agg #[.pointer (some ⟨D.b, 0, none⟩), .int .i64 (a : Int), .int .i64 (n : Int)], .slice (some ⟨Gc, 0, none⟩) n cc, .slice (some ⟨Gb, 0, none⟩) n cb] wx fun e w' =>
        e = .returned (.int .i64 Q.1) ∧ Sec.Behind D' Q.2.2 wx w') := fun D' s1 wx Gc cc Gb cb Q hp h1 hok hn1 hl1 h2 h3 h4 h5 hQ => by
    have := pturn D' s1 wx h1 hok a n 1 xs ((List.range n).map f) ((List.range n).map (Book.made xs)) (by simp) (by simp) (by omega) (by omega) (fun y hy => by
      obtain ⟨k, hk, rfl⟩ := List.mem_map.1 hy
      exact Book.made_len xs k) (fun i hi => by rw [Book.range_getD _ hi]; rfl) Gc Gb cc cb h2 h3 h4 h5 Q hQ
    unfold Book.pv at this
    rw [hp] at this
    exact this.mono fun e w' ⟨x, y, _⟩ => ⟨x, y⟩
  have HCAT : Hid (∀ k, k < n → (⟨(lw.getD k []).toArray⟩ : ByteArray).extract 0 127 ++ (⟨(Book.made xs k).toArray⟩ : ByteArray).extract 127 128 = ⟨(f k).toArray⟩) := fun k hk => by
    rw [hf]
    apply ByteArray.ext
    rw [ByteArray.data_append, ByteArray.data_extract, ByteArray.data_extract]
    apply Array.ext'
    have := Book.made_len xs k
    simp [Book.want]
    rw [List.take_of_length_le (by rw [List.length_drop, this]; exact Nat.le_refl _)]
  have HGW := Lib.hid hgw
  have HML : Hid (∀ k, k < n → ((List.range n).map (Book.made xs)).getD k [] = Book.made xs k) := fun k hk => Book.range_getD _ hk
  have HP := Lib.hid hP
  have HOK := Lib.hid hs
  have HKEEP : Hid (∀ l1 s1, Book.stepA 0 xs a lw s = (0, l1, s1) → s1.Ok ∧ s1.n = s.n ∧ s1.loose.length ≤ s.loose.length + n) := fun l1 s1 e => by
    rw [e] at hkeep
    obtain ⟨k1, k2, k3, _⟩ := hkeep
    exact ⟨k1, k2, by rw [hlw] at k3; exact k3⟩
  have HA0 := Lib.hid (h.below hb0)
  have HB0 := Lib.hid hb0
  have HR0 := Lib.hid (hG.below hb0)
  have HO := Lib.hid ho
  have HAW := Lib.hid h
  have HBX0 := Lib.hid hbx
  have hlt0 : G < w.heap.size := hG.ltb
  clear hs h hz hG ho hb0 hbx hgw hf hP hkeep
  unfold Book.pv
  go_enter Tryz.func52, Tryz.ntmps52
  have cb2 := HBX0.out.c2
  rw [hw0] at cb2
  go_wp2_with fail
  rw [← hw0]
  refine (pmade xs n (by omega) hxs w0).mono ?_
  rintro e w1 ⟨Gb, rfl, hgb, hrow, hb1⟩
  have HRB := Lib.hid hrow
  have HA1 := Lib.hid (HA0.out.below hb1)
  have HB1 := Lib.hid (HB0.out.trans (hb1.mono HB0.out.size))
  have HR1 := Lib.hid (HR0.out.below hb1)
  have HBX1 := Lib.hid (HBX0.out.below hb1)
  have hsz1 := HB1.out.size
  have hgb1 := hrow.ltb
  clear hrow hb1 cb2
  have cb2 := HBX1.out.c2
  have HM := Lib.hid (Book.row_made n w1)
  have hb2 : Below w1.heap.size w1 (w1.alloc (.cells (madeCells #[.string ByteArray.empty] n) 9)) := (Below.refl _ _).alloc (Nat.le_refl _) _
  have HBX2 := Lib.hid (HBX1.out.below hb2)
  have HR2 := Lib.hid (HR1.out.below hb2)
  have HRB2 := Lib.hid (HRB.out.below hb2)
  have HB2 := Lib.hid hb2
  clear hb2
  go_wp2_with fail
  clear cb2 hmk
  go_loopw [20] (fun t wr => ∃ k : Nat, k ≤ n ∧ t = .int .i64 k ∧ Hid (Book.Row w1.heap.size (Book.front f n k) wr) ∧ Hid (Book.Row G lw wr) ∧ Hid (Book.Row Gb ((List.range n).map (Book.made xs)) wr) ∧ Hid (Book.Box w.heap.size D.b a n wr) ∧ Hid (Below w1.heap.size w1 wr)) (fun t _ => n - (intOf t).toNat)
  case atStart => exact ⟨0, Nat.zero_le _, rfl, by show Book.Row _ _ _; rw [Book.front_zero]; exact HM.out, HR2.out, HRB2.out, HBX2.out, HB2.out⟩
  case round =>
    obtain ⟨k, hk, rfl, HROW, HRW, HRX, HBX, HBB⟩ := hrel
    by_cases hlt : k < n
    · have hk0 : (0 : Int) ≤ (k : Int) := by omega
      have hk1 : (k : Int) < (n : Int) := by omega
      have HSUCC := Lib.hid (Book.front_succ f hlt)
      have hl := Book.front_len (f := f) (Nat.le_of_lt hlt)
      have cc := HROW.out.cell (i := k) (by rw [hl]; exact hlt)
      have fc := HROW.out.fro k
      have cx := HRX.out.cell (i := k) (by simpa using hlt)
      rw [HML.out k hlt] at cx
      have cw := HRW.out.cell (i := k) (by omega)
      have hcat := HCAT.out k hlt
      have hxl := HGW.out k hlt
      have hml := Book.made_len xs k
      have HGB : Hid (Book.Row G lw (wr.setCell ⟨w1.heap.size, k, none⟩ (.string ⟨(f k).toArray⟩)).drew ∧ Book.Row Gb ((List.range n).map (Book.made xs)) (wr.setCell ⟨w1.heap.size, k, none⟩ (.string ⟨(f k).toArray⟩)).drew ∧ Book.Box w.heap.size D.b a n (wr.setCell ⟨w1.heap.size, k, none⟩ (.string ⟨(f k).toArray⟩)).drew ∧ Book.Row w1.heap.size (Book.front f n (k + 1)) (wr.setCell ⟨w1.heap.size, k, none⟩ (.string ⟨(f k).toArray⟩)).drew ∧ Below w1.heap.size w1 (wr.setCell ⟨w1.heap.size, k, none⟩ (.string ⟨(f k).toArray⟩)).drew) := by
        refine ⟨HRW.out.keep (heap_setCell_other _ _ _ _ (by show G ≠ w1.heap.size; omega)), HRX.out.keep (heap_setCell_other _ _ _ _ (by show Gb ≠ w1.heap.size; omega)), HBX.out.keep (heap_setCell_other _ _ _ _ (by show w.heap.size ≠ w1.heap.size; omega)), ?_, (HBB.out.setCell (p := ⟨w1.heap.size, k, none⟩) (Nat.le_refl _) _).drew⟩
        rw [← HSUCC.out]
        exact HROW.out.set k _
      generalize f k = y at hcat HGB
      generalize lw.getD k [] = x at cw hcat hxl
      generalize Book.made xs k = m at cx hcat hml
      have hxs2 : (⟨x.toArray⟩ : ByteArray).size = 128 := by show x.toArray.size = 128; simpa using hxl
      have hms2 : (⟨m.toArray⟩ : ByteArray).size = 128 := by show m.toArray.size = 128; simpa using hml
      clear hl HSUCC
      go_wp2_with fail
      go_region
      all_goals
        first | (simp only [Exit.then]; go_at_K; go_wp2_with fail) | go_wp2_with fail
        go_roundw
        case rel => exact ⟨k + 1, by omega, by go_num, HGB.out.2.2.2.1, HGB.out.1, HGB.out.2.1, HGB.out.2.2.1, HGB.out.2.2.2.2⟩
        case measure => simp [intOf]; omega
    · obtain rfl : k = n := by omega
      have HRC : Hid (Book.Row w1.heap.size ((List.range k).map f) wr) := by
        have := HROW.out
        rwa [Book.front_all] at this
      have c0 := HBX.out.c0
      have c1 := HBX.out.c1
      have c2 := HBX.out.c2
      have HAR := Lib.hid (HA1.out.below HBB.out)
      have hszr := HBB.out.size
      have HBR := Lib.hid (HB1.out.trans (HBB.out.mono hsz1))
      have hgc := HRC.out.ltb
      have OG : Hid (D.off w1.heap.size) := Sec.off_fresh HAW.out hsz1
      have OB : Hid (D.off Gb) := Sec.off_fresh HAW.out (by omega)
      have OX : Hid (D.off w.heap.size) := Sec.off_fresh HAW.out (Nat.le_refl _)
      have HS1 := Lib.hid (HT1.out D wr w1.heap.size k rfl HAR.out HRW.out HRC.out HO.out OG.out)
      have HAN1 := Lib.hid (fun hc => Book.anew_one (xs := xs) (a := a) (l := lw) (s := s) rfl hc)
      have HAN2 := Lib.hid (fun l1 s1 hc => Book.anew_two (xs := xs) (a := a) (l := lw) (l1 := l1) (s := s) (s1 := s1) hc)
      have hcode := Book.stepA_code 0 xs a lw s
      generalize Book.stepA 0 xs a lw s = r at HS1 HAN1 HAN2 HKEEP hcode
      obtain ⟨rc, rl, rs⟩ := r
      simp only [] at hcode HAN1
      clear HT1 HCAT HML HGW
      rcases hcode with rfl | rfl
      · go_wp2_with fail
        refine HS1.out.mono ?_
        rintro e w3 ⟨rfl, ⟨D2, hA2, hM2⟩, hl2⟩
        obtain rfl : rl = (List.range k).map f := hl2 (by first | trivial | rfl)
        have HA2 := Lib.hid hA2
        have HM2 := Lib.hid hM2
        have HRC2 : Hid (Book.Row w1.heap.size ((List.range k).map f) w3) := HRC.out.keep (hM2.block _ HRC.out.ltb OG.out)
        have HRB3 : Hid (Book.Row Gb ((List.range k).map (Book.made xs)) w3) := HRX.out.keep (hM2.block _ HRX.out.ltb OB.out)
        have hbx3 : Book.Box w.heap.size D.b a k w3 := HBX.out.keep (hM2.block _ HBX.out.ltb OX.out)
        obtain ⟨hok1, hn1, hl1⟩ := HKEEP.out _ _ rfl
        have HAN3 := Lib.hid (HAN2.out _ _ rfl)
        have HQ : Hid (P = Book.stepA 1 xs a ((List.range k).map f) rs) := by show _ = _; rw [HP.out]; exact HAN3.out
        have HS2 := Lib.hid (HT2.out D2 rs w3 w1.heap.size k Gb k P hM2.b hA2 hok1 hn1 hl1 HRC2.out HRB3.out (hM2.off HRC.out.ltb OG.out) (hM2.off HRX.out.ltb OB.out) HQ.out)
        clear c0 c1 c2 hA2 hM2 hok1 hn1 hl1 hl2
        have c0 := hbx3.c0
        have c1 := hbx3.c1
        have c2 := hbx3.c2
        clear hbx3
        go_wp2_with fail
        refine HS2.out.mono ?_
        rintro e w4 ⟨rfl, D3, hA3, hM3⟩
        go_wp2_with fail
        go_ret
        exact ⟨rfl, D3, hA3, ((Sec.Moves.of_below HBR.out).trans HM2.out).trans hM3⟩
      · have HPE : Hid (P = (51, rl, rs)) := by show _ = _; rw [HP.out]; exact HAN1.out (by decide)
        go_wp2_with fail
        refine HS1.out.mono ?_
        rintro e w3 ⟨rfl, ⟨D2, hA2, hM2⟩, hl2⟩
        clear hl2
        go_wp2_with fail
        go_ret
        rw [HPE.out]
        exact ⟨rfl, D2, hA2, (Sec.Moves.of_below HBR.out).trans hM2⟩
end Go.Proofs.YtpmhpibbdcifnaaGreat
end

section
namespace Go.Proofs.YtpmhpibbdcifnaaGreat
open Go.RowKit
attribute [local go_sem ↓] Go.wp_at_zero Go.wp_at_succ

theorem Book.fits_nat {s : Sec.St} {a n : Int} (h : Book.fits s.n a n = true) : ∃ a' n' : Nat, a = a' ∧ n = n' ∧ 1 ≤ n' ∧ a' + n' ≤ s.n := by
  unfold Book.fits at h
  simp at h
  obtain ⟨⟨⟨h1, h2⟩, h3⟩, h4⟩ := h
  exact ⟨a.toNat, n.toNat, by omega, by omega, by omega, by omega⟩

set_option maxHeartbeats 2000000 in
set_option maxRecDepth 20000 in
theorem pclear (D : Sec.Bl) (s : Sec.St) (w : World) (h : Sec.At D s w) (hs : s.Ok) (hd : s.still = false) (a n : Nat) (hn : 1 ≤ n) (han : a + n ≤ s.n) (hlim : s.loose.length + 2 * n ≤ 1000000000) :
    Calls Tryz.prog 36 #[.pointer (some ⟨D.b, 0, none⟩), .int .i64 (a : Int), .int .i64 (n : Int)] w fun e w' => e = .returned (.int .i64 (Book.anew [] a (Book.secsL s.now a n) s).1) ∧ Sec.Behind D (Book.anew [] a (Book.secsL s.now a n) s).2.2 w w' := by
  have hn2 := hs.n2
  have hsz := Book.secsL_sz hs.now han
  obtain ⟨P, hP⟩ : ∃ P, P = Book.anew [] a (Book.secsL s.now a n) s := ⟨_, rfl⟩
  rw [← hP]
  obtain ⟨w0, hw0⟩ : ∃ w0, w0 = w.alloc (.cells #[.pointer (some ⟨D.b, 0, none⟩), .int .i64 (a : Int), .int .i64 (n : Int)] 81) := ⟨_, rfl⟩
  have hb0 : Below w.heap.size w w0 := by rw [hw0]; exact (Below.refl _ _).alloc (Nat.le_refl _) _
  have hbx : Book.Box w.heap.size D.b a n w0 := by rw [hw0]; exact heap_alloc_new w _
  have hf : (0 : Int) = if Book.fits s.n (a : Int) (n : Int) then 0 else 2 := by
    rw [if_pos]
    unfold Book.fits
    simp
    omega
  have HFT : Hid (∀ wx, Below w.heap.size w wx → Calls Tryz.prog 48 #[.agg #[.pointer (some ⟨D.b, 0, none⟩), .int .i64 (a : Int), .int .i64 (n : Int)]] wx fun e w' => e = .returned (.int .i64 0) ∧ Below wx.heap.size wx w') := fun wx hb => pfault D s wx (h.below hb) hs a n (by omega) 0 hf
  have HRD : Hid (∀ wx, Below w.heap.size w wx → Calls Tryz.prog 49 #[.agg #[.pointer (some ⟨D.b, 0, none⟩), .int .i64 (a : Int), .int .i64 (n : Int)]] wx fun e w' => ∃ G, e = .returned (.tuple #[.slice (some ⟨G, 0, none⟩) n n, .int .i64 0]) ∧ wx.heap.size ≤ G ∧ Book.Row G (Book.secsL s.now a n) w' ∧ Below wx.heap.size wx w') := fun wx hb => pread D s wx (h.below hb) hs hd a n han
  have HRN : Hid (∀ wx G, Below w.heap.size w wx → Book.Row G (Book.secsL s.now a n) wx → w.heap.size ≤ G → Calls Tryz.prog 52 #[.agg #[.pointer (some ⟨D.b, 0, none⟩), .int .i64 (a : Int), .int .i64 (n : Int)], .slice (some ⟨G, 0, none⟩) n n, .string ByteArray.empty] wx fun e w' => e = .returned (.int .i64 P.1) ∧ Sec.Behind D P.2.2 wx w') := fun wx G hb hr hg =>
    prenew D s wx (h.below hb) hs a n [] (by simp) (Book.secsL s.now a n) (Book.secsL_len _ _ _) han hlim hsz G n hr (Sec.off_fresh h hg) P hP
  have HB0 := Lib.hid hb0
  have HBX0 := Lib.hid hbx
  clear h hs hd hsz hf hb0 hbx hP
  go_enter Tryz.func36, Tryz.ntmps36
  go_wp2_with fail
  rw [← hw0]
  clear hw0
  refine (HFT.out _ HB0.out).mono ?_
  rintro e w1 ⟨rfl, hb1⟩
  have HBX1 := Lib.hid (HBX0.out.below hb1)
  have HB1 := Lib.hid (HB0.out.trans (hb1.mono HB0.out.size))
  clear hb1
  have c0 := HBX1.out.c0
  have c1 := HBX1.out.c1
  have c2 := HBX1.out.c2
  go_wp2_with fail
  refine (HRD.out _ HB1.out).mono ?_
  rintro e w2 ⟨G, rfl, hg, hrow, hb2⟩
  have HBX2 := Lib.hid (HBX1.out.below hb2)
  have HB2 := Lib.hid (HB1.out.trans (hb2.mono HB1.out.size))
  have HROW := Lib.hid hrow
  have hg2 : w.heap.size ≤ G := Nat.le_trans HB1.out.size hg
  clear hb2 hrow c0 c1 c2
  have c0 := HBX2.out.c0
  have c1 := HBX2.out.c1
  have c2 := HBX2.out.c2
  go_wp2_with fail
  refine (HRN.out _ G HB2.out HROW.out hg2).mono ?_
  rintro e w3 ⟨rfl, D3, hA3, hM3⟩
  go_wp2_with fail
  go_ret
  exact ⟨rfl, D3, hA3, (Sec.Moves.of_below HB2.out).trans hM3⟩

set_option maxHeartbeats 1000000 in
set_option maxRecDepth 20000 in
theorem pclear_down (D : Sec.Bl) (s : Sec.St) (w : World) (h : Sec.At D s w) (hs : s.Ok) (hd : s.still = true) (a n : Nat) (hn : 1 ≤ n) (han : a + n ≤ s.n) :
    Calls Tryz.prog 36 #[.pointer (some ⟨D.b, 0, none⟩), .int .i64 (a : Int), .int .i64 (n : Int)] w fun e w' => e = .returned (.int .i64 51) ∧ Below w.heap.size w w' := by
  have hn2 := hs.n2
  obtain ⟨w0, hw0⟩ : ∃ w0, w0 = w.alloc (.cells #[.pointer (some ⟨D.b, 0, none⟩), .int .i64 (a : Int), .int .i64 (n : Int)] 81) := ⟨_, rfl⟩
  have hb0 : Below w.heap.size w w0 := by rw [hw0]; exact (Below.refl _ _).alloc (Nat.le_refl _) _
  have hbx : Book.Box w.heap.size D.b a n w0 := by rw [hw0]; exact heap_alloc_new w _
  have hf : (0 : Int) = if Book.fits s.n (a : Int) (n : Int) then 0 else 2 := by
    rw [if_pos]
    unfold Book.fits
    simp
    omega
  have HFT : Hid (∀ wx, Below w.heap.size w wx → Calls Tryz.prog 48 #[.agg #[.pointer (some ⟨D.b, 0, none⟩), .int .i64 (a : Int), .int .i64 (n : Int)]] wx fun e w' => e = .returned (.int .i64 0) ∧ Below wx.heap.size wx w') := fun wx hb => pfault D s wx (h.below hb) hs a n (by omega) 0 hf
  have HRD : Hid (∀ wx, Below w.heap.size w wx → Calls Tryz.prog 49 #[.agg #[.pointer (some ⟨D.b, 0, none⟩), .int .i64 (a : Int), .int .i64 (n : Int)]] wx fun e w' => e = .returned (.tuple #[.slice none 0 0, .int .i64 51]) ∧ Below wx.heap.size wx w') := fun wx hb => pread_down D s wx (h.below hb) hs hd a n hn (by omega)
  have HB0 := Lib.hid hb0
  have HBX0 := Lib.hid hbx
  clear h hs hd hf hb0 hbx
  go_enter Tryz.func36, Tryz.ntmps36
  go_wp2_with fail
  rw [← hw0]
  clear hw0
  refine (HFT.out _ HB0.out).mono ?_
  rintro e w1 ⟨rfl, hb1⟩
  have HBX1 := Lib.hid (HBX0.out.below hb1)
  have HB1 := Lib.hid (HB0.out.trans (hb1.mono HB0.out.size))
  clear hb1
  have c0 := HBX1.out.c0
  have c1 := HBX1.out.c1
  have c2 := HBX1.out.c2
  go_wp2_with fail
  refine (HRD.out _ HB1.out).mono ?_
  rintro e w2 ⟨rfl, hb2⟩
  have HB2 := Lib.hid (HB1.out.trans (hb2.mono HB1.out.size))
  clear hb2 c0 c1 c2
  go_wp2_with fail
  go_ret
  exact ⟨rfl, HB2.out⟩

set_option maxHeartbeats 1000000 in
set_option maxRecDepth 20000 in
theorem pclear_no (D : Sec.Bl) (s : Sec.St) (w : World) (h : Sec.At D s w) (hs : s.Ok) (a n : Int) (ha : a ≤ 9223372036854775807) (hno : Book.fits s.n a n = false) :
    Calls Tryz.prog 36 #[.pointer (some ⟨D.b, 0, none⟩), .int .i64 a, .int .i64 n] w fun e w' => e = .returned (.int .i64 2) ∧ Below w.heap.size w w' := by
  obtain ⟨w0, hw0⟩ : ∃ w0, w0 = w.alloc (.cells #[.pointer (some ⟨D.b, 0, none⟩), .int .i64 a, .int .i64 n] 81) := ⟨_, rfl⟩
  have hb0 : Below w.heap.size w w0 := by rw [hw0]; exact (Below.refl _ _).alloc (Nat.le_refl _) _
  have HFT : Hid (∀ wx, Below w.heap.size w wx → Calls Tryz.prog 48 #[.agg #[.pointer (some ⟨D.b, 0, none⟩), .int .i64 a, .int .i64 n]] wx fun e w' => e = .returned (.int .i64 2) ∧ Below wx.heap.size wx w') := fun wx hb => pfault D s wx (h.below hb) hs a n ha 2 (by rw [hno]; rfl)
  have HB0 := Lib.hid hb0
  clear h hs hb0 hno
  go_enter Tryz.func36, Tryz.ntmps36
  go_wp2_with fail
  rw [← hw0]
  clear hw0
  refine (HFT.out _ HB0.out).mono ?_
  rintro e w1 ⟨rfl, hb1⟩
  have HB1 := Lib.hid (HB0.out.trans (hb1.mono HB0.out.size))
  clear hb1
  go_wp2_with fail
  go_ret
  exact ⟨rfl, HB1.out⟩

namespace Book
/-- The program's book in memory: its block, over the disk at block p. -/
def PB (B p : Nat) (a n : Int) (S : List UInt8) (br : Bool) (w : World) : Prop :=
  w.heap[B]? = some (.cells #[.pointer (some ⟨p, 0, none⟩), .int .i64 a, .int .i64 n, .int .i64 ((S.length / 127 : Nat) : Int), .string ⟨(S.drop (S.length / 127 * 127)).toArray⟩, .bool br] 83 (0, 0))
variable {B p : Nat} {a n : Int} {S : List UInt8} {br : Bool} {w w' : World}
theorem PB.ltb (h : PB B p a n S br w) : B < w.heap.size := Sec.lt_of_heap h
theorem PB.keep (h : PB B p a n S br w) (hk : w'.heap[B]? = w.heap[B]?) : PB B p a n S br w' := hk.trans h
theorem PB.below (h : PB B p a n S br w) (hb : Below w.heap.size w w') : PB B p a n S br w' := h.keep (hb.block _ h.ltb)
theorem PB.cell (h : PB B p a n S br w) (j : Nat) : w.cell? ⟨B, j, none⟩ = (#[.pointer (some ⟨p, 0, none⟩), .int .i64 a, .int .i64 n, .int .i64 ((S.length / 127 : Nat) : Int), .string ⟨(S.drop (S.length / 127 * 127)).toArray⟩, .bool br] : Array Value)[j]? := cell_of_row w B j _ _ _ h
theorem PB.fro (h : PB B p a n S br w) (j : Nat) : w.frozen? ⟨B, j, none⟩ = false := frozen_of_row w B j _ _ h
theorem PB.c0 (h : PB B p a n S br w) : w.cell? ⟨B, 0, none⟩ = some (.pointer (some ⟨p, 0, none⟩)) := h.cell 0
theorem PB.c1 (h : PB B p a n S br w) : w.cell? ⟨B, 1, none⟩ = some (.int .i64 a) := h.cell 1
theorem PB.c2 (h : PB B p a n S br w) : w.cell? ⟨B, 2, none⟩ = some (.int .i64 n) := h.cell 2
theorem PB.c3 (h : PB B p a n S br w) : w.cell? ⟨B, 3, none⟩ = some (.int .i64 ((S.length / 127 : Nat) : Int)) := h.cell 3
theorem PB.c4 (h : PB B p a n S br w) : w.cell? ⟨B, 4, none⟩ = some (.string ⟨(S.drop (S.length / 127 * 127)).toArray⟩) := h.cell 4
theorem PB.c5 (h : PB B p a n S br w) : w.cell? ⟨B, 5, none⟩ = some (.bool br) := h.cell 5
theorem PB.broke (h : PB B p a n S br w) (x : Bool) : PB B p a n S x (w.setCell ⟨B, 5, none⟩ (.bool x)) := by
  unfold PB
  rw [heap_setCell_same _ _ _ _ _ _ h]
  rfl
end Book
end Go.Proofs.YtpmhpibbdcifnaaGreat
end

section
namespace Go.Proofs.YtpmhpibbdcifnaaGreat
open Go.RowKit
attribute [local go_sem ↓] Go.wp_at_zero Go.wp_at_succ

set_option maxHeartbeats 1000000 in
set_option maxRecDepth 20000 in
theorem pend (B : Nat) (v0 v1 v2 v3 v4 v5 : Value) (k : Nat) (t : List UInt8) (ht : t.length ≤ 2000000) (hk : k ≤ 4096) (w : World) (h : w.heap[B]? = some (.cells #[v0, v1, v2, v3, v4, v5] 83 (0, 0))) :
    Calls Tryz.prog 53 #[.pointer (some ⟨B, 0, none⟩), .int .i64 (k : Int), .string ⟨t.toArray⟩] w fun e w' => e = .returned (.tuple #[]) ∧
      w'.heap[B]? = some (.cells #[v0, v1, v2, .int .i64 ((k + t.length / 127 : Nat) : Int), .string ⟨(t.drop (t.length / 127 * 127)).toArray⟩, v5] 83 (0, 0)) ∧ w.grownBy w' (some B) := by
  have hts : (⟨t.toArray⟩ : ByteArray).size = t.length := by show t.toArray.size = _; simp
  have hti : (t.length : Int) ≤ 2000000 := by omega
  have hki : (k : Int) ≤ 4096 := by omega
  obtain ⟨q, hq⟩ : ∃ q, q = t.length / 127 := ⟨_, rfl⟩
  have hqi : (q : Int) ≤ 20000 := by omega
  have hdiv : Int.tdiv (t.length : Int) 127 = (q : Int) := by
    rw [Int.tdiv_eq_ediv_of_nonneg (by omega)]
    omega
  have hq2 : (q : Int) * 127 ≤ (t.length : Int) := by omega
  have hex : (⟨t.toArray⟩ : ByteArray).extract (q * 127) t.length = ⟨(t.drop (q * 127)).toArray⟩ := Book.ex_drop t (q * 127)
  have hadd : (k : Int) + (q : Int) = ((k + q : Nat) : Int) := by omega
  have hc3 : w.cell? ⟨B, 3, none⟩ = some v3 := cell_of_row w B 3 _ _ _ h
  have f3 := frozen_of_row w B 3 _ _ h
  have hB := Sec.lt_of_heap h
  have h3 : (w.setCell ⟨B, 3, none⟩ (.int .i64 ((k : Int) + (q : Int)))).heap[B]? = some (.cells #[v0, v1, v2, .int .i64 ((k : Int) + (q : Int)), v4, v5] 83 (0, 0)) := by
    rw [heap_setCell_same _ _ _ _ _ _ h]
    rfl
  have H3 := Lib.hid h3
  have HCL : Hid (∀ wx : World, Calls Tryz.prog 74 #[.string ⟨(t.drop (q * 127)).toArray⟩] wx fun e w' => e = .returned (.string ⟨(t.drop (q * 127)).toArray⟩) ∧ Below wx.heap.size wx w') := fun wx => clone_any _ wx (by show (t.drop (q * 127)).toArray.size ≤ _; simp; omega)
  rw [← hq]
  have HADD := Lib.hid hadd
  clear h h3 hq hadd
  go_enter Tryz.func53, Tryz.ntmps53
  go_wp2_with fail
  refine (HCL.out _).mono ?_
  rintro e w1 ⟨rfl, hb1⟩
  have h1 : w1.heap[B]? = some (.cells #[v0, v1, v2, .int .i64 ((k : Int) + (q : Int)), v4, v5] 83 (0, 0)) := by
    rw [hb1.block B (by simpa [World.setCell] using hB)]
    exact H3.out
  have c4 : w1.cell? ⟨B, 4, none⟩ = some v4 := cell_of_row w1 B 4 _ _ _ h1
  have f4 := frozen_of_row w1 B 4 _ _ h1
  have H1 := Lib.hid h1
  have HG := Lib.hid (Sec.grown_trans (Sec.grown_set w B 3 (.int .i64 ((k : Int) + (q : Int)))) (Sec.grown_of_below hb1 (some B)))
  clear hb1 h1 hc3 f3
  go_wp2_with fail
  go_end0
  refine ⟨rfl, ?_, Sec.grown_trans HG.out (Sec.grown_set _ _ _ _)⟩
  rw [heap_setCell_same _ _ _ _ _ _ H1.out, ← HADD.out]
  rfl

set_option maxHeartbeats 1000000 in
set_option maxRecDepth 20000 in
theorem pis {B p : Nat} {a n : Int} {S : List UInt8} {br : Bool} {w : World} (h : Book.PB B p a n S br w) :
    Calls Tryz.prog 37 #[.pointer (some ⟨B, 0, none⟩)] w fun e w' => e = .returned (.bool true) ∧ w = w' := by
  have c0 := h.c0
  clear h
  go_enter Tryz.func37, Tryz.ntmps37
  go_wp2
  go_ret
  exact ⟨rfl, rfl⟩

set_option maxHeartbeats 1000000 in
set_option maxRecDepth 20000 in
theorem pis_nil (w : World) :
    Calls Tryz.prog 37 #[.pointer none] w fun e w' => e = .returned (.bool false) ∧ w = w' := by
  go_enter Tryz.func37, Tryz.ntmps37
  go_wp2
  go_ret
  exact ⟨rfl, rfl⟩

/-- A row that a call leaves as it is lies there still. -/
theorem Book.row_lies {w1 w2 : World} {B : Nat} {l : List (List UInt8)} {A : Option Addr} {c : Nat} (h : w1.ownsRow B 9 1 (.slice A l.length c) l.length (tcells (l.map fun x => ⟨x.toArray⟩))) (hk : ∀ i, B ≤ i → i < w1.heap.size → w2.heap[i]? = w1.heap[i]?) (hs : w1.heap.size ≤ w2.heap.size) :
    Lies w2 w2.heap.size A (tcells (l.map fun x => ⟨x.toArray⟩)) := fun hp => by
  rcases h.2 with ⟨e, h0⟩ | ⟨g, cap, cur, e1, hg, _, _⟩
  · obtain rfl : l = [] := List.length_eq_zero_iff.1 h0
    simp [tcells] at hp
  · obtain rfl : A = some ⟨g, 0, none⟩ := by injection e1
    have hg2 := (h.lt g rfl).2
    exact ⟨⟨g, 0, none⟩, rfl, Nat.lt_of_lt_of_le hg2 hs, fun j u hu => (World.cell?_of_block (by rw [Lies.add_block]; exact hk g hg hg2)).trans (h.cells (g := g) rfl j u hu)⟩

/-- What an Open comes to. -/
def Book.Opened (D : Sec.Bl) (a n : Nat) (found : List (List UInt8)) (good : List UInt8) (P : Int × List (List UInt8) × Sec.St) (w : World) (e : Ending) (w' : World) : Prop :=
  ∃ D', Sec.At D' P.2.2 w' ∧ Sec.Moves D D' w w' ∧
      (P.1 ≠ 0 → e = .returned (.tuple #[.pointer none, .slice none 0 0, .int .i64 P.1])) ∧
      (P.1 = 0 → ∃ (B : Nat) (A : Option Addr) (c : Nat), e = .returned (.tuple #[.pointer (some ⟨B, 0, none⟩), .slice A found.length c, .int .i64 0]) ∧ w.heap.size ≤ B ∧ D'.off B ∧
        Book.PB B D.b a n good false w' ∧ Lies w' w'.heap.size A (tcells (found.map fun x => ⟨x.toArray⟩)) ∧ ∀ ad, A = some ad → w.heap.size ≤ ad.block)
/-- The same, and the records' row is nobody else's. -/
def Book.OpenedO (D : Sec.Bl) (a n : Nat) (found : List (List UInt8)) (good : List UInt8) (P : Int × List (List UInt8) × Sec.St) (w : World) (e : Ending) (w' : World) : Prop :=
  ∃ D', Sec.At D' P.2.2 w' ∧ Sec.Moves D D' w w' ∧
      (P.1 ≠ 0 → e = .returned (.tuple #[.pointer none, .slice none 0 0, .int .i64 P.1])) ∧
      (P.1 = 0 → ∃ (B : Nat) (A : Option Addr) (c : Nat), e = .returned (.tuple #[.pointer (some ⟨B, 0, none⟩), .slice A found.length c, .int .i64 0]) ∧ w.heap.size ≤ B ∧ D'.off B ∧
        Book.PB B D.b a n good false w' ∧ Lies w' w'.heap.size A (tcells (found.map fun x => ⟨x.toArray⟩)) ∧ (∀ ad, A = some ad → w.heap.size ≤ ad.block) ∧
        w'.ownsRow w.heap.size 9 1 (.slice A found.length c) found.length (tcells (found.map fun x => ⟨x.toArray⟩)) ∧ ∀ g, A = some ⟨g, 0, none⟩ → D'.off g ∧ g ≠ B)
theorem Book.OpenedO.opened {D : Sec.Bl} {a n : Nat} {found : List (List UInt8)} {good : List UInt8} {P : Int × List (List UInt8) × Sec.St} {w : World} {e : Ending} {w' : World} (h : Book.OpenedO D a n found good P w e w') : Book.Opened D a n found good P w e w' := by
  obtain ⟨D', k1, k2, k3, k4⟩ := h
  exact ⟨D', k1, k2, k3, fun hh => by
    obtain ⟨B, A, c, m0, m1, m2, m3, m4, m5, _⟩ := k4 hh
    exact ⟨B, A, c, m0, m1, m2, m3, m4, m5⟩⟩
/-- A row lies where it lay. -/
theorem Book.row_owns {w1 w2 : World} {B base : Nat} {l : List Value} {A : Option Addr} {n c : Nat} (h : w1.ownsRow B 9 1 (.slice A n c) n l) (hk : ∀ i, B ≤ i → i < w1.heap.size → w2.heap[i]? = w1.heap[i]?) (hb : base ≤ B) : w2.ownsRow base 9 1 (.slice A n c) n l := by
  obtain ⟨hl, h0 | ⟨g, cap, cur, e1, hg, hh, r⟩⟩ := h
  · exact ⟨hl, .inl h0⟩
  · exact ⟨hl, .inr ⟨g, cap, cur, e1, Nat.le_trans hb hg, (hk g hg (Sec.lt_of_heap hh)).trans hh, r⟩⟩
/-- A block off the disk turns. -/
theorem Sec.at_grown {D : Sec.Bl} {s : Sec.St} {w w' : World} {B : Nat} (h : Sec.At D s w) (ho : D.off B) (hg : w.grownBy w' (some B)) : Sec.At D s w' :=
  ⟨(hg.block _ h.ltb (fun e => ho.1 (Option.some.inj e).symm)).trans h.ob, (hg.block _ h.lts (fun e => ho.2.1 (Option.some.inj e).symm)).trans h.good, (hg.block _ h.ltm (fun e => ho.2.2.1 (Option.some.inj e).symm)).trans h.now,
    h.row.kept hg (.inr (fun e => ho.2.2.2 e.symm)), h.lo1, h.lo2, h.lo3, h.ne1, h.ne2, h.ne3, h.ne4, h.ne5, h.ne6⟩
/-- A block that was made since turns. -/
theorem Sec.moves_new {D D' : Sec.Bl} {w w1 w2 : World} (h : Sec.Moves D D' w w1) (hg : w1.grownBy w2 (some w.heap.size)) : Sec.Moves D D' w w2 :=
  ⟨hg.os.trans h.os, hg.tape.trans h.tape, hg.output.trans h.output, Nat.le_trans h.size hg.size, fun i hi ho => (hg.block i (Nat.lt_of_lt_of_le hi h.size) (fun e => by have := Option.some.inj e; omega)).trans (h.block i hi ho), h.lo, h.b, h.s, h.m, h.v⟩

set_option maxHeartbeats 4000000 in
set_option maxRecDepth 20000 in
theorem popen_own (D : Sec.Bl) (s : Sec.St) (w : World) (h : Sec.At D s w) (hs : s.Ok) (hd : s.still = false) (a n : Nat) (hn : 1 ≤ n) (han : a + n ≤ s.n) (hlim : s.loose.length + 2 * n ≤ 1000000000)
    (P : Int × List (List UInt8) × Sec.St) (hP : P = Book.anew (Book.good s.now a n) a (Book.secsL s.now a n) s) :
    Calls Tryz.prog 31 #[.pointer (some ⟨D.b, 0, none⟩), .int .i64 (a : Int), .int .i64 (n : Int)] w fun e w' =>
      Book.OpenedO D a n (Book.found s.now a n) (Book.good s.now a n) P w e w' := by
  have hn2 := hs.n2
  have hsz := Book.secsL_sz hs.now han
  have hll := Book.secsL_len s.now a n
  obtain ⟨ls, hls⟩ : ∃ ls, ls = Book.secsL s.now a n := ⟨_, rfl⟩
  obtain ⟨st, hst⟩ : ∃ st, st = Book.stream ls := ⟨_, rfl⟩
  rw [← hls] at hsz hll
  have hstl : st.length ≤ 520192 := by
    have h1 := Book.stream_len ls
    rw [hst]
    rw [hll] at h1
    omega
  obtain ⟨fr, hfr⟩ : ∃ fr, fr = (Frame.sc st 131072).1 := ⟨_, rfl⟩
  have hgd : (Book.recs fr).2 ≤ st.length := by rw [hfr]; exact Book.sc_recs st 131072
  have hfound : Book.found s.now a n = (Book.recs fr).1 := by rw [hfr, hst, hls]; rfl
  have hgood : Book.good s.now a n = st.take (Book.recs fr).2 := by rw [hfr, hst, hls]; rfl
  rw [hfound, hgood]
  rw [hgood, ← hls] at hP
  obtain ⟨gs, hgs⟩ : ∃ gs, gs = st.take (Book.recs fr).2 := ⟨_, rfl⟩
  rw [← hgs] at hP ⊢
  have hgl : gs.length ≤ 520192 := by rw [hgs, List.length_take]; omega
  obtain ⟨w0, hw0⟩ : ∃ w0, w0 = w.alloc (.cells #[.pointer (some ⟨D.b, 0, none⟩), .int .i64 (a : Int), .int .i64 (n : Int), .int .i64 0, .string ⟨#[]⟩, .bool false] 83) := ⟨_, rfl⟩
  have hb0 : Below w.heap.size w w0 := by rw [hw0]; exact (Below.refl _ _).alloc (Nat.le_refl _) _
  have hpb : w0.heap[w.heap.size]? = some (.cells #[.pointer (some ⟨D.b, 0, none⟩), .int .i64 (a : Int), .int .i64 (n : Int), .int .i64 0, .string ⟨#[]⟩, .bool false] 83 (0, 0)) := by rw [hw0]; exact heap_alloc_new w _
  have hf : (0 : Int) = if Book.fits s.n (a : Int) (n : Int) then 0 else 2 := by
    rw [if_pos]
    unfold Book.fits
    simp
    omega
  have HFT : Hid (∀ wx, Below w.heap.size w wx → Calls Tryz.prog 48 #[.agg #[.pointer (some ⟨D.b, 0, none⟩), .int .i64 (a : Int), .int .i64 (n : Int)]] wx fun e w' => e = .returned (.int .i64 0) ∧ Below wx.heap.size wx w') := fun wx hb => pfault D s wx (h.below hb) hs a n (by omega) 0 hf
  have HRD : Hid (∀ wx, Below w.heap.size w wx → Calls Tryz.prog 49 #[.agg #[.pointer (some ⟨D.b, 0, none⟩), .int .i64 (a : Int), .int .i64 (n : Int)]] wx fun e w' => ∃ G, e = .returned (.tuple #[.slice (some ⟨G, 0, none⟩) n n, .int .i64 0]) ∧ wx.heap.size ≤ G ∧ Book.Row G ls w' ∧ Below wx.heap.size wx w') := fun wx hb => by
    rw [hls]
    exact pread D s wx (h.below hb) hs hd a n han
  have HST : Hid (∀ wx G, Book.Row G ls wx → Calls Tryz.prog 51 #[.slice (some ⟨G, 0, none⟩) n n] wx fun e w' => e = .returned (.string ⟨st.toArray⟩) ∧ Below wx.heap.size wx w') := fun wx G hr => by
    have := pstream ls (by omega) hsz _ n wx hr.lies
    rw [hll] at this
    rw [hst]
    exact this
  have HRC : Hid (∀ wx : World, Calls Tryz.prog 50 #[.string ⟨st.toArray⟩] wx fun e w' => ∃ A c, e = .returned (.tuple #[.slice A (Book.recs fr).1.length c, .string ⟨gs.toArray⟩]) ∧
      w'.ownsRow wx.heap.size 9 1 (.slice A (Book.recs fr).1.length c) (Book.recs fr).1.length (tcells ((Book.recs fr).1.map fun x => ⟨x.toArray⟩)) ∧ Below wx.heap.size wx w') := fun wx => by
    rw [hgs]
    exact precords ⟨st.toArray⟩ wx (by show st.toArray.size ≤ _; simp; omega) fr hfr
  have HRN : Hid (∀ wx G, Below w.heap.size w wx → Book.Row G ls wx → w.heap.size ≤ G → Calls Tryz.prog 52 #[.agg #[.pointer (some ⟨D.b, 0, none⟩), .int .i64 (a : Int), .int .i64 (n : Int)], .slice (some ⟨G, 0, none⟩) n n, .string ⟨gs.toArray⟩] wx fun e w' => e = .returned (.int .i64 P.1) ∧ Sec.Behind D P.2.2 wx w') := fun wx G hb hr hg =>
    prenew D s wx (h.below hb) hs a n gs (by omega) ls hll han hlim hsz G n hr (Sec.off_fresh h hg) P hP
  have HOFF : Hid (∀ i, w.heap.size ≤ i → D.off i) := fun i hi => Sec.off_fresh h hi
  have HEND : Hid (∀ wx, wx.heap[w.heap.size]? = some (.cells #[.pointer (some ⟨D.b, 0, none⟩), .int .i64 (a : Int), .int .i64 (n : Int), .int .i64 0, .string ⟨#[]⟩, .bool false] 83 (0, 0)) →
      Calls Tryz.prog 53 #[.pointer (some ⟨w.heap.size, 0, none⟩), .int .i64 0, .string ⟨gs.toArray⟩] wx fun e w' => e = .returned (.tuple #[]) ∧ Book.PB w.heap.size D.b a n gs false w' ∧ wx.grownBy w' (some w.heap.size)) := fun wx hx => by
    have := pend w.heap.size _ _ _ _ _ _ 0 gs (by omega) (by omega) wx hx
    rw [Nat.zero_add] at this
    exact this
  have HB0 := Lib.hid hb0
  have HPB0 := Lib.hid hpb
  clear h hs hd hsz hf hb0 hpb hP hls hst hfr hgs hfound hgood hgd
  go_enter Tryz.func31, Tryz.ntmps31
  go_wp2_with fail
  rw [← hw0]
  clear hw0
  have hcells : ∀ wx : World, wx.heap[w.heap.size]? = some (.cells #[.pointer (some ⟨D.b, 0, none⟩), .int .i64 (a : Int), .int .i64 (n : Int), .int .i64 0, .string ⟨#[]⟩, .bool false] 83 (0, 0)) → wx.cell? ⟨w.heap.size, 0, none⟩ = some (.pointer (some ⟨D.b, 0, none⟩)) ∧ wx.cell? ⟨w.heap.size, 1, none⟩ = some (.int .i64 (a : Int)) ∧ wx.cell? ⟨w.heap.size, 2, none⟩ = some (.int .i64 (n : Int)) := fun wx hx =>
    ⟨cell_of_row wx _ 0 _ _ _ hx, cell_of_row wx _ 1 _ _ _ hx, cell_of_row wx _ 2 _ _ _ hx⟩
  have HCELLS := Lib.hid hcells
  clear hcells
  refine (HFT.out _ HB0.out).mono ?_
  rintro e w1 ⟨rfl, hb1⟩
  have HPB1 : Hid _ := (hb1.block _ (Sec.lt_of_heap HPB0.out)).trans HPB0.out
  have HB1 := Lib.hid (HB0.out.trans (hb1.mono HB0.out.size))
  clear hb1
  obtain ⟨c0, c1, c2⟩ := HCELLS.out _ HPB1.out
  go_wp2_with fail
  refine (HRD.out _ HB1.out).mono ?_
  rintro e w2 ⟨G, rfl, hg, hrow, hb2⟩
  have HPB2 : Hid _ := (hb2.block _ (Sec.lt_of_heap HPB1.out)).trans HPB1.out
  have HB2 := Lib.hid (HB1.out.trans (hb2.mono HB1.out.size))
  have HROW := Lib.hid hrow
  have hg2 : w.heap.size ≤ G := Nat.le_trans HB1.out.size hg
  clear hb2 hrow c0 c1 c2
  go_wp2_with fail
  refine (HST.out _ G HROW.out).mono ?_
  rintro e w3 ⟨rfl, hb3⟩
  have HPB3 : Hid _ := (hb3.block _ (Sec.lt_of_heap HPB2.out)).trans HPB2.out
  have HB3 := Lib.hid (HB2.out.trans (hb3.mono HB2.out.size))
  have HROW3 := Lib.hid (HROW.out.below hb3)
  clear hb3
  go_wp2_with fail
  refine (HRC.out _).mono ?_
  rintro e w4 ⟨A, c, rfl, hown, hb4⟩
  have HPB4 : Hid _ := (hb4.block _ (Sec.lt_of_heap HPB3.out)).trans HPB3.out
  have HB4 := Lib.hid (HB3.out.trans (hb4.mono HB3.out.size))
  have HROW4 := Lib.hid (HROW3.out.below hb4)
  have HOWN := Lib.hid hown
  have hsz3 := HB3.out.size
  clear hb4 hown
  obtain ⟨c0, c1, c2⟩ := HCELLS.out _ HPB4.out
  go_wp2_with fail
  refine (HRN.out _ G HB4.out HROW4.out hg2).mono ?_
  rintro e w5 ⟨rfl, D5, hA5, hM5⟩
  have HA5 := Lib.hid hA5
  have HM5 := Lib.hid ((Sec.Moves.of_below HB4.out).trans hM5)
  have hlt4 := Sec.lt_of_heap HPB4.out
  have HPB5 : Hid _ := (hM5.block _ hlt4 (HOFF.out _ (Nat.le_refl _))).trans HPB4.out
  have HOB : Hid (D5.off w.heap.size) := hM5.off hlt4 (HOFF.out _ (Nat.le_refl _))
  have HLK : Hid (∀ i, w3.heap.size ≤ i → i < w4.heap.size → w5.heap[i]? = w4.heap[i]? ∧ i ≠ w.heap.size ∧ D5.off i) := fun i h1 h2 => ⟨hM5.block i h2 (HOFF.out i (by omega)), by have := Sec.lt_of_heap HPB3.out; omega, hM5.off h2 (HOFF.out i (by omega))⟩
  have HSZ := Lib.hid hM5.size
  clear hA5 hM5 c0 c1 c2 hlt4 HRN HRC HST HRD HFT
  obtain ⟨pc, pl, ps⟩ := P
  by_cases hp : pc = 0
  · subst hp
    go_wp2_with fail
    refine (HEND.out _ HPB5.out).mono ?_
    rintro e w6 ⟨rfl, hpb6, hg6⟩
    have HPB6 := Lib.hid hpb6
    have HG6 := Lib.hid hg6
    clear hpb6 hg6
    go_wp2_with fail
    refine bodyPost_ret (v := .tuple #[.pointer (some ⟨w.heap.size, 0, none⟩), .slice A (Book.recs fr).1.length c, .int .i64 0]) (by simp [results, Tryz.results31, go_sem]) rfl ?_
    have hg := HG6.out
    refine ⟨D5, ?_, ?_, fun hh => absurd rfl hh, fun _ => ⟨w.heap.size, A, c, rfl, Nat.le_refl _, HOB.out, HPB6.out, ?_, ?_, ?_, ?_⟩⟩
    · exact Sec.at_grown HA5.out HOB.out hg
    · exact Sec.moves_new HM5.out hg
    · refine Book.row_lies HOWN.out (fun i h1 h2 => ?_) (Nat.le_trans HSZ.out hg.size)
      obtain ⟨k1, k2, _⟩ := HLK.out i h1 h2
      rw [hg.block i (Nat.lt_of_lt_of_le h2 HSZ.out) (fun e => k2 (Option.some.inj e))]
      exact k1
    · intro ad hA
      rcases HOWN.out.2 with ⟨e, _⟩ | ⟨g, cap, cur, e1, hg2, _⟩
      · have : A = none := by injection e
        rw [this] at hA
        cases hA
      · have : A = some ⟨g, 0, none⟩ := by injection e1
        rw [this] at hA
        obtain rfl := Option.some.inj hA
        exact Nat.le_trans hsz3 hg2
    · refine Book.row_owns HOWN.out (fun i h1 h2 => ?_) hsz3
      obtain ⟨k1, k2, _⟩ := HLK.out i h1 h2
      rw [hg.block i (Nat.lt_of_lt_of_le h2 HSZ.out) (fun e => k2 (Option.some.inj e))]
      exact k1
    · intro g hA
      have hlt := HOWN.out.lt g (by rw [hA]; rfl)
      obtain ⟨_, k2, k3⟩ := HLK.out g hlt.1 hlt.2
      exact ⟨k3, k2⟩
  · have hb0 : (pc != 0) = true := by rw [bne_iff_ne]; exact hp
    have HPP := Lib.hid hp
    clear hp
    go_wp2_with fail
    refine bodyPost_ret (v := .tuple #[.pointer none, .slice none 0 0, .int .i64 pc]) (by simp [results, Tryz.results31, go_sem]) rfl ?_
    exact ⟨D5, HA5.out, HM5.out, fun _ => rfl, fun hh => absurd hh HPP.out⟩

theorem popen (D : Sec.Bl) (s : Sec.St) (w : World) (h : Sec.At D s w) (hs : s.Ok) (hd : s.still = false) (a n : Nat) (hn : 1 ≤ n) (han : a + n ≤ s.n) (hlim : s.loose.length + 2 * n ≤ 1000000000)
    (P : Int × List (List UInt8) × Sec.St) (hP : P = Book.anew (Book.good s.now a n) a (Book.secsL s.now a n) s) :
    Calls Tryz.prog 31 #[.pointer (some ⟨D.b, 0, none⟩), .int .i64 (a : Int), .int .i64 (n : Int)] w fun e w' =>
      Book.Opened D a n (Book.found s.now a n) (Book.good s.now a n) P w e w' :=
  (popen_own D s w h hs hd a n hn han hlim P hP).mono fun _ _ h => h.opened
end Go.Proofs.YtpmhpibbdcifnaaGreat
end

section
namespace Go.Proofs.YtpmhpibbdcifnaaGreat
open Go.RowKit
attribute [local go_sem ↓] Go.wp_at_zero Go.wp_at_succ

set_option maxHeartbeats 1000000 in
set_option maxRecDepth 20000 in
theorem popen_no (D : Sec.Bl) (s : Sec.St) (w : World) (h : Sec.At D s w) (hs : s.Ok) (a n : Int) (ha : a ≤ 9223372036854775807) (hno : Book.fits s.n a n = false) :
    Calls Tryz.prog 31 #[.pointer (some ⟨D.b, 0, none⟩), .int .i64 a, .int .i64 n] w fun e w' => e = .returned (.tuple #[.pointer none, .slice none 0 0, .int .i64 2]) ∧ Below w.heap.size w w' := by
  obtain ⟨w0, hw0⟩ : ∃ w0, w0 = w.alloc (.cells #[.pointer (some ⟨D.b, 0, none⟩), .int .i64 a, .int .i64 n, .int .i64 0, .string ⟨#[]⟩, .bool false] 83) := ⟨_, rfl⟩
  have hb0 : Below w.heap.size w w0 := by rw [hw0]; exact (Below.refl _ _).alloc (Nat.le_refl _) _
  have HFT : Hid (∀ wx, Below w.heap.size w wx → Calls Tryz.prog 48 #[.agg #[.pointer (some ⟨D.b, 0, none⟩), .int .i64 a, .int .i64 n]] wx fun e w' => e = .returned (.int .i64 2) ∧ Below wx.heap.size wx w') := fun wx hb => pfault D s wx (h.below hb) hs a n ha 2 (by rw [hno]; rfl)
  have HB0 := Lib.hid hb0
  clear h hs hb0 hno
  go_enter Tryz.func31, Tryz.ntmps31
  go_wp2_with fail
  rw [← hw0]
  clear hw0
  refine (HFT.out _ HB0.out).mono ?_
  rintro e w1 ⟨rfl, hb1⟩
  have HB1 := Lib.hid (HB0.out.trans (hb1.mono HB0.out.size))
  clear hb1
  go_wp2_with fail
  refine bodyPost_ret (v := .tuple #[.pointer none, .slice none 0 0, .int .i64 2]) (by simp [results, Tryz.results31, go_sem]) rfl ?_
  exact ⟨rfl, HB1.out⟩

set_option maxHeartbeats 1000000 in
set_option maxRecDepth 20000 in
theorem popen_down (D : Sec.Bl) (s : Sec.St) (w : World) (h : Sec.At D s w) (hs : s.Ok) (hd : s.still = true) (a n : Nat) (hn : 1 ≤ n) (han : a + n ≤ s.n) :
    Calls Tryz.prog 31 #[.pointer (some ⟨D.b, 0, none⟩), .int .i64 (a : Int), .int .i64 (n : Int)] w fun e w' => e = .returned (.tuple #[.pointer none, .slice none 0 0, .int .i64 51]) ∧ Below w.heap.size w w' := by
  have hn2 := hs.n2
  obtain ⟨w0, hw0⟩ : ∃ w0, w0 = w.alloc (.cells #[.pointer (some ⟨D.b, 0, none⟩), .int .i64 (a : Int), .int .i64 (n : Int), .int .i64 0, .string ⟨#[]⟩, .bool false] 83) := ⟨_, rfl⟩
  have hb0 : Below w.heap.size w w0 := by rw [hw0]; exact (Below.refl _ _).alloc (Nat.le_refl _) _
  have hpb : w0.heap[w.heap.size]? = some (.cells #[.pointer (some ⟨D.b, 0, none⟩), .int .i64 (a : Int), .int .i64 (n : Int), .int .i64 0, .string ⟨#[]⟩, .bool false] 83 (0, 0)) := by rw [hw0]; exact heap_alloc_new w _
  have hf : (0 : Int) = if Book.fits s.n (a : Int) (n : Int) then 0 else 2 := by
    rw [if_pos]
    unfold Book.fits
    simp
    omega
  have HFT : Hid (∀ wx, Below w.heap.size w wx → Calls Tryz.prog 48 #[.agg #[.pointer (some ⟨D.b, 0, none⟩), .int .i64 (a : Int), .int .i64 (n : Int)]] wx fun e w' => e = .returned (.int .i64 0) ∧ Below wx.heap.size wx w') := fun wx hb => pfault D s wx (h.below hb) hs a n (by omega) 0 hf
  have HRD : Hid (∀ wx, Below w.heap.size w wx → Calls Tryz.prog 49 #[.agg #[.pointer (some ⟨D.b, 0, none⟩), .int .i64 (a : Int), .int .i64 (n : Int)]] wx fun e w' => e = .returned (.tuple #[.slice none 0 0, .int .i64 51]) ∧ Below wx.heap.size wx w') := fun wx hb => pread_down D s wx (h.below hb) hs hd a n hn (by omega)
  have HB0 := Lib.hid hb0
  have HPB0 := Lib.hid hpb
  clear h hs hd hf hb0 hpb
  go_enter Tryz.func31, Tryz.ntmps31
  go_wp2_with fail
  rw [← hw0]
  clear hw0
  refine (HFT.out _ HB0.out).mono ?_
  rintro e w1 ⟨rfl, hb1⟩
  have hpb1 := (hb1.block _ (Sec.lt_of_heap HPB0.out)).trans HPB0.out
  have HB1 := Lib.hid (HB0.out.trans (hb1.mono HB0.out.size))
  have c0 := cell_of_row w1 _ 0 _ _ _ hpb1
  have c1 := cell_of_row w1 _ 1 _ _ _ hpb1
  have c2 := cell_of_row w1 _ 2 _ _ _ hpb1
  clear hb1 hpb1
  go_wp2_with fail
  refine (HRD.out _ HB1.out).mono ?_
  rintro e w2 ⟨rfl, hb2⟩
  have HB2 := Lib.hid (HB1.out.trans (hb2.mono HB1.out.size))
  clear hb2 c0 c1 c2
  go_wp2_with fail
  refine bodyPost_ret (v := .tuple #[.pointer none, .slice none 0 0, .int .i64 51]) (by simp [results, Tryz.results31, go_sem]) rfl ?_
  exact ⟨rfl, HB2.out⟩

set_option maxHeartbeats 1000000 in
set_option maxRecDepth 20000 in
theorem plen {B p : Nat} {a n : Int} {S : List UInt8} {br : Bool} {w : World} (h : Book.PB B p a n S br w) (hS : S.length ≤ 1000000) :
    Calls Tryz.prog 46 #[.pointer (some ⟨B, 0, none⟩)] w fun e w' => e = .returned (.int .i64 (S.length : Int)) ∧ Below w.heap.size w w' := by
  have HIS := Lib.hid (pis h)
  have c3 := h.c3
  have c4 := h.c4
  obtain ⟨q, hq⟩ : ∃ q, q = S.length / 127 := ⟨_, rfl⟩
  obtain ⟨t, ht⟩ : ∃ t, t = S.drop (q * 127) := ⟨_, rfl⟩
  rw [← hq] at c3 c4
  rw [← ht] at c4
  have hts : (⟨t.toArray⟩ : ByteArray).size = t.length := by show t.toArray.size = _; simp
  have htl : t.length ≤ 127 := by rw [ht, List.length_drop]; omega
  have hsum : (q : Int) * 127 + (t.length : Int) = (S.length : Int) := by rw [ht, List.length_drop]; omega
  have hqi : (q : Int) ≤ 10000 := by omega
  have hti : (t.length : Int) ≤ 127 := by omega
  have HS := Lib.hid hsum
  have hw1 : IntKind.i64.wrap ((q : Int) * 127) = (q : Int) * 127 := by rw [IntKind.wrap_i64]; omega
  have hw2 : IntKind.i64.wrap ((q : Int) * 127 + (t.length : Int)) = (q : Int) * 127 + (t.length : Int) := by rw [IntKind.wrap_i64]; omega
  clear h hq ht hsum
  go_enter Tryz.func46, Tryz.ntmps46
  go_wp2_with fail
  refine HIS.out.mono ?_
  rintro e w1 ⟨rfl, rfl⟩
  go_wp2_with fail
  go_region
  all_goals
    go_wp2_with fail
    go_ret
    refine ⟨?_, (Below.refl _ _).drew⟩
    rw [← HS.out]
    rfl

set_option maxHeartbeats 1000000 in
set_option maxRecDepth 20000 in
theorem proom {B p : Nat} {a : Int} {n : Nat} {S : List UInt8} {br : Bool} {w : World} (h : Book.PB B p a n S br w) (hn : n ≤ 4096) (hS : S.length ≤ n * 127) :
    Calls Tryz.prog 26 #[.pointer (some ⟨B, 0, none⟩)] w fun e w' => e = .returned (.int .i64 ((n * 127 - S.length : Nat) : Int)) ∧ Below w.heap.size w w' := by
  have HIS := Lib.hid (pis h)
  have c0 := h.c0
  have c1 := h.c1
  have c2 := h.c2
  have HBD : Hid (∀ wx : World, Calls Tryz.prog 45 #[.agg #[.pointer (some ⟨p, 0, none⟩), .int .i64 a, .int .i64 (n : Int)]] wx fun e w' => e = .returned (.int .i64 ((n * 127 : Nat) : Int)) ∧ Below wx.heap.size wx w') := fun wx => pbound p a n hn wx
  have HLN : Hid (∀ wx : World, Below w.heap.size w wx → Calls Tryz.prog 46 #[.pointer (some ⟨B, 0, none⟩)] wx fun e w' => e = .returned (.int .i64 (S.length : Int)) ∧ Below wx.heap.size wx w') := fun wx hb => plen (h.below hb) (by omega)
  obtain ⟨m, hm⟩ : ∃ m, m = n * 127 := ⟨_, rfl⟩
  rw [← hm] at HBD ⊢
  have hmi : (m : Int) ≤ 600000 := by omega
  have hsi : (S.length : Int) ≤ (m : Int) := by omega
  have hsub : (m : Int) - (S.length : Int) = ((m - S.length : Nat) : Int) := by omega
  have HSUB := Lib.hid hsub
  clear h hm hsub
  go_enter Tryz.func26, Tryz.ntmps26
  go_wp2_with fail
  refine HIS.out.mono ?_
  rintro e w1 ⟨rfl, rfl⟩
  go_wp2_with fail
  refine (HBD.out _).mono ?_
  rintro e w1 ⟨rfl, hb1⟩
  have HB1 := Lib.hid hb1
  clear hb1
  go_wp2_with fail
  refine (HLN.out _ HB1.out).mono ?_
  rintro e w2 ⟨rfl, hb2⟩
  have HB2 := Lib.hid (HB1.out.trans (hb2.mono HB1.out.size))
  clear hb2
  go_wp2_with fail
  go_ret
  exact ⟨by rw [← HSUB.out]; rfl, HB2.out⟩

set_option maxHeartbeats 2000000 in
set_option maxRecDepth 20000 in
theorem pfits {B p : Nat} {a : Int} {n : Nat} {S : List UInt8} {br : Bool} {w : World} (h : Book.PB B p a n S br w) (hn : n ≤ 4096) (hS : S.length ≤ n * 127)
    (xs : List ByteArray) (hx : ∀ x ∈ xs, x.size ≤ 131072) (A : Option Addr) (c : Nat) (hl : xs.length ≤ maxLen) (hli : Lies w w.heap.size A (tcells xs)) (b : Bool) (hb : b = decide (S.length + (Book.frb xs).length ≤ n * 127)) :
    Calls Tryz.prog 40 #[.pointer (some ⟨B, 0, none⟩), .slice A xs.length c] w fun e w' => e = .returned (.bool b) ∧ Below w.heap.size w w' := by
  unfold maxLen at hl
  have HRM := Lib.hid (proom h hn hS)
  have HL := Lib.hid hli
  have HX := Lib.hid hx
  have HBB := Lib.hid hb
  clear h hli hx hb
  obtain ⟨m, hm⟩ : ∃ m, m = n * 127 - S.length := ⟨_, rfl⟩
  rw [← hm] at HRM
  have HD : Hid (∀ q : Nat, (S.length + q ≤ n * 127 ↔ q ≤ m)) := fun q => by omega
  have hmi : (m : Int) ≤ 600000 := by omega
  clear hm
  go_enter Tryz.func40, Tryz.ntmps40
  go_wp2_with fail
  refine HRM.out.mono ?_
  rintro e w1 ⟨rfl, hb1⟩
  have HB1 := Lib.hid hb1
  clear hb1
  go_wp2_with fail
  go_loop [5, 12] (fun lf t => ∃ (k r : Nat), k ≤ xs.length ∧ t = .int .i64 k ∧ lf = .int .i64 r ∧ r ≤ m ∧ Hid ((Book.frb (xs.take k)).length + r = m)) (fun _ t => xs.length - (intOf t).toNat)
  case atStart => exact ⟨0, m, Nat.zero_le _, rfl, rfl, Nat.le_refl _, by show _ = _; simp [Book.frb, Book.frs]⟩
  case round =>
    obtain ⟨k, r, hk, rfl, rfl, hr, HS⟩ := hrel
    by_cases hlt : k < xs.length
    · obtain ⟨ad, rfl, hbk, hc⟩ := (HL.out.below HB1.out).at_ (tcells_at hlt)
      clear hbk
      have hxl := HX.out xs[k] (List.getElem_mem hlt)
      have HT := Lib.hid (Book.frb_succ xs k hlt)
      have HLE := Lib.hid (Book.frb_le xs (k + 1))
      have k0 : (0 : Int) ≤ (k : Int) := by omega
      have k1 : (k : Int) < (xs.length : Int) := by omega
      generalize xs[k] = x at hc hxl HT
      have HSZ : Hid (∀ wx : World, Calls Tryz.prog 34 #[.int .i64 (x.size : Int)] wx fun e w' => e = .returned (.int .i64 ((Frame.raw 1 x.data.toList).length : Int)) ∧ wx = w') := fun wx => by
        rw [← Book.fsz_raw 1 (x := x.data.toList) (by simpa using hxl)]
        have := fsize_any (x.size : Int) wx (by omega) (by omega)
        simpa using this
      have hrl := Book.raw_le (t := x.data.toList) (by simpa using hxl)
      generalize Frame.raw 1 x.data.toList = y at HT HSZ hrl
      have hyi : (y.length : Int) ≤ 131088 := by omega
      have hri : (r : Int) ≤ 600000 := by omega
      by_cases hfit : y.length ≤ r
      · have hsub : (r : Int) - (y.length : Int) = ((r - y.length : Nat) : Int) := by omega
        have hn0 : decide ((((r - y.length : Nat)) : Int) < 0) = false := by simp
        have HS2 : Hid ((Book.frb (xs.take (k + 1))).length + (r - y.length) = m) := by
          have := HS.out
          show _ = _
          rw [HT.out, List.length_append]
          omega
        have hr2 : r - y.length ≤ m := by omega
        generalize r - y.length = r2 at hsub hn0 HS2 hr2
        clear HS HT HLE
        go_wp2_with fail
        refine (HSZ.out _).mono ?_
        rintro e w2 ⟨rfl, rfl⟩
        go_wp2_with fail
        go_round
        case rel => exact ⟨k + 1, r2, by omega, by go_num, by rw [← hsub], hr2, HS2.out⟩
        case measure => simp [intOf]; omega
      · have hneg : decide ((r : Int) - (y.length : Int) < 0) = true := by simp; omega
        have hr0 : (0 : Int) ≤ (r : Int) := by omega
        have HBF : Hid (b = false) := by
          show _ = _
          rw [HBB.out]
          rw [decide_eq_false_iff_not, HD.out]
          have h1 := HS.out
          have h2 := HLE.out
          rw [HT.out, List.length_append] at h2
          omega
        clear HS HT HLE
        go_wp2_with fail
        refine (HSZ.out _).mono ?_
        rintro e w2 ⟨rfl, rfl⟩
        go_wp2_with fail
        go_ret
        exact ⟨by rw [HBF.out]; rfl, HB1.out⟩
    · have HBF : Hid (b = true) := by
        show _ = _
        rw [HBB.out, decide_eq_true_iff, HD.out]
        have h1 := HS.out
        rw [List.take_of_length_le (by omega)] at h1
        omega
      go_wp2_with fail
      go_ret
      exact ⟨by rw [HBF.out]; rfl, HB1.out⟩
end Go.Proofs.YtpmhpibbdcifnaaGreat
end

section
namespace Go.Proofs.YtpmhpibbdcifnaaGreat
open Go.RowKit
attribute [local go_sem ↓] Go.wp_at_zero Go.wp_at_succ

namespace Book
/-- A call that works on a disk and on the book at B. -/
structure Mvb (D D' : Sec.Bl) (B : Nat) (w w' : World) : Prop where
  os : w'.os = w.os
  tape : w'.tape = w.tape
  output : w'.output = w.output
  size : w.heap.size ≤ w'.heap.size
  block : ∀ i, i < w.heap.size → D.off i → i ≠ B → w'.heap[i]? = w.heap[i]?
  keep : ∀ i, i < w.heap.size → D.off i → D'.off i
  b : D'.b = D.b
  lo : D'.lo = D.lo
theorem Mvb.refl (D : Sec.Bl) (B : Nat) (w : World) : Mvb D D B w w := ⟨rfl, rfl, rfl, Nat.le_refl _, fun _ _ _ _ => rfl, fun _ _ h => h, rfl, rfl⟩
theorem Mvb.of_moves {D D' : Sec.Bl} {B : Nat} {w w' : World} (h : Sec.Moves D D' w w') : Mvb D D' B w w' :=
  ⟨h.os, h.tape, h.output, h.size, fun i hi ho _ => h.block i hi ho, fun _ hi ho => h.off hi ho, h.b, h.lo⟩
theorem PB.c012 {B p : Nat} {a n : Int} {S : List UInt8} {br : Bool} {w : World} (h : PB B p a n S br w) : w.cell? ⟨B, 0, none⟩ = some (.pointer (some ⟨p, 0, none⟩)) ∧ w.cell? ⟨B, 1, none⟩ = some (.int .i64 a) ∧ w.cell? ⟨B, 2, none⟩ = some (.int .i64 n) := ⟨h.c0, h.c1, h.c2⟩
theorem Mvb.of_below {D : Sec.Bl} {B : Nat} {w w' : World} (h : Below w.heap.size w w') : Mvb D D B w w' := .of_moves (.of_below h)
theorem Mvb.of_grown {D : Sec.Bl} {B : Nat} {w w' : World} (h : w.grownBy w' (some B)) : Mvb D D B w w' :=
  ⟨h.os, h.tape, h.output, h.size, fun i hi _ hne => h.block i hi (fun e => hne (Option.some.inj e)), fun _ _ h => h, rfl, rfl⟩
theorem Mvb.trans {D D' D'' : Sec.Bl} {B : Nat} {a b c : World} (h : Mvb D D' B a b) (k : Mvb D' D'' B b c) : Mvb D D'' B a c :=
  ⟨k.os.trans h.os, k.tape.trans h.tape, k.output.trans h.output, Nat.le_trans h.size k.size,
    fun i hi ho hne => (k.block i (Nat.lt_of_lt_of_le hi h.size) (h.keep i hi ho) hne).trans (h.block i hi ho hne),
    fun i hi ho => k.keep i (Nat.lt_of_lt_of_le hi h.size) (h.keep i hi ho), k.b.trans h.b, k.lo.trans h.lo⟩
/-- What a call of a book comes to: its code, the disk, the book. -/
def After (D : Sec.Bl) (B : Nat) (a n : Int) (c : Int) (S : List UInt8) (br : Bool) (s : Sec.St) (w : World) (e : Ending) (w' : World) : Prop :=
  e = .returned (.int .i64 c) ∧ ∃ D', Sec.At D' s w' ∧ PB B D.b a n S br w' ∧ D'.off B ∧ Mvb D D' B w w'
end Book

set_option maxHeartbeats 4000000 in
set_option maxRecDepth 20000 in
theorem padd (D : Sec.Bl) (s : Sec.St) (w : World) (h : Sec.At D s w) (hs : s.Ok) (B a n : Nat) (S more : List UInt8) (br : Bool) (hB : Book.PB B D.b a n S br w) (ho : D.off B) (hm : more ≠ []) (hfit : S.length + more.length ≤ n * 127) (han : a + n ≤ s.n) (hlim : s.loose.length + n ≤ 1000000000) :
    Calls Tryz.prog 42 #[.pointer (some ⟨B, 0, none⟩), .string ⟨more.toArray⟩] w (Book.After D B a n (Book.puts (Book.todo a n S (S ++ more)) s).1 (S ++ more) br (Book.puts (Book.todo a n S (S ++ more)) s).2 w) := by
  have hn2 := hs.n2
  have htd := Book.todo_eq (a := a) (n := n) hm hfit
  have hfull := Book.end_full (S := S) (m := more)
  have htail := Book.end_tail (S := S) (m := more)
  obtain ⟨P, hP⟩ : ∃ P, P = Book.puts (Book.todo a n S (S ++ more)) s := ⟨_, rfl⟩
  rw [← hP]
  rw [← htd] at hP
  obtain ⟨f, hf⟩ : ∃ f, f = S.length / 127 := ⟨_, rfl⟩
  obtain ⟨t, ht⟩ : ∃ t, t = S.drop (S.length / 127 * 127) := ⟨_, rfl⟩
  obtain ⟨T, hT⟩ : ∃ T, T = t ++ more := ⟨_, rfl⟩
  have c3 := hB.c3
  have c4 := hB.c4
  rw [← ht] at hP c4 hfull htail
  rw [← hf] at hP c3 hfull
  rw [← hT] at hP hfull htail
  have htl : t.length = S.length - f * 127 := by rw [ht, List.length_drop, hf]
  have hTl : T.length = t.length + more.length := by rw [hT, List.length_append]
  have hml : 0 < more.length := List.length_pos_iff.2 hm
  obtain ⟨c, hc⟩ : ∃ c, c = (T.length + 126) / 127 := ⟨_, rfl⟩
  rw [← hc] at hP
  have hfc : f + c ≤ n := by omega
  have hne : (more == ([] : List UInt8)) = false := by rw [beq_eq_false_iff_ne]; exact hm
  have hcat : (⟨t.toArray⟩ : ByteArray) ++ ⟨more.toArray⟩ = ⟨T.toArray⟩ := by
    rw [hT]
    apply ByteArray.ext
    rw [ByteArray.data_append]
    apply Array.ext'
    simp
  have hts : (⟨t.toArray⟩ : ByteArray).size = t.length := by show t.toArray.size = _; simp
  have hms : (⟨more.toArray⟩ : ByteArray).size = more.length := by show more.toArray.size = _; simp
  have hTs : (⟨T.toArray⟩ : ByteArray).size = T.length := by show T.toArray.size = _; simp
  have hti : (t.length : Int) + (more.length : Int) ≤ 600000 := by omega
  have hTi : (T.length : Int) ≤ 600000 := by omega
  have hfi : (f : Int) ≤ 4096 := by omega
  have hdiv : Int.tdiv ((T.length : Int) + 127 - 1) 127 = (c : Int) := by
    rw [Int.tdiv_eq_ediv_of_nonneg (by omega)]
    omega
  have hw1 : IntKind.i64.wrap ((T.length : Int) + 127) = (T.length : Int) + 127 := by rw [IntKind.wrap_i64]; omega
  have hw2 : IntKind.i64.wrap ((T.length : Int) + 127 - 1) = (T.length : Int) + 127 - 1 := by rw [IntKind.wrap_i64]; omega
  have hw3 : IntKind.i64.wrap (c : Int) = (c : Int) := by rw [IntKind.wrap_i64]; omega
  have HEND : Hid (∀ wx : World, Below w.heap.size w wx → Calls Tryz.prog 53 #[.pointer (some ⟨B, 0, none⟩), .int .i64 (f : Int), .string ⟨T.toArray⟩] wx fun e w' => e = .returned (.tuple #[]) ∧ Book.PB B D.b a n (S ++ more) br w' ∧ wx.grownBy w' (some B)) := fun wx hb => by
    have := pend B _ _ _ _ _ _ f T (by omega) (by omega) wx (hB.below hb)
    rw [hfull, htail] at this
    exact this
  have HDW := Lib.hid h
  have HOB := Lib.hid ho
  have HBW := Lib.hid hB
  obtain ⟨ys, hys⟩ : ∃ ys, ys = (List.range c).map (Book.made T) := ⟨_, rfl⟩
  obtain ⟨S2, hS2⟩ : ∃ S2, S2 = S ++ more := ⟨_, rfl⟩
  rw [← hS2] at HEND ⊢
  have HMD : Hid (∀ w2 wx : World, Below w2.heap.size w2 wx → Calls Tryz.prog 63 #[.string ⟨T.toArray⟩, .int .i64 (c : Int)] wx fun e w' => ∃ G, e = .returned (.slice (some ⟨G, 0, none⟩) c c) ∧ w2.heap.size ≤ G ∧ Book.Row G ys w' ∧ Below w2.heap.size w2 w') := fun w2 wx hb => by
    rw [hys]
    exact (pmade T c (by omega) (by omega) wx).mono fun e w' ⟨G, h1, h2, h3, h4⟩ => ⟨G, h1, Nat.le_trans hb.size h2, h3, hb.trans (h4.mono hb.size)⟩
  have HPUT : Hid (∀ (wx : World) (G : Nat), Sec.At D s wx → Book.Row G ys wx → D.off G → Calls Tryz.prog 62 #[.agg #[.pointer (some ⟨D.b, 0, none⟩), .int .i64 (a : Int), .int .i64 (n : Int)], .int .i64 (f : Int), .slice (some ⟨G, 0, none⟩) c c] wx fun e w' =>
      e = .returned (.int .i64 P.1) ∧ Sec.Behind D P.2 wx w') := fun wx G h1 h2 h3 => by
    rw [hys] at h2
    have := pput D s wx h1 hs a f n ((List.range c).map (Book.made T)) (fun y hy => by
      obtain ⟨j, _, rfl⟩ := List.mem_map.1 hy
      exact Book.made_len T j) (by rw [List.length_map, List.length_range]; omega) (by rw [List.length_map, List.length_range]; omega) G c h2 h3
    rw [← hP, List.length_map, List.length_range] at this
    unfold Book.pv at this
    exact this
  clear h hs hB ho hm hP hf ht hT hc htl hTl hfull htail htd hfit hys hS2
  obtain ⟨pc, ps⟩ := P
  go_enter Tryz.func42, Tryz.ntmps42
  go_wp2_with fail
  go_region
  all_goals
    first | (simp only [Exit.then]; go_at_K; go_wp2_with fail) | go_wp2_with fail
    refine (HEND.out _ (Below.refl _ _).drew).mono ?_
    rintro e w1 ⟨rfl, hpb, hg⟩
    have HPB := Lib.hid hpb
    have HG := Lib.hid hg
    have HA1 : Hid (Sec.At D s w1) := Sec.at_grown HDW.out.drew HOB.out hg
    have HM1 : Hid (Book.Mvb D D B w w1) := (Book.Mvb.of_below (Below.refl _ _).drew).trans (.of_grown hg)
    clear hpb hg
    clear HEND HDW HBW c3 c4 hcat hts hms hti hne hml
    have d0 := HPB.out.c0
    have d1 := HPB.out.c1
    have d2 := HPB.out.c2
    go_wp2_with fail
    go_region_held3 (fun w' => w'.cell? ⟨B, 0, none⟩ = some (.pointer (some ⟨D.b, 0, none⟩)) ∧ w'.cell? ⟨B, 1, none⟩ = some (.int .i64 (a : Int)) ∧ w'.cell? ⟨B, 2, none⟩ = some (.int .i64 (n : Int)))
      (first | assumption | exact HPB.out.c012 | exact (HPB.out.below hb3).c012 | exact ((HPB.out.below hb3).keep (hM4.block _ (HPB.out.below hb3).ltb HOB.out)).c012) (first
      | (go_at_call 63; refine (HMD.out w1 _ (by first | exact (Below.refl _ _).drew | exact Below.refl _ _)).mono ?_; rintro e w3 ⟨G, rfl, hgg, hrow, hb3⟩)
      | (go_at_call 62; refine (HPUT.out _ G (HA1.out.below hb3) hrow (Sec.off_fresh HA1.out hgg)).mono ?_; rintro e w4 ⟨rfl, D4, hA4, hM4⟩))
    all_goals
      have hpb3 := HPB.out.below hb3
      have hM5 : Book.Mvb D D4 B w w4 := (HM1.out.trans (Book.Mvb.of_below hb3)).trans (Book.Mvb.of_moves hM4)
      have HFIN : Hid (Sec.At D4 ps w4 ∧ Book.PB B D.b a n S2 br w4 ∧ D4.off B ∧ Book.Mvb D D4 B w w4) := ⟨hA4, hpb3.keep (hM4.block _ hpb3.ltb HOB.out), hM4.off hpb3.ltb HOB.out, hM5⟩
      clear hpb3 hM5 hA4 hM4 hb3 hrow hgg
      simp only [Exit.then]
      go_at_K
      go_wp2_with fail
      go_ret
      exact ⟨rfl, D4, HFIN.out⟩

set_option maxHeartbeats 1000000 in
set_option maxRecDepth 20000 in
theorem padd_none (B : Nat) (w : World) :
    Calls Tryz.prog 42 #[.pointer (some ⟨B, 0, none⟩), .string ⟨([] : List UInt8).toArray⟩] w fun e w' => e = .returned (.int .i64 0) ∧ w = w' := by
  go_enter Tryz.func42, Tryz.ntmps42
  go_wp2_with fail
  go_ret
  exact ⟨rfl, rfl⟩

set_option maxHeartbeats 1000000 in
set_option maxRecDepth 20000 in
theorem pafter {B p : Nat} {a n : Int} {S : List UInt8} {br : Bool} {w : World} (h : Book.PB B p a n S br w) (c : Int) :
    Calls Tryz.prog 41 #[.pointer (some ⟨B, 0, none⟩), .int .i64 c] w fun e w' => e = .returned (.int .i64 c) ∧ Book.PB B p a n S (br || c != 0) w' ∧ w.grownBy w' (some B) := by
  have c5 := h.c5
  have f5 := h.fro 5
  have H := Lib.hid h
  clear h
  cases br with
  | true =>
    go_enter Tryz.func41, Tryz.ntmps41
    go_wp2_with fail
    go_ret
    exact ⟨rfl, H.out.broke true, Sec.grown_set _ _ _ _⟩
  | false =>
    go_enter Tryz.func41, Tryz.ntmps41
    go_wp2_with fail
    go_ret
    exact ⟨rfl, by simpa using H.out.broke (c != 0), Sec.grown_set _ _ _ _⟩

namespace Book
/-- What an Append comes to. -/
def app (a n : Nat) (S : List UInt8) (br : Bool) (s : Sec.St) (xs : List ByteArray) : Int × List UInt8 × Bool × Sec.St :=
  if br = true then (3, S, br, s) else if long xs = true then (4, S, br, s) else if ¬ (S.length + (frb xs).length ≤ n * 127) then (6, S, br, s)
  else ((puts (todo a n S (S ++ frb xs)) s).1, S ++ frb xs, (puts (todo a n S (S ++ frb xs)) s).1 != 0, (puts (todo a n S (S ++ frb xs)) s).2)
section
variable {a n : Nat} {S : List UInt8} {br : Bool} {s : Sec.St} {xs : List ByteArray}
theorem app_broken : app a n S true s xs = (3, S, true, s) := by
  unfold app
  rw [if_pos rfl]
theorem app_long (h : long xs = true) : app a n S false s xs = (4, S, false, s) := by
  unfold app
  rw [if_neg (by simp), if_pos h]
theorem app_full (h : long xs = false) (hf : ¬ (S.length + (frb xs).length ≤ n * 127)) : app a n S false s xs = (6, S, false, s) := by
  unfold app
  rw [if_neg (by simp), if_neg (by rw [h]; simp), if_pos hf]
theorem app_fits (h : long xs = false) (hf : S.length + (frb xs).length ≤ n * 127) : app a n S false s xs = ((puts (todo a n S (S ++ frb xs)) s).1, S ++ frb xs, (puts (todo a n S (S ++ frb xs)) s).1 != 0, (puts (todo a n S (S ++ frb xs)) s).2) := by
  unfold app
  rw [if_neg (by simp), if_neg (by rw [h]; simp), if_neg (by simpa using hf)]
end
theorem After.same {D : Sec.Bl} {B : Nat} {a n c : Int} {S : List UInt8} {br : Bool} {s : Sec.St} {w w' : World} (h : Sec.At D s w) (hB : PB B D.b a n S br w) (ho : D.off B) (hb : Below w.heap.size w w') : After D B a n c S br s w (.returned (.int .i64 c)) w' :=
  ⟨rfl, D, h.below hb, hB.below hb, ho, .of_below hb⟩
end Book

set_option maxHeartbeats 4000000 in
set_option maxRecDepth 20000 in
theorem pappend (D : Sec.Bl) (s : Sec.St) (w : World) (h : Sec.At D s w) (hs : s.Ok) (B a n : Nat) (S : List UInt8) (br : Bool) (hB : Book.PB B D.b a n S br w) (ho : D.off B) (hS : S.length ≤ n * 127) (han : a + n ≤ s.n) (hlim : s.loose.length + n ≤ 1000000000)
    (xs : List ByteArray) (A : Option Addr) (c : Nat) (hl : xs.length ≤ maxLen) (hx : ∀ x ∈ xs, x.size ≤ maxLen) (hli : Lies w w.heap.size A (tcells xs)) (r : Int × List UInt8 × Bool × Sec.St) (hr : r = Book.app a n S br s xs) :
    Calls Tryz.prog 23 #[.pointer (some ⟨B, 0, none⟩), .slice A xs.length c] w (Book.After D B a n r.1 r.2.1 r.2.2.1 r.2.2.2 w) := by
  have hn2 := hs.n2
  have HIS := Lib.hid (pis hB)
  have c5 := hB.c5
  have H := Lib.hid h
  have HPB := Lib.hid hB
  have HO := Lib.hid ho
  have HL := Lib.hid hli
  have HCO := Lib.hid (pcontains xs A c w hl hx hli)
  have HR := Lib.hid hr
  cases br with
  | true =>
    have HRE : Hid (r = (3, S, true, s)) := hr.trans Book.app_broken
    clear h hs hB ho hli hx hr
    go_enter Tryz.func23, Tryz.ntmps23
    go_wp2_with fail
    refine HIS.out.mono ?_
    rintro e w1 ⟨rfl, rfl⟩
    go_wp2_with fail
    go_ret
    rw [HRE.out]
    exact Book.After.same H.out HPB.out HO.out (Below.refl _ _)
  | false =>
    cases hlong : Book.long xs with
    | true =>
      have HRE : Hid (r = (4, S, false, s)) := hr.trans (Book.app_long hlong)
      rw [hlong] at HCO
      clear h hs hB ho hli hx hr hlong
      go_enter Tryz.func23, Tryz.ntmps23
      go_wp2_with fail
      refine HIS.out.mono ?_
      rintro e w1 ⟨rfl, rfl⟩
      go_wp2_with fail
      refine HCO.out.mono ?_
      rintro e w1 ⟨rfl, rfl⟩
      go_wp2_with fail
      go_ret
      rw [HRE.out]
      exact Book.After.same H.out HPB.out HO.out (Below.refl _ _)
    | false =>
      have hx2 : ∀ x ∈ xs, x.size ≤ 131072 := fun x hx => by
        have := List.any_eq_false.1 hlong x hx
        simpa using this
      rw [hlong] at HCO
      have HFI := Lib.hid (fun b hb => pfits hB (by omega) hS xs hx2 A c hl hli b hb)
      by_cases hfit : S.length + (Book.frb xs).length ≤ n * 127
      · have hrr := hr.trans (Book.app_fits hlong hfit)
        have HFI2 := Lib.hid (HFI.out true (by rw [decide_eq_true hfit]))
        have HFR : Hid (∀ wx : World, Below w.heap.size w wx → Calls Tryz.prog 43 #[.slice A xs.length c] wx fun e w' => e = .returned (.string ⟨(Book.frb xs).toArray⟩) ∧ Below wx.heap.size wx w') := fun wx hb => pframes xs hx2 (by omega) A c wx hl ((hli.below hb).mono hb.size)
        have HADD : Hid (∀ wx : World, Below w.heap.size w wx → Book.frb xs ≠ [] → Calls Tryz.prog 42 #[.pointer (some ⟨B, 0, none⟩), .string ⟨(Book.frb xs).toArray⟩] wx (Book.After D B a n (Book.puts (Book.todo a n S (S ++ Book.frb xs)) s).1 (S ++ Book.frb xs) false (Book.puts (Book.todo a n S (S ++ Book.frb xs)) s).2 wx)) := fun wx hb hne =>
          padd D s wx (h.below hb) hs B a n S (Book.frb xs) false (hB.below hb) ho hne hfit han hlim
        have hzero : Book.frb xs = [] → Book.puts (Book.todo a n S (S ++ Book.frb xs)) s = (0, s) ∧ S ++ Book.frb xs = S := fun e => by
          rw [e, List.append_nil, Book.todo_nil]
          exact ⟨rfl, rfl⟩
        have HZ := Lib.hid hzero
        obtain ⟨q, hq⟩ : ∃ q, q = Book.puts (Book.todo a n S (S ++ Book.frb xs)) s := ⟨_, rfl⟩
        rw [← hq] at HADD hrr HZ
        obtain ⟨S2, hS2⟩ : ∃ S2, S2 = S ++ Book.frb xs := ⟨_, rfl⟩
        rw [← hS2] at HADD hrr HZ
        have HRE := Lib.hid hrr
        clear h hs hB ho hli hx hr hlong hx2 HFI hfit hrr hq hS2 hzero
        generalize Book.frb xs = more at HFR HADD HZ
        go_enter Tryz.func23, Tryz.ntmps23
        go_wp2_with fail
        refine HIS.out.mono ?_
        rintro e w1 ⟨rfl, rfl⟩
        go_wp2_with fail
        refine HCO.out.mono ?_
        rintro e w1 ⟨rfl, rfl⟩
        go_wp2_with fail
        refine HFI2.out.mono ?_
        rintro e w1 ⟨rfl, hb1⟩
        have HB1 := Lib.hid hb1
        clear hb1 c5
        go_wp2_with fail
        refine (HFR.out _ HB1.out).mono ?_
        rintro e w2 ⟨rfl, hb2⟩
        have HB2 := Lib.hid (HB1.out.trans (hb2.mono HB1.out.size))
        clear hb2
        by_cases hm : more = []
        · obtain ⟨hq0, hS0⟩ := HZ.out hm
          subst hm
          subst hS0
          subst hq0
          go_wp2_with fail
          refine (padd_none B _).mono ?_
          rintro e w3 ⟨rfl, rfl⟩
          go_wp2_with fail
          refine (pafter (HPB.out.below HB2.out) 0).mono ?_
          rintro e w4 ⟨rfl, hpb4, hg4⟩
          have HPB4 := Lib.hid hpb4
          have HG4 := Lib.hid hg4
          clear hpb4 hg4
          go_wp2_with fail
          go_ret
          rw [HRE.out]
          exact ⟨rfl, D, Sec.at_grown (H.out.below HB2.out) HO.out HG4.out, HPB4.out, HO.out, (Book.Mvb.of_below HB2.out).trans (.of_grown HG4.out)⟩
        · have HA := Lib.hid (HADD.out _ HB2.out hm)
          obtain ⟨qc, qs⟩ := q
          clear hm HADD HZ HFR
          go_wp2_with fail
          refine HA.out.mono ?_
          rintro e w3 ⟨rfl, D3, hA3, hpb3, ho3, hm3⟩
          have HA3 := Lib.hid hA3
          have HPB3 := Lib.hid hpb3
          have HO3 := Lib.hid ho3
          have HM3 := Lib.hid hm3
          clear hA3 hpb3 ho3 hm3 HA
          go_wp2_with fail
          refine (pafter HPB3.out qc).mono ?_
          rintro e w4 ⟨rfl, hpb4, hg4⟩
          have HPB4 := Lib.hid hpb4
          have HG4 := Lib.hid hg4
          clear hpb4 hg4
          go_wp2_with fail
          go_ret
          rw [HRE.out]
          exact ⟨rfl, D3, Sec.at_grown HA3.out HO3.out HG4.out, by simpa using HPB4.out, HO3.out, ((Book.Mvb.of_below HB2.out).trans HM3.out).trans (.of_grown HG4.out)⟩
      · have HRE : Hid (r = (6, S, false, s)) := hr.trans (Book.app_full hlong hfit)
        have HFI2 := Lib.hid (HFI.out false (by rw [decide_eq_false hfit]))
        clear h hs hB ho hli hx hr hlong hx2 HFI hfit
        go_enter Tryz.func23, Tryz.ntmps23
        go_wp2_with fail
        refine HIS.out.mono ?_
        rintro e w1 ⟨rfl, rfl⟩
        go_wp2_with fail
        refine HCO.out.mono ?_
        rintro e w1 ⟨rfl, rfl⟩
        go_wp2_with fail
        refine HFI2.out.mono ?_
        rintro e w1 ⟨rfl, hb1⟩
        have HB1 := Lib.hid hb1
        clear hb1
        go_wp2_with fail
        go_ret
        rw [HRE.out]
        exact Book.After.same H.out HPB.out HO.out HB1.out

set_option maxHeartbeats 2000000 in
set_option maxRecDepth 20000 in
theorem psync (D : Sec.Bl) (s : Sec.St) (w : World) (h : Sec.At D s w) (hs : s.Ok) (B : Nat) (a n : Int) (S : List UInt8) (br : Bool) (hB : Book.PB B D.b a n S br w) (ho : D.off B) (hlim : s.loose.length ≤ 1000000000)
    (r : Int × Bool × Sec.St) (hr : r = if br = true then (3, true, s) else ((Book.wsync s).1, (Book.wsync s).1 != 0, (Book.wsync s).2)) :
    Calls Tryz.prog 24 #[.pointer (some ⟨B, 0, none⟩)] w (Book.After D B a n r.1 S r.2.1 r.2.2 w) := by
  have HIS := Lib.hid (pis hB)
  have c5 := hB.c5
  have c0 := hB.c0
  have H := Lib.hid h
  have HPB := Lib.hid hB
  have HO := Lib.hid ho
  have HSY := Lib.hid (dsync D D.b rfl s w h hs hlim)
  cases br with
  | true =>
    have HRE : Hid (r = (3, true, s)) := by show _ = _; rw [hr]; rfl
    clear h hs hB ho hr
    go_enter Tryz.func24, Tryz.ntmps24
    go_wp2_with fail
    refine HIS.out.mono ?_
    rintro e w1 ⟨rfl, rfl⟩
    go_wp2_with fail
    go_ret
    rw [HRE.out]
    exact Book.After.same H.out HPB.out HO.out (Below.refl _ _)
  | false =>
    have HRE : Hid (r = ((Book.wsync s).1, (Book.wsync s).1 != 0, (Book.wsync s).2)) := by show _ = _; rw [hr]; simp
    generalize Book.wsync s = q at HSY HRE
    obtain ⟨qc, qs⟩ := q
    clear h hs hB ho hr
    go_enter Tryz.func24, Tryz.ntmps24
    go_wp2_with fail
    refine HIS.out.mono ?_
    rintro e w1 ⟨rfl, rfl⟩
    go_wp2_with fail
    refine HSY.out.mono ?_
    rintro e w3 ⟨rfl, D3, hA3, hM3⟩
    have HA3 := Lib.hid hA3
    have HM3 := Lib.hid hM3
    have HPB3 := Lib.hid (HPB.out.keep (hM3.block _ HPB.out.ltb HO.out))
    have HO3 := Lib.hid (hM3.off HPB.out.ltb HO.out)
    clear hA3 hM3 c5 c0
    go_wp2_with fail
    refine (pafter HPB3.out qc).mono ?_
    rintro e w4 ⟨rfl, hpb4, hg4⟩
    have HPB4 := Lib.hid hpb4
    have HG4 := Lib.hid hg4
    clear hpb4 hg4
    go_wp2_with fail
    go_ret
    rw [HRE.out]
    exact ⟨rfl, D3, Sec.at_grown HA3.out HO3.out HG4.out, by simpa using HPB4.out, HO3.out, (Book.Mvb.of_moves HM3.out).trans (.of_grown HG4.out)⟩
end Go.Proofs.YtpmhpibbdcifnaaGreat
end

section
namespace Go.Proofs.YtpmhpibbdcifnaaGreat
open Go.RowKit
attribute [local go_sem ↓] Go.wp_at_zero Go.wp_at_succ

set_option maxHeartbeats 400000 in
theorem pfault_nil (a n : Int) (w : World) :
    Calls Tryz.prog 48 #[.agg #[.pointer none, .int .i64 a, .int .i64 n]] w fun e w' => e = .returned (.int .i64 1) ∧ Below w.heap.size w w' := by
  go_enter Tryz.func48, Tryz.ntmps48
  go_wp2_with fail
  refine (sec_len_nil _).mono ?_
  rintro e w1 ⟨rfl, rfl⟩
  go_wp2_with fail
  go_ret
  exact ⟨rfl, (Below.refl _ _).alloc (Nat.le_refl _) _⟩
set_option maxHeartbeats 400000 in
theorem popen_nil (a n : Int) (w : World) :
    Calls Tryz.prog 31 #[.pointer none, .int .i64 a, .int .i64 n] w fun e w' => e = .returned (.tuple #[.pointer none, .slice none 0 0, .int .i64 1]) ∧ Below w.heap.size w w' := by
  obtain ⟨w0, hw0⟩ : ∃ w0, w0 = w.alloc (.cells #[.pointer none, .int .i64 a, .int .i64 n, .int .i64 0, .string ⟨#[]⟩, .bool false] 83) := ⟨_, rfl⟩
  have hb0 : Below w.heap.size w w0 := by rw [hw0]; exact (Below.refl _ _).alloc (Nat.le_refl _) _
  have HB0 := Lib.hid hb0
  clear hb0
  go_enter Tryz.func31, Tryz.ntmps31
  go_wp2_with fail
  rw [← hw0]
  clear hw0
  refine (pfault_nil a n _).mono ?_
  rintro e w1 ⟨rfl, hb1⟩
  have HB1 := Lib.hid (HB0.out.trans (hb1.mono HB0.out.size))
  clear hb1
  go_wp2_with fail
  refine bodyPost_ret (v := .tuple #[.pointer none, .slice none 0 0, .int .i64 1]) (by simp [results, Tryz.results31, go_sem]) rfl ?_
  exact ⟨rfl, HB1.out⟩
set_option maxHeartbeats 400000 in
theorem pclear_nil (a n : Int) (w : World) :
    Calls Tryz.prog 36 #[.pointer none, .int .i64 a, .int .i64 n] w fun e w' => e = .returned (.int .i64 1) ∧ Below w.heap.size w w' := by
  obtain ⟨w0, hw0⟩ : ∃ w0, w0 = w.alloc (.cells #[.pointer none, .int .i64 a, .int .i64 n] 81) := ⟨_, rfl⟩
  have hb0 : Below w.heap.size w w0 := by rw [hw0]; exact (Below.refl _ _).alloc (Nat.le_refl _) _
  have HB0 := Lib.hid hb0
  clear hb0
  go_enter Tryz.func36, Tryz.ntmps36
  go_wp2_with fail
  rw [← hw0]
  clear hw0
  refine (pfault_nil a n _).mono ?_
  rintro e w1 ⟨rfl, hb1⟩
  have HB1 := Lib.hid (HB0.out.trans (hb1.mono HB0.out.size))
  clear hb1
  go_wp2_with fail
  go_ret
  exact ⟨rfl, HB1.out⟩
set_option maxHeartbeats 400000 in
theorem pappend_nil (A : Option Addr) (n c : Nat) (w : World) :
    Calls Tryz.prog 23 #[.pointer none, .slice A n c] w fun e w' => e = .returned (.int .i64 1) ∧ w = w' := by
  go_enter Tryz.func23, Tryz.ntmps23
  go_wp2_with fail
  refine (pis_nil _).mono ?_
  rintro e w1 ⟨rfl, rfl⟩
  go_wp2_with fail
  go_ret
  exact ⟨rfl, rfl⟩
set_option maxHeartbeats 400000 in
theorem psync_nil (w : World) :
    Calls Tryz.prog 24 #[.pointer none] w fun e w' => e = .returned (.int .i64 1) ∧ w = w' := by
  go_enter Tryz.func24, Tryz.ntmps24
  go_wp2_with fail
  refine (pis_nil _).mono ?_
  rintro e w1 ⟨rfl, rfl⟩
  go_wp2_with fail
  go_ret
  exact ⟨rfl, rfl⟩
set_option maxHeartbeats 400000 in
theorem plen_nil (w : World) :
    Calls Tryz.prog 46 #[.pointer none] w fun e w' => e = .returned (.int .i64 0) ∧ w = w' := by
  go_enter Tryz.func46, Tryz.ntmps46
  go_wp2_with fail
  refine (pis_nil _).mono ?_
  rintro e w1 ⟨rfl, rfl⟩
  go_wp2_with fail
  go_ret
  exact ⟨rfl, rfl⟩
set_option maxHeartbeats 400000 in
theorem proom_nil (w : World) :
    Calls Tryz.prog 26 #[.pointer none] w fun e w' => e = .returned (.int .i64 0) ∧ w = w' := by
  go_enter Tryz.func26, Tryz.ntmps26
  go_wp2_with fail
  refine (pis_nil _).mono ?_
  rintro e w1 ⟨rfl, rfl⟩
  go_wp2_with fail
  go_ret
  exact ⟨rfl, rfl⟩

namespace Book
/-- A book over its disk, at B and p, nothing of both below lo. -/
def Live (p lo B : Nat) (a n : Int) (S : List UInt8) (br : Bool) (s : Sec.St) (w : World) : Prop := ∃ D : Sec.Bl, D.b = p ∧ lo ≤ D.lo ∧ lo ≤ B ∧ Sec.At D s w ∧ PB B p a n S br w ∧ D.off B
section
variable {p lo B : Nat} {a n : Int} {S : List UInt8} {br : Bool} {s : Sec.St} {w w' : World}
theorem Live.below (h : Live p lo B a n S br s w) (hb : Below w.heap.size w w') : Live p lo B a n S br s w' := by
  obtain ⟨D, h1, h2, h3, h4, h5, h6⟩ := h
  exact ⟨D, h1, h2, h3, h4.below hb, h5.below hb, h6⟩
theorem Live.lo_le (h : Live p lo B a n S br s w) : lo ≤ w.heap.size := by
  obtain ⟨D, h1, h2, h3, h4, h5, h6⟩ := h
  have := h5.ltb
  omega
theorem Live.has (h : Live p lo B a n S br s w) : ∃ lo', lo ≤ lo' ∧ Sec.Has p lo' s w := by
  obtain ⟨D, h1, h2, h3, h4, h5, h6⟩ := h
  exact ⟨D.lo, h2, D, h1, rfl, h4⟩
theorem Mvb.below {D D' : Sec.Bl} {s : Sec.St} (h : Mvb D D' B w w') (hA : Sec.At D s w) (h1 : lo ≤ D.lo) (h2 : lo ≤ B) : Below lo w w' :=
  ⟨h.os, h.tape, h.output, h.size, fun i hi => h.block i (by have := hA.ltb; have := hA.lo1; omega) (hA.low (by omega)) (by omega)⟩
theorem After.live {D : Sec.Bl} {c : Int} {S' : List UInt8} {br' : Bool} {s' : Sec.St} {e : Ending} (h : After D B a n c S' br' s' w e w') (hA : Sec.At D s w) (hp : D.b = p) (h1 : lo ≤ D.lo) (h2 : lo ≤ B) :
    e = .returned (.int .i64 c) ∧ Live p lo B a n S' br' s' w' ∧ Below lo w w' := by
  obtain ⟨he, D', k1, k2, k3, k4⟩ := h
  subst hp
  exact ⟨he, ⟨D', k4.b, by rw [k4.lo]; exact h1, h2, k1, k2, k3⟩, k4.below hA h1 h2⟩
end
end Book

section
variable {p lo B : Nat} {a n N : Nat} {S : List UInt8} {s : Sec.St} {w : World}
theorem live_append_ok (h : Book.Live p lo B a n S false s w) (hL : Book.Laid a n N S s) (hlim : s.loose.length + n ≤ 1000000000) (xs : List ByteArray) (A : Option Addr) (c : Nat) (hl : xs.length ≤ maxLen) (hx : ∀ x ∈ xs, x.size ≤ maxLen) (hli : Lies w w.heap.size A (tcells xs))
    (hlong : Book.long xs = false) (hfit : S.length + (Book.frb xs).length ≤ n * 127) :
    Calls Tryz.prog 23 #[.pointer (some ⟨B, 0, none⟩), .slice A xs.length c] w fun e w' => ∃ s', e = .returned (.int .i64 0) ∧ Book.Live p lo B a n (S ++ Book.frb xs) false s' w' ∧ Below lo w w' ∧ Book.Laid a n N (S ++ Book.frb xs) s' ∧ s'.good = s.good ∧ s'.loose.length ≤ s.loose.length + n := by
  obtain ⟨D, rfl, h2, h3, h4, h5, h6⟩ := h
  obtain ⟨l1, l2, l3, l4⟩ := hL.append (m := Book.frb xs) hfit
  refine (pappend D s w h4 hL.ok B a n S false h5 h6 hL.fit (by have := hL.nn; have := hL.han; omega) hlim xs A c hl hx hli _ rfl).mono ?_
  intro e w' hA
  rw [Book.app_fits hlong hfit, l1] at hA
  obtain ⟨k1, k2, k3⟩ := hA.live h4 rfl h2 h3
  exact ⟨_, k1, k2, k3, l2, l3, l4⟩
theorem live_append_no (h : Book.Live p lo B a n S false s w) (hs : s.Ok) (hS : S.length ≤ n * 127) (han : a + n ≤ s.n) (hlim : s.loose.length + n ≤ 1000000000) (xs : List ByteArray) (A : Option Addr) (c : Nat) (hl : xs.length ≤ maxLen) (hx : ∀ x ∈ xs, x.size ≤ maxLen) (hli : Lies w w.heap.size A (tcells xs))
    (hno : ¬ (Book.long xs = false ∧ S.length + (Book.frb xs).length ≤ n * 127)) (r : Int) (hr : r = if Book.long xs = true then 4 else 6) :
    Calls Tryz.prog 23 #[.pointer (some ⟨B, 0, none⟩), .slice A xs.length c] w fun e w' => e = .returned (.int .i64 r) ∧ Book.Live p lo B a n S false s w' ∧ Below lo w w' := by
  obtain ⟨D, rfl, h2, h3, h4, h5, h6⟩ := h
  refine (pappend D s w h4 hs B a n S false h5 h6 hS han hlim xs A c hl hx hli _ rfl).mono ?_
  intro e w' hA
  subst hr
  cases hlong : Book.long xs with
  | true =>
    rw [Book.app_long hlong] at hA
    exact hA.live h4 rfl h2 h3
  | false =>
    rw [Book.app_full hlong (fun hf => hno ⟨hlong, hf⟩)] at hA
    exact hA.live h4 rfl h2 h3
theorem live_sync (h : Book.Live p lo B a n S false s w) (hL : Book.Laid a n N S s) (hlim : s.loose.length ≤ 1000000000) :
    Calls Tryz.prog 24 #[.pointer (some ⟨B, 0, none⟩)] w fun e w' => ∃ s', e = .returned (.int .i64 0) ∧ Book.Live p lo B a n S false s' w' ∧ Below lo w w' ∧ Book.Laid a n N S s' ∧ s'.loose = [] := by
  obtain ⟨D, rfl, h2, h3, h4, h5, h6⟩ := h
  obtain ⟨l1, l2, l3⟩ := hL.sync
  refine (psync D s w h4 hL.ok B a n S false h5 h6 hlim _ rfl).mono ?_
  intro e w' hA
  rw [if_neg (by simp), l1] at hA
  obtain ⟨k1, k2, k3⟩ := hA.live h4 rfl h2 h3
  exact ⟨_, k1, k2, k3, l2, l3⟩
theorem live_crash (h : Book.Live p lo B a n S false s w) (hs : s.Ok) (hlim : s.loose.length ≤ 1000000000) :
    Calls Tryz.prog 14 #[.pointer (some ⟨p, 0, none⟩), .slice none 0 0] w fun e w' => e = .returned (.int .i64 0) ∧ Book.Live p lo B a n S false (s.crash []) w' ∧ Below lo w w' := by
  obtain ⟨D, rfl, h2, h3, h4, h5, h6⟩ := h
  refine (sec_crash D s w h4 hs none 0 [] Sec.Picks.none (Nat.zero_le _) hlim).mono ?_
  rintro e w' ⟨rfl, D', hA, hM⟩
  exact ⟨rfl, ⟨D', hM.b, by rw [hM.lo]; exact h2, h3, hA, h5.keep (hM.block _ h5.ltb h6), hM.off h5.ltb h6⟩, (Book.Mvb.of_moves (B := B) hM).below h4 h2 h3⟩
/-- Open of a part on which a stream lies: nothing turns. -/
theorem laid_open (D : Sec.Bl) (h : Sec.At D s w) (l : List (List UInt8)) (hl : ∀ x ∈ l, x.length ≤ 131072) (hL : Book.Laid a n N (Book.frs l) s) (hn : 1 ≤ n) (hlim : s.loose.length + 2 * n ≤ 1000000000) :
    Calls Tryz.prog 31 #[.pointer (some ⟨D.b, 0, none⟩), .int .i64 (a : Int), .int .i64 (n : Int)] w fun e w' => ∃ (D' : Sec.Bl) (B : Nat) (A : Option Addr) (c : Nat), e = .returned (.tuple #[.pointer (some ⟨B, 0, none⟩), .slice A l.length c, .int .i64 0]) ∧
      Sec.At D' s w' ∧ Sec.Moves D D' w w' ∧ w.heap.size ≤ B ∧ D'.off B ∧ Book.PB B D.b a n (Book.frs l) false w' ∧ Lies w' w'.heap.size A (tcells (l.map fun x => ⟨x.toArray⟩)) := by
  have hfg := Book.found_good hl hL.fit hL.now
  have han : a + n ≤ s.n := by have := hL.nn; have := hL.han; omega
  refine (popen D s w h hL.ok (Sec.St.runs hL.lit) a n hn han hlim (0, (List.range n).map (Book.made (Book.frs l)), s) (by rw [hfg.2, hL.now, Book.anew_laid])).mono ?_
  rw [hfg.1, hfg.2]
  rintro e w' ⟨D', k1, k2, _, k4⟩
  obtain ⟨B, A, c, he, m1, m2, m3, m4, _⟩ := k4 rfl
  exact ⟨D', B, A, c, he, k1, k2, m1, m2, m3, m4⟩
/-- The same, and the records' row is nobody else's. -/
theorem laid_open_own (D : Sec.Bl) (h : Sec.At D s w) (l : List (List UInt8)) (hl : ∀ x ∈ l, x.length ≤ 131072) (hL : Book.Laid a n N (Book.frs l) s) (hn : 1 ≤ n) (hlim : s.loose.length + 2 * n ≤ 1000000000) :
    Calls Tryz.prog 31 #[.pointer (some ⟨D.b, 0, none⟩), .int .i64 (a : Int), .int .i64 (n : Int)] w fun e w' => ∃ (D' : Sec.Bl) (B : Nat) (A : Option Addr) (c : Nat), e = .returned (.tuple #[.pointer (some ⟨B, 0, none⟩), .slice A l.length c, .int .i64 0]) ∧
      Sec.At D' s w' ∧ Sec.Moves D D' w w' ∧ w.heap.size ≤ B ∧ D'.off B ∧ Book.PB B D.b a n (Book.frs l) false w' ∧ Lies w' w'.heap.size A (tcells (l.map fun x => ⟨x.toArray⟩)) ∧
      w'.ownsRow w.heap.size 9 1 (.slice A l.length c) l.length (tcells (l.map fun x => ⟨x.toArray⟩)) ∧ ∀ g, A = some ⟨g, 0, none⟩ → D'.off g ∧ g ≠ B := by
  have hfg := Book.found_good hl hL.fit hL.now
  have han : a + n ≤ s.n := by have := hL.nn; have := hL.han; omega
  refine (popen_own D s w h hL.ok (Sec.St.runs hL.lit) a n hn han hlim (0, (List.range n).map (Book.made (Book.frs l)), s) (by rw [hfg.2, hL.now, Book.anew_laid])).mono ?_
  rw [hfg.1, hfg.2]
  rintro e w' ⟨D', k1, k2, _, k4⟩
  obtain ⟨B, A, c, he, m1, m2, m3, m4, _, m6, m7⟩ := k4 rfl
  exact ⟨D', B, A, c, he, k1, k2, m1, m2, m3, m4, m6, m7⟩
theorem has_open {lo' : Nat} (h : Sec.Has p lo' s w) (hlo : lo ≤ lo') (l : List (List UInt8)) (hl : ∀ x ∈ l, x.length ≤ 131072) (hL : Book.Laid a n N (Book.frs l) s) (hn : 1 ≤ n) (hlim : s.loose.length + 2 * n ≤ 1000000000) :
    Calls Tryz.prog 31 #[.pointer (some ⟨p, 0, none⟩), .int .i64 (a : Int), .int .i64 (n : Int)] w fun e w' => ∃ (B : Nat) (A : Option Addr) (c : Nat), e = .returned (.tuple #[.pointer (some ⟨B, 0, none⟩), .slice A l.length c, .int .i64 0]) ∧
      Book.Live p lo B a n (Book.frs l) false s w' ∧ Below lo w w' ∧ Lies w' w'.heap.size A (tcells (l.map fun x => ⟨x.toArray⟩)) := by
  have hle := h.lo_le
  obtain ⟨D, rfl, rfl, hA⟩ := h
  refine (laid_open D hA l hl hL hn hlim).mono ?_
  rintro e w' ⟨D', B, A, c, he, k1, k2, k3, k4, k5, k6⟩
  exact ⟨B, A, c, he, ⟨D', k2.b, by rw [k2.lo]; exact hlo, by omega, k1, k5, k4⟩, (k2.below hA).mono hlo, k6⟩
/-- The same, where a book is there: it stays. -/
theorem live_open {a2 n2 : Int} {S2 : List UInt8} {br : Bool} (h : Book.Live p lo B a2 n2 S2 br s w) (l : List (List UInt8)) (hl : ∀ x ∈ l, x.length ≤ 131072) (hL : Book.Laid a n N (Book.frs l) s) (hn : 1 ≤ n) (hlim : s.loose.length + 2 * n ≤ 1000000000) :
    Calls Tryz.prog 31 #[.pointer (some ⟨p, 0, none⟩), .int .i64 (a : Int), .int .i64 (n : Int)] w fun e w' => ∃ (B2 : Nat) (A : Option Addr) (c : Nat), e = .returned (.tuple #[.pointer (some ⟨B2, 0, none⟩), .slice A l.length c, .int .i64 0]) ∧
      Book.Live p lo B a2 n2 S2 br s w' ∧ Below lo w w' ∧ Lies w' w'.heap.size A (tcells (l.map fun x => ⟨x.toArray⟩)) := by
  obtain ⟨D, rfl, h2, h3, h4, h5, h6⟩ := h
  refine (laid_open D h4 l hl hL hn hlim).mono ?_
  rintro e w' ⟨D', B2, A, c, he, k1, k2, k3, k4, k5, k6⟩
  exact ⟨B2, A, c, he, ⟨D', k2.b, by rw [k2.lo]; exact h2, h3, k1, h5.keep (k2.block _ h5.ltb h6), k2.off h5.ltb h6⟩, (k2.below h4).mono h2, k6⟩
theorem has_clear {lo' : Nat} (h : Sec.Has p lo' s w) (hL : Book.Laid a n N [] s) (hn : 1 ≤ n) (hlim : s.loose.length + 2 * n ≤ 1000000000) :
    Calls Tryz.prog 36 #[.pointer (some ⟨p, 0, none⟩), .int .i64 (a : Int), .int .i64 (n : Int)] w fun e w' => e = .returned (.int .i64 0) ∧ Sec.Has p lo' s w' ∧ Below lo' w w' := by
  obtain ⟨D, rfl, rfl, hA⟩ := h
  have han : a + n ≤ s.n := by have := hL.nn; have := hL.han; omega
  refine (pclear D s w hA hL.ok (Sec.St.runs hL.lit) a n hn han hlim).mono ?_
  rw [hL.now, Book.anew_laid]
  rintro e w' ⟨he, D', k1, k2⟩
  exact ⟨he, ⟨D', k2.b, k2.lo, k1⟩, k2.below hA⟩
theorem live_clear_no {a2 n2 : Int} {S2 : List UInt8} {br : Bool} (h : Book.Live p lo B a2 n2 S2 br s w) (hs : s.Ok) (x y : Int) (hx : x ≤ 9223372036854775807) (hno : Book.fits s.n x y = false) :
    Calls Tryz.prog 36 #[.pointer (some ⟨p, 0, none⟩), .int .i64 x, .int .i64 y] w fun e w' => e = .returned (.int .i64 2) ∧ Below w.heap.size w w' := by
  obtain ⟨D, rfl, h2, h3, h4, h5, h6⟩ := h
  exact pclear_no D s w h4 hs x y hx hno
theorem live_len {a2 n2 : Int} {br : Bool} (h : Book.Live p lo B a2 n2 S br s w) (hS : S.length ≤ 1000000) :
    Calls Tryz.prog 46 #[.pointer (some ⟨B, 0, none⟩)] w fun e w' => e = .returned (.int .i64 (S.length : Int)) ∧ Below w.heap.size w w' := by
  obtain ⟨D, rfl, h2, h3, h4, h5, h6⟩ := h
  exact plen h5 hS
theorem live_room {a2 : Int} {br : Bool} (h : Book.Live p lo B a2 n S br s w) (hn : n ≤ 4096) (hS : S.length ≤ n * 127) :
    Calls Tryz.prog 26 #[.pointer (some ⟨B, 0, none⟩)] w fun e w' => e = .returned (.int .i64 ((n * 127 - S.length : Nat) : Int)) ∧ Below w.heap.size w w' := by
  obtain ⟨D, rfl, h2, h3, h4, h5, h6⟩ := h
  exact proom h5 hn hS
end
end Go.Proofs.YtpmhpibbdcifnaaGreat
end
