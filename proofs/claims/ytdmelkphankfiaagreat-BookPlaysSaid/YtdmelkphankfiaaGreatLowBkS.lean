/-
  The document's book: its sectors read.
  The document's book: the stream of sectors.
  The document's book: sectors made anew.
  The document's book: the contract of anew.
  The document's book: Clear.
  The document's book: Records.
  The document's book: Open.
  The document's book: Room, Sync.
-/
import Derived.Test.YtdmelkphankfiaaGreatLowBkT
import Derived.Test.YtdmelkphankfiaaGreatLowBkP
import Derived.Test.YtdmelkphankfiaaGreatFrameRs
import Derived.Test.YtdmelkphankfiaaGreatLowFrameRef
section
namespace Go.Proofs.YtdmelkphankfiaaGreat
open Go.RowKit
attribute [local go_sem ↓] Go.wp_at_zero Go.wp_at_succ

/-- The sectors from a, n of them, as they are read. -/
def Book.secs (xs : List UInt8) (a n : Nat) : List ByteArray := (List.range n).map fun i => Sec.chunk xs (a + i)
theorem Book.secs_len (xs : List UInt8) (a n : Nat) : (Book.secs xs a n).length = n := by simp [Book.secs]
theorem Book.secs_succ (xs : List UInt8) (a n : Nat) : Book.secs xs a (n + 1) = Book.secs xs a n ++ [Sec.chunk xs (a + n)] := by
  unfold Book.secs
  rw [List.range_succ, List.map_append]
  rfl

set_option maxHeartbeats 2000000 in
set_option maxRecDepth 20000 in
theorem kread (R : Sec.Rl) (s : Sec.St) (w : World) (h : Sec.RHas R s w) (hs : s.Ok) (hseen : s.Seen) (hd : s.still = false) (hlim : s.loose.length ≤ 1000000000) (a n : Nat) (han : a + n ≤ s.n) :
    Calls Tryz.prog 46 #[.pointer (some ⟨R.b, 0, none⟩), .int .i64 (a : Int), .int .i64 (n : Int)] w fun e w' => ∃ A c, e = .returned (.tuple #[.slice A n c, .int .i64 0]) ∧ w'.ownsRow w.heap.size 9 1 (.slice A n c) n (Sec.scels (Book.secs s.now a n)) ∧ Below w.heap.size w w' := by
  have hn2 := hs.n2
  have H := Lib.hid h
  have HS := Lib.hid hs
  have HSEEN := Lib.hid hseen
  have HD := Lib.hid hd
  have hai : (a : Int) + (n : Int) ≤ 4096 := by omega
  have ha0 : (0 : Int) ≤ (a : Int) := by omega
  obtain ⟨i0, hi, hz0, hz1, hz2⟩ := info_parts str_info
  have HI := Lib.hid hi
  have HZ0 := Lib.hid hz0
  have HZ1 := Lib.hid hz1
  have HZ2 := Lib.hid hz2
  have HR : Hid (∀ (wr : World) (i : Nat), i < n → Below w.heap.size w wr → Calls Tryz.prog 54 #[.pointer (some ⟨R.b, 0, none⟩), .int .i64 ((a : Int) + (i : Int))] wr fun e w' => e = .returned (.tuple #[.string (Sec.chunk s.now (a + i)), .int .i64 0]) ∧ wr = w') := fun wr i hin hb => by
    have := rread R s wr (Sec.RAt.below H.out hb) HS.out HSEEN.out HD.out (a + i) (by omega) hlim
    rw [Int.natCast_add] at this
    exact this
  clear h hs hseen hd hi hz0 hz1 hz2 H HS HSEEN HD
  go_enter Tryz.func46, Tryz.ntmps46
  go_wp2_with fail
  go_loopw [8, 9] (fun L t wr => ∃ (A : Option Addr) (c i : Nat), L = .slice A i c ∧ t = .int .i64 i ∧ i ≤ n ∧ Hid (wr.ownsRow w.heap.size 9 1 (.slice A i c) i (Sec.scels (Book.secs s.now a i))) ∧ Hid (Below w.heap.size w wr)) (fun _ t _ => n - (intOf t).toNat)
  case atStart => exact ⟨none, 0, 0, rfl, rfl, Nat.zero_le _, World.ownsRow_nil _ _ _ _, Below.refl _ _⟩
  case round =>
    obtain ⟨A, c, i, rfl, rfl, hin, HROW, HW⟩ := hrel
    by_cases hlt : i < n
    · have hii : (i : Int) < (n : Int) := by omega
      have hi0 : (0 : Int) ≤ (i : Int) := by omega
      have hws := HW.out.size
      go_wp2_with fail
      refine (HR.out _ i hlt HW.out).mono ?_
      rintro e w1 ⟨rfl, rfl⟩
      have HS2 := Lib.hid (Book.secs_succ s.now a i)
      generalize Sec.chunk s.now (a + i) = X at HS2
      have HKEEP : Hid ((wr.alloc (.cells #[.string X] 9)).ownsRow w.heap.size 9 1 (.slice A i c) i (Sec.scels (Book.secs s.now a i))) := HROW.out.alloc _
      go_wp2_with (at_builtin; refine wpList_append_lies _ (by rfl) _ _ _ (by rfl) w.heap.size 9 i0 (.string ByteArray.empty) 1 16 Tryz.underlying38 HI.out HZ0.out HZ1.out HZ2.out (by rfl) (by omega) _ _ _ (by rfl) HKEEP.out ⟨wr.heap.size, 0, none⟩ 1 1 [.string X] (by rfl) (by rfl) (fun j u hu => World.news_of_block (heap_alloc_new wr (.cells #[.string X] 9)) j u (by simpa using hu)) (by simp [Value.oneCell']) (by omega) (by unfold maxLen; omega) (by omega) (by simp; omega) (wr.heap.size + 1) (by simp) ?_)
      intro g' cap' w2 hown hgrow hat hlt2
      have hb2 : Below w.heap.size w w2 := (HW.out.alloc hws (.cells #[.string X] 9)).grown hgrow (by simp; omega) (fun k hk => (HKEEP.out.lt k hk).1)
      have HB2 := Lib.hid hb2
      have hr2 : w2.ownsRow w.heap.size 9 1 (.slice (some ⟨g', 0, none⟩) (i + 1) cap') (i + 1) (Sec.scels (Book.secs s.now a (i + 1))) := by
        rw [HS2.out, Sec.scels_app]
        exact hown
      have HR2 := Lib.hid hr2
      clear hown hgrow hat hlt2 hb2 hr2
      go_wp2_with fail
      go_roundw
      case rel => exact ⟨some ⟨g', 0, none⟩, cap', i + 1, rfl, by go_num, by omega, HR2.out, HB2.out⟩
      case measure => simp [intOf]; omega
    · obtain rfl : i = n := by omega
      go_wp2_with fail
      refine bodyPost_ret (v := .tuple #[.slice A i c, .int .i64 0]) (by simp [results, Tryz.results46, go_sem]) rfl ?_
      exact ⟨A, c, rfl, HROW.out, HW.out⟩

set_option maxHeartbeats 1000000 in
set_option maxRecDepth 20000 in
theorem kread_down (R : Sec.Rl) (s : Sec.St) (w : World) (h : Sec.RHas R s w) (hd : s.still = true) (a n : Nat) (hn : 1 ≤ n) (han : a + n ≤ 4096) :
    Calls Tryz.prog 46 #[.pointer (some ⟨R.b, 0, none⟩), .int .i64 (a : Int), .int .i64 (n : Int)] w fun e w' => e = .returned (.tuple #[.slice none 0 0, .int .i64 51]) ∧ Below w.heap.size w w' := by
  have hai : (a : Int) + (n : Int) ≤ 4096 := by omega
  have ha0 : (0 : Int) ≤ (a : Int) := by omega
  have hn1 : (0 : Int) < (n : Int) := by omega
  have hn2 : 0 < n := by omega
  have HR := Lib.hid (rread_down R s w h hd (a : Int))
  clear h hd
  go_enter Tryz.func46, Tryz.ntmps46
  go_wp2_with fail
  go_loopw [8, 9] (fun L t wr => L = .slice none 0 0 ∧ t = .int .i64 0 ∧ wr = w) (fun _ t _ => 1 - (intOf t).toNat)
  case atStart => exact ⟨rfl, rfl, rfl⟩
  case round =>
    obtain ⟨rfl, rfl, rfl⟩ := hrel
    go_wp2_with fail
    refine HR.out.mono ?_
    rintro e w1 ⟨rfl, rfl⟩
    go_wp2_with fail
    refine bodyPost_ret (v := .tuple #[.slice none 0 0, .int .i64 51]) (by simp [results, Tryz.results46, go_sem]) rfl ?_
    exact ⟨rfl, Below.refl _ _⟩
end Go.Proofs.YtdmelkphankfiaaGreat
end

section
namespace Go.Proofs.YtdmelkphankfiaaGreat
open Go.RowKit
attribute [local go_sem ↓] Go.wp_at_zero Go.wp_at_succ

set_option maxHeartbeats 2000000 in
set_option maxRecDepth 20000 in
theorem kstream (l : List (List UInt8)) (hl : l.length ≤ 4096) (hz : ∀ x ∈ l, x.length = 128) (A : Option Addr) (c : Nat) (w : World) (hli : Lies w w.heap.size A (tcells (l.map fun x => ⟨x.toArray⟩))) :
    Calls Tryz.prog 47 #[.slice A l.length c] w fun e w' => e = .returned (.string ⟨(Book.stream l).toArray⟩) ∧ Below w.heap.size w w' := by
  have HL := Lib.hid hli
  have HZ := Lib.hid hz
  have hl2 : (l.length : Int) ≤ 4096 := by omega
  clear hli hz
  go_enter Tryz.func47, Tryz.ntmps47
  go_wp2_with fail
  go_loop [3, 4] (fun a t => ∃ (k : Nat) (acc : List UInt8), k ≤ l.length ∧ t = .int .i64 k ∧ a = .string ⟨acc.toArray⟩ ∧ acc.length ≤ k * 127 ∧ Hid (Book.stream l = acc ++ Book.stream (l.drop k))) (fun _ t => l.length - (intOf t).toNat)
  case atStart => exact ⟨0, [], Nat.zero_le _, rfl, rfl, Nat.zero_le _, by show _ = _; simp⟩
  case round =>
    obtain ⟨k, acc, hk, rfl, rfl, hacc, HE⟩ := hrel
    by_cases hlt : k < l.length
    · have hkm : k < (l.map fun x => (⟨x.toArray⟩ : ByteArray)).length := by simpa using hlt
      obtain ⟨ad, rfl, _, hc⟩ := HL.out.at_ (tcells_at hkm)
      rw [List.getElem_map] at hc
      have hx := HZ.out l[k] (List.getElem_mem hlt)
      have HD := Lib.hid (List.drop_eq_getElem_cons hlt)
      have hk0 : (0 : Int) ≤ (k : Int) := by omega
      have hk1 : (k : Int) < (l.length : Int) := by omega
      generalize l[k] = x at hc hx HD
      obtain ⟨m, hm⟩ : ∃ m : Nat, m = (x.getD 127 0).toNat := ⟨_, rfl⟩
      have hxi : (127 : Nat) < (⟨x.toArray⟩ : ByteArray).size := by show 127 < x.toArray.size; simp; omega
      have hb : wrap64 ((((⟨x.toArray⟩ : ByteArray)[127]'hxi).toNat : Nat) : Int) = (m : Int) := by
        have e : ((⟨x.toArray⟩ : ByteArray)[127]'hxi) = x.getD 127 0 := by
          show x.toArray[127] = _
          simp [List.getD, List.getElem?_eq_getElem (show 127 < x.length by omega)]
        rw [e, ← hm, IntWalk.wrap64_in]
        have := (x.getD 127 0).toNat_lt
        omega
      have hfill : Book.fill x = if m ≤ 127 then m else 0 := by unfold Book.fill; rw [← hm]
      have hcat : ∀ j : Nat, (⟨acc.toArray⟩ : ByteArray) ++ (⟨x.toArray⟩ : ByteArray).extract 0 j = ⟨(acc ++ x.take j).toArray⟩ := fun j => by
        apply ByteArray.ext
        rw [ByteArray.data_append, ByteArray.data_extract]
        apply Array.ext'
        simp
      have hxs : (⟨x.toArray⟩ : ByteArray).size = 128 := by show x.toArray.size = 128; simpa using hx
      have has : (⟨acc.toArray⟩ : ByteArray).size ≤ 524288 := by show acc.toArray.size ≤ _; simp; omega
      have HE2 : Hid (Book.stream l = acc ++ if Book.fill x < 127 then x.take (Book.fill x) else x.take (Book.fill x) ++ Book.stream (l.drop (k + 1))) := by
        show _ = _
        rw [HE.out, HD.out, Book.stream]
      have HF := Lib.hid hfill
      clear hfill hm HE HD
      by_cases m1 : 127 < m
      · have m1i : (127 : Int) < (m : Int) := by omega
        have HF2 : Hid (Book.stream l = acc) := by
          show _ = _
          have hf : Book.fill x = 0 := by rw [HF.out, if_neg (by omega)]
          rw [HE2.out, hf]
          simp
        go_wp2_with fail
        go_ret
        refine ⟨?_, Below.refl _ _⟩
        rw [HF2.out]
        simp
      · by_cases m2 : m = 127
        · subst m2
          have HF2 : Hid (Book.stream l = (acc ++ x.take 127) ++ Book.stream (l.drop (k + 1))) := by
            show _ = _
            rw [HE2.out, HF.out]
            simp
          have hcat := hcat 127
          go_wp2_with fail
          go_round
          case rel => exact ⟨k + 1, acc ++ x.take 127, by omega, by go_num, by rw [← hcat], by rw [List.length_append, List.length_take]; omega, HF2.out⟩
          case measure => simp [intOf]; omega
        · have m1i : (m : Int) < 127 := by omega
          have m0i : (0 : Int) ≤ (m : Int) := by omega
          have HF2 : Hid (Book.stream l = acc ++ x.take m) := by
            show _ = _
            have hf : Book.fill x = m := by rw [HF.out, if_pos (by omega)]
            rw [HE2.out, hf, if_pos (by omega)]
          have hcat := hcat m
          go_wp2_with fail
          go_ret
          refine ⟨?_, Below.refl _ _⟩
          rw [HF2.out, ← hcat]
          rfl
    · have HD := Lib.hid (show l.drop k = [] from List.drop_of_length_le (by omega))
      go_wp2_with fail
      go_ret
      refine ⟨?_, Below.refl _ _⟩
      have h1 := HE.out
      rw [HD.out, Book.stream, List.append_nil] at h1
      rw [h1]
      rfl
end Go.Proofs.YtdmelkphankfiaaGreat
end

section
namespace Go.Proofs.YtdmelkphankfiaaGreat
open Go.RowKit
attribute [local go_sem ↓] Go.wp_at_zero Go.wp_at_succ

namespace Sec
theorem Mv.but {o1 o2 : Nat → Prop} {a b : World} (h : Mv o1 o2 a b) (G : Nat) : Mv (fun i => o1 i ∧ i ≠ G) (fun i => o2 i ∧ i ≠ G) a b :=
  ⟨h.os, h.tape, h.output, h.size, fun i hi ho => h.block i hi ho.1, fun i hi ho => ⟨h.keep i hi ho.1, ho.2⟩⟩
end Sec

namespace Book
def cells (l : List (List UInt8)) : List Value := Sec.scels (l.map fun x => ⟨x.toArray⟩)
/-- The document's disk and the sectors' slice, in the midst of an anew. -/
structure AnAt (R : Sec.Rl) (N n L G c : Nat) (w : World) (l : List (List UInt8)) (s : Sec.St) (wr : World) : Prop where
  len : l.length = n
  sz : ∀ x ∈ l, x.length = 128
  ok : s.Ok
  nn : s.n = N
  lo : s.loose.length ≤ L
  at_ : ∃ v, Sec.RHas { R with v := v } s wr ∧ ({ R with v := v : Sec.Rl }).off G ∧ Sec.Mv (fun i => R.off i ∧ i ≠ G) (fun i => ({ R with v := v : Sec.Rl }).off i ∧ i ≠ G) w wr
  row : wr.ownsRow 0 9 1 (.slice (some ⟨G, 0, none⟩) n c) n (cells l)
variable {R : Sec.Rl} {N n L G c : Nat} {w wr w2 : World} {l : List (List UInt8)} {s : Sec.St}
theorem AnAt.mono (h : AnAt R N n L G c w l s wr) {L' : Nat} (hl : L ≤ L') : AnAt R N n L' G c w l s wr := ⟨h.len, h.sz, h.ok, h.nn, Nat.le_trans h.lo hl, h.at_, h.row⟩
theorem AnAt.below (h : AnAt R N n L G c w l s wr) (hb : Below wr.heap.size wr w2) : AnAt R N n L G c w l s w2 := by
  obtain ⟨v, h1, h2, h3⟩ := h.at_
  have hG := (h.row.lt G rfl).2
  exact ⟨h.len, h.sz, h.ok, h.nn, h.lo, ⟨v, Sec.RAt.below h1 hb, h2, h3.trans (.of_below hb)⟩, Sec.owns_keep h.row (fun i e => by
    obtain rfl : G = i := by simpa [Value.ownBlock] using e
    exact hb.block _ hG)⟩
theorem AnAt.cell (h : AnAt R N n L G c w l s wr) {i : Nat} (hi : i < n) : wr.cell? ⟨G, i, none⟩ = some (.string ⟨(l.getD i []).toArray⟩) ∧ wr.frozen? ⟨G, i, none⟩ = false := by
  have hil : i < l.length := by rw [h.len]; exact hi
  rcases h.row.2 with ⟨e, _⟩ | ⟨g, cap, cur, hv, _, hg, hrest⟩
  · cases e
  · have eg : G = g := by injection hv with e1 e2 e3; injection e1 with e4; injection e4
    subst eg
    refine ⟨?_, frozen_of_row wr G i cur _ hg⟩
    have hc := h.row.cells (g := G) rfl i (.string ⟨(l.getD i []).toArray⟩) (by
      unfold cells Sec.scels
      rw [List.getElem?_map, List.getElem?_map, List.getElem?_eq_getElem hil]
      simp [List.getD, List.getElem?_eq_getElem hil])
    rwa [Addr.add_mid, Nat.zero_add] at hc
/-- A sector is written, then turns in the slice. -/
theorem AnAt.put (h : AnAt R N n L G c w l s wr) {v v2 : Value} (h2 : ({ R with v := v : Sec.Rl }).off G) (h3 : Sec.Mv (fun i => R.off i ∧ i ≠ G) (fun i => ({ R with v := v : Sec.Rl }).off i ∧ i ≠ G) w wr)
    {k : Nat} (hk : k < s.n) {y : List UInt8} (hy : y.length = 128) (i : Nat) (hb : Sec.RHas { R with v := v2 } (s.burn.put k y) w2) (hm : Sec.Mv ({ R with v := v : Sec.Rl }).off ({ R with v := v2 : Sec.Rl }).off wr w2) :
    AnAt R N n (L + 1) G c w (l.set i y) (s.burn.put k y) (w2.setCell ⟨G, i, none⟩ (.string ⟨y.toArray⟩)) := by
  have hG := (h.row.lt G rfl).2
  have h4 := hm.keep G hG h2
  have r2 : w2.ownsRow 0 9 1 (.slice (some ⟨G, 0, none⟩) n c) n (cells l) := Sec.owns_keep h.row (fun i e => by
    obtain rfl : G = i := by simpa [Value.ownBlock] using e
    exact hm.block _ hG h2)
  obtain ⟨r3, g3⟩ := r2.stored i (.string ⟨y.toArray⟩)
  have hG2 := Nat.lt_of_lt_of_le hG hm.size
  refine ⟨by rw [List.length_set]; exact h.len, fun x hx => ?_, (h.ok.burn).put hk hy, h.nn, ?_, ⟨v2, ?_, h4, ?_⟩, ?_⟩
  · rcases List.mem_or_eq_of_mem_set hx with hx | rfl
    · exact h.sz x hx
    · exact hy
  · show (s.loose ++ [_]).length ≤ _
    have := h.lo
    rw [List.length_append]
    simpa using this
  · refine Sec.RAt.keep hb (fun j hj => ?_)
    refine g3.block j (Sec.RAt.lt hb hj) (fun e => ?_)
    obtain rfl : j = G := Option.some.inj e
    exact hj h4
  · exact (h3.trans (hm.but G)).trans (.of_grown g3 (fun j hj e => hj.2 (Option.some.inj e)) (fun _ _ h => h))
  · have e : cells (l.set i y) = (cells l).set i (.string ⟨y.toArray⟩) := by
      unfold cells Sec.scels
      rw [List.map_set, List.map_set]
    rw [e]
    exact r3
/-- All that is loose is made good. -/
theorem AnAt.sync (h : AnAt R N n L G c w l s wr) {v v2 : Value} (h2 : ({ R with v := v : Sec.Rl }).off G) (h3 : Sec.Mv (fun i => R.off i ∧ i ≠ G) (fun i => ({ R with v := v : Sec.Rl }).off i ∧ i ≠ G) w wr)
    (hb : Sec.RHas { R with v := v2 } (s.burn.settle fun _ => 128) w2) (hm : Sec.Mv ({ R with v := v : Sec.Rl }).off ({ R with v := v2 : Sec.Rl }).off wr w2) :
    AnAt R N n L G c w l (s.burn.settle fun _ => 128) w2 := by
  have hG := (h.row.lt G rfl).2
  exact ⟨h.len, h.sz, (h.ok.burn).settle _, h.nn, Nat.zero_le _, ⟨v2, hb, hm.keep G hG h2, h3.trans (hm.but G)⟩, Sec.owns_keep h.row (fun i e => by
    obtain rfl : G = i := by simpa [Value.ownBlock] using e
    exact hm.block _ hG h2)⟩
end Book
end Go.Proofs.YtdmelkphankfiaaGreat
end

section
namespace Go.Proofs.YtdmelkphankfiaaGreat
open Go.RowKit
attribute [local go_sem ↓] Go.wp_at_zero Go.wp_at_succ

set_option maxHeartbeats 8000000 in
set_option maxRecDepth 20000 in
theorem kanew (R : Sec.Rl) (N n L G c : Nat) (w : World) (l : List (List UInt8)) (s : Sec.St) (h : Book.AnAt R N n L G c w l s w) (a : Nat) (han : a + n ≤ N) (hN : N ≤ 4096) (hlim : L + 2 * n ≤ 1000000000) (xs : List UInt8) (hxs : xs.length ≤ 1000000) :
    Calls Tryz.prog 49 #[.pointer (some ⟨R.b, 0, none⟩), .int .i64 (a : Int), .slice (some ⟨G, 0, none⟩) n c, .string ⟨xs.toArray⟩] w fun e w' => e = .returned (.int .i64 (Book.anew xs a l s).1) ∧
      Book.AnAt R N n (L + 2 * n) G c w (Book.anew xs a l s).2.1 (Book.anew xs a l s).2.2 w' := by
  have H := Lib.hid h
  have hai : (a : Int) + (n : Int) ≤ 4096 := by omega
  have ha0 : (0 : Int) ≤ (a : Int) := by omega
  have HX : Hid ((⟨xs.toArray⟩ : ByteArray).size ≤ 1000000) := by show xs.toArray.size ≤ _; simpa using hxs
  clear h
  go_enter Tryz.func49, Tryz.ntmps49
  go_wp2_with fail
  go_loopw [9] (fun t wr => ∃ (stp : Nat) (l' : List (List UInt8)) (s' : Sec.St), stp ≤ 2 ∧ t = .int .i64 stp ∧ Hid (Book.steps xs a l s stp = (0, l', s')) ∧ Hid (Book.AnAt R N n (L + stp * n) G c w l' s' wr)) (fun t _ => 2 - (intOf t).toNat)
  case atStart => exact ⟨0, l, s, by omega, rfl, by show _ = _; rfl, by show Book.AnAt _ _ _ _ _ _ _ _ _ _; simpa using H.out⟩
  case round =>
    obtain ⟨stp, l', s', hst, rfl, HST, HAN⟩ := hrel
    obtain ⟨wo, rfl⟩ : ∃ wo : World, wo = wr := ⟨_, rfl⟩
    by_cases hlt : stp < 2
    · have hst2 : (stp : Int) < 2 := by omega
      have HLEN := Lib.hid HAN.out.len
      go_wp2_with fail
      go_loopw [10, 11] (fun b t wx => ∃ (i : Nat) (li : List (List UInt8)) (si : Sec.St) (bi : Bool), i ≤ n ∧ t = .int .i64 i ∧ b = .bool bi ∧ Hid (Book.inner stp xs a n 0 ⟨false, l', s', false⟩ = Book.inner stp xs a (n - i) i ⟨false, li, si, bi⟩) ∧ Hid (Book.AnAt R N n (L + stp * n + i) G c w li si wx)) (fun _ t _ => n - (intOf t).toNat)
      case atStart => exact ⟨0, l', s', false, Nat.zero_le _, rfl, rfl, by show _ = _; rfl, by show Book.AnAt _ _ _ _ _ _ _ _ _ _; simpa using HAN.out⟩
      case round =>
        obtain ⟨i, li, si, bi, hin, rfl, rfl, HI, HA⟩ := hrel
        by_cases hil : i < n
        · have hii : (i : Int) < (n : Int) := by omega
          have hi0 : (0 : Int) ≤ (i : Int) := by omega
          have hx : (li.getD i []).length = 128 := by
            have hl := HA.out.len
            rw [List.getD, List.getElem?_eq_getElem (by omega)]
            exact HA.out.sz _ (List.getElem_mem _)
          have hy : (Book.want stp xs (li.getD i []) i).length = 128 := Book.want_len hx
          have hwant : ∀ m : List UInt8, m = Book.made xs i → Book.want stp xs (li.getD i []) i = if stp = 0 then (li.getD i []).take 127 ++ m.drop 127 else m := fun m hm => by rw [hm]; rfl
          have HSAME : Hid (li.getD i [] = Book.want stp xs (li.getD i []) i → Book.inner stp xs a n 0 ⟨false, l', s', false⟩ = Book.inner stp xs a (n - (i + 1)) (i + 1) ⟨false, li, si, bi⟩) := fun e => by
            rw [HI.out, show n - i = (n - (i + 1)) + 1 by omega, Book.inner_same e]
          have HBAD : Hid (li.getD i [] ≠ Book.want stp xs (li.getD i []) i → si.still = true → Book.inner stp xs a n 0 ⟨false, l', s', false⟩ = ⟨true, li, si, bi⟩) := fun e hd => by
            rw [HI.out, show n - i = (n - (i + 1)) + 1 by omega, Book.inner_bad e hd]
          have HPUT : Hid (li.getD i [] ≠ Book.want stp xs (li.getD i []) i → si.still = false → Book.inner stp xs a n 0 ⟨false, l', s', false⟩ = Book.inner stp xs a (n - (i + 1)) (i + 1) ⟨false, li.set i (Book.want stp xs (li.getD i []) i), si.burn.put (a + i) (Book.want stp xs (li.getD i []) i), true⟩) := fun e hd => by
            rw [HI.out, show n - i = (n - (i + 1)) + 1 by omega, Book.inner_put e hd]
          have HC : Hid (∀ wx, Book.AnAt R N n (L + stp * n + i) G c w li si wx → wx.cell? ⟨G, i, none⟩ = some (.string ⟨(li.getD i []).toArray⟩) ∧ wx.frozen? ⟨G, i, none⟩ = false) := fun wx hA => hA.cell hil
          have HK : Hid (∀ wx : World, Calls Tryz.prog 58 #[.string ⟨xs.toArray⟩, .int .i64 (i : Int)] wx fun e w' => e = .returned (.string ⟨(Book.made xs i).toArray⟩) ∧ Below wx.heap.size wx w') := fun wx => kmade ⟨xs.toArray⟩ HX.out i (by omega) wx
          have hml := Book.made_len xs i
          obtain ⟨m, hm⟩ : ∃ m, m = Book.made xs i := ⟨_, rfl⟩
          have hw := hwant m hm
          rw [← hm] at HK hml
          generalize Book.want stp xs (li.getD i []) i = y at hy hw HSAME HBAD HPUT
          generalize li.getD i [] = x at hx hw HSAME HBAD HPUT HC
          have hxs : (⟨x.toArray⟩ : ByteArray).size = 128 := by show x.toArray.size = 128; simpa using hx
          have hms : (⟨m.toArray⟩ : ByteArray).size = 128 := by show m.toArray.size = 128; simpa using hml
          have hcat : stp = 0 → (⟨x.toArray⟩ : ByteArray).extract 0 127 ++ (⟨m.toArray⟩ : ByteArray).extract 127 128 = ⟨y.toArray⟩ := fun e => by
            rw [hw, if_pos e]
            apply ByteArray.ext
            rw [ByteArray.data_append, ByteArray.data_extract, ByteArray.data_extract]
            apply Array.ext'
            simp [List.take_of_length_le, hml]
          have hone : stp ≠ 0 → y = m := fun e => by rw [hw, if_neg e]
          have HYL := Lib.hid hy
          clear hwant hm hw hml hy hx
          have e2f : x ≠ y → (x == y) = false := fun h => by rw [beq_eq_false_iff_ne]; exact h
          by_cases he : x = y
          · have HS := Lib.hid (HSAME.out he)
            have e2 : (x == y) = true := by rw [he]; simp
            clear HSAME HBAD HPUT he e2f
            rcases (by omega : stp = 0 ∨ stp ≠ 0) with h01 | h01
            · have hcat := hcat h01
              have d0 : ((stp : Int) == 0) = true := by rw [h01]; rfl
              clear hone h01
              go_wp2_with fail
              refine (HK.out _).mono ?_
              rintro e w1 ⟨rfl, hb⟩
              have HA1 := Lib.hid (HA.out.below hb)
              obtain ⟨hc, hf⟩ := HC.out _ HA1.out
              clear hb
              go_wp2_with fail
              go_region
              all_goals
                simp only [Exit.then]
                go_at_K
                have HAX := Lib.hid (HA1.out.below (Below.refl _ _).drew)
                go_wp2_with fail
                go_roundw
                case rel => exact ⟨i + 1, li, si, bi, by omega, by go_num, rfl, HS.out, HAX.out.mono (by omega)⟩
                case measure => simp [intOf]; omega
            · have hone := hone h01
              subst hone
              have d0 : ((stp : Int) == 0) = false := by rw [beq_eq_false_iff_ne]; omega
              clear hcat h01
              go_wp2_with fail
              refine (HK.out _).mono ?_
              rintro e w1 ⟨rfl, hb⟩
              have HA1 := Lib.hid (HA.out.below hb)
              obtain ⟨hc, hf⟩ := HC.out _ HA1.out
              clear hb
              go_wp2_with fail
              go_roundw
              case rel => exact ⟨i + 1, li, si, bi, by omega, by go_num, rfl, HS.out, HA1.out.mono (by omega)⟩
              case measure => simp [intOf]; omega
          · have e2 := e2f he
            have HKN : Hid (a + i < si.n) := by
              show a + i < si.n
              have := HA.out.nn
              omega
            have hsn : stp * n ≤ n := by rcases (by omega : stp = 0 ∨ stp = 1) with e | e <;> rw [e] <;> omega
            have hlo : si.loose.length ≤ 1000000000 := by have := HA.out.lo; omega
            have hys : (⟨y.toArray⟩ : ByteArray).size ≤ 128 := by show y.toArray.size ≤ 128; have := HYL.out; simp; omega
            have hpad : Sec.pad (⟨y.toArray⟩ : ByteArray).data.toList = y := by
              have := HYL.out
              simp [Sec.pad, this]
            cases hd : si.still with
            | true =>
              have HS2 := Lib.hid (Book.anew_bad hlt ((Book.steps_next HST.out).trans (Book.stepA_bad (by rw [HLEN.out]; exact HBAD.out he hd))))
              have HW : Hid (∀ (wx : World) (v : Value), Sec.RHas { R with v := v } si wx → Calls Tryz.prog 52 #[.pointer (some ⟨R.b, 0, none⟩), .int .i64 ((a : Int) + (i : Int)), .string ⟨y.toArray⟩] wx fun e w' => e = .returned (.int .i64 51) ∧ wx = w') := fun wx v h => by
                have := rwrite_down { R with v := v } si wx h HA.out.ok hd (a + i) HKN.out _ hys
                rw [Int.natCast_add] at this
                exact this
              clear HSAME HBAD HPUT he e2f hd hlo hys hpad
              rcases (by omega : stp = 0 ∨ stp ≠ 0) with h01 | h01
              · have hcat := hcat h01
                have d0 : ((stp : Int) == 0) = true := by rw [h01]; rfl
                clear hone h01
                go_wp2_with fail
                refine (HK.out _).mono ?_
                rintro e w1 ⟨rfl, hb⟩
                have HA1 := Lib.hid (HA.out.below hb)
                obtain ⟨hc, hf⟩ := HC.out _ HA1.out
                clear hb
                go_wp2_with fail
                go_region
                all_goals
                  simp only [Exit.then]
                  go_at_K
                  have HAX := Lib.hid (HA1.out.below (Below.refl _ _).drew)
                  obtain ⟨v, h1, h2, h3⟩ := HAX.out.at_
                  have H1 := Lib.hid h1
                  clear h1 h2 h3
                  go_wp2_with fail
                  refine (HW.out _ v H1.out).mono ?_
                  rintro e w2 ⟨rfl, rfl⟩
                  go_wp2_with fail
                  go_ret
                  rw [HS2.out]
                  exact ⟨rfl, HAX.out.mono (by omega)⟩
              · have hone := hone h01
                subst hone
                have d0 : ((stp : Int) == 0) = false := by rw [beq_eq_false_iff_ne]; omega
                clear hcat h01
                go_wp2_with fail
                refine (HK.out _).mono ?_
                rintro e w1 ⟨rfl, hb⟩
                have HA1 := Lib.hid (HA.out.below hb)
                obtain ⟨hc, hf⟩ := HC.out _ HA1.out
                clear hb
                obtain ⟨v, h1, h2, h3⟩ := HA1.out.at_
                have H1 := Lib.hid h1
                clear h1 h2 h3
                go_wp2_with fail
                refine (HW.out _ v H1.out).mono ?_
                rintro e w2 ⟨rfl, rfl⟩
                go_wp2_with fail
                go_ret
                rw [HS2.out]
                exact ⟨rfl, HA1.out.mono (by omega)⟩
            | false =>
              have HS2 := Lib.hid (HPUT.out he hd)
              have HW : Hid (∀ (wx : World) (v : Value), Sec.RHas { R with v := v } si wx → Calls Tryz.prog 52 #[.pointer (some ⟨R.b, 0, none⟩), .int .i64 ((a : Int) + (i : Int)), .string ⟨y.toArray⟩] wx fun e w' => e = .returned (.int .i64 0) ∧
                  ∃ v2, Sec.RHas { R with v := v2 } (si.burn.put (a + i) y) w' ∧ Sec.Mv ({ R with v := v : Sec.Rl }).off ({ R with v := v2 : Sec.Rl }).off wx w') := fun wx v h => by
                have := rwrite { R with v := v } si wx h HA.out.ok hd (a + i) HKN.out _ hys hlo
                rw [Int.natCast_add, hpad] at this
                exact this
              clear HSAME HBAD HPUT he e2f hd hlo hys hpad
              rcases (by omega : stp = 0 ∨ stp ≠ 0) with h01 | h01
              · have hcat := hcat h01
                have d0 : ((stp : Int) == 0) = true := by rw [h01]; rfl
                clear hone h01
                go_wp2_with fail
                refine (HK.out _).mono ?_
                rintro e w1 ⟨rfl, hb⟩
                have HA1 := Lib.hid (HA.out.below hb)
                obtain ⟨hc, hf⟩ := HC.out _ HA1.out
                clear hb
                go_wp2_with fail
                go_region
                all_goals
                  simp only [Exit.then]
                  go_at_K
                  have HAX := Lib.hid (HA1.out.below (Below.refl _ _).drew)
                  obtain ⟨v, h1, h2, h3⟩ := HAX.out.at_
                  have H1 := Lib.hid h1
                  have H2 := Lib.hid h2
                  have H3 := Lib.hid h3
                  clear h1 h2 h3
                  go_wp2_with fail
                  refine (HW.out _ v H1.out).mono ?_
                  rintro e w2 ⟨rfl, v2, hA2, hM2⟩
                  have hG := (HAX.out.row.lt G rfl).2
                  have hblk := hM2.block G hG H2.out
                  have hc2 : w2.cell? ⟨G, i, none⟩ = some (.string ⟨x.toArray⟩) := (World.cell?_of_block hblk).trans (HC.out _ HAX.out).1
                  have hf2 : w2.frozen? ⟨G, i, none⟩ = false := (World.frozen?_of_block hblk).trans (HC.out _ HAX.out).2
                  have HP := Lib.hid (HAX.out.put H2.out H3.out HKN.out HYL.out i hA2 hM2)
                  clear hA2 hM2 hblk hG
                  go_wp2_with fail
                  try go_region
                  all_goals
                    try (simp only [Exit.then]; go_at_K; go_wp2_with fail)
                    go_roundw
                    case rel => exact ⟨i + 1, li.set i y, si.burn.put (a + i) y, true, by omega, by go_num, rfl, HS2.out, HP.out.mono (by omega)⟩
                    case measure => simp [intOf]; omega
              · have hone := hone h01
                subst hone
                have d0 : ((stp : Int) == 0) = false := by rw [beq_eq_false_iff_ne]; omega
                clear hcat h01
                go_wp2_with fail
                refine (HK.out _).mono ?_
                rintro e w1 ⟨rfl, hb⟩
                have HA1 := Lib.hid (HA.out.below hb)
                obtain ⟨hc, hf⟩ := HC.out _ HA1.out
                clear hb
                obtain ⟨v, h1, h2, h3⟩ := HA1.out.at_
                have H1 := Lib.hid h1
                have H2 := Lib.hid h2
                have H3 := Lib.hid h3
                clear h1 h2 h3
                go_wp2_with fail
                refine (HW.out _ v H1.out).mono ?_
                rintro e w2 ⟨rfl, v2, hA2, hM2⟩
                have hG := (HA1.out.row.lt G rfl).2
                have hblk := hM2.block G hG H2.out
                have hc2 : w2.cell? ⟨G, i, none⟩ = some (.string ⟨x.toArray⟩) := (World.cell?_of_block hblk).trans (HC.out _ HA1.out).1
                have hf2 : w2.frozen? ⟨G, i, none⟩ = false := (World.frozen?_of_block hblk).trans (HC.out _ HA1.out).2
                have HP := Lib.hid (HA1.out.put H2.out H3.out HKN.out HYL.out i hA2 hM2)
                clear hA2 hM2 hblk hG
                go_wp2_with fail
                try go_region
                all_goals
                  try (simp only [Exit.then]; go_at_K; go_wp2_with fail)
                  go_roundw
                  case rel => exact ⟨i + 1, li.set i y, si.burn.put (a + i) y, true, by omega, by go_num, rfl, HS2.out, HP.out.mono (by omega)⟩
                  case measure => simp [intOf]; omega
        · have hili : ¬ ((i : Int) < (n : Int)) := by omega
          have HI3 : Hid (Book.inner stp xs a l'.length 0 ⟨false, l', s', false⟩ = ⟨false, li, si, bi⟩) := by
            show _ = _
            rw [HLEN.out, HI.out, show n - i = 0 by omega]
            rfl
          have hsn : stp * n ≤ n := by rcases (by omega : stp = 0 ∨ stp = 1) with e | e <;> rw [e] <;> omega
          have HMO := Lib.hid (HA.out.mono (show L + stp * n + i ≤ L + (stp + 1) * n by rw [Nat.succ_mul]; omega))
          have HM2 := Lib.hid (HA.out.mono (show L + stp * n + i ≤ L + 2 * n by omega))
          have hlo : si.loose.length ≤ 1000000000 := by have := HA.out.lo; omega
          have HOK := Lib.hid HA.out.ok
          have hst1 : stp + 1 ≤ 2 := by omega
          have HSTN := Lib.hid (Book.steps_next HST.out)
          clear HI HA hil hsn HST
          cases bi with
          | false =>
            have HS2 := Lib.hid (HSTN.out.trans (Book.stepA_none HI3.out))
            clear HI3 HSTN
            go_wp2_with fail
            go_roundw
            case rel => exact ⟨stp + 1, li, si, hst1, by go_num, HS2.out, HMO.out⟩
            case measure => simp [intOf]; omega
          | true =>
            obtain ⟨v, h1, h2, h3⟩ := HMO.out.at_
            have H1 := Lib.hid h1
            have H2 := Lib.hid h2
            have H3 := Lib.hid h3
            clear h1 h2 h3
            cases hd : si.still with
            | true =>
              have HS2 := Lib.hid (Book.anew_bad hlt (HSTN.out.trans (Book.stepA_down HI3.out hd)))
              have HD := Lib.hid hd
              clear HI3 HSTN hd
              go_wp2_with fail
              refine (rsync_down { R with v := v } si _ H1.out HD.out).mono ?_
              rintro e w1 ⟨rfl, rfl⟩
              go_wp2_with fail
              go_ret
              rw [HS2.out]
              exact ⟨rfl, HM2.out⟩
            | false =>
              have HS2 := Lib.hid (HSTN.out.trans (Book.stepA_sync HI3.out hd))
              have HD := Lib.hid hd
              clear HI3 HSTN hd
              go_wp2_with fail
              refine (rsync { R with v := v } si _ H1.out HOK.out HD.out hlo).mono ?_
              rintro e w1 ⟨rfl, v2, hA2, hM2⟩
              have HA2 := Lib.hid (HMO.out.sync H2.out H3.out hA2 hM2)
              clear hA2 hM2
              go_wp2_with fail
              go_roundw
              case rel => exact ⟨stp + 1, li, _, hst1, by go_num, HS2.out, HA2.out⟩
              case measure => simp [intOf]; omega
    · obtain rfl : stp = 2 := by omega
      have HE := HST.out
      have HE2 := Lib.hid (show Book.anew xs a l s = (0, l', s') from HE)
      clear HE
      go_wp2_with fail
      go_ret
      rw [HE2.out]
      exact ⟨rfl, HAN.out.mono (by omega)⟩
end Go.Proofs.YtdmelkphankfiaaGreat
end

section
namespace Go.Proofs.YtdmelkphankfiaaGreat
open Go.RowKit
attribute [local go_sem ↓] Go.wp_at_zero Go.wp_at_succ

namespace Book
theorem cells_secs (xs : List UInt8) (a n : Nat) : Sec.scels (secs xs a n) = cells (secsL xs a n) := by
  unfold cells secs secsL
  rw [List.map_map]
  rfl
theorem base0 {w : World} {B : Nat} {e : TypeId} {size n : Nat} {v : Value} {xs : List Value} (h : w.ownsRow B e size v n xs) : w.ownsRow 0 e size v n xs := by
  refine ⟨h.1, ?_⟩
  rcases h.2 with hn | ⟨g, cap, cur, e1, _, hg, rest⟩
  · exact .inl hn
  · exact .inr ⟨g, cap, cur, e1, Nat.zero_le _, hg, rest⟩
/-- Behind read: what anew wants. -/
theorem AnAt.start {R : Sec.Rl} {s : Sec.St} {w w1 : World} (h : Sec.RHas R s w) (hs : s.Ok) {a n c : Nat} {A : Option Addr} (hn : 1 ≤ n) (han : a + n ≤ s.n) (hrow : w1.ownsRow w.heap.size 9 1 (.slice A n c) n (Sec.scels (secs s.now a n))) (hb : Below w.heap.size w w1) :
    ∃ G, A = some ⟨G, 0, none⟩ ∧ w.heap.size ≤ G ∧ AnAt R s.n n s.loose.length G c w1 (secsL s.now a n) s w1 := by
  have hr := hrow.2
  rcases hr with ⟨e, h0⟩ | ⟨g, cap, cur, e1, hg, _, _⟩
  · omega
  · obtain rfl : A = some ⟨g, 0, none⟩ := by injection e1
    have hR := Sec.RAt.below h hb
    refine ⟨g, rfl, hg, secsL_len _ _ _, secsL_sz hs.now han, hs, rfl, Nat.le_refl _, ⟨R.v, hR, ?_, .refl _ _⟩, ?_⟩
    · by_cases ho : R.off g
      · exact ho
      · have := Sec.RAt.lt h ho
        omega
    · rw [← cells_secs]
      exact base0 hrow
/-- Behind anew: the disk, what is off it. -/
theorem AnAt.done {R : Sec.Rl} {s' : Sec.St} {w w1 w2 : World} {N n L G c : Nat} {l : List (List UInt8)} (h : AnAt R N n L G c w1 l s' w2) (hb : Below w.heap.size w w1) (hG : w.heap.size ≤ G) :
    ∃ v, Sec.RHas { R with v := v } s' w2 ∧ Sec.Mv R.off ({ R with v := v : Sec.Rl }).off w w2 := by
  obtain ⟨v, h1, _, h3⟩ := h.at_
  have hsz := hb.size
  exact ⟨v, h1, ⟨h3.os.trans hb.os, h3.tape.trans hb.tape, h3.output.trans hb.output, Nat.le_trans hsz h3.size,
    fun i hi ho => (h3.block i (by omega) ⟨ho, by omega⟩).trans (hb.block i hi), fun i hi ho => (h3.keep i (by omega) ⟨ho, by omega⟩).1⟩⟩
end Book

set_option maxHeartbeats 2000000 in
set_option maxRecDepth 20000 in
theorem kclear (R : Sec.Rl) (s : Sec.St) (w : World) (h : Sec.RHas R s w) (hs : s.Ok) (hseen : s.Seen) (hd : s.still = false) (a n : Nat) (hn : 1 ≤ n) (han : a + n ≤ s.n) (hlim : s.loose.length + 2 * n ≤ 1000000000) :
    Calls Tryz.prog 25 #[.pointer (some ⟨R.b, 0, none⟩), .int .i64 (a : Int), .int .i64 (n : Int)] w fun e w' => e = .returned (.int .i64 (Book.anew [] a (Book.secsL s.now a n) s).1) ∧
      ∃ v, Sec.RHas { R with v := v } (Book.anew [] a (Book.secsL s.now a n) s).2.2 w' ∧ Sec.Mv R.off ({ R with v := v : Sec.Rl }).off w w' := by
  have hn2 := hs.n2
  have H := Lib.hid h
  have HS := Lib.hid hs
  have HSEEN := Lib.hid hseen
  have HD := Lib.hid hd
  have hf : Book.fits s.n (a : Int) (n : Int) = true := by
    unfold Book.fits
    simp
    omega
  have HF := Lib.hid hf
  clear h hs hseen hd hf
  go_enter Tryz.func25, Tryz.ntmps25
  go_wp2_with fail
  refine (kmay R s _ H.out HS.out _ _).mono ?_
  rintro e w1 ⟨rfl, hb⟩
  rw [HF.out]
  have H1 : Hid (Sec.RHas R s w1) := Sec.RAt.below H.out hb
  have HB := Lib.hid hb
  clear hb
  go_wp2_with fail
  refine (kread R s _ H1.out HS.out HSEEN.out HD.out (by omega) a n han).mono ?_
  rintro e w2 ⟨A, c, rfl, hrow, hb⟩
  obtain ⟨G, rfl, hG, hA⟩ := Book.AnAt.start H1.out HS.out hn han hrow hb
  have HA := Lib.hid hA
  have HB2 := Lib.hid hb
  have HG := Lib.hid hG
  have HE := Lib.hid (show (⟨([] : List UInt8).toArray⟩ : ByteArray) = ByteArray.empty from rfl)
  clear hrow hb hG hA
  go_wp2_with fail
  refine (kanew R _ n _ G c _ _ s HA.out a han hn2 hlim [] (by simp)).mono ?_
  rintro e w3 ⟨rfl, hA3⟩
  obtain ⟨v, h1, h2⟩ := hA3.done HB2.out HG.out
  have H4 := Lib.hid h1
  have H5 := Lib.hid ((Sec.Mv.of_below (off := R.off) HB.out).trans h2)
  clear h1 h2 hA3
  go_wp2_with fail
  go_ret
  exact ⟨rfl, v, H4.out, H5.out⟩
end Go.Proofs.YtdmelkphankfiaaGreat
end

section
namespace Go.Proofs.YtdmelkphankfiaaGreat
open Go.RowKit
attribute [local go_sem ↓] Go.wp_at_zero Go.wp_at_succ

theorem Book.base_le {w : World} {B B' : Nat} {e : TypeId} {size n : Nat} {v : Value} {xs : List Value} (h : w.ownsRow B e size v n xs) (hB : B' ≤ B) : w.ownsRow B' e size v n xs := by
  refine ⟨h.1, ?_⟩
  rcases h.2 with hn | ⟨g, cap, cur, e1, hg1, hg, rest⟩
  · exact .inl hn
  · exact .inr ⟨g, cap, cur, e1, Nat.le_trans hB hg1, hg, rest⟩
theorem Book.pair1 (A : Addr) (k : Nat) : (⟨(A.add (k * 2)).block, (A.add (k * 2)).off + 1, none⟩ : Addr) = A.add (2 * k + 1) := by
  unfold Addr.add
  by_cases h : k = 0
  · subst h; simp
  · rw [if_neg (by omega), if_neg (by omega)]
    simp
    omega

set_option maxHeartbeats 4000000 in
set_option maxRecDepth 20000 in
theorem krecords (s : ByteArray) (w : World) (hs : s.size ≤ 1000000) (l : List (UInt8 × List UInt8)) (hl : l = (Frame.sc s.data.toList 131072).1) :
    Calls Tryz.prog 48 #[.string s] w fun e w' => ∃ A c, e = .returned (.tuple #[.slice A (Book.recs l).1.length c, .int .i64 ((Book.recs l).2 : Int)]) ∧
      w'.ownsRow w.heap.size 9 1 (.slice A (Book.recs l).1.length c) (Book.recs l).1.length (Book.cells (Book.recs l).1) ∧ Below w.heap.size w w' := by
  have HLL : Hid (l.length ≤ 1000000) := by
    show l.length ≤ _
    rw [hl]
    exact Nat.le_trans (Frame.sc_len _ _) hs
  have HTX : Hid (∀ f ∈ l, f.2.length ≤ 131072) := by
    show ∀ f ∈ l, _
    rw [hl]
    exact Book.sc_text _ _
  go_enter Tryz.func48, Tryz.ntmps48
  go_wp2_with fail
  refine (frscan_any s 131072 _ (by omega) (by omega) hs).mono ?_
  unfold Frame.ScanOut
  rw [← hl]
  rintro e w1 ⟨A, c, rfl, hc, hli, hb⟩
  have HLI := Lib.hid hli
  have HB := Lib.hid hb
  have hll := HLL.out
  have hll2 : (l.length : Int) ≤ 1000000 := by omega
  clear hli hb hl hc
  generalize (Frame.sc s.data.toList 131072).2.1 = p0
  generalize (Frame.sc s.data.toList 131072).2.2 = e0
  obtain ⟨i0, hi, hz0, hz1, hz2⟩ := info_parts str_info
  have HI := Lib.hid hi
  have HZ0 := Lib.hid hz0
  have HZ1 := Lib.hid hz1
  have HZ2 := Lib.hid hz2
  clear hi hz0 hz1 hz2
  go_wp2_with fail
  go_loopw [7, 8, 9] (fun O nn t wr => ∃ (A2 : Option Addr) (c2 : Nat) (pre : List (List UInt8)) (m k : Nat), O = .slice A2 pre.length c2 ∧ nn = .int .i64 m ∧ t = .int .i64 k ∧ k ≤ l.length ∧ pre.length ≤ k ∧ m ≤ k * 131088 ∧
      Hid (Book.recs l = (pre ++ (Book.recs (l.drop k)).1, m + (Book.recs (l.drop k)).2)) ∧ Hid (wr.ownsRow w1.heap.size 9 1 (.slice A2 pre.length c2) pre.length (Book.cells pre)) ∧ Hid (Below w1.heap.size w1 wr)) (fun _ _ t _ => l.length - (intOf t).toNat)
  case atStart => exact ⟨none, 0, [], 0, 0, rfl, rfl, rfl, Nat.zero_le _, Nat.le_refl _, Nat.zero_le _, by show _ = _; simp, World.ownsRow_nil _ _ _ _, Below.refl _ _⟩
  case round =>
    obtain ⟨A2, c2, pre, m, k, rfl, rfl, rfl, hk, hpk, hmk, HR, HROW, HB1⟩ := hrel
    have hws := HB.out.size
    have hws1 := HB1.out.size
    by_cases hlt : k < l.length
    · have HCEL : Hid (∀ wx, Below w1.heap.size w1 wx → ∃ q : Addr, A = some q ∧ wx.cell? (q.add (k * 2)) = some (.int .u8 (l[k].1.toNat : Int)) ∧ wx.cell? ⟨(q.add (k * 2)).block, (q.add (k * 2)).off + 1, none⟩ = some (.string ⟨l[k].2.toArray⟩)) := fun wx hbx => by
        obtain ⟨a0, a1⟩ := Frame.fcells_at l k hlt
        obtain ⟨q, rfl, _, hp0⟩ := (HLI.out.below hbx).at_ a0
        obtain ⟨q', hp', _, hp1⟩ := (HLI.out.below hbx).at_ a1
        cases hp'
        exact ⟨q, rfl, by rw [Nat.mul_comm]; exact hp0, by rw [Book.pair1]; exact hp1⟩
      have HDR := Lib.hid (List.drop_eq_getElem_cons hlt)
      have hxl := HTX.out l[k] (List.getElem_mem hlt)
      have k0 : (0 : Int) ≤ (k : Int) := by omega
      have k1 : (k : Int) < (l.length : Int) := by omega
      generalize l[k] = f at HCEL HDR hxl
      obtain ⟨tg, x⟩ := f
      simp only [] at HCEL hxl
      obtain ⟨q, rfl, hq0, hq1⟩ := HCEL.out _ HB1.out
      by_cases ht : tg = 1
      · subst ht
        have hq0 : wr.cell? (q.add (k * 2)) = some (.int .u8 1) := hq0
        have HR2 : Hid (Book.recs l = ((pre ++ [x]) ++ (Book.recs (l.drop (k + 1))).1, (m + (Frame.raw 1 x).length) + (Book.recs (l.drop (k + 1))).2)) := by
          show _ = _
          rw [HR.out, HDR.out, Book.recs, if_pos rfl]
          simp [Nat.add_assoc]
        have HRAW : Hid (∀ wx : World, Calls Tryz.prog 57 #[.int .u8 1, .string ⟨x.toArray⟩] wx fun e w' => e = .returned (.string ⟨(Frame.raw 1 x).toArray⟩) ∧ Below wx.heap.size wx w') := fun wx => fraw_any 1 ⟨x.toArray⟩ wx (by show x.toArray.size ≤ _; simp; omega)
        have hr := Book.raw_le hxl
        generalize Frame.raw 1 x = r at HR2 HRAW hr
        have hrs : (⟨r.toArray⟩ : ByteArray).size = r.length := by show r.toArray.size = _; simp
        have hsum : IntKind.i64.wrap ((m : Int) + (r.length : Int)) = (m : Int) + (r.length : Int) := by rw [IntKind.wrap_i64]; omega
        have hmi : (m : Int) ≤ 131088000000 := by omega
        have hri : (r.length : Int) ≤ 131088 := by omega
        have HKEEP : Hid ((wr.alloc (.cells #[.string ⟨x.toArray⟩] 9)).ownsRow w1.heap.size 9 1 (.slice A2 pre.length c2) pre.length (Book.cells pre)) := HROW.out.alloc _
        clear HR HDR
        go_wp2_with (at_builtin; refine wpList_append_lies _ (by rfl) _ _ _ (by rfl) w1.heap.size 9 i0 (.string ByteArray.empty) 1 16 Tryz.underlying38 HI.out HZ0.out HZ1.out HZ2.out (by rfl) (by omega) _ _ _ (by rfl) HKEEP.out ⟨wr.heap.size, 0, none⟩ 1 1 [.string ⟨x.toArray⟩] (by rfl) (by rfl) (fun j u hu => World.news_of_block (heap_alloc_new wr (.cells #[.string ⟨x.toArray⟩] 9)) j u (by simpa using hu)) (by simp [Value.oneCell']) (by omega) (by unfold maxLen; omega) (by omega) (by simp; omega) (wr.heap.size + 1) (by simp) ?_)
        intro g' cap' w2 hown hgrow hat hlt2
        have hb2 : Below w1.heap.size w1 w2 := (HB1.out.alloc hws1 (.cells #[.string ⟨x.toArray⟩] 9)).grown hgrow (by simp; omega) (fun j hj => (HKEEP.out.lt j hj).1)
        have HB2 := Lib.hid hb2
        have hr2 : w2.ownsRow w1.heap.size 9 1 (.slice (some ⟨g', 0, none⟩) (pre ++ [x]).length cap') (pre ++ [x]).length (Book.cells (pre ++ [x])) := by
          have e : Book.cells (pre ++ [x]) = Book.cells pre ++ [.string ⟨x.toArray⟩] := by unfold Book.cells Sec.scels; rw [List.map_append, List.map_append]; rfl
          rw [e, List.length_append]
          exact hown
        have HRW2 := Lib.hid hr2
        obtain ⟨q', hq', hq0', hq1'⟩ := HCEL.out _ HB2.out
        cases hq'
        clear hown hgrow hat hlt2 hb2 hr2 hq0 hq1
        go_wp2_with fail
        refine (HRAW.out _).mono ?_
        rintro e w3 ⟨rfl, hb3⟩
        have HB3 := Lib.hid (HB2.out.trans (hb3.mono HB2.out.size))
        have hrw3 : w3.ownsRow w1.heap.size 9 1 (.slice (some ⟨g', 0, none⟩) (pre ++ [x]).length cap') (pre ++ [x]).length (Book.cells (pre ++ [x])) := HRW2.out.kept (grown_of hb3 none) (.inr (by simp [Value.ownBlock]))
        have HRW3 := Lib.hid hrw3
        clear hb3 hrw3
        go_wp2_with fail
        go_roundw
        case rel => exact ⟨some ⟨g', 0, none⟩, cap', pre ++ [x], m + r.length, k + 1, by simp, by go_num, by go_num, by omega, by simp; omega, by omega, HR2.out, HRW3.out, HB3.out⟩
        case measure => simp [intOf]; omega
      · have HR2 : Hid (Book.recs l = (pre, m)) := by
          show _ = _
          rw [HR.out, HDR.out, Book.recs, if_neg ht]
          simp
        have htb : ((tg.toNat : Int) != 1) = true := by
          rw [bne_iff_ne]
          intro e
          exact ht (UInt8.toNat_inj.1 (by show tg.toNat = 1; omega))
        clear HR HDR
        go_wp2_with fail
        refine bodyPost_ret (v := .tuple #[.slice A2 pre.length c2, .int .i64 (m : Int)]) (by simp [results, Tryz.results48, go_sem]) rfl ?_
        rw [HR2.out]
        exact ⟨A2, c2, rfl, Book.base_le HROW.out hws, HB.out.trans (HB1.out.mono hws)⟩
    · have HR2 : Hid (Book.recs l = (pre, m)) := by
        show _ = _
        rw [HR.out, List.drop_of_length_le (by omega), Book.recs]
        simp
      clear HR
      go_wp2_with fail
      refine bodyPost_ret (v := .tuple #[.slice A2 pre.length c2, .int .i64 (m : Int)]) (by simp [results, Tryz.results48, go_sem]) rfl ?_
      rw [HR2.out]
      exact ⟨A2, c2, rfl, Book.base_le HROW.out hws, HB.out.trans (HB1.out.mono hws)⟩
end Go.Proofs.YtdmelkphankfiaaGreat
end

section
namespace Go.Proofs.YtdmelkphankfiaaGreat
open Go.RowKit
attribute [local go_sem ↓] Go.wp_at_zero Go.wp_at_succ

namespace Book
theorem AnAt.lies {R : Sec.Rl} {s : Sec.St} {w wr : World} {N n L G c : Nat} {l : List (List UInt8)} (h : AnAt R N n L G c w l s wr) : Lies wr wr.heap.size (some ⟨G, 0, none⟩) (tcells (l.map fun x => ⟨x.toArray⟩)) := fun _ =>
  ⟨⟨G, 0, none⟩, rfl, (h.row.lt G rfl).2, fun j u hu => h.row.cells (g := G) rfl j u hu⟩
theorem AnAt.here {R : Sec.Rl} {s : Sec.St} {w wr : World} {N n L G c : Nat} {l : List (List UInt8)} (h : AnAt R N n L G c w l s wr) (hR : Sec.RHas R s wr) (ho : R.off G) : AnAt R N n L G c wr l s wr :=
  ⟨h.len, h.sz, h.ok, h.nn, h.lo, ⟨R.v, hR, ho, .refl _ _⟩, h.row⟩
/-- What came behind the disk is off it. -/
theorem off_new {R : Sec.Rl} {s : Sec.St} {w : World} (h : Sec.RHas R s w) {i : Nat} (hi : w.heap.size ≤ i) : R.off i := by
  by_cases ho : R.off i
  · exact ho
  · have := Sec.RAt.lt h ho
    omega
/-- A slice that lies on blocks which a call leaves as they were. -/
theorem lies_mv {w1 w2 : World} {B : Nat} {l : List (List UInt8)} {A : Option Addr} {c : Nat} (h : w1.ownsRow B 9 1 (.slice A l.length c) l.length (cells l)) (hk : ∀ i, B ≤ i → i < w1.heap.size → w2.heap[i]? = w1.heap[i]?) (hs : w1.heap.size ≤ w2.heap.size) :
    Lies w2 w2.heap.size A (tcells (l.map fun x => ⟨x.toArray⟩)) := fun hp => by
  rcases h.2 with ⟨e, h0⟩ | ⟨g, cap, cur, e1, hg, _, _⟩
  · obtain rfl : l = [] := List.length_eq_zero_iff.1 h0
    simp [tcells] at hp
  · obtain rfl : A = some ⟨g, 0, none⟩ := by injection e1
    have hg2 := (h.lt g rfl).2
    exact ⟨⟨g, 0, none⟩, rfl, Nat.lt_of_lt_of_le hg2 hs, fun j u hu => (World.cell?_of_block (by rw [Lies.add_block]; exact hk g hg hg2)).trans (h.cells (g := g) rfl j u hu)⟩
end Book

set_option maxHeartbeats 4000000 in
set_option maxRecDepth 20000 in
theorem kopen (R : Sec.Rl) (s : Sec.St) (w : World) (h : Sec.RHas R s w) (hs : s.Ok) (hseen : s.Seen) (hd : s.still = false) (a n : Nat) (hn : 1 ≤ n) (han : a + n ≤ s.n) (hlim : s.loose.length + 2 * n ≤ 1000000000)
    (P : Int × List (List UInt8) × Sec.St) (hP : P = Book.anew (Book.good s.now a n) a (Book.secsL s.now a n) s) :
    Calls Tryz.prog 22 #[.pointer (some ⟨R.b, 0, none⟩), .int .i64 (a : Int), .int .i64 (n : Int)] w fun e w' =>
      (∃ v, Sec.RHas { R with v := v } P.2.2 w' ∧ Sec.Mv R.off ({ R with v := v : Sec.Rl }).off w w') ∧
      (P.1 ≠ 0 → e = .returned (.tuple #[.pointer none, .slice none 0 0, .int .i64 P.1])) ∧
      (P.1 = 0 → ∃ (B : Nat) (A : Option Addr) (c : Nat), e = .returned (.tuple #[.pointer (some ⟨B, 0, none⟩), .slice A (Book.found s.now a n).length c, .int .i64 0]) ∧ w.heap.size ≤ B ∧
        w'.heap[B]? = some (.cells #[.pointer (some ⟨R.b, 0, none⟩), .int .i64 (a : Int), .int .i64 (n : Int), .string ⟨(Book.good s.now a n).toArray⟩, .bool false] 44 (0, 0)) ∧
        Lies w' w'.heap.size A (tcells ((Book.found s.now a n).map fun x => ⟨x.toArray⟩)) ∧ ∀ ad, A = some ad → w.heap.size ≤ ad.block) := by
  have hn2 := hs.n2
  have H := Lib.hid h
  have HS := Lib.hid hs
  have HSEEN := Lib.hid hseen
  have HD := Lib.hid hd
  have hf : Book.fits s.n (a : Int) (n : Int) = true := by
    unfold Book.fits
    simp
    omega
  have HF := Lib.hid hf
  have HSZ : Hid (∀ x ∈ Book.secsL s.now a n, x.length = 128) := Book.secsL_sz hs.now han
  obtain ⟨ls, hls⟩ : ∃ ls, ls = Book.secsL s.now a n := ⟨_, rfl⟩
  obtain ⟨st, hst⟩ : ∃ st, st = Book.stream ls := ⟨_, rfl⟩
  have hstl : st.length ≤ 520192 := by
    have h1 := Book.stream_len ls
    have h2 : ls.length = n := by rw [hls, Book.secsL_len]
    rw [hst]
    rw [h2] at h1
    omega
  obtain ⟨fr, hfr⟩ : ∃ fr, fr = (Frame.sc st 131072).1 := ⟨_, rfl⟩
  have hgd : (Book.recs fr).2 ≤ st.length := by rw [hfr]; exact Book.sc_recs st 131072
  have hfound : Book.found s.now a n = (Book.recs fr).1 := by rw [hfr, hst, hls]; rfl
  have hgood : Book.good s.now a n = st.take (Book.recs fr).2 := by rw [hfr, hst, hls]; rfl
  rw [hfound, hgood]
  rw [hgood, ← hls] at hP
  have HLEN : Hid (ls.length = n) := by show _ = _; rw [hls, Book.secsL_len]
  rw [← hls] at HSZ
  obtain ⟨g, hg⟩ : ∃ g, g = (Book.recs fr).2 := ⟨_, rfl⟩
  rw [← hg] at hgd hP ⊢
  have hex : (⟨st.toArray⟩ : ByteArray).extract 0 g = ⟨(st.take g).toArray⟩ := by
    apply ByteArray.ext
    rw [ByteArray.data_extract]
    apply Array.ext'
    simp
  have hsts : (⟨st.toArray⟩ : ByteArray).size = st.length := by show st.toArray.size = _; simp
  have hgi : (g : Int) ≤ (st.length : Int) := by omega
  have hg0 : (0 : Int) ≤ (g : Int) := by omega
  have HP := Lib.hid hP
  have HG := Lib.hid hg
  have HLS := Lib.hid hls
  have HST := Lib.hid hst
  have HFR := Lib.hid hfr
  have hstL := hstl
  clear h hs hseen hd hf hfound hgood hP hg hls hst hfr
  go_enter Tryz.func22, Tryz.ntmps22
  go_wp2_with fail
  refine (kmay R s _ H.out HS.out _ _).mono ?_
  rintro e w1 ⟨rfl, hb⟩
  rw [HF.out]
  have H1 : Hid (Sec.RHas R s w1) := Sec.RAt.below H.out hb
  have HB := Lib.hid hb
  clear hb
  go_wp2_with fail
  refine (kread R s _ H1.out HS.out HSEEN.out HD.out (by omega) a n han).mono ?_
  rintro e w2 ⟨A, c, rfl, hrow, hb⟩
  obtain ⟨G, rfl, hG, hA⟩ := Book.AnAt.start H1.out HS.out hn han hrow hb
  rw [← HLS.out] at hA
  have HA := Lib.hid hA
  have HB2 := Lib.hid hb
  have HGG := Lib.hid hG
  have H2 : Hid (Sec.RHas R s w2) := Sec.RAt.below H1.out hb
  clear hrow hb hG hA
  go_wp2_with fail
  have hkst := kstream ls (by rw [HLEN.out]; omega) HSZ.out (some ⟨G, 0, none⟩) c w2 HA.out.lies
  rw [HLEN.out, ← HST.out] at hkst
  refine hkst.mono ?_
  clear hkst
  rintro e w3 ⟨rfl, hb⟩
  have HA3 := Lib.hid (HA.out.below hb)
  have HB3 := Lib.hid hb
  have H3 : Hid (Sec.RHas R s w3) := Sec.RAt.below H2.out hb
  clear hb
  go_wp2_with fail
  refine (krecords ⟨st.toArray⟩ _ (by rw [hsts]; omega) fr HFR.out).mono ?_
  rintro e w4 ⟨Ar, cr, rfl, hrow, hb⟩
  rw [← HG.out]
  have HROW := Lib.hid hrow
  have HB4 := Lib.hid hb
  have HA4 := Lib.hid (HA3.out.below hb)
  clear hrow hb
  go_wp2_with fail
  have H4 : Hid (Sec.RHas R s w4) := Sec.RAt.below H3.out HB4.out
  have HOFF : Hid (R.off G) := Book.off_new H1.out HGG.out
  refine (kanew R _ n _ G c _ ls s (HA4.out.here H4.out HOFF.out) a han hn2 hlim (st.take g) (by rw [List.length_take]; omega)).mono ?_
  rintro e w5 ⟨rfl, hA5⟩
  rw [← HP.out] at hA5 ⊢
  have hG1 : w.heap.size ≤ w1.heap.size := HB.out.size
  have hB14 : Below w1.heap.size w1 w4 := (HB2.out.trans (HB3.out.mono HB2.out.size)).trans (HB4.out.mono (Nat.le_trans HB2.out.size HB3.out.size))
  have HDONE := Lib.hid (hA5.done (HB.out.trans (hB14.mono hG1)) (Nat.le_trans hG1 HGG.out))
  have HLI : Hid (Lies w5 w5.heap.size Ar (tcells ((Book.recs fr).1.map fun x => ⟨x.toArray⟩))) := by
    obtain ⟨v, _, _, hm⟩ := hA5.at_
    have hG2 : G < w2.heap.size := (HA.out.row.lt G rfl).2
    have hG3 := HB3.out.size
    exact Book.lies_mv HROW.out (fun i h1 h2 => hm.block i h2 ⟨Book.off_new H3.out h1, by omega⟩) hm.size
  have HGE : Hid (∀ ad, Ar = some ad → w.heap.size ≤ ad.block) := fun ad hA => by
    have h3 := HB3.out.size
    have h2 := HB2.out.size
    have h1 := HB.out.size
    rcases HROW.out.2 with ⟨e, _⟩ | ⟨g, cap, cur, e1, hg2, _⟩
    · have : Ar = none := by injection e
      rw [this] at hA
      cases hA
    · have : Ar = some ⟨g, 0, none⟩ := by injection e1
      rw [this] at hA
      obtain rfl := Option.some.inj hA
      show w.heap.size ≤ g
      omega
  have hw5 : w.heap.size ≤ w5.heap.size := by
    obtain ⟨v, _, hm⟩ := HDONE.out
    exact hm.size
  clear hA5 hB14 hG1
  obtain ⟨c1, l1, s1⟩ := P
  clear HP
  by_cases hp : c1 = 0
  · subst hp
    go_wp2_with fail
    refine bodyPost_ret (v := .tuple #[.pointer (some ⟨w5.heap.size, 0, none⟩), .slice Ar (Book.recs fr).1.length cr, .int .i64 0]) (by simp [results, Tryz.results22, go_sem]) rfl ?_
    obtain ⟨v, h1, h2⟩ := HDONE.out
    refine ⟨⟨v, Sec.RAt.below h1 ((Below.refl _ _).alloc (Nat.le_refl _) _), h2.trans (.of_below ((Below.refl _ _).alloc (Nat.le_refl _) _))⟩, w5.heap.size, Ar, ⟨cr, rfl⟩, hw5, heap_alloc_new _ _, (HLI.out.below ((Below.refl _ _).alloc (Nat.le_refl _) _)).mono (by simp), fun ad hA => ?_⟩
    exact HGE.out ad hA
  · have hb0 : (c1 != 0) = true := by rw [bne_iff_ne]; exact hp
    have HPP := Lib.hid hp
    clear hp
    go_wp2_with fail
    refine bodyPost_ret (v := .tuple #[.pointer none, .slice none 0 0, .int .i64 c1]) (by simp [results, Tryz.results22, go_sem]) rfl ?_
    obtain ⟨v, h1, h2⟩ := HDONE.out
    exact ⟨⟨v, h1, h2⟩, fun _ => rfl, fun hh => absurd hh HPP.out⟩
end Go.Proofs.YtdmelkphankfiaaGreat
end

section
namespace Go.Proofs.YtdmelkphankfiaaGreat
open Go.RowKit
attribute [local go_sem ↓] Go.wp_at_zero Go.wp_at_succ

namespace Book
/-- The document's book in memory: its block, over the disk at block b. -/
def RB (B b a n : Nat) (S : List UInt8) (br : Bool) (w : World) : Prop :=
  w.heap[B]? = some (.cells #[.pointer (some ⟨b, 0, none⟩), .int .i64 (a : Int), .int .i64 (n : Int), .string ⟨S.toArray⟩, .bool br] 44 (0, 0))
variable {B b a n : Nat} {S : List UInt8} {br : Bool} {w : World}
theorem RB.cell (h : RB B b a n S br w) (j : Nat) : w.cell? ⟨B, j, none⟩ = (#[.pointer (some ⟨b, 0, none⟩), .int .i64 (a : Int), .int .i64 (n : Int), .string ⟨S.toArray⟩, .bool br] : Array Value)[j]? := cell_of_row w B j _ _ _ h
theorem RB.fro (h : RB B b a n S br w) (j : Nat) : w.frozen? ⟨B, j, none⟩ = false := frozen_of_row w B j _ _ h
theorem RB.c0 (h : RB B b a n S br w) : w.cell? ⟨B, 0, none⟩ = some (.pointer (some ⟨b, 0, none⟩)) := h.cell 0
theorem RB.c1 (h : RB B b a n S br w) : w.cell? ⟨B, 1, none⟩ = some (.int .i64 (a : Int)) := h.cell 1
theorem RB.c2 (h : RB B b a n S br w) : w.cell? ⟨B, 2, none⟩ = some (.int .i64 (n : Int)) := h.cell 2
theorem RB.c3 (h : RB B b a n S br w) : w.cell? ⟨B, 3, none⟩ = some (.string ⟨S.toArray⟩) := h.cell 3
theorem RB.c4 (h : RB B b a n S br w) : w.cell? ⟨B, 4, none⟩ = some (.bool br) := h.cell 4
theorem RB.ltb (h : RB B b a n S br w) : B < w.heap.size := Sec.lt_of_heap h
/-- It breaks, or is mended. -/
theorem RB.broke (h : RB B b a n S br w) (x : Bool) : RB B b a n S x (w.setCell ⟨B, 4, none⟩ (.bool x)) := by
  unfold RB
  rw [heap_setCell_same _ _ _ _ _ _ h]
  rfl
/-- Its stream turns. -/
theorem RB.to (h : RB B b a n S br w) (T : List UInt8) : RB B b a n T br (w.setCell ⟨B, 3, none⟩ (.string ⟨T.toArray⟩)) := by
  unfold RB
  rw [heap_setCell_same _ _ _ _ _ _ h]
  rfl
end Book

set_option maxHeartbeats 1000000 in
set_option maxRecDepth 20000 in
theorem kroom {B b a n : Nat} {S : List UInt8} {br : Bool} {w : World} (h : Book.RB B b a n S br w) (hn : n ≤ 4096) (hS : S.length ≤ n * 127) :
    Calls Tryz.prog 12 #[.pointer (some ⟨B, 0, none⟩)] w fun e w' => e = .returned (.int .i64 ((n * 127 - S.length : Nat) : Int)) ∧ Below w.heap.size w w' := by
  have c2 := h.c2
  have c3 := h.c3
  have hs : (⟨S.toArray⟩ : ByteArray).size = S.length := by show S.toArray.size = _; simp
  have hni : (n : Int) ≤ 4096 := by omega
  have hm : (n : Int) * 127 - (S.length : Int) = ((n * 127 - S.length : Nat) : Int) := by omega
  have HM := Lib.hid hm
  have hm1 : (0 : Int) ≤ (n : Int) * 127 - (S.length : Int) := by omega
  have hm2 : (S.length : Int) ≤ (n : Int) * 127 := by omega
  have hw : IntKind.i64.wrap ((n : Int) * 127 - (S.length : Int)) = (n : Int) * 127 - (S.length : Int) := by rw [IntKind.wrap_i64]; omega
  clear h hm
  go_enter Tryz.func12, Tryz.ntmps12
  go_wp2_with fail
  go_region
  all_goals
    go_wp2_with fail
    go_ret
    refine ⟨?_, (Below.refl _ _).drew⟩
    rw [← HM.out]
    rfl

set_option maxHeartbeats 1000000 in
set_option maxRecDepth 20000 in
theorem ksync_broken {B b a n : Nat} {S : List UInt8} {w : World} (h : Book.RB B b a n S true w) :
    Calls Tryz.prog 23 #[.pointer (some ⟨B, 0, none⟩)] w fun e w' => e = .returned (.int .i64 3) ∧ w = w' := by
  have c4 := h.c4
  clear h
  go_enter Tryz.func23, Tryz.ntmps23
  go_wp2_with fail
  go_ret
  exact ⟨rfl, rfl⟩

set_option maxHeartbeats 1000000 in
set_option maxRecDepth 20000 in
theorem ksync (R : Sec.Rl) (s : Sec.St) {B a n : Nat} {S : List UInt8} {w : World} (h : Book.RB B R.b a n S false w) (ho : R.off B) (hR : Sec.RHas R s w) (hs : s.Ok) (hd : s.still = false) (hlim : s.loose.length ≤ 1000000000) :
    Calls Tryz.prog 23 #[.pointer (some ⟨B, 0, none⟩)] w fun e w' => e = .returned (.int .i64 0) ∧ Book.RB B R.b a n S false w' ∧
      ∃ v, Sec.RHas { R with v := v } (s.burn.settle fun _ => 128) w' ∧ ({ R with v := v : Sec.Rl }).off B ∧ Sec.Mv (fun i => R.off i ∧ i ≠ B) (fun i => ({ R with v := v : Sec.Rl }).off i ∧ i ≠ B) w w' := by
  have c0 := h.c0
  have c4 := h.c4
  have hlb := h.ltb
  have H := Lib.hid h
  have HO := Lib.hid ho
  have HR := Lib.hid hR
  have HS := Lib.hid hs
  have HD := Lib.hid hd
  clear h ho hR hs hd
  go_enter Tryz.func23, Tryz.ntmps23
  go_wp2_with fail
  refine (rsync R s _ HR.out HS.out HD.out hlim).mono ?_
  rintro e w1 ⟨rfl, v, h1, h2⟩
  have HB : Hid (Book.RB B R.b a n S false w1) := (h2.block B hlb HO.out).trans H.out
  have d4 := HB.out.c4
  have e4 := HB.out.fro 4
  have H1 := Lib.hid h1
  have H2 := Lib.hid h2
  clear h1 h2 c0 c4
  go_wp2_with fail
  go_ret
  have hob := H2.out.keep B hlb HO.out
  have g := Sec.grown_set w1 B 4 (.bool false)
  refine ⟨rfl, HB.out.broke false, v, Sec.RAt.keep H1.out (fun j hj => g.block j (Sec.RAt.lt H1.out hj) (fun e => ?_)), hob, (H2.out.but B).trans (.of_grown g (fun j hj e => hj.2 (Option.some.inj e)) (fun _ _ h => h))⟩
  obtain rfl : j = B := Option.some.inj e
  exact hj hob

set_option maxHeartbeats 1000000 in
set_option maxRecDepth 20000 in
theorem ksync_down (R : Sec.Rl) (s : Sec.St) {B a n : Nat} {S : List UInt8} {w : World} (h : Book.RB B R.b a n S false w) (ho : R.off B) (hR : Sec.RHas R s w) (hd : s.still = true) :
    Calls Tryz.prog 23 #[.pointer (some ⟨B, 0, none⟩)] w fun e w' => e = .returned (.int .i64 51) ∧ Book.RB B R.b a n S true w' ∧
      Sec.RHas R s w' ∧ Sec.Mv (fun i => R.off i ∧ i ≠ B) (fun i => R.off i ∧ i ≠ B) w w' := by
  have c0 := h.c0
  have c4 := h.c4
  have f4 := h.fro 4
  have H := Lib.hid h
  have HO := Lib.hid ho
  have HR := Lib.hid hR
  have HD := Lib.hid hd
  clear h ho hR hd
  go_enter Tryz.func23, Tryz.ntmps23
  go_wp2_with fail
  refine (rsync_down R s _ HR.out HD.out).mono ?_
  rintro e w1 ⟨rfl, rfl⟩
  go_wp2_with fail
  go_ret
  have g := Sec.grown_set w B 4 (.bool true)
  refine ⟨rfl, H.out.broke true, Sec.RAt.keep HR.out (fun j hj => g.block j (Sec.RAt.lt HR.out hj) (fun e => ?_)), .of_grown g (fun j hj e => hj.2 (Option.some.inj e)) (fun _ _ h => h)⟩
  obtain rfl : j = B := Option.some.inj e
  exact hj HO.out
end Go.Proofs.YtdmelkphankfiaaGreat
end
