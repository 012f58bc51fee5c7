/-
  Contracts of sector's Sync, Crash, Read, and of all calls of no disk.
-/
import Derived.Test.YtmoifihgomjbcaaSecF
import Derived.Laws.IdiomStrings
namespace Go.Proofs.Ytmoifihgomjbcaa
open Go.RowKit
attribute [local go_sem ↓] Go.wp_at_zero Go.wp_at_succ

set_option maxHeartbeats 400000 in
theorem sec_all (i : Nat) (w : World) :
    Calls Try.prog 27 #[.int .i64 (i : Int)] w fun e w' => e = .returned (.int .i64 ((128 : Nat) : Int)) ∧ w = w' := by
  go_enter Try.func27, Try.ntmps27
  go_wp2
  go_ret
  exact ⟨rfl, rfl⟩

set_option maxHeartbeats 1000000 in
theorem sec_sync (D : Sec.Bl) (s : Sec.St) (w : World) (h : Sec.At D s w) (hs : s.Ok) (hd : s.still = false) (hlim : s.loose.length ≤ 1000000000) :
    Calls Try.prog 11 #[D.ptr] w (Sec.Done 0 D (s.burn.settle (fun _ => 128)) w) := by
  have H := Lib.hid h
  have HS := Lib.hid hs
  have HD := Lib.hid hd
  clear h hs hd
  have e : D.ptr = .pointer (some ⟨D.b, 0, none⟩) := rfl
  rw [e]
  clear e
  go_enter Try.func11, Try.ntmps11
  go_wp2_with fail
  refine (sec_is D s _ H.out HS.out).mono ?_
  rintro e w' ⟨rfl, rfl⟩
  go_wp2_with fail
  refine (sec_still D s _ H.out false HD.out).mono ?_
  rintro e w' ⟨rfl, rfl⟩
  go_wp2_with fail
  refine (sec_burn D s _ H.out HS.out HD.out).mono ?_
  rintro e w1 ⟨rfl, hA1, hM1⟩
  have HA := Lib.hid hA1
  have HM := Lib.hid hM1
  clear hA1 hM1
  go_wp2_with fail
  refine (sec_settle 27 #[] (fun _ => 128) D s.burn w1 HA.out HS.out.burn (fun _ => Nat.le_refl _) hlim (enters_of Try.func27 (by kernel_rfl) rfl) (fun i w' _ _ => sec_all i w')).mono ?_
  rintro e w2 ⟨rfl, hQ⟩
  have HQ := Lib.hid hQ
  clear hQ
  go_wp2_with fail
  go_ret
  obtain ⟨D', q1, q2⟩ := HQ.out
  exact ⟨rfl, D', q1, HM.out.trans q2⟩

set_option maxHeartbeats 1000000 in
theorem sec_sync_down (D : Sec.Bl) (s : Sec.St) (w : World) (h : Sec.At D s w) (hs : s.Ok) (hd : s.still = true) :
    Calls Try.prog 11 #[D.ptr] w fun e w' => e = .returned (.int .i64 51) ∧ w = w' := by
  have H := Lib.hid h
  have HS := Lib.hid hs
  have HD := Lib.hid hd
  clear h hs hd
  have e : D.ptr = .pointer (some ⟨D.b, 0, none⟩) := rfl
  rw [e]
  clear e
  go_enter Try.func11, Try.ntmps11
  go_wp2_with fail
  refine (sec_is D s _ H.out HS.out).mono ?_
  rintro e w' ⟨rfl, rfl⟩
  go_wp2_with fail
  refine (sec_still D s _ H.out true HD.out).mono ?_
  rintro e w' ⟨rfl, rfl⟩
  go_wp2_with fail
  go_ret
  exact ⟨rfl, rfl⟩

/-! ### Crash -/
namespace Sec
/-- How many bytes stay by a pick; by the picks, of write i. -/
def stay (p : Int) : Nat := (min (max p 0) 128).toNat
def pk (ps : List Int) (i : Nat) : Nat := match ps[i]? with
  | some p => stay p
  | none => 0
theorem stay_le (p : Int) : stay p ≤ 128 := by unfold stay; omega
theorem pk_le (ps : List Int) (i : Nat) : pk ps i ≤ 128 := by
  unfold pk
  split
  · exact stay_le _
  · omega
/-- Picks, in a slice at A that is none of the disk's. -/
def Picks (D : Bl) (w : World) (A : Option Addr) (ps : List Int) : Prop :=
  0 < ps.length → ∃ ad, A = some ad ∧ ad.block < w.heap.size ∧ D.off ad.block ∧ ∀ j p, ps[j]? = some p → w.cell? (ad.add j) = some (.int .i64 p)
theorem Picks.none {D : Bl} {w : World} {A : Option Addr} : Picks D w A [] := fun h => absurd h (by simp)
theorem add_block (a : Addr) (n : Nat) : (a.add n).block = a.block := by unfold Addr.add; split <;> rfl
theorem Picks.moves {D D' : Bl} {w w' : World} {A : Option Addr} {ps : List Int} (h : Picks D w A ps) (hm : Moves D D' w w') : Picks D w' A ps := fun hn => by
  obtain ⟨ad, e, h1, h2, h3⟩ := h hn
  exact ⟨ad, e, Nat.lt_of_lt_of_le h1 hm.size, h2, fun j p hp => (World.cell?_of_block (a := ad.add j) (by rw [add_block]; exact hm.block _ h1 h2)).trans (h3 j p hp)⟩
/-- Behind a crash. -/
def St.crash (s : St) (ps : List Int) : St := { s.settle (pk ps) with lit := false, left := 0 }
end Sec

set_option maxHeartbeats 1000000 in
theorem sec_pick (D : Sec.Bl) (A : Option Addr) (c B : Nat) (ps : List Int) (i : Nat) (w : World) (hn : ps.length ≤ maxLen) (hb : w.cell? ⟨B, 0, none⟩ = some (.slice A ps.length c)) (hp : Sec.Picks D w A ps) :
    Calls Try.prog 26 #[.int .i64 (i : Int), .pointer (some ⟨B, 0, none⟩)] w fun e w' => e = .returned (.int .i64 (Sec.pk ps i : Int)) ∧ w = w' := by
  unfold maxLen at hn
  by_cases hlt : i < ps.length
  · obtain ⟨ad, rfl, _, _, hc⟩ := hp (by omega)
    have hc1 := hc i ps[i] (List.getElem?_eq_getElem hlt)
    have HE : Hid ((min (max ps[i] 0) 128) = (Sec.pk ps i : Int)) := by
      show _ = _
      unfold Sec.pk Sec.stay
      rw [List.getElem?_eq_getElem hlt]
      simp only
      omega
    have h1 : decide (ps.length ≤ i) = false := by simpa using hlt
    have h2 : (i : Int) < (ps.length : Int) := by omega
    clear hp hc
    generalize ps[i] = p at hc1 HE
    go_enter Try.func26, Try.ntmps26
    go_wp2
    go_ret
    rw [HE.out]
    exact ⟨rfl, rfl⟩
  · have HE : Hid (Sec.pk ps i = 0) := by
      show _ = _
      unfold Sec.pk
      rw [List.getElem?_eq_none (by omega)]
    have h1 : decide (ps.length ≤ i) = true := by simpa using hlt
    clear hp
    go_enter Try.func26, Try.ntmps26
    go_wp2
    go_ret
    rw [HE.out]
    exact ⟨rfl, rfl⟩

set_option maxHeartbeats 2000000 in
set_option maxRecDepth 20000 in
theorem sec_crash (D : Sec.Bl) (s : Sec.St) (w : World) (h : Sec.At D s w) (hs : s.Ok) (A : Option Addr) (c : Nat) (ps : List Int) (hp : Sec.Picks D w A ps) (hn : ps.length ≤ maxLen) (hlim : s.loose.length ≤ 1000000000) :
    Calls Try.prog 10 #[D.ptr, .slice A ps.length c] w (Sec.Done 0 D (s.crash ps) w) := by
  have hlb := h.ltb
  have hls := h.lts
  have hlm := h.ltm
  have HV : Hid (∀ k, D.v.ownBlock = some k → k < w.heap.size) := fun k hk => (h.row.lt k hk).2
  have H : Hid (Sec.At D s (w.alloc (.cells #[.slice A ps.length c] 23))) := h.below ((Below.refl _ _).alloc (Nat.le_refl _) _)
  have HM : Hid (Sec.Moves D D w (w.alloc (.cells #[.slice A ps.length c] 23))) := .of_below ((Below.refl _ _).alloc (Nat.le_refl _) _)
  have HS := Lib.hid hs
  have HP : Hid (Sec.Picks D (w.alloc (.cells #[.slice A ps.length c] 23)) A ps) := hp.moves HM.out
  have HN := Lib.hid hn
  have hmf : ∀ (fn : Fn) (first cap : Array Value) (w : World), (Instr.makeFunc fn first cap).run Try.prog w = .ok (.func fn first cap) w := fun _ _ _ _ => rfl
  clear h hs hp hn
  have e : D.ptr = .pointer (some ⟨D.b, 0, none⟩) := rfl
  rw [e]
  clear e
  go_enter Try.func10, Try.ntmps10
  go_wp2_with fail
  refine (sec_is D s _ H.out HS.out).mono ?_
  rintro e w' ⟨rfl, rfl⟩
  go_wp2_with fail
  refine (sec_settle 26 #[.pointer (some ⟨w.heap.size, 0, none⟩)] (Sec.pk ps) D s _ H.out HS.out (Sec.pk_le ps) hlim (enters_of Try.func26 (by kernel_rfl) rfl) (fun i w' _ hm => sec_pick D A c w.heap.size ps i w' HN.out ?hb (HP.out.moves hm))).mono ?_
  case hb =>
    have hblk := hm.block w.heap.size (by simp) ⟨by omega, by omega, by omega, fun e => by have := HV.out _ e.symm; omega⟩
    rw [Lib.cell_of_heap (hblk.trans (heap_alloc_new w _))]
    rfl
  rintro e w2 ⟨rfl, hQ⟩
  obtain ⟨D', hA, hM⟩ := hQ
  have f3 := hA.fro 3
  have f4 := hA.fro 4
  have c3 := hA.c3
  have c4 := hA.c4
  rw [hM.b] at f3 f4 c3 c4
  have HA := Lib.hid hA
  have HM2 := Lib.hid hM
  clear hA hM hmf
  go_wp2_with fail
  go_ret
  obtain ⟨r1, r2⟩ := HA.out.fuse false 0 ((w2.setCell ⟨D.b, 3, none⟩ (.bool false)).setCell ⟨D.b, 4, none⟩ (.int .i64 0)) (by
    rw [← HM2.out.b, heap_setCell_same _ _ _ _ _ _ (heap_setCell_same _ _ _ _ _ _ HA.out.ob)]
    rfl) (by
    rw [← HM2.out.b]
    exact Sec.grown_trans (Sec.grown_set _ _ _ _) (Sec.grown_set _ _ _ _))
  exact ⟨rfl, D', r1, (HM.out.trans HM2.out).trans r2⟩

/-! ### Read -/
theorem sec_convert (M o : Nat) (xs : List UInt8) (hl : xs.length = 128) (w : World) (h : w.rangeAt M o (Sec.cel xs)) :
    (convert 61 9 (.slice (some ⟨M, o, none⟩) 128 128)).run Try.prog w = .ok (.string ⟨xs.toArray⟩) w := by
  have hr := run_convert_bytes_back (P := Try.prog) w 61 9 5 ⟨M, o, none⟩ 128 xs Try.underlying61 Try.underlying5 Try.underlying9 (fun j hj => by
    rw [Addr.add_mid]
    exact h j _ (Sec.cel_get xs j hj))
  rwa [hl] at hr

set_option maxHeartbeats 1000000 in
theorem sec_read (D : Sec.Bl) (s : Sec.St) (w : World) (h : Sec.At D s w) (hs : s.Ok) (k : Nat) (hk : k < s.n) (hd : s.still = false) :
    Calls Try.prog 14 #[D.ptr, .int .i64 (k : Int)] w fun e w' => e = .returned (.tuple #[.string ⟨((s.now.drop (k * 128)).take 128).toArray⟩, .int .i64 0]) ∧ w = w' := by
  have hn2 := hs.n2
  have hk0 : (0 : Int) ≤ (k : Int) := by omega
  have hk1 : (k : Int) < (s.n : Int) := by omega
  have c1 := h.c1
  have hsl := sec_slice ⟨D.m, k * 128, none⟩
  have hcv := sec_convert D.m (k * 128) ((s.now.drop (k * 128)).take 128) (by have := hs.now; rw [List.length_take, List.length_drop]; omega) w (Sec.range_of_row h.now _ _)
  have H := Lib.hid h
  have HS := Lib.hid hs
  have HD := Lib.hid hd
  clear h hs hd
  have e : D.ptr = .pointer (some ⟨D.b, 0, none⟩) := rfl
  rw [e]
  clear e
  go_enter Try.func14, Try.ntmps14
  go_wp2_with fail
  refine (sec_is D s _ H.out HS.out).mono ?_
  rintro e w' ⟨rfl, rfl⟩
  go_wp2_with fail
  refine (sec_still D s _ H.out false HD.out).mono ?_
  rintro e w' ⟨rfl, rfl⟩
  go_wp2_with fail
  refine (sec_has_yes D s _ H.out k hk).mono ?_
  rintro e w' ⟨rfl, rfl⟩
  go_wp2_with fail
  go_ret2
  exact ⟨rfl, rfl⟩

set_option maxHeartbeats 1000000 in
theorem sec_read_down (D : Sec.Bl) (s : Sec.St) (w : World) (h : Sec.At D s w) (hs : s.Ok) (k : Int) (hd : s.still = true) :
    Calls Try.prog 14 #[D.ptr, .int .i64 k] w fun e w' => e = .returned (.tuple #[.string ByteArray.empty, .int .i64 51]) ∧ w = w' := by
  have H := Lib.hid h
  have HS := Lib.hid hs
  have HD := Lib.hid hd
  clear h hs hd
  have e : D.ptr = .pointer (some ⟨D.b, 0, none⟩) := rfl
  rw [e]
  clear e
  go_enter Try.func14, Try.ntmps14
  go_wp2_with fail
  refine (sec_is D s _ H.out HS.out).mono ?_
  rintro e w' ⟨rfl, rfl⟩
  go_wp2_with fail
  refine (sec_still D s _ H.out true HD.out).mono ?_
  rintro e w' ⟨rfl, rfl⟩
  go_wp2_with fail
  go_ret2
  exact ⟨rfl, rfl⟩

set_option maxHeartbeats 1000000 in
theorem sec_read_range (D : Sec.Bl) (s : Sec.St) (w : World) (h : Sec.At D s w) (hs : s.Ok) (k : Int) (hk : k < 0 ∨ (s.n : Int) ≤ k) (hd : s.still = false) :
    Calls Try.prog 14 #[D.ptr, .int .i64 k] w fun e w' => e = .returned (.tuple #[.string ByteArray.empty, .int .i64 50]) ∧ w = w' := by
  have H := Lib.hid h
  have HS := Lib.hid hs
  have HD := Lib.hid hd
  have HK := Lib.hid hk
  clear h hs hd hk
  have e : D.ptr = .pointer (some ⟨D.b, 0, none⟩) := rfl
  rw [e]
  clear e
  go_enter Try.func14, Try.ntmps14
  go_wp2_with fail
  refine (sec_is D s _ H.out HS.out).mono ?_
  rintro e w' ⟨rfl, rfl⟩
  go_wp2_with fail
  refine (sec_still D s _ H.out false HD.out).mono ?_
  rintro e w' ⟨rfl, rfl⟩
  go_wp2_with fail
  refine (sec_has_no D s _ H.out k HK.out).mono ?_
  rintro e w' ⟨rfl, rfl⟩
  go_wp2_with fail
  go_ret2
  exact ⟨rfl, rfl⟩
end Go.Proofs.Ytmoifihgomjbcaa
