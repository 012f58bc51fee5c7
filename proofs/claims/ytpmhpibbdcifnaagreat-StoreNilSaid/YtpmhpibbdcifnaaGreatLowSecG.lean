/-
  Contracts of sector's Sync, Crash, Read, and of all calls of no disk.
  The contract of sector's Sure.
  The contract of layer 5's 'front', where it is true.
  Sector's calls, of a disk at a pointer p none of whose blocks lie below lo.
-/
import Derived.Test.YtpmhpibbdcifnaaGreatLowSecD
import Derived.Laws.IdiomStrings
import Derived.Deep.OwnRows
section
namespace Go.Proofs.YtpmhpibbdcifnaaGreat
open Go.RowKit
attribute [local go_sem ↓] Go.wp_at_zero Go.wp_at_succ

set_option maxHeartbeats 400000 in
theorem sec_all (i : Nat) (w : World) :
    Calls Tryz.prog 69 #[.int .i64 (i : Int)] w fun e w' => e = .returned (.int .i64 ((128 : Nat) : Int)) ∧ w = w' := by
  go_enter Tryz.func69, Tryz.ntmps69
  go_wp2
  go_ret
  exact ⟨rfl, rfl⟩

set_option maxHeartbeats 1000000 in
theorem sec_sync (D : Sec.Bl) (s : Sec.St) (w : World) (h : Sec.At D s w) (hs : s.Ok) (hd : s.still = false) (hlim : s.loose.length ≤ 1000000000) :
    Calls Tryz.prog 44 #[D.ptr] w (Sec.Done 0 D (s.burn.settle (fun _ => 128)) w) := by
  have H := Lib.hid h
  have HS := Lib.hid hs
  have HD := Lib.hid hd
  clear h hs hd
  have e : D.ptr = .pointer (some ⟨D.b, 0, none⟩) := rfl
  rw [e]
  clear e
  go_enter Tryz.func44, Tryz.ntmps44
  go_wp2_with fail
  refine (sec_is D s _ H.out HS.out).mono ?_
  rintro e w' ⟨rfl, rfl⟩
  go_wp2_with fail
  refine (sec_still D s _ H.out false HD.out).mono ?_
  rintro e w' ⟨rfl, rfl⟩
  go_wp2_with fail
  refine (sec_burn D s _ H.out HS.out HD.out).mono ?_
  rintro e w1 ⟨rfl, hA1, hM1⟩
  have HA := Lib.hid hA1
  have HM := Lib.hid hM1
  clear hA1 hM1
  go_wp2_with fail
  refine (sec_settle 69 #[] (fun _ => 128) D s.burn w1 HA.out HS.out.burn (fun _ => Nat.le_refl _) hlim (enters_of Tryz.func69 (by kernel_rfl) rfl) (fun i w' _ _ => sec_all i w')).mono ?_
  rintro e w2 ⟨rfl, hQ⟩
  have HQ := Lib.hid hQ
  clear hQ
  go_wp2_with fail
  go_ret
  obtain ⟨D', q1, q2⟩ := HQ.out
  exact ⟨rfl, D', q1, HM.out.trans q2⟩

set_option maxHeartbeats 1000000 in
theorem sec_sync_down (D : Sec.Bl) (s : Sec.St) (w : World) (h : Sec.At D s w) (hs : s.Ok) (hd : s.still = true) :
    Calls Tryz.prog 44 #[D.ptr] w fun e w' => e = .returned (.int .i64 51) ∧ w = w' := by
  have H := Lib.hid h
  have HS := Lib.hid hs
  have HD := Lib.hid hd
  clear h hs hd
  have e : D.ptr = .pointer (some ⟨D.b, 0, none⟩) := rfl
  rw [e]
  clear e
  go_enter Tryz.func44, Tryz.ntmps44
  go_wp2_with fail
  refine (sec_is D s _ H.out HS.out).mono ?_
  rintro e w' ⟨rfl, rfl⟩
  go_wp2_with fail
  refine (sec_still D s _ H.out true HD.out).mono ?_
  rintro e w' ⟨rfl, rfl⟩
  go_wp2_with fail
  go_ret
  exact ⟨rfl, rfl⟩

/-! ### Crash -/
namespace Sec
/-- How many bytes stay by a pick; by the picks, of write i. -/
def stay (p : Int) : Nat := (min (max p 0) 128).toNat
def pk (ps : List Int) (i : Nat) : Nat := match ps[i]? with
  | some p => stay p
  | none => 0
theorem stay_le (p : Int) : stay p ≤ 128 := by unfold stay; omega
theorem pk_le (ps : List Int) (i : Nat) : pk ps i ≤ 128 := by
  unfold pk
  split
  · exact stay_le _
  · omega
/-- Picks, in a slice at A that is none of the disk's. -/
def Picks (D : Bl) (w : World) (A : Option Addr) (ps : List Int) : Prop :=
  0 < ps.length → ∃ ad, A = some ad ∧ ad.block < w.heap.size ∧ D.off ad.block ∧ ∀ j p, ps[j]? = some p → w.cell? (ad.add j) = some (.int .i64 p)
theorem Picks.none {D : Bl} {w : World} {A : Option Addr} : Picks D w A [] := fun h => absurd h (by simp)
theorem add_block (a : Addr) (n : Nat) : (a.add n).block = a.block := by unfold Addr.add; split <;> rfl
theorem Picks.moves {D D' : Bl} {w w' : World} {A : Option Addr} {ps : List Int} (h : Picks D w A ps) (hm : Moves D D' w w') : Picks D w' A ps := fun hn => by
  obtain ⟨ad, e, h1, h2, h3⟩ := h hn
  exact ⟨ad, e, Nat.lt_of_lt_of_le h1 hm.size, h2, fun j p hp => (World.cell?_of_block (a := ad.add j) (by rw [add_block]; exact hm.block _ h1 h2)).trans (h3 j p hp)⟩
/-- Behind a crash. -/
def St.crash (s : St) (ps : List Int) : St := { s.settle (pk ps) with lit := false, left := 0 }
end Sec

set_option maxHeartbeats 1000000 in
theorem sec_pick (D : Sec.Bl) (A : Option Addr) (c B : Nat) (ps : List Int) (i : Nat) (w : World) (hn : ps.length ≤ maxLen) (hb : w.cell? ⟨B, 0, none⟩ = some (.slice A ps.length c)) (hp : Sec.Picks D w A ps) :
    Calls Tryz.prog 29 #[.int .i64 (i : Int), .pointer (some ⟨B, 0, none⟩)] w fun e w' => e = .returned (.int .i64 (Sec.pk ps i : Int)) ∧ w = w' := by
  unfold maxLen at hn
  by_cases hlt : i < ps.length
  · obtain ⟨ad, rfl, _, _, hc⟩ := hp (by omega)
    have hc1 := hc i ps[i] (List.getElem?_eq_getElem hlt)
    have HE : Hid ((min (max ps[i] 0) 128) = (Sec.pk ps i : Int)) := by
      show _ = _
      unfold Sec.pk Sec.stay
      rw [List.getElem?_eq_getElem hlt]
      simp only
      omega
    have h1 : decide (ps.length ≤ i) = false := by simpa using hlt
    have h2 : (i : Int) < (ps.length : Int) := by omega
    clear hp hc
    generalize ps[i] = p at hc1 HE
    go_enter Tryz.func29, Tryz.ntmps29
    go_wp2
    go_ret
    rw [HE.out]
    exact ⟨rfl, rfl⟩
  · have HE : Hid (Sec.pk ps i = 0) := by
      show _ = _
      unfold Sec.pk
      rw [List.getElem?_eq_none (by omega)]
    have h1 : decide (ps.length ≤ i) = true := by simpa using hlt
    clear hp
    go_enter Tryz.func29, Tryz.ntmps29
    go_wp2
    go_ret
    rw [HE.out]
    exact ⟨rfl, rfl⟩

set_option maxHeartbeats 2000000 in
set_option maxRecDepth 20000 in
theorem sec_crash (D : Sec.Bl) (s : Sec.St) (w : World) (h : Sec.At D s w) (hs : s.Ok) (A : Option Addr) (c : Nat) (ps : List Int) (hp : Sec.Picks D w A ps) (hn : ps.length ≤ maxLen) (hlim : s.loose.length ≤ 1000000000) :
    Calls Tryz.prog 14 #[D.ptr, .slice A ps.length c] w (Sec.Done 0 D (s.crash ps) w) := by
  have hlb := h.ltb
  have hls := h.lts
  have hlm := h.ltm
  have HV : Hid (∀ k, D.v.ownBlock = some k → k < w.heap.size) := fun k hk => (h.row.lt k hk).2
  have H : Hid (Sec.At D s (w.alloc (.cells #[.slice A ps.length c] 70))) := h.below ((Below.refl _ _).alloc (Nat.le_refl _) _)
  have HM : Hid (Sec.Moves D D w (w.alloc (.cells #[.slice A ps.length c] 70))) := .of_below ((Below.refl _ _).alloc (Nat.le_refl _) _)
  have HS := Lib.hid hs
  have HP : Hid (Sec.Picks D (w.alloc (.cells #[.slice A ps.length c] 70)) A ps) := hp.moves HM.out
  have HN := Lib.hid hn
  have hmf : ∀ (fn : Fn) (first cap : Array Value) (w : World), (Instr.makeFunc fn first cap).run Tryz.prog w = .ok (.func fn first cap) w := fun _ _ _ _ => rfl
  clear h hs hp hn
  have e : D.ptr = .pointer (some ⟨D.b, 0, none⟩) := rfl
  rw [e]
  clear e
  go_enter Tryz.func14, Tryz.ntmps14
  go_wp2_with fail
  refine (sec_is D s _ H.out HS.out).mono ?_
  rintro e w' ⟨rfl, rfl⟩
  go_wp2_with fail
  refine (sec_settle 29 #[.pointer (some ⟨w.heap.size, 0, none⟩)] (Sec.pk ps) D s _ H.out HS.out (Sec.pk_le ps) hlim (enters_of Tryz.func29 (by kernel_rfl) rfl) (fun i w' _ hm => sec_pick D A c w.heap.size ps i w' HN.out ?hb (HP.out.moves hm))).mono ?_
  case hb =>
    have hblk := hm.block w.heap.size (by simp) ⟨by omega, by omega, by omega, fun e => by have := HV.out _ e.symm; omega⟩
    rw [Lib.cell_of_heap (hblk.trans (heap_alloc_new w _))]
    rfl
  rintro e w2 ⟨rfl, hQ⟩
  obtain ⟨D', hA, hM⟩ := hQ
  have f3 := hA.fro 3
  have f4 := hA.fro 4
  have c3 := hA.c3
  have c4 := hA.c4
  rw [hM.b] at f3 f4 c3 c4
  have HA := Lib.hid hA
  have HM2 := Lib.hid hM
  clear hA hM hmf
  go_wp2_with fail
  go_ret
  obtain ⟨r1, r2⟩ := HA.out.fuse false 0 ((w2.setCell ⟨D.b, 3, none⟩ (.bool false)).setCell ⟨D.b, 4, none⟩ (.int .i64 0)) (by
    rw [← HM2.out.b, heap_setCell_same _ _ _ _ _ _ (heap_setCell_same _ _ _ _ _ _ HA.out.ob)]
    rfl) (by
    rw [← HM2.out.b]
    exact Sec.grown_trans (Sec.grown_set _ _ _ _) (Sec.grown_set _ _ _ _))
  exact ⟨rfl, D', r1, (HM.out.trans HM2.out).trans r2⟩

/-! ### Read -/
theorem sec_convert (M o : Nat) (xs : List UInt8) (hl : xs.length = 128) (w : World) (h : w.rangeAt M o (Sec.cel xs)) :
    (convert 94 9 (.slice (some ⟨M, o, none⟩) 128 128)).run Tryz.prog w = .ok (.string ⟨xs.toArray⟩) w := by
  have hr := run_convert_bytes_back (P := Tryz.prog) w 94 9 5 ⟨M, o, none⟩ 128 xs Tryz.underlying94 Tryz.underlying5 Tryz.underlying9 (fun j hj => by
    rw [Addr.add_mid]
    exact h j _ (Sec.cel_get xs j hj))
  rwa [hl] at hr

set_option maxHeartbeats 1000000 in
theorem sec_read (D : Sec.Bl) (s : Sec.St) (w : World) (h : Sec.At D s w) (hs : s.Ok) (k : Nat) (hk : k < s.n) (hd : s.still = false) :
    Calls Tryz.prog 70 #[D.ptr, .int .i64 (k : Int)] w fun e w' => e = .returned (.tuple #[.string ⟨((s.now.drop (k * 128)).take 128).toArray⟩, .int .i64 0]) ∧ w = w' := by
  have hn2 := hs.n2
  have hk0 : (0 : Int) ≤ (k : Int) := by omega
  have hk1 : (k : Int) < (s.n : Int) := by omega
  have c1 := h.c1
  have hsl := sec_slice ⟨D.m, k * 128, none⟩
  have hcv := sec_convert D.m (k * 128) ((s.now.drop (k * 128)).take 128) (by have := hs.now; rw [List.length_take, List.length_drop]; omega) w (Sec.range_of_row h.now _ _)
  have H := Lib.hid h
  have HS := Lib.hid hs
  have HD := Lib.hid hd
  clear h hs hd
  have e : D.ptr = .pointer (some ⟨D.b, 0, none⟩) := rfl
  rw [e]
  clear e
  go_enter Tryz.func70, Tryz.ntmps70
  go_wp2_with fail
  refine (sec_is D s _ H.out HS.out).mono ?_
  rintro e w' ⟨rfl, rfl⟩
  go_wp2_with fail
  refine (sec_still D s _ H.out false HD.out).mono ?_
  rintro e w' ⟨rfl, rfl⟩
  go_wp2_with fail
  refine (sec_has_yes D s _ H.out k hk).mono ?_
  rintro e w' ⟨rfl, rfl⟩
  go_wp2_with fail
  go_ret2
  exact ⟨rfl, rfl⟩

set_option maxHeartbeats 1000000 in
theorem sec_read_down (D : Sec.Bl) (s : Sec.St) (w : World) (h : Sec.At D s w) (hs : s.Ok) (k : Int) (hd : s.still = true) :
    Calls Tryz.prog 70 #[D.ptr, .int .i64 k] w fun e w' => e = .returned (.tuple #[.string ByteArray.empty, .int .i64 51]) ∧ w = w' := by
  have H := Lib.hid h
  have HS := Lib.hid hs
  have HD := Lib.hid hd
  clear h hs hd
  have e : D.ptr = .pointer (some ⟨D.b, 0, none⟩) := rfl
  rw [e]
  clear e
  go_enter Tryz.func70, Tryz.ntmps70
  go_wp2_with fail
  refine (sec_is D s _ H.out HS.out).mono ?_
  rintro e w' ⟨rfl, rfl⟩
  go_wp2_with fail
  refine (sec_still D s _ H.out true HD.out).mono ?_
  rintro e w' ⟨rfl, rfl⟩
  go_wp2_with fail
  go_ret2
  exact ⟨rfl, rfl⟩

set_option maxHeartbeats 1000000 in
theorem sec_read_range (D : Sec.Bl) (s : Sec.St) (w : World) (h : Sec.At D s w) (hs : s.Ok) (k : Int) (hk : k < 0 ∨ (s.n : Int) ≤ k) (hd : s.still = false) :
    Calls Tryz.prog 70 #[D.ptr, .int .i64 k] w fun e w' => e = .returned (.tuple #[.string ByteArray.empty, .int .i64 50]) ∧ w = w' := by
  have H := Lib.hid h
  have HS := Lib.hid hs
  have HD := Lib.hid hd
  have HK := Lib.hid hk
  clear h hs hd hk
  have e : D.ptr = .pointer (some ⟨D.b, 0, none⟩) := rfl
  rw [e]
  clear e
  go_enter Tryz.func70, Tryz.ntmps70
  go_wp2_with fail
  refine (sec_is D s _ H.out HS.out).mono ?_
  rintro e w' ⟨rfl, rfl⟩
  go_wp2_with fail
  refine (sec_still D s _ H.out false HD.out).mono ?_
  rintro e w' ⟨rfl, rfl⟩
  go_wp2_with fail
  refine (sec_has_no D s _ H.out k HK.out).mono ?_
  rintro e w' ⟨rfl, rfl⟩
  go_wp2_with fail
  go_ret2
  exact ⟨rfl, rfl⟩
end Go.Proofs.YtpmhpibbdcifnaaGreat
end

section
namespace Go.Proofs.YtpmhpibbdcifnaaGreat
open Go.RowKit

theorem byte_cells : (Tryz.prog.info? 5).map (fun i => (i.zero, i.size, i.bytes)) = some (some (.int .u8 0), 1, 1) := by kernel_rfl
theorem Sec.take_step {xs : List UInt8} (i : Nat) : Sec.cel (xs.take (i * 128)) ++ Sec.cel ((xs.drop (i * 128)).take 128) = Sec.cel (xs.take ((i + 1) * 128)) := by
  rw [← Sec.cel_app, show (i + 1) * 128 = i * 128 + 128 by omega, List.take_add]

end Go.Proofs.YtpmhpibbdcifnaaGreat
end

section
namespace Go.Proofs.YtpmhpibbdcifnaaGreat
open Go.RowKit
attribute [local go_sem ↓] Go.wp_at_zero Go.wp_at_succ

namespace Sec
def padB (t : ByteArray) : ByteArray := ⟨(pad t.data.toList).toArray⟩
def zerB (n : Nat) : ByteArray := ⟨(List.replicate n 0).toArray⟩
theorem padB_size {t : ByteArray} (h : t.size ≤ 128) : (padB t).size = 128 := by
  show (pad t.data.toList).toArray.size = 128
  rw [List.size_toArray, pad_len h]
theorem padB_front {t : ByteArray} : (padB t).extract 0 t.size = t := by
  apply ByteArray.ext
  rw [ByteArray.data_extract]
  apply Array.ext'
  have hl : t.data.toList.length = t.size := rfl
  simp only [padB, pad, Array.toList_extract, List.toList_toArray, List.extract_eq_take_drop, List.drop_zero, Nat.sub_zero]
  rw [List.take_left' hl]
theorem padB_rest {t : ByteArray} : (padB t).extract t.size 128 = zerB (128 - t.size) := by
  apply ByteArray.ext
  rw [ByteArray.data_extract]
  apply Array.ext'
  have hl : t.data.toList.length = t.size := rfl
  simp only [padB, pad, zerB, Array.toList_extract, List.toList_toArray, List.extract_eq_take_drop]
  rw [List.drop_left' hl, List.take_of_length_le (by simp [hl]), hl]
end Sec

theorem sec_conv0 (n : Nat) (w w' : World) (h : w'.heap[w.heap.size]? = some (.cells (madeCells #[.int .u8 0] n) 5 (0, 0))) :
    (convert 94 9 (.slice (some ⟨w.heap.size, 0, none⟩) n n)).run Tryz.prog w' = .ok (.string (Sec.zerB n)) w' := by
  have hr := run_convert_bytes_back (P := Tryz.prog) w' 94 9 5 ⟨w.heap.size, 0, none⟩ n (List.replicate n 0) Tryz.underlying94 Tryz.underlying5 Tryz.underlying9 (fun j hj => by
    rw [Addr.add_mid, cell_of_row w' _ _ _ _ _ h]
    have hj' : j < n := by simpa using hj
    rw [Array.getElem?_eq_getElem (by simpa [size_madeCells] using hj')]
    simp [madeCells, Nat.mod_one])
  rw [List.length_replicate] at hr
  exact hr

end Go.Proofs.YtpmhpibbdcifnaaGreat
end

section
namespace Go.Proofs.YtpmhpibbdcifnaaGreat
open Go.RowKit

namespace Sec
def Has (p lo : Nat) (s : St) (w : World) : Prop := ∃ D : Bl, D.b = p ∧ D.lo = lo ∧ At D s w
variable {p lo : Nat} {s : St} {w w' : World}
theorem Has.below (h : Has p lo s w) (hb : Below w.heap.size w w') : Has p lo s w' := by
  obtain ⟨D, h1, h2, h3⟩ := h
  exact ⟨D, h1, h2, h3.below hb⟩
theorem Has.drew (h : Has p lo s w) : Has p lo s w.drew := h.below (Below.refl _ _).drew
theorem Has.lo_le (h : Has p lo s w) : lo ≤ w.heap.size := by
  obtain ⟨D, _, rfl, h3⟩ := h
  have h1 := h3.ltb
  have h2 := h3.lo1
  omega
/-- Behind a call that works on it. -/
def Now (p lo : Nat) (s : St) (w w' : World) : Prop := Has p lo s w' ∧ Below lo w w'
theorem Now.of {D : Bl} (h1 : D.b = p) (h2 : D.lo = lo) (ha : At D s w) {s' : St} (h : Behind D s' w w') : Now p lo s' w w' := by
  obtain ⟨D', hA, hM⟩ := h
  subst h2
  exact ⟨⟨D', hM.b.trans h1, hM.lo, hA⟩, hM.below ha⟩

/-- A Write, whatever it is handed, of a disk that runs. -/
def St.wr (s : St) (k : Int) (t : ByteArray) : St := if 0 ≤ k ∧ k < (s.n : Int) ∧ t.size ≤ 128 then s.burn.put k.toNat (pad t.data.toList) else s
def St.wc (s : St) (k : Int) (t : ByteArray) : Int := if 0 ≤ k ∧ k < (s.n : Int) then (if t.size ≤ 128 then 0 else 4) else 50
theorem St.Ok.wr (h : s.Ok) (k : Int) (t : ByteArray) : (s.wr k t).Ok := by
  unfold St.wr
  split
  · rename_i hc
    exact (h.burn).put (by show k.toNat < s.n; omega) (pad_len hc.2.2)
  · exact h
theorem St.wr_n (k : Int) (t : ByteArray) : (s.wr k t).n = s.n := by
  unfold St.wr
  split <;> rfl
theorem St.wr_lit (k : Int) (t : ByteArray) : (s.wr k t).lit = s.lit := by
  unfold St.wr
  split <;> rfl
theorem St.wr_good (k : Int) (t : ByteArray) : (s.wr k t).good = s.good := by
  unfold St.wr
  split <;> rfl
theorem St.wr_len (k : Int) (t : ByteArray) : (s.wr k t).loose.length ≤ s.loose.length + 1 := by
  unfold St.wr
  split
  · show (s.loose ++ [_]).length ≤ _
    simp
  · omega
theorem St.wr_mem (k : Int) (t : ByteArray) : ∀ x ∈ (s.wr k t).loose, x ∈ s.loose ∨ (0 ≤ k ∧ k < (s.n : Int) ∧ t.size ≤ 128 ∧ x = (k.toNat, pad t.data.toList)) := by
  unfold St.wr
  split
  · rename_i hc
    intro x hx
    rcases List.mem_append.1 (show x ∈ s.loose ++ [_] from hx) with hx | hx
    · exact .inl hx
    · exact .inr ⟨hc.1, hc.2.1, hc.2.2, List.mem_singleton.1 hx⟩
  · exact fun x hx => .inl hx
theorem St.runs (h : s.lit = false) : s.still = false := by unfold St.still; rw [h]; rfl
theorem St.crash_ok (h : s.Ok) (ps : List Int) : (s.crash ps).Ok := (h.settle _).fuse false (by omega)
end Sec

theorem has_new (n : Nat) (w : World) (h1 : 1 ≤ n) (h2 : n ≤ 4096) :
    Calls Tryz.prog 13 #[.int .i64 (n : Int)] w fun e w' => ∃ p, e = .returned (.tuple #[.pointer (some ⟨p, 0, none⟩), .int .i64 0]) ∧ Sec.Has p w.heap.size (Sec.St.fresh n) w' ∧ Below w.heap.size w w' :=
  (sec_new n w h1 h2).mono fun _ _ ⟨D, h1, h2, h3, h4⟩ => ⟨D.b, h1, ⟨D, rfl, h4, h2⟩, h3⟩

theorem has_write (p lo : Nat) (s : Sec.St) (w : World) (h : Sec.Has p lo s w) (hs : s.Ok) (hd : s.still = false) (hlim : s.loose.length ≤ 1000000000) (k : Int) (t : ByteArray) :
    Calls Tryz.prog 89 #[.pointer (some ⟨p, 0, none⟩), .int .i64 k, .string t] w fun e w' => e = .returned (.int .i64 (s.wc k t)) ∧ Sec.Now p lo (s.wr k t) w w' := by
  obtain ⟨D, h1, h2, hA⟩ := h
  have e : (Value.pointer (some ⟨p, 0, none⟩)) = D.ptr := by rw [← h1]; rfl
  rw [e]
  by_cases hk : 0 ≤ k ∧ k < (s.n : Int)
  · obtain ⟨j, rfl⟩ := Int.eq_ofNat_of_zero_le hk.1
    by_cases ht : t.size ≤ 128
    · have e1 : s.wc (j : Int) t = 0 := by unfold Sec.St.wc; rw [if_pos hk, if_pos ht]
      have e2 : s.wr (j : Int) t = s.burn.put j (Sec.pad t.data.toList) := by unfold Sec.St.wr; rw [if_pos ⟨hk.1, hk.2, ht⟩]; rfl
      rw [e1, e2]
      exact (sec_write_ok D s w hA hs j t (by omega) ht hd hlim).mono fun e w' ⟨a, b⟩ => ⟨a, .of h1 h2 hA b⟩
    · have e1 : s.wc (j : Int) t = 4 := by unfold Sec.St.wc; rw [if_pos hk, if_neg ht]
      have e2 : s.wr (j : Int) t = s := by unfold Sec.St.wr; rw [if_neg (fun hc => ht hc.2.2)]
      rw [e1, e2]
      exact (sec_write_long D s w hA hs j t (by omega) (by omega)).mono fun e w' ⟨a, b⟩ => ⟨a, by subst b; exact ⟨⟨D, h1, h2, hA⟩, .refl _ _⟩⟩
  · have e1 : s.wc k t = 50 := by unfold Sec.St.wc; rw [if_neg hk]
    have e2 : s.wr k t = s := by unfold Sec.St.wr; rw [if_neg (fun hc => hk ⟨hc.1, hc.2.1⟩)]
    rw [e1, e2]
    exact (sec_write_range D s w hA hs k t (by omega)).mono fun e w' ⟨a, b⟩ => ⟨a, by subst b; exact ⟨⟨D, h1, h2, hA⟩, .refl _ _⟩⟩

theorem has_write_down (p lo : Nat) (s : Sec.St) (w : World) (h : Sec.Has p lo s w) (hs : s.Ok) (hd : s.still = true) (k : Nat) (hk : k < s.n) (t : ByteArray) (ht : t.size ≤ 128) :
    Calls Tryz.prog 89 #[.pointer (some ⟨p, 0, none⟩), .int .i64 (k : Int), .string t] w fun e w' => e = .returned (.int .i64 51) ∧ w = w' := by
  obtain ⟨D, rfl, h2, hA⟩ := h
  exact sec_write_down D s w hA hs k t hk ht hd

theorem has_sync (p lo : Nat) (s : Sec.St) (w : World) (h : Sec.Has p lo s w) (hs : s.Ok) (hd : s.still = false) (hlim : s.loose.length ≤ 1000000000) :
    Calls Tryz.prog 44 #[.pointer (some ⟨p, 0, none⟩)] w fun e w' => e = .returned (.int .i64 0) ∧ Sec.Now p lo (s.burn.settle (fun _ => 128)) w w' := by
  obtain ⟨D, rfl, h2, hA⟩ := h
  exact (sec_sync D s w hA hs hd hlim).mono fun e w' ⟨a, b⟩ => ⟨a, .of rfl h2 hA b⟩

theorem has_crash (p lo : Nat) (s : Sec.St) (w : World) (h : Sec.Has p lo s w) (hs : s.Ok) (hlim : s.loose.length ≤ 1000000000) (A : Option Addr) (c : Nat) (ps : List Int) (hn : ps.length ≤ maxLen)
    (hp : 0 < ps.length → ∃ ad, A = some ad ∧ ad.block < w.heap.size ∧ ad.block < lo ∧ ∀ j p, ps[j]? = some p → w.cell? (ad.add j) = some (.int .i64 p)) :
    Calls Tryz.prog 14 #[.pointer (some ⟨p, 0, none⟩), .slice A ps.length c] w fun e w' => e = .returned (.int .i64 0) ∧ Sec.Now p lo (s.crash ps) w w' := by
  obtain ⟨D, rfl, h2, hA⟩ := h
  exact (sec_crash D s w hA hs A c ps (fun h0 => by
    obtain ⟨ad, a, b, d, f⟩ := hp h0
    exact ⟨ad, a, b, hA.low (by omega), f⟩) hn hlim).mono fun e w' ⟨a, b⟩ => ⟨a, .of rfl h2 hA b⟩

/-- The picks in a block that was made since. -/
theorem has_crash_new (p lo : Nat) (s : Sec.St) (w0 w : World) (h : Sec.Has p lo s w0) (hb : Below w0.heap.size w0 w) (hs : s.Ok) (hlim : s.loose.length ≤ 1000000000) (A : Option Addr) (c : Nat) (ps : List Int) (hn : ps.length ≤ maxLen)
    (hp : 0 < ps.length → ∃ ad, A = some ad ∧ ad.block < w.heap.size ∧ w0.heap.size ≤ ad.block ∧ ∀ j p, ps[j]? = some p → w.cell? (ad.add j) = some (.int .i64 p)) :
    Calls Tryz.prog 14 #[.pointer (some ⟨p, 0, none⟩), .slice A ps.length c] w fun e w' => e = .returned (.int .i64 0) ∧ Sec.Now p lo (s.crash ps) w w' := by
  obtain ⟨D, rfl, h2, hA⟩ := h
  have hA' := hA.below hb
  have l1 := hA.ltb
  have l2 := hA.lts
  have l3 := hA.ltm
  exact (sec_crash D s w hA' hs A c ps (fun h0 => by
    obtain ⟨ad, a, b, d, f⟩ := hp h0
    exact ⟨ad, a, b, ⟨by omega, by omega, by omega, fun e => by have := (hA.row.lt _ e.symm).2; omega⟩, f⟩) hn hlim).mono fun e w' ⟨a, b⟩ => ⟨a, .of rfl h2 hA' b⟩

theorem has_len (p lo : Nat) (s : Sec.St) (w : World) (h : Sec.Has p lo s w) (hs : s.Ok) :
    Calls Tryz.prog 30 #[.pointer (some ⟨p, 0, none⟩)] w fun e w' => e = .returned (.int .i64 (s.n : Int)) ∧ w = w' := by
  obtain ⟨D, rfl, h2, hA⟩ := h
  exact sec_len D s w hA hs
theorem has_read (p lo : Nat) (s : Sec.St) (w : World) (h : Sec.Has p lo s w) (hs : s.Ok) (hd : s.still = false) (k : Nat) (hk : k < s.n) :
    Calls Tryz.prog 70 #[.pointer (some ⟨p, 0, none⟩), .int .i64 (k : Int)] w fun e w' => e = .returned (.tuple #[.string ⟨((s.now.drop (k * 128)).take 128).toArray⟩, .int .i64 0]) ∧ w = w' := by
  obtain ⟨D, rfl, h2, hA⟩ := h
  exact sec_read D s w hA hs k hk hd
theorem has_read_down (p lo : Nat) (s : Sec.St) (w : World) (h : Sec.Has p lo s w) (hs : s.Ok) (hd : s.still = true) (k : Int) :
    Calls Tryz.prog 70 #[.pointer (some ⟨p, 0, none⟩), .int .i64 k] w fun e w' => e = .returned (.tuple #[.string ByteArray.empty, .int .i64 51]) ∧ w = w' := by
  obtain ⟨D, rfl, h2, hA⟩ := h
  exact sec_read_down D s w hA hs k hd
end Go.Proofs.YtpmhpibbdcifnaaGreat
end
