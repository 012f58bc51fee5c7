/-
  Sector's calls, of a disk at a pointer p none of whose blocks lie below lo.
-/
import Derived.Test.YtmoifihgomjbcaaSecS
import Derived.Test.YtmoifihgomjbcaaSecH
namespace Go.Proofs.Ytmoifihgomjbcaa
open Go.RowKit

namespace Sec
def Has (p lo : Nat) (s : St) (w : World) : Prop := ∃ D : Bl, D.b = p ∧ D.lo = lo ∧ At D s w
variable {p lo : Nat} {s : St} {w w' : World}
theorem Has.below (h : Has p lo s w) (hb : Below w.heap.size w w') : Has p lo s w' := by
  obtain ⟨D, h1, h2, h3⟩ := h
  exact ⟨D, h1, h2, h3.below hb⟩
theorem Has.drew (h : Has p lo s w) : Has p lo s w.drew := h.below (Below.refl _ _).drew
theorem Has.lo_le (h : Has p lo s w) : lo ≤ w.heap.size := by
  obtain ⟨D, _, rfl, h3⟩ := h
  have h1 := h3.ltb
  have h2 := h3.lo1
  omega
/-- Behind a call that works on it. -/
def Now (p lo : Nat) (s : St) (w w' : World) : Prop := Has p lo s w' ∧ Below lo w w'
theorem Now.of {D : Bl} (h1 : D.b = p) (h2 : D.lo = lo) (ha : At D s w) {s' : St} (h : Behind D s' w w') : Now p lo s' w w' := by
  obtain ⟨D', hA, hM⟩ := h
  subst h2
  exact ⟨⟨D', hM.b.trans h1, hM.lo, hA⟩, hM.below ha⟩

/-- A Write, whatever it is handed, of a disk that runs. -/
def St.wr (s : St) (k : Int) (t : ByteArray) : St := if 0 ≤ k ∧ k < (s.n : Int) ∧ t.size ≤ 128 then s.burn.put k.toNat (pad t.data.toList) else s
def St.wc (s : St) (k : Int) (t : ByteArray) : Int := if 0 ≤ k ∧ k < (s.n : Int) then (if t.size ≤ 128 then 0 else 4) else 50
theorem St.Ok.wr (h : s.Ok) (k : Int) (t : ByteArray) : (s.wr k t).Ok := by
  unfold St.wr
  split
  · rename_i hc
    exact (h.burn).put (by show k.toNat < s.n; omega) (pad_len hc.2.2)
  · exact h
theorem St.wr_n (k : Int) (t : ByteArray) : (s.wr k t).n = s.n := by
  unfold St.wr
  split <;> rfl
theorem St.wr_lit (k : Int) (t : ByteArray) : (s.wr k t).lit = s.lit := by
  unfold St.wr
  split <;> rfl
theorem St.wr_good (k : Int) (t : ByteArray) : (s.wr k t).good = s.good := by
  unfold St.wr
  split <;> rfl
theorem St.wr_len (k : Int) (t : ByteArray) : (s.wr k t).loose.length ≤ s.loose.length + 1 := by
  unfold St.wr
  split
  · show (s.loose ++ [_]).length ≤ _
    simp
  · omega
theorem St.wr_mem (k : Int) (t : ByteArray) : ∀ x ∈ (s.wr k t).loose, x ∈ s.loose ∨ (0 ≤ k ∧ k < (s.n : Int) ∧ t.size ≤ 128 ∧ x = (k.toNat, pad t.data.toList)) := by
  unfold St.wr
  split
  · rename_i hc
    intro x hx
    rcases List.mem_append.1 (show x ∈ s.loose ++ [_] from hx) with hx | hx
    · exact .inl hx
    · exact .inr ⟨hc.1, hc.2.1, hc.2.2, List.mem_singleton.1 hx⟩
  · exact fun x hx => .inl hx
theorem St.runs (h : s.lit = false) : s.still = false := by unfold St.still; rw [h]; rfl
theorem St.crash_ok (h : s.Ok) (ps : List Int) : (s.crash ps).Ok := (h.settle _).fuse false (by omega)
end Sec

theorem has_new (n : Nat) (w : World) (h1 : 1 ≤ n) (h2 : n ≤ 4096) :
    Calls Try.prog 8 #[.int .i64 (n : Int)] w fun e w' => ∃ p, e = .returned (.tuple #[.pointer (some ⟨p, 0, none⟩), .int .i64 0]) ∧ Sec.Has p w.heap.size (Sec.St.fresh n) w' ∧ Below w.heap.size w w' :=
  (sec_new n w h1 h2).mono fun _ _ ⟨D, h1, h2, h3, h4⟩ => ⟨D.b, h1, ⟨D, rfl, h4, h2⟩, h3⟩

theorem has_write (p lo : Nat) (s : Sec.St) (w : World) (h : Sec.Has p lo s w) (hs : s.Ok) (hd : s.still = false) (hlim : s.loose.length ≤ 1000000000) (k : Int) (t : ByteArray) :
    Calls Try.prog 9 #[.pointer (some ⟨p, 0, none⟩), .int .i64 k, .string t] w fun e w' => e = .returned (.int .i64 (s.wc k t)) ∧ Sec.Now p lo (s.wr k t) w w' := by
  obtain ⟨D, h1, h2, hA⟩ := h
  have e : (Value.pointer (some ⟨p, 0, none⟩)) = D.ptr := by rw [← h1]; rfl
  rw [e]
  by_cases hk : 0 ≤ k ∧ k < (s.n : Int)
  · obtain ⟨j, rfl⟩ := Int.eq_ofNat_of_zero_le hk.1
    by_cases ht : t.size ≤ 128
    · have e1 : s.wc (j : Int) t = 0 := by unfold Sec.St.wc; rw [if_pos hk, if_pos ht]
      have e2 : s.wr (j : Int) t = s.burn.put j (Sec.pad t.data.toList) := by unfold Sec.St.wr; rw [if_pos ⟨hk.1, hk.2, ht⟩]; rfl
      rw [e1, e2]
      exact (sec_write_ok D s w hA hs j t (by omega) ht hd hlim).mono fun e w' ⟨a, b⟩ => ⟨a, .of h1 h2 hA b⟩
    · have e1 : s.wc (j : Int) t = 4 := by unfold Sec.St.wc; rw [if_pos hk, if_neg ht]
      have e2 : s.wr (j : Int) t = s := by unfold Sec.St.wr; rw [if_neg (fun hc => ht hc.2.2)]
      rw [e1, e2]
      exact (sec_write_long D s w hA hs j t (by omega) (by omega)).mono fun e w' ⟨a, b⟩ => ⟨a, by subst b; exact ⟨⟨D, h1, h2, hA⟩, .refl _ _⟩⟩
  · have e1 : s.wc k t = 50 := by unfold Sec.St.wc; rw [if_neg hk]
    have e2 : s.wr k t = s := by unfold Sec.St.wr; rw [if_neg (fun hc => hk ⟨hc.1, hc.2.1⟩)]
    rw [e1, e2]
    exact (sec_write_range D s w hA hs k t (by omega)).mono fun e w' ⟨a, b⟩ => ⟨a, by subst b; exact ⟨⟨D, h1, h2, hA⟩, .refl _ _⟩⟩

theorem has_write_down (p lo : Nat) (s : Sec.St) (w : World) (h : Sec.Has p lo s w) (hs : s.Ok) (hd : s.still = true) (k : Nat) (hk : k < s.n) (t : ByteArray) (ht : t.size ≤ 128) :
    Calls Try.prog 9 #[.pointer (some ⟨p, 0, none⟩), .int .i64 (k : Int), .string t] w fun e w' => e = .returned (.int .i64 51) ∧ w = w' := by
  obtain ⟨D, rfl, h2, hA⟩ := h
  exact sec_write_down D s w hA hs k t hk ht hd

theorem has_sync (p lo : Nat) (s : Sec.St) (w : World) (h : Sec.Has p lo s w) (hs : s.Ok) (hd : s.still = false) (hlim : s.loose.length ≤ 1000000000) :
    Calls Try.prog 11 #[.pointer (some ⟨p, 0, none⟩)] w fun e w' => e = .returned (.int .i64 0) ∧ Sec.Now p lo (s.burn.settle (fun _ => 128)) w w' := by
  obtain ⟨D, rfl, h2, hA⟩ := h
  exact (sec_sync D s w hA hs hd hlim).mono fun e w' ⟨a, b⟩ => ⟨a, .of rfl h2 hA b⟩

theorem has_crash (p lo : Nat) (s : Sec.St) (w : World) (h : Sec.Has p lo s w) (hs : s.Ok) (hlim : s.loose.length ≤ 1000000000) (A : Option Addr) (c : Nat) (ps : List Int) (hn : ps.length ≤ maxLen)
    (hp : 0 < ps.length → ∃ ad, A = some ad ∧ ad.block < w.heap.size ∧ ad.block < lo ∧ ∀ j p, ps[j]? = some p → w.cell? (ad.add j) = some (.int .i64 p)) :
    Calls Try.prog 10 #[.pointer (some ⟨p, 0, none⟩), .slice A ps.length c] w fun e w' => e = .returned (.int .i64 0) ∧ Sec.Now p lo (s.crash ps) w w' := by
  obtain ⟨D, rfl, h2, hA⟩ := h
  exact (sec_crash D s w hA hs A c ps (fun h0 => by
    obtain ⟨ad, a, b, d, f⟩ := hp h0
    exact ⟨ad, a, b, hA.low (by omega), f⟩) hn hlim).mono fun e w' ⟨a, b⟩ => ⟨a, .of rfl h2 hA b⟩

/-- The picks in a block that was made since. -/
theorem has_crash_new (p lo : Nat) (s : Sec.St) (w0 w : World) (h : Sec.Has p lo s w0) (hb : Below w0.heap.size w0 w) (hs : s.Ok) (hlim : s.loose.length ≤ 1000000000) (A : Option Addr) (c : Nat) (ps : List Int) (hn : ps.length ≤ maxLen)
    (hp : 0 < ps.length → ∃ ad, A = some ad ∧ ad.block < w.heap.size ∧ w0.heap.size ≤ ad.block ∧ ∀ j p, ps[j]? = some p → w.cell? (ad.add j) = some (.int .i64 p)) :
    Calls Try.prog 10 #[.pointer (some ⟨p, 0, none⟩), .slice A ps.length c] w fun e w' => e = .returned (.int .i64 0) ∧ Sec.Now p lo (s.crash ps) w w' := by
  obtain ⟨D, rfl, h2, hA⟩ := h
  have hA' := hA.below hb
  have l1 := hA.ltb
  have l2 := hA.lts
  have l3 := hA.ltm
  exact (sec_crash D s w hA' hs A c ps (fun h0 => by
    obtain ⟨ad, a, b, d, f⟩ := hp h0
    exact ⟨ad, a, b, ⟨by omega, by omega, by omega, fun e => by have := (hA.row.lt _ e.symm).2; omega⟩, f⟩) hn hlim).mono fun e w' ⟨a, b⟩ => ⟨a, .of rfl h2 hA' b⟩

theorem has_fuse (p lo : Nat) (s : Sec.St) (w : World) (h : Sec.Has p lo s w) (hs : s.Ok) (n : Nat) :
    Calls Try.prog 16 #[.pointer (some ⟨p, 0, none⟩), .int .i64 (n : Int)] w fun e w' => e = .returned (.int .i64 0) ∧ Sec.Now p lo { s with lit := true, left := n } w w' := by
  obtain ⟨D, rfl, h2, hA⟩ := h
  exact (sec_fuse D s w hA hs n).mono fun e w' ⟨a, b, c⟩ => ⟨a, .of rfl h2 hA ⟨D, b, c⟩⟩
theorem has_len (p lo : Nat) (s : Sec.St) (w : World) (h : Sec.Has p lo s w) (hs : s.Ok) :
    Calls Try.prog 17 #[.pointer (some ⟨p, 0, none⟩)] w fun e w' => e = .returned (.int .i64 (s.n : Int)) ∧ w = w' := by
  obtain ⟨D, rfl, h2, hA⟩ := h
  exact sec_len D s w hA hs
theorem has_loose (p lo : Nat) (s : Sec.St) (w : World) (h : Sec.Has p lo s w) (hs : s.Ok) :
    Calls Try.prog 12 #[.pointer (some ⟨p, 0, none⟩)] w fun e w' => e = .returned (.int .i64 (s.loose.length : Int)) ∧ w = w' := by
  obtain ⟨D, rfl, h2, hA⟩ := h
  exact sec_loose D s w hA hs
theorem has_sure (p lo : Nat) (s : Sec.St) (w : World) (h : Sec.Has p lo s w) (hs : s.Ok) :
    Calls Try.prog 13 #[.pointer (some ⟨p, 0, none⟩)] w fun e w' => e = .returned (.string ⟨s.good.toArray⟩) ∧ Below w.heap.size w w' := by
  obtain ⟨D, rfl, h2, hA⟩ := h
  exact sec_sure D s w hA hs
theorem has_read (p lo : Nat) (s : Sec.St) (w : World) (h : Sec.Has p lo s w) (hs : s.Ok) (hd : s.still = false) (k : Nat) (hk : k < s.n) :
    Calls Try.prog 14 #[.pointer (some ⟨p, 0, none⟩), .int .i64 (k : Int)] w fun e w' => e = .returned (.tuple #[.string ⟨((s.now.drop (k * 128)).take 128).toArray⟩, .int .i64 0]) ∧ w = w' := by
  obtain ⟨D, rfl, h2, hA⟩ := h
  exact sec_read D s w hA hs k hk hd
theorem has_read_down (p lo : Nat) (s : Sec.St) (w : World) (h : Sec.Has p lo s w) (hs : s.Ok) (hd : s.still = true) (k : Int) :
    Calls Try.prog 14 #[.pointer (some ⟨p, 0, none⟩), .int .i64 k] w fun e w' => e = .returned (.tuple #[.string ByteArray.empty, .int .i64 51]) ∧ w = w' := by
  obtain ⟨D, rfl, h2, hA⟩ := h
  exact sec_read_down D s w hA hs k hd
theorem has_front (p lo : Nat) (s : Sec.St) (w : World) (h : Sec.Has p lo s w) (hs : s.Ok) (hd : s.still = false) (t : ByteArray) (ht : t.size ≤ 128) (hnow : (s.now.drop 0).take 128 = Sec.pad t.data.toList) :
    Calls Try.prog 18 #[.pointer (some ⟨p, 0, none⟩), .string t] w fun e w' => e = .returned (.bool true) ∧ Below w.heap.size w w' := by
  obtain ⟨D, rfl, h2, hA⟩ := h
  exact front_yes D s w hA hs hd t ht hnow
end Go.Proofs.Ytmoifihgomjbcaa
