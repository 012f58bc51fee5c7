/-
  Contracts of code.bound, Encode.
-/
import Derived.Test.YtndgafjnifkghaaCdK
namespace Go.Proofs.Ytndgafjnifkghaa
open Go.RowKit

namespace Cd
/-- What Encode tells: the bytes, the code. -/
def enc (p : List FnV) : List UInt8 × Int := if pok p then (if 16384 < (pbs p).length then ([], 4) else (pbs p, 0)) else ([], 2)
theorem obs_len {l : List OpV} (h : ∀ o ∈ l, o.Rng) : (obs l).length ≤ 50 * l.length := by
  induction l with
  | nil => simp [obs]
  | cons o l ih =>
    have h1 := OpV.bytes_len (h o (by simp))
    have h2 := ih (fun z hz => h z (by simp [hz]))
    have e : obs (o :: l) = o.bytes ++ obs l := by unfold obs; rw [List.flatMap_cons]
    rw [e, List.length_append, List.length_cons]
    omega
theorem FnV.bytes_len {f : FnV} (h : f.Rng) (hl : f.ops.length ≤ 64) : f.bytes.length ≤ 3230 := by
  rw [FnV.bytes_head, List.length_append]
  have h1 := obs_len h.ops
  unfold FnV.head
  rw [List.length_append, List.length_append]
  have h2 := uv_len f.args h.args.2
  have h3 := uv_len f.regs h.regs.2
  have h4 := Lib.uvarint_length64 (x := f.ops.length) (by omega)
  omega
theorem fbs_len {l : List FnV} (h : ∀ f ∈ l, f.Rng ∧ f.ops.length ≤ 64) : (fbs l).length ≤ 3230 * l.length := by
  induction l with
  | nil => simp [fbs]
  | cons f l ih =>
    have h1 := FnV.bytes_len (h f (by simp)).1 (h f (by simp)).2
    have h2 := ih (fun z hz => h z (by simp [hz]))
    have e : fbs (f :: l) = f.bytes ++ fbs l := by unfold fbs; rw [List.flatMap_cons]
    rw [e, List.length_append, List.length_cons]
    omega
theorem pbs_len {p : List FnV} (hR : ∀ f ∈ p, f.Rng) (hk : pok p = true) : (pbs p).length ≤ 100000 := by
  unfold pok at hk
  simp only [Bool.and_eq_true, decide_eq_true_eq, List.all_eq_true] at hk
  have h1 := fbs_len (l := p) (fun f hf => ⟨hR f hf, (FnV.ok_parts (hk.2 f hf)).2.2.1⟩)
  unfold pbs
  rw [List.length_append, List.length_append]
  have h2 := Lib.uvarint_length64 (x := p.length) (by omega)
  have h3 := Lib.uvarint_length64 (x := 1) (by omega)
  omega
theorem fns_rng {l : List Fm} (h : ∀ m ∈ l, m.f.Rng) : ∀ f ∈ fns l, f.Rng := fun f hf => by
  obtain ⟨m, hm, rfl⟩ := List.mem_map.1 hf
  exact h m hm
end Cd

set_option maxHeartbeats 400000 in
theorem cbound (s : ByteArray) (hs : s.size ≤ maxLen) (w : World) :
    Calls Try.prog 23 #[.string s] w fun e w' => e = .returned (.tuple #[.string (if 16384 < s.size then ⟨#[]⟩ else s), .int .i64 (if 16384 < s.size then 4 else 0)]) ∧ w = w' := by
  unfold maxLen at hs
  by_cases h : 16384 < s.size
  · have h1 : (16384 : Int) < s.size := by omega
    have HH := Lib.hid h
    clear h
    go_enter Try.func23, Try.ntmps23
    go_wp2_with fail
    go_ret2
    exact ⟨rfl, rfl⟩
  · have h1 : ¬ (16384 : Int) < s.size := by omega
    have HH := Lib.hid h
    clear h
    go_enter Try.func23, Try.ntmps23
    go_wp2_with fail
    go_ret2
    exact ⟨rfl, rfl⟩

set_option maxHeartbeats 600000 in
set_option maxRecDepth 20000 in
theorem cEncode (l : List Cd.Fm) (hR : ∀ m ∈ l, m.f.Rng) (hn : l.length ≤ maxLen) (A : Option Addr) (c : Nat) (w : World) (hP : Cd.Prog w w.heap.size A l) :
    Calls Try.prog 11 #[.agg #[.slice A l.length c]] w fun e w' => e = .returned (.tuple #[.string ⟨(Cd.enc (Cd.fns l)).1.toArray⟩, .int .i64 (Cd.enc (Cd.fns l)).2]) ∧ Below w.heap.size w w' := by
  obtain ⟨W, hW⟩ : ∃ W, W = w.alloc (.cells #[.slice A l.length c] 24) := ⟨_, rfl⟩
  have hb : Below w.heap.size w W := by rw [hW]; exact Cd.fn1 _ _ _
  have HF : Hid (W.heap[w.heap.size]? = some (.cells #[.slice A l.length c] 24 (0, 0))) := by show _ = _; rw [hW]; exact heap_alloc_new w _
  have HB := Lib.hid hb
  have HP := Lib.hid hP
  have HR := Lib.hid hR
  clear hb hP hR
  go_enter Try.func11, Try.ntmps11
  go_upto_region 1 with fail
  rw [← hW]
  clear hW
  go_wp2_with fail
  refine (ckinds _).mono ?_
  rintro e w2 ⟨B, rfl, hk⟩
  have HT : Hid (Cd.Tbl w2 B) := hk.m
  have HB2 : Hid (Below w.heap.size w w2) := HB.out.trans (hk.bel.mono HB.out.size)
  have HF2 := Lib.hid ((hk.bel.block _ (Cd.ltH HF.out)).trans HF.out)
  have c0 : w2.cell? ⟨w.heap.size, 0, none⟩ = some (.slice A l.length c) := cell_of_row _ _ 0 _ _ _ HF2.out
  have HP2 := Lib.hid ((HP.out.below HB2.out).mono HB2.out.size)
  clear hk HF HB
  go_wp2_with fail
  refine (cmay l HR.out hn A c B w2 HT.out HP2.out).mono ?_
  rintro e w3 ⟨rfl, hb3⟩
  have HB3 : Hid (Below w.heap.size w w3) := HB2.out.trans (hb3.mono HB2.out.size)
  have HT3 : Hid (Cd.Tbl w3 B) := Gm.MapF.below HT.out hb3
  have HF3 := Lib.hid ((hb3.block _ (Cd.ltH HF2.out)).trans HF2.out)
  have d0 : w3.cell? ⟨w.heap.size, 0, none⟩ = some (.slice A l.length c) := cell_of_row _ _ 0 _ _ _ HF3.out
  have HP3 := Lib.hid ((HP.out.below HB3.out).mono HB3.out.size)
  clear hb3 HT HF2 c0 HP2 HB2
  cases hp : Cd.pok (Cd.fns l) with
  | false =>
    have HE : Hid (Cd.enc (Cd.fns l) = ([], 2)) := by show _ = _; unfold Cd.enc; rw [hp]; rfl
    clear hp
    go_wp2_with fail
    go_ret2
    exact ⟨by rw [HE.out]; rfl, HB3.out⟩
  | true =>
    have HE : Hid (Cd.enc (Cd.fns l) = if 16384 < (Cd.pbs (Cd.fns l)).length then ([], 4) else (Cd.pbs (Cd.fns l), 0)) := by show _ = _; unfold Cd.enc; rw [hp]; rfl
    have HC := Lib.hid (cprog l HR.out hp A c B w3 HT3.out HP3.out)
    have HPL := Lib.hid (Cd.pbs_len (Cd.fns_rng HR.out) hp)
    clear hp
    go_wp2_with fail
    refine HC.out.mono ?_
    rintro e w4 ⟨rfl, hb4⟩
    have HB4 : Hid (Below w.heap.size w w4) := HB3.out.trans (hb4.mono HB3.out.size)
    clear hb4
    have hsz : (⟨(Cd.pbs (Cd.fns l)).toArray⟩ : ByteArray).size = (Cd.pbs (Cd.fns l)).length := rfl
    have HBD := Lib.hid (cbound ⟨(Cd.pbs (Cd.fns l)).toArray⟩ (by rw [hsz]; have := HPL.out; unfold maxLen; omega) w4)
    rw [hsz] at HBD
    clear hsz
    by_cases h : 16384 < (Cd.pbs (Cd.fns l)).length
    · rw [if_pos h] at HE
      rw [if_pos h, if_pos h] at HBD
      clear h
      go_wp2_with fail
      refine HBD.out.mono ?_
      rintro e w5 ⟨rfl, rfl⟩
      go_wp2_with fail
      go_ret2
      exact ⟨by rw [HE.out]; rfl, HB4.out⟩
    · rw [if_neg h] at HE
      rw [if_neg h, if_neg h] at HBD
      clear h
      go_wp2_with fail
      refine HBD.out.mono ?_
      rintro e w5 ⟨rfl, rfl⟩
      go_wp2_with fail
      go_ret2
      exact ⟨by rw [HE.out]; rfl, HB4.out⟩
end Go.Proofs.Ytndgafjnifkghaa
