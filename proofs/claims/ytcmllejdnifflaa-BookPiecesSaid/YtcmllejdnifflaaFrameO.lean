/-
  A law's frames, opened: a frame by value, a slice of frames, a slice of texts with what it may hold.
-/
import Derived.Test.YtcmllejdnifflaaWireO
import Derived.Test.YtcmllejdnifflaaLowFrameS
namespace Go.Proofs.Ytcmllejdnifflaa
open Go.ChangeShapes Go.WideShapes Go.RowKit Go.Deep

section
variable {H : Type} {enc : TypeId × Value → H} {P : Program} {w : World}
theorem trod_cap {t e : TypeId} {fuel : Nat} {cs : List Value} {x : DataW H × List MemPlace} (ht : P.underlying t = some (.slice e)) (h : DataW.trod enc P w 0 (fun _ => true) true fuel t cs = some x) :
    ∃ (A : Option Addr) (n c : Nat), cs = [.slice A n c] ∧ n ≤ c := by
  rcases open_slice ht h with ⟨rfl, _⟩ | ⟨a, len, cap, m, n, D, Pl, rfl, _, hl, _⟩
  · exact ⟨none, 0, 0, rfl, Nat.le_refl _⟩
  · exact ⟨_, len, cap, rfl, hl⟩

/-- A slice of texts, with what it may hold. -/
theorem trod_strsc {t e : TypeId} {fuel : Nat} {cs : List Value} {x : DataW H × List MemPlace} (ht : P.underlying t = some (.slice e)) (he : P.underlying e = some .string) (hk : P.cellsOf e = 1)
    (h : DataW.trod enc P w 0 (fun _ => true) true fuel t cs = some x) :
    ∃ (xs : List ByteArray) (A : Option Addr) (c : Nat), cs = [.slice A xs.length c] ∧ xs.length ≤ maxLen ∧ Lies w w.heap.size A (tcells xs) ∧ ((∀ x ∈ xs, x.size ≤ maxLen) ∧ xs.length ≤ c) := by
  obtain ⟨xs, A, c, hcs, h1, h2, h3⟩ := trod_strs ht he hk h
  obtain ⟨A', n, c', hcs', h4⟩ := trod_cap ht h
  rw [hcs] at hcs'
  cases hcs'
  exact ⟨xs, A, c, hcs, h1, h2, h3, h4⟩
end

theorem frm_cells : Try.prog.cellsOf 80 = 2 := by kernel_rfl
theorem frm_c0 : Try.prog.cellsOf 5 = 1 := by kernel_rfl
theorem frm_c1 : Try.prog.cellsOf 9 = 1 := by kernel_rfl

section
variable {H : Type} {enc : TypeId × Value → H} {w : World}
set_option maxRecDepth 100000 in
theorem trod_frame {fuel : Nat} {cs : List Value} {x : DataW H × List MemPlace} (h : DataW.trod enc Try.prog w 0 (fun _ => true) true fuel 80 cs = some x) :
    ∃ (g : UInt8) (s : ByteArray), cs = [.int .u8 (g.toNat : Int), .string s] ∧ s.size ≤ maxLen := by
  obtain ⟨xs, m, _, _, hlen, hxl, hf⟩ := DataW.trod_struct Try.underlying80 h
  rw [frm_cells] at hlen
  match cs, hlen, xs, hxl with
  | [c0, c1], _, [y0, y1], _ =>
    have f0 : DataW.trod enc Try.prog w 0 (fun _ => true) true m 5 (List.take (Try.prog.cellsOf 5) [c0, c1]) = some y0 := hf 0 _ rfl
    rw [frm_c0] at f0
    have f1 : DataW.trod enc Try.prog w 0 (fun _ => true) true m 9 (List.take (Try.prog.cellsOf 9) [c1]) = some y1 := hf 1 _ rfl
    rw [frm_c1] at f1
    obtain ⟨a0, e0, _, w0⟩ := DataW.trod_int Try.underlying5 f0
    obtain ⟨s, e1, _, hs⟩ := DataW.trod_string Try.underlying9 f1
    have b0 : 0 ≤ a0 ∧ a0 ≤ 255 := by simpa [Lit.wf, IntKind.min, IntKind.max, IntKind.signed, IntKind.bits] using w0
    have e0' : c0 = .int .u8 a0 := by simpa using e0
    have e1' : c1 = .string s := by simpa using e1
    refine ⟨UInt8.ofNat a0.toNat, s, ?_, hs⟩
    have e2 : ((UInt8.ofNat a0.toNat).toNat : Int) = a0 := by
      rw [UInt8.toNat_ofNat_of_lt' (by show a0.toNat < 256; omega)]
      omega
    rw [e0', e1', e2]

set_option maxRecDepth 100000 in
theorem frame_of {base : Nat} {v : Value} {g : UInt8} {s : ByteArray} (hv : Value.okWide Try.prog w .any base 80 v) (h : v.cells.toList = [.int .u8 (g.toNat : Int), .string s]) : v = .agg #[.int .u8 (g.toNat : Int), .string s] := by
  obtain ⟨cs, rfl, _⟩ := okWide_struct Try.underlying80 hv
  have : cs = #[.int .u8 (g.toNat : Int), .string s] := by
    apply Array.ext'
    simpa [Value.cells] using h
  rw [this]

theorem trod_frames {fuel : Nat} {cs : List Value} {x : DataW H × List MemPlace} (h : DataW.trod enc Try.prog w 0 (fun _ => true) true fuel 76 cs = some x) :
    ∃ (l : List (UInt8 × List UInt8)) (A : Option Addr) (c : Nat), cs = [.slice A l.length c] ∧ l.length ≤ maxLen ∧ Lies w w.heap.size A (Frame.fcells l) ∧ ((∀ f ∈ l, f.2.length ≤ maxLen) ∧ l.length ≤ c) := by
  obtain ⟨l, A, c, hcs, hn, hl⟩ := open_any (α := UInt8 × List UInt8) Try.underlying76 h (fun cs' a => cs' = [.int .u8 (a.1.toNat : Int), .string ⟨a.2.toArray⟩] ∧ a.2.length ≤ maxLen) (fun cs' n y hy => by
    obtain ⟨g, s, e, hs⟩ := trod_frame hy
    exact ⟨(g, s.data.toList), by rw [e], by simpa using hs⟩)
  obtain ⟨A', n, c', hcs', h4⟩ := trod_cap Try.underlying76 h
  rw [hcs] at hcs'
  cases hcs'
  refine ⟨l, A, c, hcs, hn, fun h0 => ?_, fun a ha => ?_, h4⟩
  · have h0' : 0 < l.length := by rw [Frame.fcells_len] at h0; omega
    obtain ⟨ad, hA, hb, hj⟩ := hl h0' (by rw [frm_cells]; decide)
    refine ⟨ad, hA, hb, fun j u hu => ?_⟩
    have hj2 : j < l.length * 2 := by rw [← Frame.fcells_len]; exact (List.getElem?_eq_some_iff.1 hu).1
    obtain ⟨cs', ⟨rfl, _⟩, _, hc⟩ := hj (j / 2) (by omega)
    rw [frm_cells] at hc
    obtain ⟨a0, a1⟩ := Frame.fcells_at l (j / 2) (by omega)
    have ea0 : (ad.add (j / 2 * 2)).add 0 = ad.add (2 * (j / 2)) := by rw [Nat.mul_comm]; rfl
    have ea1 : (ad.add (j / 2 * 2)).add 1 = ad.add (2 * (j / 2) + 1) := by rw [← Frame.pair1]; rfl
    rcases Nat.mod_two_eq_zero_or_one j with hm | hm
    · have e1 : j = 2 * (j / 2) := by omega
      rw [e1] at hu
      rw [a0] at hu
      have := hc 0 _ rfl
      rw [ea0, ← e1] at this
      rw [this, ← hu]
    · have e1 : j = 2 * (j / 2) + 1 := by omega
      rw [e1] at hu
      rw [a1] at hu
      have := hc 1 _ rfl
      rw [ea1, ← e1] at this
      rw [this, ← hu]
  · obtain ⟨j, hj, rfl⟩ := List.getElem_of_mem ha
    obtain ⟨_, _, _, hjj⟩ := hl (by omega) (by rw [frm_cells]; decide)
    obtain ⟨cs', ⟨_, hq⟩, _⟩ := hjj j hj
    exact hq
end
end Go.Proofs.Ytcmllejdnifflaa
