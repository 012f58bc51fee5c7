/-
  Law 8: that a small known run is as it should be.
-/
import Derived.Test.YtnojjfpccnmbeaaTpP
namespace Go.Proofs.Ytnojjfpccnmbeaa
open Go.RowKit

namespace Tk
abbrev kA : ByteArray := ⟨#[97]⟩
abbrev kB : ByteArray := ⟨#[98]⟩
abbrev kX : ByteArray := ⟨#[120]⟩
theorem one_of {l : List Tm} {x : Tm} (h : l.Perm [x]) : l = [x] := List.perm_singleton.1 h
theorem al1 : setC 0 [] kA 5 = 0 ∧ setL 0 [] kA 5 = [(kA, 5)] := by decide
theorem al2 : setC 0 [(kA, 5)] kB 3 = 0 ∧ setL 0 [(kA, 5)] kB 3 = [(kA, 5), (kB, 3)] := by decide
theorem al3 : setC 0 [(kA, 5), (kB, 3)] kA 4 = 0 ∧ setL 0 [(kA, 5), (kB, 3)] kA 4 = [(kB, 3), (kA, 4)] := by decide
theorem al4 : tickC 0 3 = 0 ∧ tickC 3 9 = 0 := by decide
theorem al5 : Due (0 + 3) [(kB, 3), (kA, 4)] [(kB, 3)] [(kA, 4)] := ⟨List.Perm.refl _, List.pairwise_singleton .., fun x hx => by rw [List.mem_singleton.1 hx]; decide, fun x hx => by rw [List.mem_singleton.1 hx]; decide⟩
theorem al6 : stopL [kA, kA, kX] [(kA, 4)] = [] := by decide
end Tk

set_option maxRecDepth 20000 in
set_option maxHeartbeats 4000000 in
theorem alive8_any (w : World) : Calls Try.prog 9 #[] w fun e w' => e = .returned (.bool true) ∧ Below w.heap.size w w' := by
  go_enter Try.func9, Try.ntmps9
  go_wp2_with fail
  refine (tknew w).mono ?_
  rintro e w1 ⟨T, Q, B, rfl, h1, hb1, hT, hQ, hB⟩
  have HS1 := Lib.hid (tkset h1 (by simp) Tk.kA 5)
  rw [Tk.al1.1] at HS1
  have HB1 := Lib.hid hb1
  have HLOW := Lib.hid (And.intro hT (And.intro hQ hB))
  clear h1 hb1 hT hQ hB
  go_wp2_with fail
  refine HS1.out.mono ?_
  rintro e w2 ⟨rfl, H2⟩
  obtain ⟨v2, l2, h2, m2, p2⟩ := H2.out
  rw [Tk.al1.2] at p2
  obtain rfl := Tk.one_of p2
  have HS2 := Lib.hid (tkset h2 (by simp) Tk.kB 3)
  rw [Tk.al2.1] at HS2
  have HM2 : Hid (Tk.Mvt (Tk.POff T Q B (.slice none 0 0)) (Tk.POff T Q B v2) w1 w2) := m2
  clear h2 m2 p2 H2
  go_wp2_with fail
  refine HS2.out.mono ?_
  rintro e w3 ⟨rfl, H3⟩
  obtain ⟨v3, l3, h3, m3, p3⟩ := H3.out
  rw [Tk.al2.2] at p3
  have hl3 : l3.length = 2 := p3.length_eq
  have HS3 := Lib.hid (tkset h3 (by omega) Tk.kA 4)
  rw [Tk.setC_perm p3, Tk.al3.1] at HS3
  have HM3 : Hid (Tk.Mvt (Tk.POff T Q B (.slice none 0 0)) (Tk.POff T Q B v3) w1 w3) := HM2.out.trans m3
  have HP3 := Lib.hid p3
  clear h3 m3 p3 H3 hl3
  go_wp2_with fail
  refine HS3.out.mono ?_
  rintro e w4 ⟨rfl, H4⟩
  obtain ⟨v4, l4, h4, m4, p4⟩ := H4.out
  have p4' : l4.Perm [(Tk.kB, 3), (Tk.kA, 4)] := by
    have := p4.trans (Tk.setL_perm HP3.out Tk.kA 4)
    rwa [Tk.al3.2] at this
  have hl4 : l4.length = 2 := p4'.length_eq
  have HT1 := Lib.hid (tktick h4 (by omega) (by omega) (by omega) 3)
  have HM4 : Hid (Tk.Mvt (Tk.POff T Q B (.slice none 0 0)) (Tk.POff T Q B v4) w1 w4) := HM3.out.trans m4
  have HP4 := Lib.hid p4'
  clear h4 m4 p4 p4' H4 hl4
  go_wp2_with fail
  refine HT1.out.mono ?_
  rintro e w5 (⟨hne, _⟩ | ⟨_, A5, n5, out, rest, v5, rfl, hd, h5, m5, lo, la⟩)
  · exact absurd Tk.al4.1 hne
  obtain ⟨e5, q5⟩ := Tk.Due.one HP4.out hd Tk.al5
  obtain rfl := Tk.one_of q5
  subst e5
  have HM5 : Hid (Tk.Mvt (Tk.POff T Q B (.slice none 0 0)) (Tk.POff T Q B v5) w1 w5) := HM4.out.trans m5
  have h5' : Tk.PTm T Q B v5 3 [(Tk.kA, 4)] w5 := h5
  have HN := Lib.hid (tknext h5')
  have H5 := Lib.hid h5'
  obtain ⟨p, rfl, hpb, z0, z1⟩ := Tk.at2 lo (k := 0) (by simp)
  have hz : p.add (0 * 2) = p := by simp [Addr.add]
  rw [hz] at z0 z1
  have HOUT : Hid (p.block < w5.heap.size ∧ w5.cell? p = some (.string Tk.kB) ∧ w5.cell? ⟨p.block, p.off + 1, none⟩ = some (.int .i64 3) ∧ Tk.POff T Q B v5 p.block ∧ w4.heap.size ≤ p.block) := ⟨hpb, z0, z1, (la p rfl).2.1, (la p rfl).1⟩
  clear hd h5 h5' m5 lo la q5 z0 z1 hz hpb
  go_wp2_with fail
  refine HN.out.mono ?_
  rintro e w6 ⟨⟨o, rfl, ho⟩, hb6⟩
  have ho2 : o = some (Tk.kA, 4) := by
    cases o with
    | none => cases (show [(Tk.kA, (4 : Int))] = [] from ho)
    | some x => exact congrArg some (by have := (show Tk.First _ _ from ho).1; simpa using this)
  subst ho2
  have HB6 := Lib.hid hb6
  clear ho hb6
  unfold Tk.nval
  obtain ⟨W7, hW7⟩ : ∃ W7, W7 = (w6.alloc (.cells #[.string Tk.kA, .int .i64 4] 42)).alloc (.cells #[.string Tk.kA, .string Tk.kA, .string Tk.kX] 9) := ⟨_, rfl⟩
  have hb7 : Below w5.heap.size w5 W7 := by rw [hW7]; exact (HB6.out.alloc HB6.out.size _).alloc (Nat.le_trans HB6.out.size (by simp)) _
  have r7 : W7.heap[w6.heap.size]? = some (.cells #[.string Tk.kA, .int .i64 4] 42 (0, 0)) := by rw [hW7]; exact heap_alloc2_old w6 _ _
  have s7 : W7.heap[w6.heap.size + 1]? = some (.cells #[.string Tk.kA, .string Tk.kA, .string Tk.kX] 9 (0, 0)) := by rw [hW7]; exact heap_alloc2_new w6 _ _
  have HL7 : Hid (Lies W7 W7.heap.size (some ⟨w6.heap.size + 1, 0, none⟩) ([Tk.kA, Tk.kA, Tk.kX].map Value.string)) := fun _ => ⟨_, rfl, Tk.ltHeap s7, fun j u hu => by
    rw [Tk.add0]
    exact (cell_of_row _ _ _ _ _ _ s7).trans (by simpa using hu)⟩
  have H7 := Lib.hid (H5.out.below hb7)
  have HF7 : Hid (∀ g, w5.heap.size ≤ g → Tk.POff T Q B v5 g) := fun g hg => H5.out.fresh hg
  have HST := Lib.hid (tkstop H7.out (by simp) [Tk.kA, Tk.kA, Tk.kX] (some ⟨w6.heap.size + 1, 0, none⟩) 3 HL7.out (fun ad had => by
    obtain rfl := Option.some.inj had
    exact HF7.out _ (by have := HB6.out.size; simp only; omega)) (fun k hk => by
      have : k.size = 1 := by
        simp only [List.mem_cons, List.not_mem_nil, or_false] at hk
        rcases hk with rfl | rfl | rfl <;> rfl
      unfold maxLen; omega) (by simp))
  have hst : (([(Tk.kA, (4 : Int))].length - (Tk.stopL [Tk.kA, Tk.kA, Tk.kX] [(Tk.kA, 4)]).length : Nat) : Int) = 1 := by rw [Tk.al6]; rfl
  rw [hst] at HST
  have HB7 := Lib.hid hb7
  have HR7 := Lib.hid r7
  clear hb7 r7 s7 hst
  go_wp2_with fail
  rw [← hW7]
  clear hW7
  refine HST.out.mono ?_
  rintro e w8 ⟨rfl, H8⟩
  obtain ⟨v8, l8, h8, m8, p8⟩ := H8.out
  rw [Tk.al6] at p8
  obtain rfl := List.perm_nil.1 p8
  have HT2 := Lib.hid (tktick h8 (by simp) (by omega) (by omega) 9)
  have HM8 := Lib.hid m8
  clear h8 m8 p8 H8
  go_wp2_with fail
  refine HT2.out.mono ?_
  rintro e w9 (⟨hne, _⟩ | ⟨_, A9, n9, out9, rest9, v9, rfl, hd9, h9, m9, lo9, la9⟩)
  · exact absurd Tk.al4.2 hne
  have hnil := hd9.perm.length_eq
  simp at hnil
  obtain ⟨rfl, rfl⟩ := hnil
  have h9' : Tk.PTm T Q B v9 12 [] w9 := h9
  have HNOW := Lib.hid (tknow h9')
  have HM9 : Hid (Tk.Mvt (Tk.POff T Q B v5) (Tk.POff T Q B v9) W7 w9) := HM8.out.trans m9
  have hs7 := HB7.out.size
  have hout := HOUT.out
  have hs6 := HB6.out.size
  have hrl : w6.heap.size < W7.heap.size := Tk.ltHeap HR7.out
  have g0 : w9.cell? p = some (.string Tk.kB) := by
    rw [World.cell?_of_block (HM9.out.block p.block (by omega) hout.2.2.2.1), World.cell?_of_block (HB7.out.block p.block (by omega))]
    exact hout.2.1
  have g1 : w9.cell? ⟨p.block, p.off + 1, none⟩ = some (.int .i64 3) := by
    rw [World.cell?_of_block (a := ⟨p.block, p.off + 1, none⟩) (HM9.out.block p.block (by omega) hout.2.2.2.1), World.cell?_of_block (a := ⟨p.block, p.off + 1, none⟩) (HB7.out.block p.block (by omega))]
    exact hout.2.2.1
  have gr : w9.heap[w6.heap.size]? = some (.cells #[.string Tk.kA, .int .i64 4] 42 (0, 0)) := (HM9.out.block _ hrl (HF7.out _ (by omega))).trans HR7.out
  have g2 : w9.cell? ⟨w6.heap.size, 0, none⟩ = some (.string Tk.kA) := cell_of_row _ _ 0 _ _ _ gr
  have g3 : w9.cell? ⟨w6.heap.size, 1, none⟩ = some (.int .i64 4) := cell_of_row _ _ 1 _ _ _ gr
  have HEND : Hid (Below w.heap.size w w9) := by
    have hl := HLOW.out
    have m5 := HM5.out
    have hoff1 : ∀ i, i < w.heap.size → Tk.POff T Q B (.slice none 0 0) i := fun i hi => ⟨by omega, by omega, by omega, by simp [Value.ownBlock]⟩
    have hb1 := HB1.out
    have s1 := hb1.size
    have s5 := m5.size
    refine ⟨HM9.out.os.trans (HB7.out.os.trans (m5.os.trans hb1.os)), HM9.out.tape.trans (HB7.out.tape.trans (m5.tape.trans hb1.tape)), HM9.out.output.trans (HB7.out.output.trans (m5.output.trans hb1.output)), by have := HM9.out.size; omega, fun i hi => ?_⟩
    rw [HM9.out.block i (by omega) (m5.keep i (by omega) (hoff1 i hi)), HB7.out.block i (by omega), m5.block i (by omega) (hoff1 i hi)]
    exact hb1.block i hi
  clear hd9 h9 h9' m9 lo9 la9 hs7 hout hs6 hrl gr
  go_wp2_with (go_at_call 21; refine HNOW.out.mono ?_; rintro e w10 ⟨rfl, rfl⟩)
  go_ret
  exact ⟨rfl, HEND.out⟩
end Go.Proofs.Ytnojjfpccnmbeaa
