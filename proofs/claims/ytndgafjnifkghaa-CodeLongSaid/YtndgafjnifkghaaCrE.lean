/-
  The document's num, opBytes (layer 10): an op's bytes.
-/
import Derived.Test.YtndgafjnifkghaaCrC
import Derived.Test.YtndgafjnifkghaaLowCdI
import Derived.Test.YtndgafjnifkghaaWireF
namespace Go.Proofs.Ytndgafjnifkghaa
open Go.RowKit

set_option maxHeartbeats 400000 in
theorem rNum10 (x : Nat) (hx : (x : Int) ≤ 9223372036854775807) (w : World) :
    Calls Try.prog 48 #[.int .i64 (x : Int)] w fun e w' => e = .returned (.string ⟨(Lib.uvarint x).toArray⟩) ∧ Below w.heap.size w w' := by
  have hw : IntKind.u64.wrap (x : Int) = (x : Int) := by rw [IntKind.wrap_u64]; omega
  have H := Lib.hid (fuint_any (x : Int) w (by omega) (by omega))
  rw [Int.toNat_natCast] at H
  go_enter Try.func48, Try.ntmps48
  go_wp2_with fail
  refine H.out.mono ?_
  rintro e w1 ⟨rfl, hb1⟩
  have HB := Lib.hid hb1
  clear hb1
  go_wp2_with fail
  go_ret
  exact ⟨rfl, HB.out⟩

namespace Cd
theorem uv_nat (y : Nat) : uv (y : Int) = Lib.uvarint y := by unfold uv; rw [Int.toNat_natCast]
/-- A part's bytes, if the kind has it. -/
def prtB (h : Bool) (l : List UInt8) : List UInt8 := if h then l else []
theorem bytes_parts (o : OpV) : o.bytes = Lib.uvarint o.k ++ prtB (hD o.k) (uv o.d) ++ prtB (hA o.k) (uv o.a) ++ prtB (hB o.k) (uv o.b) ++ prtB (hN o.k) (Lib.uvarint (Lib.zigzag o.n)) := by
  unfold OpV.bytes OpV.regs prtB
  cases hD o.k <;> cases hA o.k <;> cases hB o.k <;> cases hN o.k <;> simp
end Cd

set_option maxHeartbeats 3000000 in
set_option maxRecDepth 20000 in
theorem rOpBytes10 (o : Cd.OpV) (hok : o.ok = true) (hR : o.Rng) (w : World) : Calls Try.prog 49 #[.agg #[.int .u8 (o.k : Int), .int .i64 o.d, .int .i64 o.a, .int .i64 o.b, .int .i64 o.n]] w fun e w' => e = .returned (.string ⟨o.bytes.toArray⟩) ∧ Below w.heap.size w w' := by
  have hbp := Cd.bytes_parts o
  obtain ⟨o1, o2, o3⟩ := Cd.OpV.ok_reg hok
  rw [Cd.reg_iff] at o1 o2 o3
  generalize o.bytes = OUT at hbp ⊢
  obtain ⟨k, d, a, b, n⟩ := o
  have hk : k < 256 := hR.k
  have hn := hR.n
  simp only at o1 o2 o3 hbp hk hn ⊢
  clear hok hR
  obtain ⟨d', rfl⟩ := Int.eq_ofNat_of_zero_le o1.1
  obtain ⟨a', rfl⟩ := Int.eq_ofNat_of_zero_le o2.1
  obtain ⟨b', rfl⟩ := Int.eq_ofNat_of_zero_le o3.1
  rw [Cd.uv_nat, Cd.uv_nat, Cd.uv_nat] at hbp
  obtain ⟨W, hW⟩ : ∃ W, W = w.alloc (.cells #[.int .u8 (k : Int), .int .i64 (d' : Int), .int .i64 (a' : Int), .int .i64 (b' : Int), .int .i64 n] 43) := ⟨_, rfl⟩
  have hb : Below w.heap.size w W := by rw [hW]; exact Cd.fn1 _ _ _
  have HF : Hid (Cd.OB W w.heap.size ⟨k, d', a', b', n⟩) := by show W.heap[_]? = _; rw [hW]; exact heap_alloc_new w _
  have HB := Lib.hid hb
  have HHAS := Lib.hid (fun U => rHas10 k hk U)
  have HNK := Lib.hid (fun U => rNum10 k (by omega) U)
  have HND := Lib.hid (fun U => rNum10 d' (by omega) U)
  have HNA := Lib.hid (fun U => rNum10 a' (by omega) U)
  have HNB := Lib.hid (fun U => rNum10 b' (by omega) U)
  have HNN := Lib.hid (fun U => fint_any n U hn.1 hn.2)
  have lk := Lib.uvarint_length64 (x := k) (by omega)
  have ld := Lib.uvarint_length64 (x := d') (by omega)
  have la := Lib.uvarint_length64 (x := a') (by omega)
  have lb := Lib.uvarint_length64 (x := b') (by omega)
  have ln := Lib.uvarint_length64 (Lib.zigzag_lt hn.1 hn.2)
  have hwk : IntKind.i64.wrap (k : Int) = (k : Int) := by rw [IntKind.wrap_i64]; omega
  generalize Cd.hD k = pd at HHAS hbp
  generalize Cd.hA k = pa at HHAS hbp
  generalize Cd.hB k = pb at HHAS hbp
  generalize Cd.hN k = pn at HHAS hbp
  generalize Lib.uvarint k = Lk at HNK lk hbp
  generalize Lib.uvarint d' = Ld at HND ld hbp
  generalize Lib.uvarint a' = La at HNA la hbp
  generalize Lib.uvarint b' = Lb at HNB lb hbp
  generalize Lib.uvarint (Lib.zigzag n) = Ln at HNN ln hbp
  have HBP := Lib.hid hbp
  clear hb o1 o2 o3 hbp hn hk
  go_enter Try.func49, Try.ntmps49
  go_upto_region 1 with fail
  rw [← hW]
  clear hW
  obtain ⟨X, hX⟩ : ∃ X, X = w.heap.size := ⟨_, rfl⟩
  rw [← hX] at HF ⊢
  clear hX
  have c0 := HF.out.c0
  go_wp2_with fail
  refine (HNK.out _).mono ?_
  rintro e w1 ⟨rfl, hb1⟩
  have H := Lib.hid hb1
  have c0 := (HF.out.below hb1).c0
  clear hb1
  go_wp2_with fail
  refine (HHAS.out _).mono ?_
  rintro e w2 ⟨rfl, rfl⟩
  clear HNK HHAS hwk
  cases pd with
  | true =>
    have c1 := (HF.out.below H.out).c1
    go_wp2_with fail
    refine (HND.out _).mono ?_
    rintro e w3 ⟨rfl, hb3⟩
    have H0 := H
    clear H
    have H := Lib.hid (H0.out.trans (hb3.mono H0.out.size))
    clear hb3 H0 c1
    go_upto_region 5 with fail
    rw [mk_append]
    have lx0 : (Lk ++ Ld).length ≤ 20 := by rw [List.length_append]; omega
    obtain ⟨Q0, hQ0⟩ : ∃ Q, Q = Lk ++ Ld := ⟨_, rfl⟩
    rw [← hQ0] at lx0 ⊢
    have HQ0 := Lib.hid hQ0
    clear hQ0
    cases pa with
    | true =>
      have c2 := (HF.out.below H.out).c2
      go_wp2_with fail
      refine (HNA.out _).mono ?_
      rintro e w3 ⟨rfl, hb3⟩
      have H0 := H
      clear H
      have H := Lib.hid (H0.out.trans (hb3.mono H0.out.size))
      clear hb3 H0 c2
      go_upto_region 7 with fail
      rw [mk_append]
      have lx1 : (Q0 ++ La).length ≤ 30 := by rw [List.length_append]; omega
      obtain ⟨Q1, hQ1⟩ : ∃ Q, Q = Q0 ++ La := ⟨_, rfl⟩
      rw [← hQ1] at lx1 ⊢
      have HQ1 := Lib.hid hQ1
      clear hQ1
      cases pb with
      | true =>
        have c3 := (HF.out.below H.out).c3
        go_wp2_with fail
        refine (HNB.out _).mono ?_
        rintro e w3 ⟨rfl, hb3⟩
        have H0 := H
        clear H
        have H := Lib.hid (H0.out.trans (hb3.mono H0.out.size))
        clear hb3 H0 c3
        go_upto_region 9 with fail
        rw [mk_append]
        have lx2 : (Q1 ++ Lb).length ≤ 40 := by rw [List.length_append]; omega
        obtain ⟨Q2, hQ2⟩ : ∃ Q, Q = Q1 ++ Lb := ⟨_, rfl⟩
        rw [← hQ2] at lx2 ⊢
        have HQ2 := Lib.hid hQ2
        clear hQ2
        cases pn with
        | true =>
          have c4 := (HF.out.below H.out).c4
          go_wp2_with fail
          refine (HNN.out _).mono ?_
          rintro e w3 ⟨rfl, hb3⟩
          have H0 := H
          clear H
          have H := Lib.hid (H0.out.trans (hb3.mono H0.out.size))
          clear hb3 H0 c4
          go_upto_region 11 with fail
          rw [mk_append]
          have lx3 : (Q2 ++ Ln).length ≤ 50 := by rw [List.length_append]; omega
          obtain ⟨Q3, hQ3⟩ : ∃ Q, Q = Q2 ++ Ln := ⟨_, rfl⟩
          rw [← hQ3] at lx3 ⊢
          have HQ3 := Lib.hid hQ3
          clear hQ3
          go_wp2_with fail
          go_ret
          exact ⟨by rw [HBP.out, HQ3.out, HQ2.out, HQ1.out, HQ0.out]; simp [Cd.prtB], HB.out.trans (H.out.mono HB.out.size)⟩
        | false =>
          go_wp2_with fail
          go_ret
          exact ⟨by rw [HBP.out, HQ2.out, HQ1.out, HQ0.out]; simp [Cd.prtB], HB.out.trans (H.out.mono HB.out.size)⟩
      | false =>
        cases pn with
        | true =>
          have c4 := (HF.out.below H.out).c4
          go_wp2_with fail
          refine (HNN.out _).mono ?_
          rintro e w3 ⟨rfl, hb3⟩
          have H0 := H
          clear H
          have H := Lib.hid (H0.out.trans (hb3.mono H0.out.size))
          clear hb3 H0 c4
          go_upto_region 11 with fail
          rw [mk_append]
          have lx3 : (Q1 ++ Ln).length ≤ 50 := by rw [List.length_append]; omega
          obtain ⟨Q3, hQ3⟩ : ∃ Q, Q = Q1 ++ Ln := ⟨_, rfl⟩
          rw [← hQ3] at lx3 ⊢
          have HQ3 := Lib.hid hQ3
          clear hQ3
          go_wp2_with fail
          go_ret
          exact ⟨by rw [HBP.out, HQ3.out, HQ1.out, HQ0.out]; simp [Cd.prtB], HB.out.trans (H.out.mono HB.out.size)⟩
        | false =>
          go_wp2_with fail
          go_ret
          exact ⟨by rw [HBP.out, HQ1.out, HQ0.out]; simp [Cd.prtB], HB.out.trans (H.out.mono HB.out.size)⟩
    | false =>
      cases pb with
      | true =>
        have c3 := (HF.out.below H.out).c3
        go_wp2_with fail
        refine (HNB.out _).mono ?_
        rintro e w3 ⟨rfl, hb3⟩
        have H0 := H
        clear H
        have H := Lib.hid (H0.out.trans (hb3.mono H0.out.size))
        clear hb3 H0 c3
        go_upto_region 9 with fail
        rw [mk_append]
        have lx2 : (Q0 ++ Lb).length ≤ 40 := by rw [List.length_append]; omega
        obtain ⟨Q2, hQ2⟩ : ∃ Q, Q = Q0 ++ Lb := ⟨_, rfl⟩
        rw [← hQ2] at lx2 ⊢
        have HQ2 := Lib.hid hQ2
        clear hQ2
        cases pn with
        | true =>
          have c4 := (HF.out.below H.out).c4
          go_wp2_with fail
          refine (HNN.out _).mono ?_
          rintro e w3 ⟨rfl, hb3⟩
          have H0 := H
          clear H
          have H := Lib.hid (H0.out.trans (hb3.mono H0.out.size))
          clear hb3 H0 c4
          go_upto_region 11 with fail
          rw [mk_append]
          have lx3 : (Q2 ++ Ln).length ≤ 50 := by rw [List.length_append]; omega
          obtain ⟨Q3, hQ3⟩ : ∃ Q, Q = Q2 ++ Ln := ⟨_, rfl⟩
          rw [← hQ3] at lx3 ⊢
          have HQ3 := Lib.hid hQ3
          clear hQ3
          go_wp2_with fail
          go_ret
          exact ⟨by rw [HBP.out, HQ3.out, HQ2.out, HQ0.out]; simp [Cd.prtB], HB.out.trans (H.out.mono HB.out.size)⟩
        | false =>
          go_wp2_with fail
          go_ret
          exact ⟨by rw [HBP.out, HQ2.out, HQ0.out]; simp [Cd.prtB], HB.out.trans (H.out.mono HB.out.size)⟩
      | false =>
        cases pn with
        | true =>
          have c4 := (HF.out.below H.out).c4
          go_wp2_with fail
          refine (HNN.out _).mono ?_
          rintro e w3 ⟨rfl, hb3⟩
          have H0 := H
          clear H
          have H := Lib.hid (H0.out.trans (hb3.mono H0.out.size))
          clear hb3 H0 c4
          go_upto_region 11 with fail
          rw [mk_append]
          have lx3 : (Q0 ++ Ln).length ≤ 50 := by rw [List.length_append]; omega
          obtain ⟨Q3, hQ3⟩ : ∃ Q, Q = Q0 ++ Ln := ⟨_, rfl⟩
          rw [← hQ3] at lx3 ⊢
          have HQ3 := Lib.hid hQ3
          clear hQ3
          go_wp2_with fail
          go_ret
          exact ⟨by rw [HBP.out, HQ3.out, HQ0.out]; simp [Cd.prtB], HB.out.trans (H.out.mono HB.out.size)⟩
        | false =>
          go_wp2_with fail
          go_ret
          exact ⟨by rw [HBP.out, HQ0.out]; simp [Cd.prtB], HB.out.trans (H.out.mono HB.out.size)⟩
  | false =>
    cases pa with
    | true =>
      have c2 := (HF.out.below H.out).c2
      go_wp2_with fail
      refine (HNA.out _).mono ?_
      rintro e w3 ⟨rfl, hb3⟩
      have H0 := H
      clear H
      have H := Lib.hid (H0.out.trans (hb3.mono H0.out.size))
      clear hb3 H0 c2
      go_upto_region 7 with fail
      rw [mk_append]
      have lx1 : (Lk ++ La).length ≤ 30 := by rw [List.length_append]; omega
      obtain ⟨Q1, hQ1⟩ : ∃ Q, Q = Lk ++ La := ⟨_, rfl⟩
      rw [← hQ1] at lx1 ⊢
      have HQ1 := Lib.hid hQ1
      clear hQ1
      cases pb with
      | true =>
        have c3 := (HF.out.below H.out).c3
        go_wp2_with fail
        refine (HNB.out _).mono ?_
        rintro e w3 ⟨rfl, hb3⟩
        have H0 := H
        clear H
        have H := Lib.hid (H0.out.trans (hb3.mono H0.out.size))
        clear hb3 H0 c3
        go_upto_region 9 with fail
        rw [mk_append]
        have lx2 : (Q1 ++ Lb).length ≤ 40 := by rw [List.length_append]; omega
        obtain ⟨Q2, hQ2⟩ : ∃ Q, Q = Q1 ++ Lb := ⟨_, rfl⟩
        rw [← hQ2] at lx2 ⊢
        have HQ2 := Lib.hid hQ2
        clear hQ2
        cases pn with
        | true =>
          have c4 := (HF.out.below H.out).c4
          go_wp2_with fail
          refine (HNN.out _).mono ?_
          rintro e w3 ⟨rfl, hb3⟩
          have H0 := H
          clear H
          have H := Lib.hid (H0.out.trans (hb3.mono H0.out.size))
          clear hb3 H0 c4
          go_upto_region 11 with fail
          rw [mk_append]
          have lx3 : (Q2 ++ Ln).length ≤ 50 := by rw [List.length_append]; omega
          obtain ⟨Q3, hQ3⟩ : ∃ Q, Q = Q2 ++ Ln := ⟨_, rfl⟩
          rw [← hQ3] at lx3 ⊢
          have HQ3 := Lib.hid hQ3
          clear hQ3
          go_wp2_with fail
          go_ret
          exact ⟨by rw [HBP.out, HQ3.out, HQ2.out, HQ1.out]; simp [Cd.prtB], HB.out.trans (H.out.mono HB.out.size)⟩
        | false =>
          go_wp2_with fail
          go_ret
          exact ⟨by rw [HBP.out, HQ2.out, HQ1.out]; simp [Cd.prtB], HB.out.trans (H.out.mono HB.out.size)⟩
      | false =>
        cases pn with
        | true =>
          have c4 := (HF.out.below H.out).c4
          go_wp2_with fail
          refine (HNN.out _).mono ?_
          rintro e w3 ⟨rfl, hb3⟩
          have H0 := H
          clear H
          have H := Lib.hid (H0.out.trans (hb3.mono H0.out.size))
          clear hb3 H0 c4
          go_upto_region 11 with fail
          rw [mk_append]
          have lx3 : (Q1 ++ Ln).length ≤ 50 := by rw [List.length_append]; omega
          obtain ⟨Q3, hQ3⟩ : ∃ Q, Q = Q1 ++ Ln := ⟨_, rfl⟩
          rw [← hQ3] at lx3 ⊢
          have HQ3 := Lib.hid hQ3
          clear hQ3
          go_wp2_with fail
          go_ret
          exact ⟨by rw [HBP.out, HQ3.out, HQ1.out]; simp [Cd.prtB], HB.out.trans (H.out.mono HB.out.size)⟩
        | false =>
          go_wp2_with fail
          go_ret
          exact ⟨by rw [HBP.out, HQ1.out]; simp [Cd.prtB], HB.out.trans (H.out.mono HB.out.size)⟩
    | false =>
      cases pb with
      | true =>
        have c3 := (HF.out.below H.out).c3
        go_wp2_with fail
        refine (HNB.out _).mono ?_
        rintro e w3 ⟨rfl, hb3⟩
        have H0 := H
        clear H
        have H := Lib.hid (H0.out.trans (hb3.mono H0.out.size))
        clear hb3 H0 c3
        go_upto_region 9 with fail
        rw [mk_append]
        have lx2 : (Lk ++ Lb).length ≤ 40 := by rw [List.length_append]; omega
        obtain ⟨Q2, hQ2⟩ : ∃ Q, Q = Lk ++ Lb := ⟨_, rfl⟩
        rw [← hQ2] at lx2 ⊢
        have HQ2 := Lib.hid hQ2
        clear hQ2
        cases pn with
        | true =>
          have c4 := (HF.out.below H.out).c4
          go_wp2_with fail
          refine (HNN.out _).mono ?_
          rintro e w3 ⟨rfl, hb3⟩
          have H0 := H
          clear H
          have H := Lib.hid (H0.out.trans (hb3.mono H0.out.size))
          clear hb3 H0 c4
          go_upto_region 11 with fail
          rw [mk_append]
          have lx3 : (Q2 ++ Ln).length ≤ 50 := by rw [List.length_append]; omega
          obtain ⟨Q3, hQ3⟩ : ∃ Q, Q = Q2 ++ Ln := ⟨_, rfl⟩
          rw [← hQ3] at lx3 ⊢
          have HQ3 := Lib.hid hQ3
          clear hQ3
          go_wp2_with fail
          go_ret
          exact ⟨by rw [HBP.out, HQ3.out, HQ2.out]; simp [Cd.prtB], HB.out.trans (H.out.mono HB.out.size)⟩
        | false =>
          go_wp2_with fail
          go_ret
          exact ⟨by rw [HBP.out, HQ2.out]; simp [Cd.prtB], HB.out.trans (H.out.mono HB.out.size)⟩
      | false =>
        cases pn with
        | true =>
          have c4 := (HF.out.below H.out).c4
          go_wp2_with fail
          refine (HNN.out _).mono ?_
          rintro e w3 ⟨rfl, hb3⟩
          have H0 := H
          clear H
          have H := Lib.hid (H0.out.trans (hb3.mono H0.out.size))
          clear hb3 H0 c4
          go_upto_region 11 with fail
          rw [mk_append]
          have lx3 : (Lk ++ Ln).length ≤ 50 := by rw [List.length_append]; omega
          obtain ⟨Q3, hQ3⟩ : ∃ Q, Q = Lk ++ Ln := ⟨_, rfl⟩
          rw [← hQ3] at lx3 ⊢
          have HQ3 := Lib.hid hQ3
          clear hQ3
          go_wp2_with fail
          go_ret
          exact ⟨by rw [HBP.out, HQ3.out]; simp [Cd.prtB], HB.out.trans (H.out.mono HB.out.size)⟩
        | false =>
          go_wp2_with fail
          go_ret
          exact ⟨by rw [HBP.out]; simp [Cd.prtB], HB.out.trans (H.out.mono HB.out.size)⟩
end Go.Proofs.Ytndgafjnifkghaa
