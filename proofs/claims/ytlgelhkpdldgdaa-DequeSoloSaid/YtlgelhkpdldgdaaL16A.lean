/-
  Layer 16: the document's example: the law's works.
-/
import Derived.Test.YtlgelhkpdldgdaaDqQ
namespace Go.Proofs.Ytlgelhkpdldgdaa
open Go.RowKit
set_option linter.unusedVariables false
set_option linter.unusedSimpArgs false

set_option maxRecDepth 200000 in
set_option maxHeartbeats 4000000 in
theorem alive16_any (w : World) : Calls Try.prog 7 #[] w fun e w' => e = .returned (.bool true) ∧ Below w.heap.size w w' := by
  have HN := Lib.hid (pm_new w)
  go_enter Try.func7, Try.ntmps7
  go_wp2_with fail
  refine HN.out.mono ?_
  rintro e w1 ⟨B, M, rfl, h1, hb1⟩
  have HC := Lib.hid (mm_make h1 hb1 0 (by decide) 1 (by decide))
  clear h1 hb1 HN
  go_wp2_with fail
  refine HC.out.mono ?_
  rintro e w2 ⟨D, R, rfl, h2⟩
  have l2 : Dq.Lv 0 ⟨Dq.newX 0 (1 : Nat), 0, [], none⟩ [] := Dq.Lv.init (by decide) (by decide)
  have HC2 := Lib.hid (mm_push h2 (.inl rfl) 5)
  have L2 := Lib.hid (l2.push (.inl rfl) (by decide) 5)
  clear h2 l2 HC
  go_wp2_with fail
  refine HC2.out.mono ?_
  rintro e w3 ⟨H0, P0, rfl, h3⟩
  have HC3 := Lib.hid (mm_push_busy h3 ⟨0, .new 0 5, rfl, rfl, rfl⟩ 6)
  have H3 := Lib.hid h3
  clear h3 HC2
  go_wp2_with fail
  refine HC3.out.mono ?_
  rintro e w3' ⟨rfl, rfl⟩
  have HC4 := Lib.hid (mm_wholeX Dq.T1 (by rw [Dq.f1.1]; decide) ⟨20, rfl⟩ H3.out L2.out (j := 0) (a := .new 0 5) (e := (H0, P0)) rfl rfl rfl rfl (by decide))
  clear HC3
  rw [Dq.f1.1] at HC4
  go_wp2_with fail
  refine HC4.out.mono ?_
  rintro e w4 ⟨rfl, hh⟩
  obtain ⟨n4, l4, hn4, h4, lv4⟩ := hh.out
  have hi4 : Dq.Sq.idle ⟨Dq.T1.1, n4, [Dq.T1.2], some 0⟩ := .inr ⟨0, Dq.T1.2, rfl, rfl, by rw [Dq.f1.1]; decide⟩
  have h4 : Dq.Mm w B M R D [(H0, P0)] ⟨Dq.T1.1, n4, [Dq.T1.2], some 0⟩ w4 := h4
  have lv4 : Dq.Lv 1 ⟨Dq.T1.1, n4, [Dq.T1.2], some 0⟩ l4 := lv4
  have hn4 : n4 ≤ 3000 := Nat.le_trans hn4 (by decide)
  have HC5 := Lib.hid (mm_push h4 hi4 6)
  have L5 := Lib.hid (lv4.push hi4 (by decide) 6)
  have N4 := Lib.hid hn4
  clear hh h4 lv4 hn4 hi4 HC4 H3 L2
  go_wp2_with fail
  refine HC5.out.mono ?_
  rintro e w5 ⟨H1, P1, rfl, h5⟩
  have HC6 := Lib.hid (mm_wholeX Dq.T2 (by rw [Dq.f1.2.1]; decide) ⟨30, rfl⟩ h5 L5.out (j := 1) (a := .new 0 6) (e := (H1, P1)) rfl rfl rfl rfl (by have := N4.out; show n4 ≤ _; omega))
  rw [Dq.f1.2.1] at HC6
  clear h5 HC5
  go_wp2_with fail
  refine HC6.out.mono ?_
  rintro e w6 ⟨rfl, hh⟩
  obtain ⟨n6, l6, hn6, h6, lv6⟩ := hh.out
  have h6 : Dq.Mm w B M R D [(H0, P0), (H1, P1)] ⟨Dq.T2.1, n6, [Dq.T1.2, Dq.T2.2], some 1⟩ w6 := h6
  have lv6 : Dq.Lv 2 ⟨Dq.T2.1, n6, [Dq.T1.2, Dq.T2.2], some 1⟩ l6 := lv6
  have hn6 : n6 ≤ 6000 := Nat.le_trans hn6 (by have := N4.out; show n4 + 2011 ≤ 6000; omega)
  have HC7 := Lib.hid (mm_steal h6)
  have L7 := Lib.hid lv6.steal
  have N6 := Lib.hid hn6
  clear hh h6 lv6 hn6 HC6 L5
  go_wp2_with fail
  refine HC7.out.mono ?_
  rintro e w7 ⟨H2, P2, rfl, h7⟩
  have L7' : Dq.Lv 2 ⟨Dq.T2.1, n6, [Dq.T1.2, Dq.T2.2, .new 2 0], some 1⟩ l6 := L7.out
  have h7 : Dq.Mm w B M R D [(H0, P0), (H1, P1), (H2, P2)] ⟨Dq.T2.1, n6, [Dq.T1.2, Dq.T2.2, .new 2 0], some 1⟩ w7 := h7
  have HC8 := Lib.hid (mm_some (Dq.goodT (al := False)) h7 (j := 2) (a := .new 2 0) (e := (H2, P2)) rfl rfl (L7'.beginT (al := False) (j := 2) (a := .new 2 0) rfl rfl rfl fun h => h.elim) 5 (by decide) Dq.f3 (by have := N6.out; show n6 ≤ _; omega))
  have L8 := Lib.hid L7'
  clear h7 L7 L7' HC7
  go_wp2_with fail
  refine HC8.out.mono ?_
  rintro e w8 ⟨rfl, hh⟩
  obtain ⟨s8, hw8, hx8⟩ := hh.out
  obtain ⟨l8, lv8, _⟩ := L8.out.goneT (j := 2) (a := .new 2 0) rfl rfl hw8.la hw8.oi hw8.g
  obtain ⟨xs8, n8, la8, oi8⟩ := s8
  have e1 : la8 = [Dq.T1.2, Dq.T2.2, Dq.Y3.2] := hw8.la
  have e2 : oi8 = some 1 := hw8.oi
  have e3 : xs8 = Dq.Y3.1 := hx8
  have hn8 : n8 ≤ 7000 := Nat.le_trans hw8.n (by have := N6.out; show n6 + 5 ≤ 7000; omega)
  have h8 := hw8.mm
  subst e1 e2 e3
  have hi8 : Dq.Sq.idle ⟨Dq.Y3.1, n8, [Dq.T1.2, Dq.T2.2, Dq.Y3.2], some 1⟩ := .inr ⟨1, Dq.T2.2, rfl, rfl, by rw [Dq.f1.2.1]; decide⟩
  have HC9 := Lib.hid (mm_pop h8 hi8)
  have L9 := Lib.hid (lv8.pop hi8)
  have N8 := Lib.hid hn8
  clear hh hw8 hx8 lv8 h8 hn8 hi8 HC8 L8
  go_wp2_with fail
  refine HC9.out.mono ?_
  rintro e w9 ⟨H3, P3, rfl, h9⟩
  have L9' : Dq.Lv 2 ⟨Dq.Y3.1, n8, [Dq.T1.2, Dq.T2.2, Dq.Y3.2, .new 1 0], some 3⟩ l8 := L9.out
  have h9 : Dq.Mm w B M R D [(H0, P0), (H1, P1), (H2, P2), (H3, P3)] ⟨Dq.Y3.1, n8, [Dq.T1.2, Dq.T2.2, Dq.Y3.2, .new 1 0], some 3⟩ w9 := h9
  have HC10 := Lib.hid (mm_wholeX Dq.T4 (by rw [Dq.f1.2.2.1]; decide) ⟨20, rfl⟩ h9 L9' (j := 3) (a := .new 1 0) (e := (H3, P3)) rfl rfl rfl rfl (by have := N8.out; show n8 ≤ _; omega))
  rw [Dq.f1.2.2.1, Dq.f1.2.2.2.1] at HC10
  clear h9 HC9 L9 L9'
  go_wp2_with fail
  refine HC10.out.mono ?_
  rintro e w10 ⟨rfl, hh⟩
  obtain ⟨n10, l10, hn10, h10, lv10⟩ := hh.out
  have h10 : Dq.Mm w B M R D [(H0, P0), (H1, P1), (H2, P2), (H3, P3)] ⟨Dq.T4.1, n10, [Dq.T1.2, Dq.T2.2, Dq.Y3.2, Dq.T4.2], some 3⟩ w10 := h10
  have lv10 : Dq.Lv 2 ⟨Dq.T4.1, n10, [Dq.T1.2, Dq.T2.2, Dq.Y3.2, Dq.T4.2], some 3⟩ l10 := lv10
  have hn10 : n10 ≤ 10000 := Nat.le_trans hn10 (by have := N8.out; show n8 + 2011 ≤ 10000; omega)
  have hi10 : Dq.Sq.idle ⟨Dq.T4.1, n10, [Dq.T1.2, Dq.T2.2, Dq.Y3.2, Dq.T4.2], some 3⟩ := .inr ⟨3, Dq.T4.2, rfl, rfl, by rw [Dq.f1.2.2.1]; decide⟩
  have HC11 := Lib.hid (mm_pop h10 hi10)
  have L11 := Lib.hid (lv10.pop hi10)
  have N10 := Lib.hid hn10
  clear hh h10 lv10 hn10 hi10 HC10
  go_wp2_with fail
  refine HC11.out.mono ?_
  rintro e w11 ⟨H4, P4, rfl, h11⟩
  have L11' : Dq.Lv 2 ⟨Dq.T4.1, n10, [Dq.T1.2, Dq.T2.2, Dq.Y3.2, Dq.T4.2, .new 1 0], some 4⟩ l10 := L11.out
  have h11 : Dq.Mm w B M R D [(H0, P0), (H1, P1), (H2, P2), (H3, P3), (H4, P4)] ⟨Dq.T4.1, n10, [Dq.T1.2, Dq.T2.2, Dq.Y3.2, Dq.T4.2, .new 1 0], some 4⟩ w11 := h11
  have hg11 := L11'.beginO (j := 4) (a := .new 1 0) rfl rfl rfl
  have HC12 := Lib.hid (mm_some (Dq.goodO 1 (by decide)) h11 (j := 4) (a := .new 1 0) (e := (H4, P4)) rfl rfl hg11.1 4 (by decide) Dq.f5 (by have := N10.out; show n10 ≤ _; omega))
  have L12 := Lib.hid L11'
  clear h11 L11 L11' hg11 HC11
  go_wp2_with fail
  refine HC12.out.mono ?_
  rintro e w12 ⟨rfl, hh⟩
  obtain ⟨s12, hw12, hx12⟩ := hh.out
  obtain ⟨l12, lv12, _⟩ := L12.out.goneO (j := 4) (a := .new 1 0) rfl rfl (by decide) hw12.la hw12.oi hw12.g
  obtain ⟨xs12, n12, la12, oi12⟩ := s12
  have e1 : la12 = [Dq.T1.2, Dq.T2.2, Dq.Y3.2, Dq.T4.2, Dq.Y5.2] := hw12.la
  have e2 : oi12 = some 4 := hw12.oi
  have e3 : xs12 = Dq.Y5.1 := hx12
  have hn12 : n12 ≤ 11000 := Nat.le_trans hw12.n (by have := N10.out; show n10 + 4 ≤ 11000; omega)
  have h12 := hw12.mm
  subst e1 e2 e3
  have hg12 := lv12.beginT (al := False) (j := 2) (a := Dq.Y3.2) rfl Dq.f6.1 Dq.f6.2.2.1 fun h => h.elim
  have hok12 := (Dq.goodT (al := False)).ok _ _ hg12 Dq.f6.2.2.1
  have HS12 := mm_step h12 (j := 2) (a := Dq.Y3.2) (e := (H2, P2)) rfl rfl Dq.f6.2.2.1 hok12.1 (by show n12 ≤ _; omega) hok12.2.1
  have ht : (Dq.acts 0 Dq.Y5.1 Dq.Y3.2).1.told = 2 := Dq.f1.2.2.2.2.1
  have hgt : (Dq.acts 0 Dq.Y5.1 Dq.Y3.2).1.got = 5 := Dq.f1.2.2.2.2.2.1
  have HC13 : Hid (Calls Try.prog 15 #[.pointer (some ⟨H2, 0, none⟩)] w12 fun e' w' => e' = .returned (.tuple #[.int .u8 2, .int .i64 5, .int .i64 0]) ∧ Hid (Dq.Mm w B M R D [(H0, P0), (H1, P1), (H2, P2), (H3, P3), (H4, P4)] (Dq.Sq.act ⟨Dq.Y5.1, n12, [Dq.T1.2, Dq.T2.2, Dq.Y3.2, Dq.T4.2, Dq.Y5.2], some 4⟩ 2 Dq.Y3.2) w')) := by
    rw [← ht, ← hgt]
    exact HS12
  have G13 : Hid (∃ L', Dq.Lv 2 (Dq.Sq.act ⟨Dq.Y5.1, n12, [Dq.T1.2, Dq.T2.2, Dq.Y3.2, Dq.T4.2, Dq.Y5.2], some 4⟩ 2 Dq.Y3.2) L') := by
    obtain ⟨L', h, _⟩ := lv12.goneT (s' := Dq.Sq.act ⟨Dq.Y5.1, n12, [Dq.T1.2, Dq.T2.2, Dq.Y3.2, Dq.T4.2, Dq.Y5.2], some 4⟩ 2 Dq.Y3.2) (j := 2) (a := Dq.Y3.2) rfl Dq.f6.1 rfl rfl ((Dq.goodT (al := False)).nx _ _ hg12 Dq.f6.2.2.1)
    exact ⟨L', h⟩
  have N12 : Hid (n12 + (Dq.acts 0 Dq.Y5.1 Dq.Y3.2).2.2.1 ≤ 12000) := by
    have h9 : (Dq.acts 0 Dq.Y5.1 Dq.Y3.2).2.2.1 ≤ 1 := hok12.2.2
    show n12 + (Dq.acts 0 Dq.Y5.1 Dq.Y3.2).2.2.1 ≤ 12000
    omega
  clear hh hw12 hx12 lv12 h12 hn12 hg12 hok12 HS12 ht hgt HC12 L12
  go_wp2_with fail
  refine HC13.out.mono ?_
  rintro e w13 ⟨rfl, hh⟩
  obtain ⟨l13, lv13⟩ := G13.out
  have h13 : Dq.Mm w B M R D [(H0, P0), (H1, P1), (H2, P2), (H3, P3), (H4, P4)] ⟨Dq.X6.1, n12 + (Dq.acts 0 Dq.Y5.1 Dq.Y3.2).2.2.1, [Dq.T1.2, Dq.T2.2, Dq.X6.2, Dq.T4.2, Dq.Y5.2], some 4⟩ w13 := hh.out
  have lv13 : Dq.Lv 2 ⟨Dq.X6.1, n12 + (Dq.acts 0 Dq.Y5.1 Dq.Y3.2).2.2.1, [Dq.T1.2, Dq.T2.2, Dq.X6.2, Dq.T4.2, Dq.Y5.2], some 4⟩ l13 := lv13
  have HC14 := Lib.hid (mm_wholeX Dq.T7 (by rw [Dq.f1.2.2.2.2.2.2.1]; decide) ⟨20, rfl⟩ h13 lv13 (j := 4) (a := Dq.Y5.2) (e := (H4, P4)) rfl rfl rfl Dq.f6.2.2.2 (by have := N12.out; show n12 + _ ≤ _; omega))
  rw [Dq.f1.2.2.2.2.2.2.1] at HC14
  clear hh h13 lv13 HC13 G13
  go_wp2_with fail
  refine HC14.out.mono ?_
  rintro e w14 ⟨rfl, hh⟩
  obtain ⟨n14, l14, hn14, h14, lv14⟩ := hh.out
  have h14 : Dq.Mm w B M R D [(H0, P0), (H1, P1), (H2, P2), (H3, P3), (H4, P4)] ⟨Dq.T7.1, n14, [Dq.T1.2, Dq.T2.2, Dq.X6.2, Dq.T4.2, Dq.T7.2], some 4⟩ w14 := h14
  have lv14 : Dq.Lv 2 ⟨Dq.T7.1, n14, [Dq.T1.2, Dq.T2.2, Dq.X6.2, Dq.T4.2, Dq.T7.2], some 4⟩ l14 := lv14
  have hi14 : Dq.Sq.idle ⟨Dq.T7.1, n14, [Dq.T1.2, Dq.T2.2, Dq.X6.2, Dq.T4.2, Dq.T7.2], some 4⟩ := .inr ⟨4, Dq.T7.2, rfl, rfl, by rw [Dq.f1.2.2.2.2.2.2.1]; decide⟩
  have hz : (l14.length : Int) = 0 := (lv14.size hi14).symm.trans Dq.f1.2.2.2.2.2.2.2
  have HS14 := mm_size h14 lv14 hi14
  rw [hz] at HS14
  have HC15 := Lib.hid HS14
  clear hh h14 lv14 hi14 hz HS14 HC14 hn14
  go_wp2_with fail
  refine HC15.out.mono ?_
  rintro e w15 ⟨rfl, hh⟩
  have HB := Lib.hid hh.out.bel
  clear hh HC15
  go_wp2_with fail
  go_ret
  exact ⟨rfl, HB.out⟩
end Go.Proofs.Ytlgelhkpdldgdaa
