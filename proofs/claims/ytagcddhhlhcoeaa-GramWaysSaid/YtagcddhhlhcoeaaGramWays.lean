/-
  A way that is cut stops what goes along it, and nothing else; and what was stopped may come once it is healed (GramWays).
-/
import Derived.Test.YtagcddhhlhcoeaaRows
import Derived.Test.YtagcddhhlhcoeaaPkH
import Derived.ProofKit
import Derived.OpenShut
import Derived.ShutString
namespace Go.Proofs.Ytagcddhhlhcoeaa.gramWays
open Go.ChangeShapes Go.WideShapes Go.ChangeAt Go.RowKit
open Go.ChangeMaps (open_string shut_string)

set_option maxHeartbeats 4000000 in
set_option maxRecDepth 20000 in
theorem ways (x y z : Int) (t : ByteArray) (h3 : Gm.Three x y z t) (x9 : 0 ≤ x ∧ x < 1024) (y9 : 0 ≤ y ∧ y < 1024) (z9 : 0 ≤ z ∧ z < 1024) (a b c : Int) (a0 : 0 ≤ a) (a1 : a ≤ 65535) (b0 : 0 ≤ b) (b1 : b ≤ 65535) (c0 : 0 ≤ c) (c1 : c ≤ 65535) (hx : a % 1024 = x) (hy : b % 1024 = y) (hz : c % 1024 = z) (w : World) :
    Calls Try.prog 7 #[.int .u16 a, .int .u16 b, .int .u16 c, .string t] w fun e w' => e = .returned (.bool true) ∧ Below w.heap.size w w' := by
  have HNW := Lib.hid (glw_new w)
  have H3 := Lib.hid h3
  have kt : ¬ ((16384 : Int) < (t.size : Int)) := by have := h3.t; omega
  have d1 : (x == y) = false := by simpa using h3.xy
  have d2 : (x == z) = false := by simpa using h3.xz
  have d3 : (y == z) = false := by simpa using h3.yz
  have hx2 : a.tmod 1024 = x := by rw [Int.tmod_eq_emod_of_nonneg a0]; exact hx
  have hy2 : b.tmod 1024 = y := by rw [Int.tmod_eq_emod_of_nonneg b0]; exact hy
  have hz2 : c.tmod 1024 = z := by rw [Int.tmod_eq_emod_of_nonneg c0]; exact hz
  obtain ⟨x0, x1⟩ := x9
  obtain ⟨y0, y1⟩ := y9
  obtain ⟨z0, z1⟩ := z9
  clear h3
  go_enter Try.func7, Try.ntmps7
  go_wp2_with fail
  refine HNW.out.mono ?_
  rintro e w1 ⟨R, B, C, rfl, h1⟩
  -- Cut(x, y)
  have HC1 := Lib.hid (glw_cut h1 (by simp) x y)
  rw [H3.out.cut.1, H3.out.cut.2.1] at HC1
  clear h1
  go_wp2_with fail
  refine HC1.out.mono ?_
  rintro e w2 ⟨rfl, h2, _⟩
  -- Send(x, t, y, z)
  obtain ⟨V, hV⟩ : ∃ V, V = w2.alloc (.cells #[.int .i64 y, .int .i64 z] 3) := ⟨_, rfl⟩
  have hbV : Below w2.heap.size w2 V := by rw [hV]; exact (Below.refl _ _).alloc (Nat.le_refl _) _
  have HC2 := Lib.hid (glw_send (h2.below hbV) (by omega) x t [y, z] (some ⟨w2.heap.size, 0, none⟩) 2 (by rw [hV]; exact Gm.lies_two w2 y z _) (fun p hp => by obtain rfl := Option.some.inj hp; exact h2.p.fresh (Nat.le_refl _)) (by simp))
  rw [H3.out.send1L.1, H3.out.send1L.2] at HC2
  clear h2 hbV HC1
  go_wp2_with fail
  rw [← hV]
  clear hV
  refine HC2.out.mono ?_
  rintro e w3 ⟨rfl, h3, _⟩
  -- Send(y, t, x)
  obtain ⟨V3, hV3⟩ : ∃ V, V = w3.alloc (.cells #[.int .i64 x] 3) := ⟨_, rfl⟩
  have hbV3 : Below w3.heap.size w3 V3 := by rw [hV3]; exact (Below.refl _ _).alloc (Nat.le_refl _) _
  have HC3 := Lib.hid (glw_send (h3.below hbV3) (by omega) y t [x] (some ⟨w3.heap.size, 0, none⟩) 1 (by rw [hV3]; exact Gm.lies_one w3 x _) (fun p hp => by obtain rfl := Option.some.inj hp; exact h3.p.fresh (Nat.le_refl _)) (by simp))
  rw [H3.out.send2L.1, H3.out.send2L.2] at HC3
  clear h3 hbV3 HC2
  go_wp2_with fail
  rw [← hV3]
  clear hV3
  refine HC3.out.mono ?_
  rintro e w4 ⟨rfl, h4, _⟩
  -- Ready
  have HC4 := Lib.hid (glw_ready h4 (by omega) (updq_small _ (by simp)))
  rw [H3.out.stop] at HC4
  have H4 := Lib.hid h4
  clear h4 HC3
  go_wp2_with fail
  refine HC4.out.mono ?_
  rintro e w5 ⟨v, rfl, hrow, hb5⟩
  obtain ⟨A, cc, rfl⟩ := Gm.own_form hrow
  have hli : ∃ g : Nat, A = some ⟨g, 0, none⟩ ∧ w4.heap.size ≤ g ∧ g < w5.heap.size ∧ w5.cell? ⟨g, 0, none⟩ = some (.int .u64 2) ∧ w5.cell? ⟨g, 1, none⟩ = some (.int .u64 3) := by
    rcases hrow.2 with ⟨e, h0⟩ | ⟨g, cap, cur, e1, hg, hh, _⟩
    · simp at h0
    · obtain rfl : A = some ⟨g, 0, none⟩ := by injection e1
      have c0 := hrow.cells (g := g) rfl 0 (.int .u64 2) rfl
      have c1 := hrow.cells (g := g) rfl 1 (.int .u64 3) rfl
      exact ⟨g, rfl, hg, (hrow.lt g rfl).2, c0, c1⟩
  obtain ⟨g, rfl, hg4, hg5, q0, q1⟩ := hli
  have h5 := H4.out.below hb5
  have hof : Gm.POff R B C g := H4.out.p.fresh hg4
  -- Take(1)
  have HC5 := Lib.hid (glw_take h5 1 (by omega) (by omega))
  rw [H3.out.take1.1, H3.out.take1.2] at HC5
  have HQ5 : Hid (g < w5.heap.size ∧ Gm.POff R B C g ∧ w5.cell? ⟨g, 0, none⟩ = some (.int .u64 2) ∧ w5.cell? ⟨g, 1, none⟩ = some (.int .u64 3)) := ⟨hg5, hof, q0, q1⟩
  clear h5 hof q0 q1 hg4 hg5 hrow hb5 HC4 H4
  go_wp2_with fail
  refine HC5.out.mono ?_
  rintro e w6 ⟨rfl, h6, m6⟩
  obtain ⟨V6, hV6⟩ : ∃ V, V = w6.alloc (.cells #[.int .u64 0, .int .i64 0, .int .i64 0, .string ⟨#[]⟩] 41) := ⟨_, rfl⟩
  have hbV6 : Below w6.heap.size w6 V6 := by rw [hV6]; exact (Below.refl _ _).alloc (Nat.le_refl _) _
  have HQ6 : Hid (g < V6.heap.size ∧ Gm.POff R B C g ∧ V6.cell? ⟨g, 0, none⟩ = some (.int .u64 2) ∧ V6.cell? ⟨g, 1, none⟩ = some (.int .u64 3)) := by
    obtain ⟨q1, q2, q3, q4⟩ := HQ5.out
    have hs := m6.size
    have hs2 := hbV6.size
    have hbk := (hbV6.block g (by omega)).trans (m6.block g q1 q2)
    exact ⟨by omega, q2, (World.cell?_of_block (a := ⟨g, 0, none⟩) hbk).trans q3, (World.cell?_of_block (a := ⟨g, 1, none⟩) hbk).trans q4⟩
  -- Heal(x, y)
  have HC6 := Lib.hid (glw_heal (h6.below hbV6) x y)
  rw [H3.out.cut.1, H3.out.cut.2.2] at HC6
  clear h6 m6 hbV6 HQ5 HC5
  go_wp2_with fail
  rw [← hV6]
  clear hV6
  refine HC6.out.mono ?_
  rintro e w7 ⟨rfl, h7, m7⟩
  have HQ7 : Hid (g < w7.heap.size ∧ Gm.POff R B C g ∧ w7.cell? ⟨g, 0, none⟩ = some (.int .u64 2) ∧ w7.cell? ⟨g, 1, none⟩ = some (.int .u64 3)) := by
    obtain ⟨q1, q2, q3, q4⟩ := HQ6.out
    have hs := m7.size
    have hbk := m7.block g q1 q2
    exact ⟨by omega, q2, (World.cell?_of_block (a := ⟨g, 0, none⟩) hbk).trans q3, (World.cell?_of_block (a := ⟨g, 1, none⟩) hbk).trans q4⟩
  -- Take(1)
  have HC7 := Lib.hid (glw_take h7 1 (by omega) (by omega))
  rw [H3.out.take2] at HC7
  clear h7 m7 HQ6 HC6
  go_wp2_with fail
  refine HC7.out.mono ?_
  rintro e w8 ⟨rfl, h8, m8⟩
  obtain ⟨V8, hV8⟩ : ∃ V, V = w8.alloc (.cells #[.int .u64 1, .int .i64 x, .int .i64 y, .string t] 41) := ⟨_, rfl⟩
  have hbV8 : Below w8.heap.size w8 V8 := by rw [hV8]; exact (Below.refl _ _).alloc (Nat.le_refl _) _
  obtain ⟨q1, q2, q3, q4⟩ := HQ7.out
  have hbk := m8.block g q1 q2
  have g0 : w8.cell? ⟨g, 0, none⟩ = some (.int .u64 2) := (World.cell?_of_block (a := ⟨g, 0, none⟩) hbk).trans q3
  have g1 : w8.cell? ⟨g, 1, none⟩ = some (.int .u64 3) := (World.cell?_of_block (a := ⟨g, 1, none⟩) hbk).trans q4
  have g2 : g < w8.heap.size := by have := m8.size; omega
  have HB8 := Lib.hid (h8.bel.trans (hbV8.mono h8.bel.size))
  clear h8 m8 hbV8 q1 q2 q3 q4 hbk HQ7 HC7
  go_wp2_with fail
  rw [← hV8]
  clear hV8
  refine (alive9_any _).mono ?_
  rintro e w9 ⟨rfl, hb⟩
  have HB9 := Lib.hid (HB8.out.trans (hb.mono HB8.out.size))
  clear hb
  go_wp2_with fail
  go_ret
  exact ⟨rfl, HB9.out⟩

set_option maxHeartbeats 4000000 in
set_option maxRecDepth 20000 in
theorem alike (x y z : Int) (t : ByteArray) (ht : t.size ≤ 16384) (x9 : 0 ≤ x ∧ x < 1024) (y9 : 0 ≤ y ∧ y < 1024) (z9 : 0 ≤ z ∧ z < 1024) (he : x = y ∨ (x ≠ y ∧ x = z) ∨ (x ≠ y ∧ x ≠ z ∧ y = z)) (a b c : Int) (a0 : 0 ≤ a) (a1 : a ≤ 65535) (b0 : 0 ≤ b) (b1 : b ≤ 65535) (c0 : 0 ≤ c) (c1 : c ≤ 65535) (hx : a % 1024 = x) (hy : b % 1024 = y) (hz : c % 1024 = z) (w : World) :
    Calls Try.prog 7 #[.int .u16 a, .int .u16 b, .int .u16 c, .string t] w fun e w' => e = .returned (.bool true) ∧ Below w.heap.size w w' := by
  have kt : ¬ ((16384 : Int) < (t.size : Int)) := by omega
  have hx2 : a.tmod 1024 = x := by rw [Int.tmod_eq_emod_of_nonneg a0]; exact hx
  have hy2 : b.tmod 1024 = y := by rw [Int.tmod_eq_emod_of_nonneg b0]; exact hy
  have hz2 : c.tmod 1024 = z := by rw [Int.tmod_eq_emod_of_nonneg c0]; exact hz
  obtain ⟨x0, x1⟩ := x9
  obtain ⟨y0, y1⟩ := y9
  obtain ⟨z0, z1⟩ := z9
  have hd : ((x == y) = true) ∨ ((x == y) = false ∧ (x == z) = true) ∨ ((x == y) = false ∧ (x == z) = false ∧ (y == z) = true) := by
    rcases he with h | ⟨h1, h2⟩ | ⟨h1, h2, h3⟩
    · exact .inl (by simpa using h)
    · exact .inr (.inl ⟨by simpa using h1, by simpa using h2⟩)
    · exact .inr (.inr ⟨by simpa using h1, by simpa using h2, by simpa using h3⟩)
  clear he ht
  rcases hd with d1 | ⟨d1, d2⟩ | ⟨d1, d2, d3⟩
  all_goals
    go_enter Try.func7, Try.ntmps7
    go_wp2_with fail
    refine (alive9_any _).mono ?_
    rintro e w9 ⟨rfl, hb⟩
    have HB9 := Lib.hid hb
    clear hb
    go_wp2_with fail
    go_ret
    exact ⟨rfl, HB9.out⟩

set_option maxHeartbeats 4000000 in
set_option maxRecDepth 20000 in
theorem walk (a : Int) (a0 : 0 ≤ a) (a1 : a ≤ 65535) (b : Int) (b0 : 0 ≤ b) (b1 : b ≤ 65535) (c : Int) (c0 : 0 ≤ c) (c1 : c ≤ 65535) (t : ByteArray) (_ : t.size ≤ maxLen) (w : World) :
    Calls Try.prog 7 #[.int .u16 a, .int .u16 b, .int .u16 c, .string t] w fun e w' => e = .returned (.bool true) ∧ Below w.heap.size w w' := by
  by_cases ht : t.size ≤ 16384
  · obtain ⟨x, hx⟩ : ∃ x, a % 1024 = x := ⟨_, rfl⟩
    obtain ⟨y, hy⟩ : ∃ y, b % 1024 = y := ⟨_, rfl⟩
    obtain ⟨z, hz⟩ : ∃ z, c % 1024 = z := ⟨_, rfl⟩
    have x9 : 0 ≤ x ∧ x < 1024 := by omega
    have y9 : 0 ≤ y ∧ y < 1024 := by omega
    have z9 : 0 ≤ z ∧ z < 1024 := by omega
    have pl : ∀ v : Int, 0 ≤ v ∧ v < 1024 → Gm.plc v = true := fun v hv => by unfold Gm.plc; simp [hv]
    by_cases e1 : x = y
    · exact alike x y z t ht x9 y9 z9 (.inl e1) a b c a0 a1 b0 b1 c0 c1 hx hy hz w
    by_cases e2 : x = z
    · exact alike x y z t ht x9 y9 z9 (.inr (.inl ⟨e1, e2⟩)) a b c a0 a1 b0 b1 c0 c1 hx hy hz w
    by_cases e3 : y = z
    · exact alike x y z t ht x9 y9 z9 (.inr (.inr ⟨e1, e2, e3⟩)) a b c a0 a1 b0 b1 c0 c1 hx hy hz w
    · exact ways x y z t ⟨pl x x9, pl y y9, pl z z9, e1, e2, e3, ht⟩ x9 y9 z9 a b c a0 a1 b0 b1 c0 c1 hx hy hz w
  · have kt : (16384 : Int) < (t.size : Int) := by omega
    clear ht
    go_enter Try.func7, Try.ntmps7
    go_wp2_with fail
    refine (alive9_any _).mono ?_
    rintro e w9 ⟨rfl, hb⟩
    have HB9 := Lib.hid hb
    clear hb
    go_wp2_with fail
    go_ret
    exact ⟨rfl, HB9.out⟩

/-! ### From the walk to the statement -/
theorem own : ownKnob Try.prog.godebug = none := by kernel_rfl

set_option maxRecDepth 20000 in
theorem contract (H : Type) (enc : TypeId × Value → H) (W : World) (base : Nat) (args : Array Value) (ds gs : List (DataW H)) (before : List MemPlace)
    (hval : ∀ (j : Nat) t v, Try.f7.params[j]? = some t → args[j]? = some v → Value.okWide Try.prog W .any base t v)
    (hW : DataW.Whole enc Try.prog Try.f7.params.toList Rows.gramWaysSpec.vars false W args.toList ds gs before) :
    Calls Try.prog 7 args W fun e W' => ∃ v, e = .returned v ∧ Rows.gramWaysSpec.post enc Try.prog Try.f7 false true false false W args v W' := by
  have hW' := hW
  obtain ⟨p, q, hA0, hV, rfl, hfz, hnd⟩ := hW
  have hA : DataW.TrodAll enc Try.prog W 0 (fun _ => true) true Try.f7.params.toList args.toList ds p := hA0
  rw [Try.params7] at hA hval
  obtain ⟨v0, vs0, d0, ds0, p0, q0, hargs, rfl, rfl, h0, r0⟩ := trodAll_cons hA
  obtain ⟨v1, vs1, d1, ds1, p1, q1, rfl, rfl, rfl, h1, r1⟩ := trodAll_cons r0
  obtain ⟨v2, vs2, d2, ds2, p2, q2, rfl, rfl, rfl, h2, r2⟩ := trodAll_cons r1
  obtain ⟨v3, vs3, d3, ds3, p3, q3, rfl, rfl, rfl, h3, r3⟩ := trodAll_cons r2
  obtain ⟨rfl, rfl, rfl⟩ := trodAll_nil r3
  obtain rfl : args = #[v0, v1, v2, v3] := by cases args; simp_all
  obtain ⟨rfl, rfl⟩ := trodVars_none hV
  obtain ⟨a0, rfl, rfl, rfl, w0⟩ := open_int Try.underlying58 (hval 0 58 v0 rfl rfl) h0
  have b0 : 0 ≤ a0 ∧ a0 ≤ 65535 := by simpa [Lit.wf, IntKind.min, IntKind.max, IntKind.signed, IntKind.bits] using w0
  obtain ⟨a1, rfl, rfl, rfl, w1⟩ := open_int Try.underlying58 (hval 1 58 v1 rfl rfl) h1
  have b1 : 0 ≤ a1 ∧ a1 ≤ 65535 := by simpa [Lit.wf, IntKind.min, IntKind.max, IntKind.signed, IntKind.bits] using w1
  obtain ⟨a2, rfl, rfl, rfl, w2⟩ := open_int Try.underlying58 (hval 2 58 v2 rfl rfl) h2
  have b2 : 0 ≤ a2 ∧ a2 ≤ 65535 := by simpa [Lit.wf, IntKind.min, IntKind.max, IntKind.signed, IntKind.bits] using w2
  obtain ⟨a3, rfl, rfl, rfl, w3⟩ := open_string Try.underlying9 (hval 3 9 v3 rfl rfl) h3
  clear hA0
  simp only [List.append_nil] at hW'
  refine (walk a0 b0.1 b0.2 a1 b1.1 b1.2 a2 b2.1 b2.2 a3 w3 W).mono fun e W' ⟨he, bel⟩ => ?_
  subst he
  exact ⟨_, rfl, _, _, _, [], _, [], hW', trodAll_mk1 (shut_bool Try.underlying4 _), (trodAll_cons_mk (shut_int Try.underlying58 w0) (trodAll_cons_mk (shut_int Try.underlying58 w1) (trodAll_cons_mk (shut_int Try.underlying58 w2) (trodAll_cons_mk (shut_string Try.underlying9 w3) trodAll_mk0)))), rfl, bel.frame _, fun h => by cases h⟩

set_option maxRecDepth 100000 in
theorem lifted (os : Os) (started : os.Started) (H : Type) (enc : TypeId × Value → H) :
    ReturnsInHanded {} Try.checked os 7 .any (Rows.gramWaysSpec.pre6 enc Try.prog Try.f7 Rows.gramWaysRow.domain false) (Rows.gramWaysSpec.post enc Try.prog Try.f7 false true false false) := by
  refine returnsInHanded_of_change (C := Try.checked) own started (by kernel_rfl) Try.func7
    (ChangeSpec.witness6 (enc := enc) (C := Try.checked) false ⟨#[], #[.int .u16 0, .int .u16 0, .int .u16 0, .string ByteArray.empty], []⟩ 8 (by kernel_rfl) (by kernel_rfl) (by kernel_rfl) (by kernel_rfl)) ?_
  intro W base args ds gs before hval hW _ _
  exact contract H enc W base args ds gs before hval hW

theorem over : Rows.gramWaysRow.holds Try.pinned (OpenSpec.ofChange Rows.gramWaysSpec) :=
  OpenClaim.holds_of_wide 7 Try.f7 rfl rfl rfl rfl rfl rfl rfl ⟨rfl, rfl, rfl, rfl, rfl⟩ rfl rfl rfl rfl rfl (by kernel_rfl) Try.func7 (by kernel_rfl)
    (of_decide_eq_true (by kernel_rfl)) (by unfold Func.isWrapper; first | (rw [if_pos (by decide +kernel)]; kernel_rfl) | (rw [if_neg (by decide +kernel)]; exact ⟨rfl, rfl⟩))
    (fun os started H enc _ => lifted os started H enc)

/-- The statement. -/
theorem proved : Rows.GramWaysSaid :=
  over

end Go.Proofs.Ytagcddhhlhcoeaa.gramWays
