/-
  Layer 10's known small run.
-/
import Derived.Test.YtndgafjnifkghaaCdY
import Derived.Test.YtndgafjnifkghaaCdV
import Derived.Test.YtndgafjnifkghaaCrA
namespace Go.Proofs.Ytndgafjnifkghaa
open Go.RowKit

namespace Cd
def am (n : Nat) : Fm := ⟨aFn, some ⟨n, 0, none⟩, 2⟩
theorem a_rng : ∀ f ∈ [aFn], f.Rng := by rw [← a_dec0]; exact dec_rng _
/-- The small program, as the law lays it. -/
theorem a_laid {w W1 W2 W : World} {T1 T2 : TypeId} (h1 : W1 = w.alloc (.cells #[.int .u8 1, .int .i64 1, .int .i64 0, .int .i64 0, .int .i64 (-1), .int .u8 14, .int .i64 0, .int .i64 1, .int .i64 0, .int .i64 0] T1))
    (h2 : W2 = W1.alloc (.cells #[.int .i64 1, .int .i64 2, .slice (some ⟨w.heap.size, 0, none⟩) 2 2] T2)) (h3 : W = W2.alloc (.cells #[.slice (some ⟨w.heap.size + 1, 0, none⟩) 1 1] 24)) :
    Prog W W.heap.size (some ⟨w.heap.size + 1, 0, none⟩) [am w.heap.size] ∧ PBlk W (w.heap.size + 2) (.slice (some ⟨w.heap.size + 1, 0, none⟩) 1 1) ∧ Below w.heap.size w W := by
  have s1 : W1.heap.size = w.heap.size + 1 := by rw [h1]; simp
  have s2 : W2.heap.size = w.heap.size + 2 := by rw [h2]; simp [s1]
  have s3 : W.heap.size = w.heap.size + 3 := by rw [h3]; simp [s2]
  have b1 : Below w.heap.size w W1 := by rw [h1]; exact fn1 _ _ _
  have b2 : Below W1.heap.size W1 W2 := by rw [h2]; exact fn1 _ _ _
  have b3 : Below W2.heap.size W2 W := by rw [h3]; exact fn1 _ _ _
  have hO : W.heap[w.heap.size]? = some (.cells #[.int .u8 1, .int .i64 1, .int .i64 0, .int .i64 0, .int .i64 (-1), .int .u8 14, .int .i64 0, .int .i64 1, .int .i64 0, .int .i64 0] T1 (0, 0)) := by
    rw [b3.block _ (by omega), b2.block _ (by omega), h1]; exact heap_alloc_new w _
  have hF : W.heap[w.heap.size + 1]? = some (.cells #[.int .i64 1, .int .i64 2, .slice (some ⟨w.heap.size, 0, none⟩) 2 2] T2 (0, 0)) := by
    rw [b3.block _ (by omega), ← s1, h2]; exact heap_alloc_new W1 _
  refine ⟨⟨fun _ => ⟨_, rfl, by show w.heap.size + 1 < _; omega, fun j u hu => World.news_of_block hF j u hu⟩, fun m hm => ?_⟩, ?_, b1.trans ((b2.trans (b3.mono b2.size)).mono b1.size)⟩
  · rw [List.mem_singleton.1 hm]
    exact fun _ => ⟨_, rfl, by show w.heap.size < _; omega, fun j u hu => World.news_of_block hO j u hu⟩
  · show W.heap[w.heap.size + 2]? = _
    rw [← s2, h3]
    exact heap_alloc_new W2 _
end Cd

theorem Cd.cellB {V U : World} {X : Nat} {v : Value} (hb : Below V.heap.size V U) (hl : X < V.heap.size) (c : V.cell? ⟨X, 0, none⟩ = some v) : U.cell? ⟨X, 0, none⟩ = some v := (World.cell?_of_block (hb.block X hl)).trans c
theorem Cd.eqFs_refl (l : List Cd.FnV) : Cd.eqFs l l = true := Cd.eqFs_iff.2 rfl
theorem Cd.prog_new {w : World} {T : TypeId} : Cd.Prog (w.alloc (.cells #[.int .i64 0, .int .i64 17, .slice none 0 0] T)) (w.alloc (.cells #[.int .i64 0, .int .i64 17, .slice none 0 0] T)).heap.size (some ⟨w.heap.size, 0, none⟩) [⟨⟨0, 17, []⟩, none, 0⟩] :=
  ⟨fun _ => ⟨_, rfl, by simp, fun j u hu => World.news_of_block (heap_alloc_new w _) j u hu⟩, fun m hm => by rw [List.mem_singleton.1 hm]; exact fun h => by simp [Cd.ocells] at h⟩
/-- What the law's last test asks of the worlds in which it runs. -/
structure Cd.Known (V : World) (p q : Value) : Prop where
  r10 : ∀ U, Below V.heap.size V U → Calls Try.prog 17 #[p, q] U fun e w' => e = .returned (.bool true) ∧ Below V.heap.size V w'
  may : ∀ U, Below V.heap.size V U → Calls Try.prog 13 #[p] U fun e w' => e = .returned (.bool true) ∧ Below V.heap.size V w'
  cpy : ∀ U, Below V.heap.size V U → Calls Try.prog 18 #[p] U fun e w' => ∃ c, e = .returned c ∧ Below V.heap.size V w' ∧
    Hid (∀ U', Below w'.heap.size w' U' → Calls Try.prog 20 #[p, c] U' fun e2 w2 => e2 = .returned (.bool true) ∧ Below V.heap.size V w2)
  bad : ∀ U (T : TypeId), Below V.heap.size V U → Calls Try.prog 13 #[.agg #[.slice (some ⟨U.heap.size, 0, none⟩) 1 1]] (U.alloc (.cells #[.int .i64 0, .int .i64 17, .slice none 0 0] T)) fun e w' => e = .returned (.bool false) ∧ Below V.heap.size V w'
theorem Cd.known {V : World} {l r : List Cd.Fm} {A A2 : Option Addr} {c c2 : Nat} (hl : Cd.fns l = [Cd.aFn]) (hr : Cd.fns r = [Cd.aFn]) (pl : Cd.Prog V V.heap.size A l) (pr : Cd.Prog V V.heap.size A2 r) : Cd.Known V (.agg #[.slice A l.length c]) (.agg #[.slice A2 r.length c2]) := by
  have rl : ∀ m ∈ l, m.f.Rng := fun m hm => Cd.a_rng _ (by rw [← hl]; exact List.mem_map_of_mem hm)
  have rr : ∀ m ∈ r, m.f.Rng := fun m hm => Cd.a_rng _ (by rw [← hr]; exact List.mem_map_of_mem hm)
  have nl : l.length ≤ 1 := by
    have := congrArg List.length hl
    rw [Cd.fns_len] at this
    simp at this
    omega
  have nm : l.length ≤ maxLen := by unfold maxLen; omega
  refine ⟨fun U hU => ?_, fun U hU => ?_, fun U hU => ?_, fun U T hU => ?_⟩
  · refine (rSame10 l r rl rr A A2 c c2 U ((pl.below hU).mono hU.size) ((pr.below hU).mono hU.size) nm).mono ?_
    rintro e w' ⟨he, hb⟩
    rw [hl, hr, Cd.eqFs_refl] at he
    exact ⟨he, hU.trans (hb.mono hU.size)⟩
  · refine (cMay l rl nm A c U ((pl.below hU).mono hU.size)).mono ?_
    rintro e w' ⟨he, hb⟩
    rw [hl, Cd.a_pok] at he
    exact ⟨he, hU.trans (hb.mono hU.size)⟩
  · refine (cCopy l (fun m hm => by
      have : m.f ∈ [Cd.aFn] := by rw [← hl]; exact List.mem_map_of_mem hm
      rw [List.mem_singleton.1 this]
      show 2 ≤ 100000
      omega) (by omega) A c U ((pl.below hU).mono hU.size)).mono ?_
    rintro e w' ⟨ms, A', c', he, hms, hrs, hb⟩
    have hV := hU.trans (hb.mono hU.size)
    refine ⟨_, he, hV, fun U' hU' => ?_⟩
    have hV2 := hV.trans (hU'.mono hV.size)
    refine (cSame l ms rl (fun m hm => Cd.a_rng _ (by rw [← hl, ← hms]; exact List.mem_map_of_mem hm)) A A' c c' U' ((pl.below hV2).mono hV2.size) ((hrs.prog.below hU').mono hU'.size) nm).mono ?_
    rintro e w2 ⟨he, hb2⟩
    rw [hl, hms, hl, Cd.eqFs_refl] at he
    exact ⟨he, hV2.trans (hb2.mono hV2.size)⟩
  · refine (cMay [⟨⟨0, 17, []⟩, none, 0⟩] (fun m hm => by rw [List.mem_singleton.1 hm]; exact ⟨by decide, by decide, by simp, by simp⟩) (by unfold maxLen; simp) _ 1 _ Cd.prog_new).mono ?_
    rintro e w' ⟨he, hb⟩
    have e2 : Cd.fns [⟨⟨0, 17, []⟩, none, 0⟩] = [⟨0, 17, []⟩] := rfl
    rw [e2, Cd.a_bad] at he
    have h1 := hU.alloc hU.size (.cells #[.int .i64 0, .int .i64 17, .slice none 0 0] T)
    exact ⟨he, h1.trans (hb.mono h1.size)⟩

set_option maxHeartbeats 1000000 in
set_option maxRecDepth 20000 in
theorem alive10_any (w : World) : Calls Try.prog 10 #[] w fun e w' => e = .returned (.bool true) ∧ Below w.heap.size w w' := by
  obtain ⟨W1, h1⟩ : ∃ W1, W1 = w.alloc (.cells #[.int .u8 1, .int .i64 1, .int .i64 0, .int .i64 0, .int .i64 (-1), .int .u8 14, .int .i64 0, .int .i64 1, .int .i64 0, .int .i64 0] 43) := ⟨_, rfl⟩
  obtain ⟨W2, h2⟩ : ∃ W2, W2 = W1.alloc (.cells #[.int .i64 1, .int .i64 2, .slice (some ⟨w.heap.size, 0, none⟩) 2 2] 41) := ⟨_, rfl⟩
  obtain ⟨W, h3⟩ : ∃ W, W = W2.alloc (.cells #[.slice (some ⟨w.heap.size + 1, 0, none⟩) 1 1] 24) := ⟨_, rfl⟩
  have HL := Lib.hid (Cd.a_laid h1 h2 h3)
  have HRG : Hid (∀ m ∈ [Cd.am w.heap.size], m.f.Rng) := fun m hm => by rw [List.mem_singleton.1 hm]; exact Cd.a_rng _ (by simp [Cd.am])
  have HEN : Hid (Calls Try.prog 11 #[.agg #[.slice (some ⟨w.heap.size + 1, 0, none⟩) 1 1]] W fun e w' => e = .returned (.tuple #[.string ⟨Cd.aText.toArray⟩, .int .i64 0]) ∧ Below W.heap.size W w') := by
    have := cEncode [Cd.am w.heap.size] HRG.out (by unfold maxLen; simp) (some ⟨w.heap.size + 1, 0, none⟩) 1 W HL.out.1
    rw [show Cd.fns [Cd.am w.heap.size] = [Cd.aFn] from rfl, Cd.a_enc] at this
    exact this
  obtain ⟨s, hs⟩ : ∃ s : ByteArray, s = ⟨Cd.aText.toArray⟩ := ⟨_, rfl⟩
  rw [← hs] at HEN
  have HD1 : Hid ((Cd.dec s).2 = 0 ∧ (Cd.dec s).1 = [Cd.aFn] ∧ (Cd.dec (s ++ ⟨#[0]⟩)).2 = 8 ∧ s.size = 10 ∧ (s ++ ⟨#[0]⟩).size = 11) := by
    show _ ∧ _
    rw [hs]
    exact ⟨Cd.a_dec1, Cd.a_dec0, Cd.a_dec3, rfl, rfl⟩
  have HSQ : Hid ((s.toList == [1, 1, 1, 2, 2, 1, 1, 1, 14, 1]) = true) := by show _ = _; rw [hs, Lib.toList_data]; decide +kernel
  clear hs
  go_enter Try.func10, Try.ntmps10
  go_upto_region 2 with fail
  rw [← h1, ← h2, ← h3]
  have HPB : Hid (Cd.PBlk W (w.heap.size + 1 + 1) (.slice (some ⟨w.heap.size + 1, 0, none⟩) 1 1)) := HL.out.2.1
  have HPR : Hid (∃ ms, ms.length = 1 ∧ Cd.fns ms = [Cd.aFn] ∧ Cd.Prog W W.heap.size (some ⟨w.heap.size + 1, 0, none⟩) ms) := ⟨_, rfl, rfl, HL.out.1⟩
  have HB := Lib.hid HL.out.2.2
  clear HL h1 h2 h3 HRG
  clear W1 W2
  generalize w.heap.size + 1 + 1 = X1 at HPB ⊢
  generalize w.heap.size + 1 = F1 at HPB HPR HEN ⊢
  have c1 := HPB.out.c0
  have HC1 := Lib.hid (fun U => cDecode s (by rw [HD1.out.2.2.2.1]; unfold maxLen; omega) U)
  rw [HD1.out.1, HD1.out.2.1] at HC1
  have HC2 := Lib.hid (fun U => cDecode ⟨#[2, 0]⟩ (by show 2 ≤ maxLen; unfold maxLen; omega) U)
  rw [Cd.a_dec2] at HC2
  have HC3 := Lib.hid (fun U => cDecode (s ++ ⟨#[0]⟩) (by rw [HD1.out.2.2.2.2]; unfold maxLen; omega) U)
  rw [HD1.out.2.2.1] at HC3
  have hsz : s.size = 10 := HD1.out.2.2.2.1
  clear HD1
  go_wp2_with fail
  refine HEN.out.mono ?_
  rintro e w2 ⟨rfl, hb2⟩
  have HB2 := Lib.hid hb2
  clear hb2 HEN c1
  go_wp2_with fail
  refine (HC1.out _).mono ?_
  rintro e w3 ⟨ms, A1, c1, rfl, hms, hrs, hb3⟩
  obtain ⟨V3, hV3⟩ : ∃ V, V = w3.alloc (.cells #[.slice A1 ms.length c1] 24) := ⟨_, rfl⟩
  have hbV3 : Below w3.heap.size w3 V3 := by rw [hV3]; exact Cd.fn1 _ _ _
  have HV3 : Hid (Cd.PBlk V3 w3.heap.size (.slice A1 ms.length c1) ∧ Below W.heap.size W V3 ∧ Cd.fns ms = [Cd.aFn] ∧ Cd.Prog V3 V3.heap.size A1 ms) := by
    have h23 := HB2.out.trans (hb3.mono HB2.out.size)
    exact ⟨by rw [hV3]; exact heap_alloc_new w3 _, h23.trans (hbV3.mono h23.size), hms, (hrs.prog.below hbV3).mono hbV3.size⟩
  clear hms hrs hb3 hbV3 HB2 HC1
  go_wp2_with fail
  rw [← hV3]
  clear hV3
  generalize w3.heap.size = X4 at HV3 ⊢
  refine (HC2.out _).mono ?_
  rintro e w4 ⟨ms2, A2, c2, rfl, _, _, hb4⟩
  obtain ⟨V4, hV4⟩ : ∃ V, V = w4.alloc (.cells #[.slice A2 ms2.length c2] 24) := ⟨_, rfl⟩
  have hbV4 : Below w4.heap.size w4 V4 := by rw [hV4]; exact Cd.fn1 _ _ _
  have HV4 := Lib.hid (hb4.trans (hbV4.mono hb4.size))
  clear hb4 hbV4 HC2
  go_wp2_with fail
  rw [← hV4]
  clear hV4
  refine (HC3.out _).mono ?_
  rintro e w5 ⟨ms3, A3, c3, rfl, _, _, hb5⟩
  obtain ⟨V5, hV5⟩ : ∃ V, V = w5.alloc (.cells #[.slice A3 ms3.length c3] 24) := ⟨_, rfl⟩
  have hbV5 : Below w5.heap.size w5 V5 := by rw [hV5]; exact Cd.fn1 _ _ _
  have HV5 : Hid (Below V3.heap.size V3 V5) := by
    have h45 := HV4.out.trans (hb5.mono HV4.out.size)
    exact h45.trans (hbV5.mono h45.size)
  clear hb5 hbV5 HC3 HV4
  go_upto_region 6 with fail
  rw [← hV5]
  clear hV5
  obtain ⟨ms1, n1, hm1, hp1⟩ := HPR.out
  have hW5 : Below W.heap.size W V5 := HV3.out.2.1.trans (HV5.out.mono HV3.out.2.1.size)
  have HK : Hid (Cd.Known V5 (.agg #[.slice (some ⟨F1, 0, none⟩) 1 1]) (.agg #[.slice A1 ms.length c1])) := by
    have := Cd.known (c := 1) (c2 := c1) hm1 HV3.out.2.2.1 ((hp1.below hW5).mono hW5.size) ((HV3.out.2.2.2.below HV5.out).mono HV5.out.size)
    rw [n1] at this
    exact this
  have d1 : V5.cell? ⟨X1, 0, none⟩ = some (.slice (some ⟨F1, 0, none⟩) 1 1) := (HPB.out.of_block (hW5.block _ HPB.out.lt)).c0
  have d4 : V5.cell? ⟨X4, 0, none⟩ = some (.slice A1 ms.length c1) := (HV3.out.1.of_block (HV5.out.block _ HV3.out.1.lt)).c0
  have HEND : Hid (Below w.heap.size w V5) := HB.out.trans (hW5.mono HB.out.size)
  have hl1 : X1 < V5.heap.size := Nat.lt_of_lt_of_le HPB.out.lt hW5.size
  have hl4 : X4 < V5.heap.size := Nat.lt_of_lt_of_le HV3.out.1.lt HV5.out.size
  have bb := (Below.refl V5.heap.size V5).drew
  have hsq := HSQ.out
  clear hp1 hm1 n1 HPR hW5 HV3 HV5 HPB HB HSQ
  go_region_held3 (fun wx => wx.cell? ⟨X1, 0, none⟩ = some (.slice (some ⟨F1, 0, none⟩) 1 1) ∧ wx.cell? ⟨X4, 0, none⟩ = some (.slice A1 ms.length c1) ∧ Below V5.heap.size V5 wx)
    (first | with_reducible assumption | (with_reducible exact ⟨Cd.cellB (by assumption) hl1 d1, Cd.cellB (by assumption) hl4 d4, by assumption⟩))
    (first
      | (go_at_call 17; refine (HK.out.r10 _ (by with_reducible assumption)).mono ?_; rintro e y1 ⟨rfl, hy1⟩)
      | (go_at_call 20; refine (HSS.out _ (Below.refl _ _)).mono ?_; rintro e y4 ⟨rfl, hy4⟩; have hy4a := hy4.alloc hy4.size (Obj.cells #[.int .i64 0, .int .i64 17, .slice none 0 0] 41))
      | (go_at_call 18; refine (HK.out.cpy _ (by with_reducible assumption)).mono ?_; rintro e y3 ⟨cc, rfl, hy3, HSS⟩)
      | (go_at_call 13; with_reducible refine (HK.out.may _ (by with_reducible assumption)).mono ?_; rintro e y2 ⟨rfl, hy2⟩)
      | (go_at_call 13; refine (HK.out.bad _ _ (by with_reducible assumption)).mono ?_; rintro e y5 ⟨rfl, hy5⟩))
  go_wp2_with fail
  go_ret
  exact ⟨rfl, HEND.out.trans (hy5.mono HEND.out.size)⟩
end Go.Proofs.Ytndgafjnifkghaa
