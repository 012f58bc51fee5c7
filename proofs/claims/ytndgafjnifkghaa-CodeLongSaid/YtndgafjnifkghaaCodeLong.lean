/-
  How long a program's bytes may be (CodeLong).
-/
import Derived.Test.YtndgafjnifkghaaRows
import Derived.Test.YtndgafjnifkghaaL10W
import Derived.Test.YtndgafjnifkghaaCrL
import Derived.Test.YtndgafjnifkghaaCrF
import Derived.Deep.OwnRows
import Derived.ProofKit
import Derived.OpenShut
import Derived.ShutString
namespace Go.Proofs.Ytndgafjnifkghaa.codeLong
open Go.ChangeShapes Go.WideShapes Go.ChangeAt Go.RowKit
open Go.ChangeMaps (open_string shut_string)

set_option maxHeartbeats 2000000 in
set_option maxRecDepth 20000 in
theorem walk (a : Int) (a0 : 0 ≤ a) (a1 : a ≤ 255) (b : Int) (b0' : 0 ≤ b) (b1' : b ≤ 255) (o : Int) (o0 : -128 ≤ o) (o1 : o ≤ 127) (w : World) :
    Calls Try.prog 6 #[.int .u8 a, .int .u8 b, .int .i8 o] w fun e w' => e = .returned (.bool true) ∧ Below w.heap.size w w' := by
  obtain ⟨x, hx⟩ : ∃ x : Nat, (x : Int) = a % 9 := ⟨(a % 9).toNat, by omega⟩
  obtain ⟨y, hy⟩ : ∃ y : Nat, (y : Int) = b % 9 := ⟨(b % 9).toNat, by omega⟩
  have x9 : x ≤ 8 := by omega
  have y9 : y ≤ 8 := by omega
  have hxm : a.tmod 9 = (x : Int) := by rw [Int.tmod_eq_emod_of_nonneg a0]; exact hx.symm
  have hym : b.tmod 9 = (y : Int) := by rw [Int.tmod_eq_emod_of_nonneg b0']; exact hy.symm
  have hwa : IntKind.i64.wrap a = a := by rw [IntKind.wrap_i64]; omega
  have hwb : IntKind.i64.wrap b = b := by rw [IntKind.wrap_i64]; omega
  have hwo : IntKind.i64.wrap o = o := by rw [IntKind.wrap_i64]; omega
  obtain ⟨N, hN⟩ : ∃ N : Nat, N = 10 + x := ⟨_, rfl⟩
  obtain ⟨M, hM⟩ : ∃ M : Nat, M = 58 + y := ⟨_, rfl⟩
  obtain ⟨n, hn⟩ : ∃ n : Nat, (n : Int) = 16384 + o := ⟨(16384 + o).toNat, by omega⟩
  have hsN : (10 : Int) + (x : Int) = (N : Int) := by omega
  have hsM : (58 : Int) + (y : Int) = (M : Int) := by omega
  have hsn : (16384 : Int) + o = (n : Int) := hn.symm
  have N9 : N ≤ 18 := by omega
  have M9 : M ≤ 66 := by omega
  have HNB : Hid (16256 ≤ n ∧ n ≤ 16511 ∧ (16384 < n ↔ 0 < o)) := ⟨by omega, by omega, by omega⟩
  have HMK : Hid (∀ w : World, (Instr.makeSlice 45 (.int .i64 (n : Int)) (.int .i64 (n : Int))).run Try.prog w = .ok (.slice (some ⟨w.heap.size, 0, none⟩) n n) (w.alloc (.cells (madeCells #[.int .u8 0] n) 5))) := run_make_row' (P := Try.prog) 45 5 (.int .u8 0) 1 Try.underlying45 byte_info rfl .i64 .i64 n (by omega) (by omega)
  have HGO : Hid ((⟨1, 0, 0, 0, -9223372036854775808⟩ : Cd.OpV).Rng) := ⟨by decide, by decide, by decide, by decide, by decide⟩
  clear hx hy hN hM hn
  obtain ⟨V, hV⟩ : ∃ V, V = w.alloc (.cells #[.slice none 0 0] 24) := ⟨_, rfl⟩
  have hb : Below w.heap.size w V := by rw [hV]; exact Cd.fn1 _ _ _
  have hP : Cd.PBlk V w.heap.size (.slice none 0 0) := by show V.heap[_]? = _; rw [hV]; exact heap_alloc_new w _
  have HL0 : Hid (Cd.LSt w w.heap.size V.heap.size 0 [] none 0 V) := ⟨hP, hb, Cd.Rows.nil _ _, rfl, fun m hm => by simp at hm, Nat.le_refl _, ⟨Nat.le_refl _, hP.lt⟩⟩
  clear hb hP
  go_enter Try.func6, Try.ntmps6
  go_upto_region 2 with fail
  rw [← hV]
  clear hV
  obtain ⟨P, hPe⟩ : ∃ P, P = w.heap.size := ⟨_, rfl⟩
  obtain ⟨b0, hb0⟩ : ∃ b0, b0 = V.heap.size := ⟨_, rfl⟩
  rw [← hb0, ← hPe] at HL0
  rw [← hPe]
  clear hPe hb0
  go_wp2_with fail
  go_loopw [8] (fun s8 wr => ∃ (i : Nat) (ms : List Cd.Fm) (A : Option Addr) (c : Nat), i ≤ N ∧ s8 = .int .i64 i ∧ Hid (Cd.LSt w P b0 i ms A c wr)) (fun s8 _ => N - (intOf s8).toNat)
  case atStart => exact ⟨0, [], none, 0, Nat.zero_le _, rfl, HL0.out⟩
  case round =>
    clear HL0
    obtain ⟨i, ms, A, c, hi, rfl, HL⟩ := hrel
    by_cases hlt : i < N
    · have i1 : (i : Int) < (N : Int) := by omega
      have hi100 : i ≤ 100000 := by omega
      obtain ⟨F, hFe⟩ : ∃ F, F = wr.heap.size := ⟨_, rfl⟩
      obtain ⟨v2, hv2⟩ : ∃ v2, v2 = wr.alloc (.cells #[.int .i64 0, .int .i64 1, .slice none 0 0] 41) := ⟨_, rfl⟩
      have hbv : Below wr.heap.size wr v2 := by rw [hv2]; exact Cd.fn1 _ _ _
      have hFv : Cd.FB v2 F 0 1 (.slice none 0 0) := by show v2.heap[F]? = _; rw [hv2, hFe]; exact heap_alloc_new wr _
      obtain ⟨b1, hb1⟩ : ∃ b1, b1 = v2.heap.size := ⟨_, rfl⟩
      have HI0 : Hid (Cd.FB v2 F 0 1 (.slice none 0 0) ∧ Below wr.heap.size wr v2 ∧ v2.ownsRow b1 43 5 (.slice none 0 0) 0 [] ∧ b1 ≤ v2.heap.size) := ⟨hFv, hbv, ⟨rfl, .inl ⟨rfl, rfl⟩⟩, by rw [hb1]; exact Nat.le_refl _⟩
      have HFN : Hid (wr.heap.size ≤ F ∧ F < b1) := ⟨by omega, by rw [hb1]; exact hFv.lt⟩
      clear hbv hFv hb1 hlt
      go_upto_region 6 with fail
      rw [← hv2, ← hFe]
      clear hv2 hFe
      go_wp2_with fail
      go_loopw [10] (fun s10 wk => ∃ (j : Nat) (os : List Cd.OpV) (Ao : Option Addr) (co : Nat), j ≤ M ∧ s10 = .int .i64 j ∧ Hid (Cd.FB wk F 0 1 (.slice Ao j co) ∧ Below wr.heap.size wr wk ∧ wk.ownsRow b1 43 5 (.slice Ao j co) j (Cd.ocells os) ∧ b1 ≤ wk.heap.size) ∧ Hid (os.length = j ∧ ∀ o ∈ os, o.Rng)) (fun s10 _ => M - (intOf s10).toNat)
      case atStart => exact ⟨0, [], none, 0, Nat.zero_le _, rfl, HI0.out, rfl, fun o ho => by simp at ho⟩
      case round =>
        clear HI0
        rename World => wk
        obtain ⟨j, os, Ao, co, hj, rfl, HK, HO⟩ := hrel
        have cF := HK.out.1.c2
        by_cases hjt : j < M
        · have j1 : (j : Int) < (M : Int) := by omega
          have hj100 : j ≤ 100000 := by omega
          clear hjt
          go_wp2_with (refine Cd.at_app rfl ?_; refine Cd.opush HK.out.2.2.1 rfl _ _ rfl rfl rfl (⟨1, 0, 0, 0, -9223372036854775808⟩ : Cd.OpV) (by first | with_reducible rfl | rfl) hj100 HK.out.2.2.2 ?_; intro gg cap w6 hown hgr; have hCA : Cd.FB (wk.alloc (.cells #[.int .u8 ((1 : Nat) : Int), .int .i64 0, .int .i64 0, .int .i64 0, .int .i64 (-9223372036854775808)] 43)) F 0 1 (.slice Ao j co) := HK.out.1.of_block ((Cd.fn1 wk _ _).block F HK.out.1.lt); have hC4 := hCA.of_block (hgr.block F hCA.lt (fun e => by have h1 := (HK.out.2.2.1.lt F e.symm).1; have := HFN.out; omega)); have x4 := hC4.c2; have y4 := hC4.f 2)
          have hbA : Below wk.heap.size wk (wk.alloc (.cells #[.int .u8 ((1 : Nat) : Int), .int .i64 0, .int .i64 0, .int .i64 0, .int .i64 (-9223372036854775808)] 43)) := Cd.fn1 _ _ _
          have HNEW : Hid (Cd.FB (w6.setCell ⟨F, 2, none⟩ (.slice (some ⟨gg, 0, none⟩) (j + 1) cap)) F 0 1 (.slice (some ⟨gg, 0, none⟩) (j + 1) cap) ∧ Below wr.heap.size wr (w6.setCell ⟨F, 2, none⟩ (.slice (some ⟨gg, 0, none⟩) (j + 1) cap)) ∧ (w6.setCell ⟨F, 2, none⟩ (.slice (some ⟨gg, 0, none⟩) (j + 1) cap)).ownsRow b1 43 5 (.slice (some ⟨gg, 0, none⟩) (j + 1) cap) (j + 1) (Cd.ocells (os ++ [(⟨1, 0, 0, 0, -9223372036854775808⟩ : Cd.OpV)])) ∧ b1 ≤ (w6.setCell ⟨F, 2, none⟩ (.slice (some ⟨gg, 0, none⟩) (j + 1) cap)).heap.size) := by
            have hbk := HK.out.2.1
            refine ⟨hC4.set2 _, ?_, ?_, ?_⟩
            · have h1 : Below wr.heap.size wr w6 := (hbk.trans (hbA.mono hbk.size)).grown hgr (by have h2 := hbk.size; have h3 := hbA.size; omega) (fun q hq => by have h2 := (HK.out.2.2.1.lt q hq).1; have := HFN.out; omega)
              exact Cd.setCell_below h1 h1.size HFN.out.1
            · rw [Cd.ocells_snoc]
              exact Cd.rowKeep hown (fun p hp => Below.heap_setCell _ _ _ _ (by intro e; have h1 := (hown.lt p hp).1; have := HFN.out; try dsimp only at e; omega))
            · have h1 := hbA.size
              have h2 : (wk.alloc (.cells #[.int .u8 ((1 : Nat) : Int), .int .i64 0, .int .i64 0, .int .i64 0, .int .i64 (-9223372036854775808)] 43)).heap.size ≤ w6.heap.size := hgr.size
              have h3 := HK.out.2.2.2
              simp [World.setCell]
              omega
          have HON : Hid ((os ++ [(⟨1, 0, 0, 0, -9223372036854775808⟩ : Cd.OpV)]).length = j + 1 ∧ ∀ o ∈ os ++ [(⟨1, 0, 0, 0, -9223372036854775808⟩ : Cd.OpV)], o.Rng) := ⟨by rw [List.length_append, HO.out.1]; rfl, fun o ho => by
            rcases List.mem_append.1 ho with h | h
            · exact HO.out.2 o h
            · rw [List.mem_singleton.1 h]; exact HGO.out⟩
          clear hC4 hCA hbA hown hgr x4 y4 cF
          go_wp2_with fail
          go_roundw
          case rel => exact ⟨j + 1, os ++ [(⟨1, 0, 0, 0, -9223372036854775808⟩ : Cd.OpV)], some ⟨gg, 0, none⟩, cap, by omega, by go_num, HNEW.out, HON.out⟩
          case measure => simp [intOf]; omega
        · have j1 : ¬ (j : Int) < (M : Int) := by omega
          have hol := HO.out.1
          have HOR := Lib.hid HO.out.2
          clear HO
          obtain rfl : j = os.length := hol.symm
          have hjM : os.length ≤ 66 := by omega
          have x0 := (HL.out.p.of_block (HK.out.2.1.block P HL.out.p.lt)).c0
          have f0 := (HL.out.p.of_block (HK.out.2.1.block P HL.out.p.lt)).f 0
          have g0 := HK.out.1.c0
          have g1 := HK.out.1.c1
          have g2 := HK.out.1.c2
          have HPK := Lib.hid (HL.out.p.of_block (HK.out.2.1.block P HL.out.p.lt))
          have HRP : Hid (wk.ownsRow b0 41 3 (.slice A i c) i (Cd.mcells ms)) := by
            have := HL.out.rows.fs
            rw [HL.out.len] at this
            exact Cd.rowKeep this (fun p hp => HK.out.2.1.block p (this.lt p hp).2)
          have HROS : Hid (∀ m ∈ ms, wk.ownsRow b0 43 5 (.slice m.A m.f.ops.length m.c) m.f.ops.length (Cd.ocells m.f.ops)) := fun m hm => Cd.rowKeep (HL.out.rows.os m hm) (fun p hp => HK.out.2.1.block p ((HL.out.rows.os m hm).lt p hp).2)
          have HBB : Hid (b0 ≤ b1 ∧ b0 ≤ wk.heap.size ∧ w.heap.size ≤ P ∧ P < b0) := ⟨by have h1 := HL.out.lo; have h2 := HFN.out; omega, Nat.le_trans HL.out.lo HK.out.2.1.size, HL.out.ne⟩
          have HOW := Lib.hid HK.out.2.2.1
          have HBE := Lib.hid (HL.out.bel.trans (HK.out.2.1.mono HL.out.bel.size))
          have HLN := Lib.hid HL.out.len
          have HRG := Lib.hid HL.out.rng
          clear hol HL HK hjt
          go_wp2_with (refine Cd.at_app rfl ?_; refine Cd.fpush HRP.out rfl _ _ rfl rfl rfl (⟨⟨0, 1, os⟩, Ao, co⟩ : Cd.Fm) (by first | with_reducible rfl | rfl) hi100 HBB.out.2.1 ?_; intro gg cap w6 hown hgr; have hCA : Cd.PBlk (wk.alloc (.cells #[.int .i64 0, .int .i64 1, .slice Ao os.length co] 41)) P (.slice A i c) := HPK.out.of_block ((Cd.fn1 wk _ _).block P HPK.out.lt); have hC4 := hCA.of_block (hgr.block P hCA.lt (fun e => by have h1 := (HRP.out.lt P e.symm).1; have := HBB.out; omega)); have x4 := hC4.c0; have y4 := hC4.f 0)
          have hbA : Below wk.heap.size wk (wk.alloc (.cells #[.int .i64 0, .int .i64 1, .slice Ao os.length co] 41)) := Cd.fn1 _ _ _
          have keepU : ∀ q, q < wk.heap.size → q ≠ P → some q ≠ (Value.slice A i c).ownBlock → (w6.setCell ⟨P, 0, none⟩ (.slice (some ⟨gg, 0, none⟩) (i + 1) cap)).heap[q]? = wk.heap[q]? := fun q hq hne hr =>
            (Below.heap_setCell _ _ _ _ (by intro e; try dsimp only at e; omega)).trans ((hgr.block q (Nat.lt_of_lt_of_le hq hbA.size) hr).trans (hbA.block q hq))
          have HNEW : Hid (Cd.LSt w P b0 (i + 1) (ms ++ [(⟨⟨0, 1, os⟩, Ao, co⟩ : Cd.Fm)]) (some ⟨gg, 0, none⟩) cap (w6.setCell ⟨P, 0, none⟩ (.slice (some ⟨gg, 0, none⟩) (i + 1) cap))) := by
            have hn := HBB.out
            have hl : (ms ++ [(⟨⟨0, 1, os⟩, Ao, co⟩ : Cd.Fm)]).length = i + 1 := by rw [List.length_append, HLN.out]; rfl
            refine ⟨hC4.set0 _, ?_, ⟨?_, fun m' hm' => ?_⟩, hl, fun m' hm' => ?_, ?_, ⟨hn.2.2.1, hn.2.2.2⟩⟩
            · have h1 : Below w.heap.size w w6 := (HBE.out.trans (hbA.mono HBE.out.size)).grown hgr (by have h2 := HBE.out.size; have h3 := hbA.size; omega) (fun q hq => by have h2 := (HRP.out.lt q hq).1; omega)
              exact Cd.setCell_below h1 h1.size (by omega)
            · rw [hl, Cd.mcells_snoc]
              exact Cd.rowKeep hown (fun p hp => Below.heap_setCell _ _ _ _ (by intro e; have h1 := (hown.lt p hp).1; try dsimp only at e; omega))
            · have h : wk.ownsRow b0 43 5 (.slice m'.A m'.f.ops.length m'.c) m'.f.ops.length (Cd.ocells m'.f.ops) := by
                rcases List.mem_append.1 hm' with h | h
                · exact HROS.out m' h
                · rw [List.mem_singleton.1 h]
                  exact Cd.rowBase HOW.out HBB.out.1
              exact Cd.rowKeep h (fun p hp => keepU p (h.lt p hp).2 (by have h1 := (h.lt p hp).1; omega) (fun e => Cd.rowNe h HRP.out (by decide) p hp e.symm))
            · rcases List.mem_append.1 hm' with h | h
              · exact HRG.out m' h
              · rw [List.mem_singleton.1 h]
                exact ⟨by show (-9223372036854775808 : Int) ≤ 0 ∧ (0 : Int) ≤ 9223372036854775807; omega, by show (-9223372036854775808 : Int) ≤ 1 ∧ (1 : Int) ≤ 9223372036854775807; omega, HOR.out, by show os.length ≤ maxLen; unfold maxLen; omega⟩
            · have h1 := hbA.size
              have h2 : (wk.alloc (.cells #[.int .i64 0, .int .i64 1, .slice Ao os.length co] 41)).heap.size ≤ w6.heap.size := hgr.size
              have h3 := HBB.out.2.1
              simp [World.setCell]
              omega
          clear hC4 hCA hbA keepU hown hgr x4 y4 x0 f0 g0 g1 g2 HRP HROS HOW HBB HPK HBE HLN HRG HOR
          go_wp2_with fail
          go_roundw
          case rel => exact ⟨i + 1, ms ++ [(⟨⟨0, 1, os⟩, Ao, co⟩ : Cd.Fm)], some ⟨gg, 0, none⟩, cap, by omega, by go_num, HNEW.out⟩
          case measure => simp [intOf]; omega
    · have i1 : ¬ (i : Int) < (N : Int) := by omega
      have x0 := HL.out.p.c0
      have hlen := HL.out.len
      have HH : Hid (Cd.HeldP wr A ms) := ⟨HL.out.rows.prog, by rw [hlen]; unfold maxLen; omega, HL.out.rng⟩
      have HPB := Lib.hid HL.out.p
      have HBE := Lib.hid HL.out.bel
      obtain rfl : i = ms.length := hlen.symm
      have HE1 : Hid (∀ {U : World}, Below wr.heap.size wr U → Calls Try.prog 11 #[.agg #[.slice A ms.length c]] U fun e w' => e = .returned (.tuple #[.string ⟨(Cd.enc (Cd.fns ms)).1.toArray⟩, .int .i64 (Cd.enc (Cd.fns ms)).2]) ∧ Below wr.heap.size wr w') := fun hU => encode_at HH.out c hU
      have HE2 : Hid (∀ {U : World}, Below wr.heap.size wr U → Calls Try.prog 12 #[.agg #[.slice A ms.length c]] U fun e w' => e = .returned (.tuple #[.string ⟨(Cd.enc (Cd.fns ms)).1.toArray⟩, .int .i64 (Cd.enc (Cd.fns ms)).2]) ∧ Below wr.heap.size wr w') := fun {U} hU => by
        have h2 := HH.out.later hU
        refine (rEncode10 ms h2.r h2.n A c U h2.p).mono ?_
        rintro e w' ⟨he, hb⟩
        exact ⟨he, hU.trans (hb.mono hU.size)⟩
      generalize (⟨(Cd.enc (Cd.fns ms)).1.toArray⟩ : ByteArray) = S at HE1 HE2
      generalize (Cd.enc (Cd.fns ms)).2 = s1 at HE1 HE2
      clear HL HH hlt
      go_wp2_with fail
      refine (HE1.out (Below.refl _ _)).mono ?_
      rintro e w2 ⟨rfl, hb2⟩
      have H2 := Lib.hid hb2
      have x0 := Cd.belCell hb2 HPB.out
      clear hb2
      go_wp2_with fail
      refine (HE2.out H2.out).mono ?_
      rintro e w3 ⟨rfl, hb3⟩
      have H3 := Lib.hid (HBE.out.trans (hb3.mono HBE.out.size))
      clear hb3 HE1 HE2 H2 HPB HBE x0
      obtain ⟨W4, hW4⟩ : ∃ W4, W4 = w3.alloc (.cells (madeCells #[.int .u8 0] n) 5) := ⟨_, rfl⟩
      have hb4 : Below w3.heap.size w3 W4 := by rw [hW4]; exact (Below.refl _ _).alloc (Nat.le_refl _) _
      have hr4 : W4.heap[w3.heap.size]? = some (.cells (madeCells #[.int .u8 0] n) 5 (0, 0)) := by rw [hW4]; exact heap_alloc_new w3 _
      have H4 := Lib.hid (H3.out.trans (hb4.mono H3.out.size))
      have hmk := HMK.out w3
      have n0 : (0 : Int) < (n : Int) := by have := HNB.out; omega
      go_upto_region 14 with fail
      rw [← hW4]
      have hn1 : 0 < n := by have := HNB.out; omega
      have hge : w.heap.size ≤ w3.heap.size := H3.out.size
      obtain ⟨B, hB⟩ : ∃ B, B = w3.heap.size := ⟨_, rfl⟩
      rw [← hB] at hr4 hge ⊢
      clear hmk hb4 hW4 hB
      have q0 : W4.cell? ⟨B, 0, none⟩ = some (.int .u8 0) := by
        rw [cell_of_row _ _ 0 _ _ _ hr4, Array.getElem?_eq_getElem (by simp [size_madeCells]; omega)]
        simp [madeCells]
      have q1 : W4.frozen? ⟨B, 0, none⟩ = false := Lib.frozen_of_heap hr4 0
      have hcv := Cd.conv_one hn1 hr4
      have H5 : Hid (Below w.heap.size w (W4.setCell ⟨B, 0, none⟩ (.int .u8 1))) := Cd.setCell_below H4.out H4.out.size hge
      have HDZ : Hid ((Cd.dec (Cd.oneZ n)).2 = if 16384 < n then 4 else 8) := Cd.oneZ_dec (by have := HNB.out; omega)
      have HD : Hid (∀ U, Calls Try.prog 15 #[.string (Cd.oneZ n)] U fun e w' => ∃ (ms : List Cd.Fm) (A : Option Addr) (c : Nat), e = .returned (.tuple #[.agg #[.slice A ms.length c], .int .i64 (Cd.dec (Cd.oneZ n)).2]) ∧ Hid (Cd.fns ms = (Cd.dec (Cd.oneZ n)).1) ∧ Hid (Cd.HeldP w' A ms) ∧ Below U.heap.size U w') := fun U => decode_at (Cd.oneZ n) (by
        have e : (Cd.oneZ n).size = n := by
          show (1 :: List.replicate (n - 1) (0 : UInt8)).toArray.size = n
          simp
          omega
        have := HNB.out
        rw [e]
        unfold maxLen
        omega) (Below.refl _ _)
      generalize (Cd.dec (Cd.oneZ n)).2 = g at HD HDZ
      generalize (Cd.dec (Cd.oneZ n)).1 = gp at HD
      generalize Cd.oneZ n = T at HD hcv
      clear hr4
      go_wp2_with fail
      refine (HD.out _).mono ?_
      rintro e w6 ⟨ms6, A6, c6, rfl, _, _, hb6⟩
      obtain ⟨V6, hV6⟩ : ∃ V, V = w6.alloc (.cells #[.slice A6 ms6.length c6] 24) := ⟨_, rfl⟩
      have hbV6 : Below w6.heap.size w6 V6 := by rw [hV6]; exact Cd.fn1 _ _ _
      have H6 : Hid (Below w.heap.size w V6) := by
        have h1 := hb6.trans (hbV6.mono hb6.size)
        exact H5.out.trans (h1.mono H5.out.size)
      clear hb6 hbV6 hcv q0 q1 HD
      go_upto_region 17 with fail
      rw [← hV6]
      clear hV6
      have hsq : (S.toList == S.toList) = true := by simp
      have hqq : (s1 == s1) = true := by simp
      by_cases ho : 0 < o
      · have hg : g = 4 := by rw [HDZ.out, if_pos (HNB.out.2.2.2 ho)]
        subst hg
        go_wp2_with fail
        refine (alive10_at H6.out).mono ?_
        rintro e w7 ⟨rfl, hb7⟩
        have H7 := Lib.hid hb7
        clear hb7
        go_wp2_with fail
        go_ret
        exact ⟨rfl, H7.out⟩
      · have hg : g = 8 := by rw [HDZ.out, if_neg (fun h => ho (HNB.out.2.2.1 h))]
        subst hg
        go_wp2_with fail
        refine (alive10_at H6.out).mono ?_
        rintro e w7 ⟨rfl, hb7⟩
        have H7 := Lib.hid hb7
        clear hb7
        go_wp2_with fail
        go_ret
        exact ⟨rfl, H7.out⟩


/-! ### From the walk to the statement -/
theorem own : ownKnob Try.prog.godebug = none := by kernel_rfl

set_option maxRecDepth 20000 in
theorem contract (H : Type) (enc : TypeId × Value → H) (W : World) (base : Nat) (args : Array Value) (ds gs : List (DataW H)) (before : List MemPlace)
    (hval : ∀ (j : Nat) t v, Try.f6.params[j]? = some t → args[j]? = some v → Value.okWide Try.prog W .any base t v)
    (hW : DataW.Whole enc Try.prog Try.f6.params.toList Rows.codeLongSpec.vars false W args.toList ds gs before) :
    Calls Try.prog 6 args W fun e W' => ∃ v, e = .returned v ∧ Rows.codeLongSpec.post enc Try.prog Try.f6 false true false false W args v W' := by
  have hW' := hW
  obtain ⟨p, q, hA0, hV, rfl, hfz, hnd⟩ := hW
  have hA : DataW.TrodAll enc Try.prog W 0 (fun _ => true) true Try.f6.params.toList args.toList ds p := hA0
  rw [Try.params6] at hA hval
  obtain ⟨v0, vs0, d0, ds0, p0, q0, hargs, rfl, rfl, h0, r0⟩ := trodAll_cons hA
  obtain ⟨v1, vs1, d1, ds1, p1, q1, rfl, rfl, rfl, h1, r1⟩ := trodAll_cons r0
  obtain ⟨v2, vs2, d2, ds2, p2, q2, rfl, rfl, rfl, h2, r2⟩ := trodAll_cons r1
  obtain ⟨rfl, rfl, rfl⟩ := trodAll_nil r2
  obtain rfl : args = #[v0, v1, v2] := by cases args; simp_all
  obtain ⟨rfl, rfl⟩ := trodVars_none hV
  obtain ⟨a0, rfl, rfl, rfl, w0⟩ := open_int Try.underlying5 (hval 0 5 v0 rfl rfl) h0
  have b0 : 0 ≤ a0 ∧ a0 ≤ 255 := by simpa [Lit.wf, IntKind.min, IntKind.max, IntKind.signed, IntKind.bits] using w0
  obtain ⟨a1, rfl, rfl, rfl, w1⟩ := open_int Try.underlying5 (hval 1 5 v1 rfl rfl) h1
  have b1 : 0 ≤ a1 ∧ a1 ≤ 255 := by simpa [Lit.wf, IntKind.min, IntKind.max, IntKind.signed, IntKind.bits] using w1
  obtain ⟨a2, rfl, rfl, rfl, w2⟩ := open_int Try.underlying44 (hval 2 44 v2 rfl rfl) h2
  have b2 : -128 ≤ a2 ∧ a2 ≤ 127 := by simpa [Lit.wf, IntKind.min, IntKind.max, IntKind.signed, IntKind.bits] using w2
  clear hA0
  simp only [List.append_nil] at hW'
  refine (walk a0 b0.1 b0.2 a1 b1.1 b1.2 a2 b2.1 b2.2 W).mono fun e W' ⟨he, bel⟩ => ?_
  subst he
  exact ⟨_, rfl, _, _, _, [], _, [], hW', trodAll_mk1 (shut_bool Try.underlying4 _), (trodAll_cons_mk (shut_int Try.underlying5 w0) (trodAll_cons_mk (shut_int Try.underlying5 w1) (trodAll_cons_mk (shut_int Try.underlying44 w2) trodAll_mk0))), rfl, bel.frame _, fun h => by cases h⟩

set_option maxRecDepth 100000 in
theorem lifted (os : Os) (started : os.Started) (H : Type) (enc : TypeId × Value → H) :
    ReturnsInHanded {} Try.checked os 6 .any (Rows.codeLongSpec.pre6 enc Try.prog Try.f6 Rows.codeLongRow.domain false) (Rows.codeLongSpec.post enc Try.prog Try.f6 false true false false) := by
  refine returnsInHanded_of_change (C := Try.checked) own started (by kernel_rfl) Try.func6
    (ChangeSpec.witness6 (enc := enc) (C := Try.checked) false ⟨#[], #[.int .u8 0, .int .u8 0, .int .i8 0], []⟩ 8 (by kernel_rfl) (by kernel_rfl) (by kernel_rfl) (by kernel_rfl)) ?_
  intro W base args ds gs before hval hW _ _
  exact contract H enc W base args ds gs before hval hW

theorem over : Rows.codeLongRow.holds Try.pinned (OpenSpec.ofChange Rows.codeLongSpec) :=
  OpenClaim.holds_of_wide 6 Try.f6 rfl rfl rfl rfl rfl rfl rfl ⟨rfl, rfl, rfl, rfl, rfl⟩ rfl rfl rfl rfl rfl (by kernel_rfl) Try.func6 (by kernel_rfl)
    (of_decide_eq_true (by kernel_rfl)) (by unfold Func.isWrapper; first | (rw [if_pos (by decide +kernel)]; kernel_rfl) | (rw [if_neg (by decide +kernel)]; exact ⟨rfl, rfl⟩))
    (fun os started H enc _ => lifted os started H enc)

/-- The statement. -/
theorem proved : Rows.CodeLongSaid :=
  over

end Go.Proofs.Ytndgafjnifkghaa.codeLong
