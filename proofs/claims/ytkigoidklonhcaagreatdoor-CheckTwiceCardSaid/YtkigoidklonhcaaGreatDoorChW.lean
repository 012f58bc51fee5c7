/-
  The contract of layer 11's twice: a program's functions, one row behind the other.
-/
import Derived.Test.YtkigoidklonhcaaGreatDoorChV
import Derived.Test.YtkigoidklonhcaaGreatDoorCdV
import Derived.Test.YtkigoidklonhcaaGreatDoorCrL
import Derived.BigRegion
namespace Go.Proofs.YtkigoidklonhcaaGreatDoor
open Go.RowKit

namespace Ck
open Cd
/-- A row's block is none of another type. -/
theorem rowTy {w : World} {b n m : Nat} {T T2 : TypeId} {v : Value} {xs : List Value} {C : Nat} {cs : Array Value} {fr : Nat × Nat} (h : w.ownsRow b T m v n xs) (hC : w.heap[C]? = some (.cells cs T2 fr)) (hT : T ≠ T2) : ∀ k, v.ownBlock = some k → k ≠ C := by
  intro k hk e
  subst e
  rcases h.2 with ⟨rfl, _⟩ | ⟨g, cap, cur, rfl, _, hg, _⟩
  · simp [Value.ownBlock] at hk
  · simp [Value.ownBlock] at hk
    subst hk
    rw [hg] at hC
    injection hC with hC
    injection hC with _ h2
    exact hT h2
theorem shF_snoc {n : Nat} {l : List FnV} {f : FnV} : (l ++ [f]).map (shF n) = l.map (shF n) ++ [shF n f] := by rw [List.map_append]; rfl
theorem dbl_take {l : List Fm} : fns l ++ (fns (l.take l.length)).map (shF l.length) = dbl (fns l) := by
  unfold dbl
  rw [List.take_length]
  have : (fns l).length = l.length := fns_len l
  rw [this]
/-- Behind i functions of the second row. -/
structure TwSt (w : World) (X Z C b : Nat) (A : Option Addr) (l : List Fm) (c i : Nat) (ms : List Fm) (A2 : Option Addr) (c2 : Nat) (wr : World) : Prop where
  fns : fns ms = fns l ++ (Cd.fns (l.take i)).map (shF l.length)
  len : ms.length = l.length + i
  x : wr.heap[X]? = some (.cells #[.slice A l.length c] 24 (0, 0))
  z : wr.heap[Z]? = some (.cells #[.slice none 0 0] 24 (0, 0))
  p : PBlk wr C (.slice A2 (l.length + i) c2)
  bel : Below w.heap.size w wr
  lo : b ≤ wr.heap.size
  rows : wr.ownsRow b 41 3 (.slice A2 (l.length + i) c2) (l.length + i) (mcells ms)
  os : ∀ m ∈ ms, wr.ownsRow b 44 5 (.slice m.A m.f.ops.length m.c) m.f.ops.length (ocells m.f.ops)
/-- What of it stays where all that lay stays. -/
theorem TwSt.keep {w : World} {X Z C b : Nat} {A : Option Addr} {l : List Fm} {c i : Nat} {ms : List Fm} {A2 : Option Addr} {c2 : Nat} {wr w' : World} (h : TwSt w X Z C b A l c i ms A2 c2 wr) (hb : Below wr.heap.size wr w') : TwSt w X Z C b A l c i ms A2 c2 w' :=
  ⟨h.fns, h.len, (hb.block _ (ltH h.x)).trans h.x, (hb.block _ (ltH h.z)).trans h.z, h.p.of_block (hb.block _ h.p.lt), h.bel.trans (hb.mono h.bel.size), Nat.le_trans h.lo hb.size, rowKeep h.rows (fun q hq => hb.block q (h.rows.lt q hq).2), fun m hm => rowKeep (h.os m hm) (fun q hq => hb.block q ((h.os m hm).lt q hq).2)⟩
/-- Behind k ops of a function of the second row. -/
structure TwIn (F : Nat) (m : Fm) (n k : Nat) (A3 : Option Addr) (c3 : Nat) (wr wk : World) : Prop where
  f : FB wk F m.f.args m.f.regs (.slice A3 k c3)
  row : wk.ownsRow (F + 1) 44 5 (.slice A3 k c3) k (ocells ((m.f.ops.take k).map (shO n)))
  bel : Below F wr wk
theorem TwIn.keep {F : Nat} {m : Fm} {n k : Nat} {A3 : Option Addr} {c3 : Nat} {wr wk w' : World} (h : TwIn F m n k A3 c3 wr wk) (hb : Below wk.heap.size wk w') : TwIn F m n k A3 c3 wr w' :=
  ⟨h.f.of_block (hb.block F h.f.lt), rowKeep h.row (fun q hq => hb.block q (h.row.lt q hq).2), h.bel.trans (hb.mono (Nat.le_of_lt h.f.lt))⟩
end Ck

set_option maxHeartbeats 1500000 in
set_option maxRecDepth 20000 in
theorem kTwice (l : List Cd.Fm) (hlen : ∀ m ∈ l, m.f.ops.length ≤ 100000) (hn : l.length ≤ 1000) (hN : ∀ m ∈ l, ∀ o ∈ m.f.ops, o.k = 12 → 0 ≤ o.n ∧ o.n < 1000) (A : Option Addr) (c : Nat) (w : World) (hP : Cd.Prog w w.heap.size A l) :
    Calls Tryz.prog 10 #[.agg #[.slice A l.length c]] w fun e w' => ∃ (ms : List Cd.Fm) (A' : Option Addr) (c' : Nat), e = .returned (.agg #[.slice A' ms.length c']) ∧ Cd.fns ms = Ck.dbl (Cd.fns l) ∧ Cd.Rows w' w.heap.size A' c' ms ∧ Below w.heap.size w w' := by
  obtain ⟨W0, hW0⟩ : ∃ W0, W0 = w.alloc (.cells #[.slice A l.length c] 24) := ⟨_, rfl⟩
  obtain ⟨W1, hW1⟩ : ∃ W1, W1 = W0.alloc (.cells #[.slice none 0 0] 24) := ⟨_, rfl⟩
  have hs0 : W0.heap.size = w.heap.size + 1 := by rw [hW0]; simp
  have hs1 : W1.heap.size = w.heap.size + 2 := by rw [hW1]; simp [hs0]
  have hb0 : Below w.heap.size w W0 := by rw [hW0]; exact Cd.fn1 _ _ _
  have hb1 : Below W0.heap.size W0 W1 := by rw [hW1]; exact Cd.fn1 _ _ _
  have hbW : Below w.heap.size w W1 := hb0.trans (hb1.mono hb0.size)
  have hX : W1.heap[w.heap.size]? = some (.cells #[.slice A l.length c] 24 (0, 0)) := by rw [hb1.block _ (by omega), hW0]; exact heap_alloc_new w _
  have hZ : W1.heap[w.heap.size + 1]? = some (.cells #[.slice none 0 0] 24 (0, 0)) := by rw [← hs0, hW1]; exact heap_alloc_new W0 _
  have HCP := Lib.hid (cCopy l hlen (by omega) A c W1 ((hP.below hbW).mono hbW.size))
  have HX := Lib.hid hX
  have HZ := Lib.hid hZ
  have HB := Lib.hid hbW
  have HI := Lib.hid Cd.pgSize
  have HP := Lib.hid hP
  have HLEN := Lib.hid hlen
  have HNN := Lib.hid hN
  have c0 : W1.cell? ⟨w.heap.size, 0, none⟩ = some (.slice A l.length c) := cell_of_row _ _ 0 _ _ _ hX
  clear hb0 hb1 hX hZ hP hlen hN hbW
  go_enter Tryz.func10, Tryz.ntmps10
  go_upto_region 1 with fail
  rw [← hW0, ← hs0, ← hW1, hs0]
  clear hW1 hW0 hs0
  obtain ⟨X, hXe⟩ : ∃ X, X = w.heap.size := ⟨_, rfl⟩
  obtain ⟨Z, hZe⟩ : ∃ Z, Z = w.heap.size + 1 := ⟨_, rfl⟩
  rw [← hZe] at HZ ⊢
  rw [← hXe] at HX c0 ⊢
  have HNE : Hid (X = w.heap.size ∧ Z = w.heap.size + 1 ∧ W1.heap.size = w.heap.size + 2) := ⟨hXe, hZe, hs1⟩
  clear hXe hZe hs1
  go_wp2_with fail
  refine HCP.out.mono ?_
  rintro e w2 ⟨ms0, A0, cc0, rfl, hms0, hrs0, hb2⟩
  have hml : ms0.length = l.length := by have := congrArg List.length hms0; rwa [Cd.fns_len, Cd.fns_len] at this
  obtain ⟨V, hV⟩ : ∃ V, V = w2.alloc (.cells #[.slice A0 ms0.length cc0] 24) := ⟨_, rfl⟩
  have hbV : Below w2.heap.size w2 V := by rw [hV]; exact Cd.fn1 _ _ _
  have hVs : V.heap.size = w2.heap.size + 1 := by rw [hV]; simp
  have HC : Hid (Cd.PBlk V w2.heap.size (.slice A0 ms0.length cc0)) := by show V.heap[_]? = _; rw [hV]; exact heap_alloc_new w2 _
  have hXZ := HNE.out
  have hb2s := hb2.size
  have HXV : Hid (V.heap[X]? = some (.cells #[.slice A l.length c] 24 (0, 0)) ∧ V.heap[Z]? = some (.cells #[.slice none 0 0] 24 (0, 0)) ∧ Below w.heap.size w V ∧ W1.heap.size ≤ V.heap.size) :=
    ⟨((hbV.block X (by omega)).trans (hb2.block X (by omega))).trans HX.out, ((hbV.block Z (by omega)).trans (hb2.block Z (by omega))).trans HZ.out, HB.out.trans ((hb2.trans (hbV.mono hb2s)).mono HB.out.size), by omega⟩
  have HRS : Hid (Cd.Rows V W1.heap.size A0 cc0 ms0) := hrs0.keep (fun i _ h2 => hbV.block i h2)
  have HMS0 : Hid (Cd.fns ms0 = Cd.fns l ∧ ms0.length = l.length ∧ W1.heap.size ≤ w2.heap.size ∧ V.heap.size = w2.heap.size + 1) := ⟨hms0, hml, hb2s, hVs⟩
  clear hms0 hml hrs0 hb2 hbV hVs hXZ hb2s HX HZ HB HCP c0
  go_upto_region 2 with fail
  rw [← hV]
  clear hV
  generalize w2.heap.size = C at *
  obtain ⟨b, hbe⟩ : ∃ b, b = W1.heap.size := ⟨_, rfl⟩
  have HNB : Hid (X = w.heap.size ∧ Z = w.heap.size + 1 ∧ b = w.heap.size + 2 ∧ b ≤ C) := ⟨HNE.out.1, HNE.out.2.1, by rw [hbe]; exact HNE.out.2.2, by rw [hbe]; exact HMS0.out.2.2.1⟩
  have HST : Hid (Ck.TwSt w X Z C b A l c 0 ms0 A0 cc0 V) := by
    obtain ⟨h1, h2, h3, h4⟩ := HMS0.out
    obtain ⟨x1, x2, x3, x4⟩ := HXV.out
    have hC := HC.out
    have hR := HRS.out
    rw [h2] at hC
    refine ⟨by rw [h1]; simp [Cd.fns], h2, x1, x2, hC, x3, by rw [hbe]; exact x4, ?_, ?_⟩
    · have := hR.fs
      rw [h2] at this
      rw [hbe]
      exact this
    · rw [hbe]; exact hR.os
  have c0 : V.cell? ⟨X, 0, none⟩ = some (.slice A l.length c) := cell_of_row _ _ 0 _ _ _ HST.out.x
  clear HMS0 HXV HRS HC hbe HNE
  go_wp2_with fail
  go_loopw [5] (fun s wr => ∃ (i : Nat) (ms : List Cd.Fm) (A2 : Option Addr) (c2 : Nat), i ≤ l.length ∧ s = .int .i64 i ∧ Hid (Ck.TwSt w X Z C b A l c i ms A2 c2 wr)) (fun s _ => l.length - (intOf s).toNat)
  case atStart => exact ⟨0, ms0, A0, cc0, Nat.zero_le _, rfl, HST.out⟩
  case round =>
    clear HST c0
    rename World => wo
    obtain ⟨i, ms, A2, c2, hi, rfl, HS⟩ := hrel
    have c0 : wo.cell? ⟨X, 0, none⟩ = some (.slice A l.length c) := cell_of_row _ _ 0 _ _ _ HS.out.x
    by_cases hlt : i < l.length
    · have hPB := HP.out.below HS.out.bel
      obtain ⟨ad, rfl, hadb, d0, d1, d2⟩ := Cd.fn_at hPB.fs hlt
      have k0 : (0 : Int) ≤ (i : Int) := by omega
      have k1 : (i : Int) < l.length := by omega
      have hme := List.getElem_mem hlt
      have HT : Hid (Cd.fns (l.take (i + 1)) = Cd.fns (l.take i) ++ [l[i].f]) := by
        show _ = _
        rw [List.take_succ_eq_append_getElem hlt]
        unfold Cd.fns
        rw [List.map_append]
        rfl
      have HFA := Lib.hid (And.intro d0 (And.intro d1 d2))
      have HLI := Lib.hid ((hPB.os _ hme).mono HS.out.bel.size)
      have HL1 := Lib.hid (HLEN.out _ hme)
      have HN1 := Lib.hid (HNN.out _ hme)
      generalize l[i] = m at d0 d1 d2 HT HLI HL1 HN1 HFA
      have hbz : Below wo.heap.size wo (wo.alloc (.cells #[.int .i64 0, .int .i64 0, .slice none 0 0] 41)) := Cd.fn1 _ _ _
      have hsz := HS.out.bel.size
      have HAD : Hid (ad.block < wo.heap.size) := by show _ < _; omega
      have c0' := (hbz.cell (p := ⟨X, 0, none⟩) (Cd.ltH HS.out.x)).trans c0
      have d0' := (hbz.cell (p := ad.add (i * 3)) (by rw [Lies.add_block]; omega)).trans d0
      have d1' := (hbz.cell (p := ⟨(ad.add (i * 3)).block, (ad.add (i * 3)).off + 1, none⟩) (by show (ad.add (i * 3)).block < _; rw [Lies.add_block]; omega)).trans d1
      clear hadb hlt hPB hme hbz
      go_wp2_with fail
      go_region
      go_wp2_with fail
      obtain ⟨W, hW⟩ : ∃ W, W = (wo.alloc (.cells #[.int .i64 m.f.args, .int .i64 m.f.regs, .slice none 0 0] 41)).drew := ⟨_, rfl⟩
      have hbW : Below wo.heap.size wo W := by rw [hW]; exact (Cd.fn1 wo _ _).drew
      have hFW : Cd.FB W wo.heap.size m.f.args m.f.regs (.slice none 0 0) := by show W.heap[_]? = _; rw [hW]; exact heap_alloc_new wo _
      have HIN : Hid (Ck.TwIn wo.heap.size m l.length 0 none 0 wo W) := ⟨hFW, ⟨rfl, .inl ⟨rfl, rfl⟩⟩, hbW⟩
      rw [← hW]
      clear hW hbW hFW c0' d0' d1' d0 d1 hsz
      obtain ⟨F, hF⟩ : ∃ F, F = wo.heap.size := ⟨_, rfl⟩
      have HFE := Lib.hid hF
      rw [← hF] at HIN ⊢
      clear hF
      go_loopw [7] (fun s wk => ∃ (k : Nat) (A3 : Option Addr) (c3 : Nat), k ≤ m.f.ops.length ∧ s = .int .i64 k ∧ Hid (Ck.TwIn F m l.length k A3 c3 wo wk)) (fun s _ => m.f.ops.length - (intOf s).toNat)
      case atStart => exact ⟨0, none, 0, Nat.zero_le _, rfl, HIN.out⟩
      case round =>
        clear HIN
        obtain ⟨k, A3, c3, hk, rfl, HK⟩ := hrel
        have c0 : wr.cell? ⟨X, 0, none⟩ = some (.slice (some ad) l.length c) := cell_of_row _ _ 0 _ _ _ ((HK.out.bel.block X (by have := Cd.ltH HS.out.x; have := HFE.out; omega)).trans HS.out.x)
        have e2 : wr.cell? ⟨(ad.add (i * 3)).block, (ad.add (i * 3)).off + 2, none⟩ = some (.slice m.A m.f.ops.length m.c) := (HK.out.bel.cell (by show (ad.add (i * 3)).block < F; rw [Lies.add_block]; have := HAD.out; have := HFE.out; omega)).trans HFA.out.2.2
        by_cases hlk : k < m.f.ops.length
        · have q0 : (0 : Int) ≤ (k : Int) := by omega
          have q1 : (k : Int) < (m.f.ops.length : Int) := by omega
          obtain ⟨am, hmA, hamb, f0, f1, f2, f3, f4⟩ := Cd.op_at ((HLI.out.below (HK.out.bel.mono (Nat.le_of_eq HFE.out.symm)))) hlk
          rw [hmA] at e2
          have HMP : Hid (((m.f.ops.take (k + 1)).map (Ck.shO l.length)) = (m.f.ops.take k).map (Ck.shO l.length) ++ [Ck.shO l.length m.f.ops[k]]) := by
            show _ = _
            rw [List.take_succ_eq_append_getElem hlk, List.map_append]
            rfl
          have HNO := Lib.hid (HN1.out _ (List.getElem_mem hlk))
          generalize m.f.ops[k] = o at f0 f1 f2 f3 f4 HMP HNO
          obtain ⟨W2, hW2⟩ : ∃ W2, W2 = wr.alloc (.cells #[.int .u8 (o.k : Int), .int .i64 o.d, .int .i64 o.a, .int .i64 o.b, .int .i64 o.n] 44) := ⟨_, rfl⟩
          obtain ⟨O, hO⟩ : ∃ O, O = wr.heap.size := ⟨_, rfl⟩
          have hb2 : Below wr.heap.size wr W2 := by rw [hW2]; exact Cd.fn1 _ _ _
          have hOB : Cd.OB W2 O o := by show W2.heap[O]? = _; rw [hW2, hO]; exact heap_alloc_new wr _
          have HB2 := Lib.hid hb2
          have HOB := Lib.hid hOB
          have HOE := Lib.hid hO
          have g0 := hOB.c0
          clear hb2 hOB hlk
          go_upto_region 11 with fail
          rw [← hW2, ← hO]
          clear hW2 hO f0 f1 f2 f3 f4 e2 c0
          go_upto_if 56 with fail
          go_cut [] (fun wx => Hid (Cd.OB wx O (Ck.shO l.length o) ∧ Below wr.heap.size wr wx))
          case first =>
            by_cases h12 : o.k = 12
            · have ek : ((o.k : Int) == 12) = true := by rw [beq_iff_eq]; omega
              have g4 := HOB.out.c4
              have z4 := HOB.out.f 4
              have hno := HNO.out h12
              have hs : IntKind.i64.wrap (o.n + (l.length : Int)) = o.n + (l.length : Int) := by rw [IntKind.wrap_i64]; omega
              have HR : Hid (Cd.OB (W2.setCell ⟨O, 4, none⟩ (.int .i64 (o.n + (l.length : Int)))) O (Ck.shO l.length o) ∧ Below wr.heap.size wr (W2.setCell ⟨O, 4, none⟩ (.int .i64 (o.n + (l.length : Int))))) := by
                refine ⟨?_, Cd.setCell_below HB2.out HB2.out.size (Nat.le_of_eq HOE.out.symm)⟩
                have h := HOB.out
                unfold Cd.OB at h ⊢
                rw [heap_setCell_same _ _ _ _ _ _ h]
                unfold Ck.shO
                rw [if_pos h12]
                rfl
              clear h12 hno HNO
              go_wp2_with fail
              go_meet
              case rel => exact HR.out
            · have ek : ((o.k : Int) == 12) = false := by rw [beq_eq_false_iff_ne]; omega
              have HR : Hid (Cd.OB W2 O (Ck.shO l.length o) ∧ Below wr.heap.size wr W2) := ⟨by rw [Ck.shO_no _ _ h12]; exact HOB.out, HB2.out⟩
              clear h12 HNO
              go_wp2_with fail
              go_meet
              case rel => exact HR.out
          case rest =>
            have HU := hcut
            clear hcut g0 HOB HB2 HNO
            generalize Ck.shO l.length o = o2 at HU HMP
            have HKU := Lib.hid (HK.out.keep HU.out.2)
            have g0 := HU.out.1.c0
            have g1 := HU.out.1.c1
            have g2 := HU.out.1.c2
            have g3 := HU.out.1.c3
            have g4 := HU.out.1.c4
            have x2 := HKU.out.f.c2
            have hk100 : k ≤ 100000 := by have := HL1.out; omega
            have hFs : F + 1 ≤ wc.heap.size := HKU.out.f.lt
            clear HK
            go_wp2_with (refine Cd.at_app rfl ?_; refine Cd.opush HKU.out.row rfl _ _ rfl rfl rfl o2 (by first | with_reducible rfl | rfl) hk100 hFs ?_; intro g cap w4 hown hgr; have hCA : Cd.FB (wc.alloc (.cells #[.int .u8 (o2.k : Int), .int .i64 o2.d, .int .i64 o2.a, .int .i64 o2.b, .int .i64 o2.n] 44)) F m.f.args m.f.regs (.slice A3 k c3) := HKU.out.f.of_block ((Cd.fn1 wc _ _).block F HKU.out.f.lt); have hC4 := hCA.of_block (hgr.block F hCA.lt (fun e => by have h1 := (HKU.out.row.lt F e.symm).1; omega)); have x4 := hC4.c2; have y4 := hC4.f 2)
            have HN : Hid (Ck.TwIn F m l.length (k + 1) (some ⟨g, 0, none⟩) cap wo (w4.setCell ⟨F, 2, none⟩ (.slice (some ⟨g, 0, none⟩) (k + 1) cap))) := by
              refine ⟨hC4.set2 _, ?_, ?_⟩
              · rw [HMP.out]
                have e : Cd.ocells ((m.f.ops.take k).map (Ck.shO l.length) ++ [o2]) = Cd.ocells ((m.f.ops.take k).map (Ck.shO l.length)) ++ o2.cells := by
                  unfold Cd.ocells
                  rw [List.flatMap_append]
                  simp
                rw [e]
                exact Cd.rowKeep hown (fun q hq => Below.heap_setCell _ _ _ _ (by intro e; have h1 := (hown.lt q hq).1; try dsimp only at e; omega))
              · have h1 : Below F wo (wc.alloc (.cells #[.int .u8 (o2.k : Int), .int .i64 o2.d, .int .i64 o2.a, .int .i64 o2.b, .int .i64 o2.n] 44)) := HKU.out.bel.trans ((Cd.fn1 wc _ _).mono (by omega))
                have h2 := h1.grown hgr (by have := hCA.lt; omega) (fun q hq => by have h3 := (HKU.out.row.lt q hq).1; omega)
                exact Cd.setCell_below h2 (by have := hC4.lt; omega) (Nat.le_refl _)
            clear hC4 hCA hown hgr x4 y4 g0 g1 g2 g3 g4 x2 HU HKU hFs
            go_wp2_with fail
            go_roundw
            case rel => exact ⟨k + 1, some ⟨g, 0, none⟩, cap, by omega, by go_num, HN.out⟩
            case measure => simp [intOf]; omega
        · obtain rfl : k = m.f.ops.length := by omega
          have q1 : ¬ (m.f.ops.length : Int) < (m.f.ops.length : Int) := by omega
          obtain ⟨mm, hmm⟩ : ∃ mm : Cd.Fm, mm = ⟨Ck.shF l.length m.f, A3, c3⟩ := ⟨_, rfl⟩
          have hml : mm.f.ops.length = m.f.ops.length := by rw [hmm]; unfold Ck.shF; simp
          have HF2 : Hid (Cd.FB wr F mm.f.args mm.f.regs (.slice mm.A mm.f.ops.length mm.c)) := by
            show Cd.FB _ _ _ _ _
            rw [hml, hmm]
            exact HK.out.f
          have HRM : Hid (wr.ownsRow b 44 5 (.slice mm.A mm.f.ops.length mm.c) mm.f.ops.length (Cd.ocells mm.f.ops)) := by
            have h := HK.out.row
            rw [List.take_of_length_le (Nat.le_refl _)] at h
            have h2 := Cd.rowBase h (b2 := b) (by have := HS.out.lo; have := HFE.out; omega)
            show World.ownsRow _ _ _ _ _ _ _
            rw [hml, hmm]
            exact h2
          have HSW := Lib.hid (HS.out.keep (HK.out.bel.mono (Nat.le_of_eq HFE.out.symm)))
          have HTT : Hid (Cd.fns (ms ++ [mm]) = Cd.fns l ++ (Cd.fns (l.take (i + 1))).map (Ck.shF l.length)) := by
            show _ = _
            rw [HT.out, Ck.shF_snoc, ← List.append_assoc, ← HS.out.fns, hmm]
            unfold Cd.fns
            rw [List.map_append]
            rfl
          have e0 : wr.cell? ⟨F, 0, none⟩ = some (.int .i64 mm.f.args) := cell_of_row _ _ 0 _ _ _ HF2.out
          have e1 : wr.cell? ⟨F, 1, none⟩ = some (.int .i64 mm.f.regs) := cell_of_row _ _ 1 _ _ _ HF2.out
          have e3 : wr.cell? ⟨F, 2, none⟩ = some (.slice mm.A mm.f.ops.length mm.c) := cell_of_row _ _ 2 _ _ _ HF2.out
          have x0 := HSW.out.p.c0
          have hk100 : l.length + i ≤ 100000 := by omega
          have hlo := HSW.out.lo
          have HFL := Lib.hid HF2.out.lt
          clear hml hmm HK HS HT HLI HL1 HN1 HFA HF2 hlk HAD
          go_wp2_with (refine Cd.at_app rfl ?_; refine Cd.fpush HSW.out.rows rfl _ _ rfl rfl rfl mm (by first | with_reducible rfl | rfl) hk100 hlo ?_; intro g cap w4 hown hgr; have hCA : Cd.PBlk (wr.alloc (.cells #[.int .i64 mm.f.args, .int .i64 mm.f.regs, .slice mm.A mm.f.ops.length mm.c] 41)) C (.slice A2 (l.length + i) c2) := HSW.out.p.of_block ((Cd.fn1 wr _ _).block C HSW.out.p.lt); have hC4 := hCA.of_block (hgr.block C hCA.lt (fun e => Ck.rowTy HSW.out.rows HSW.out.p (by decide) C e.symm rfl)); have x4 := hC4.c0; have y4 := hC4.f 0)
          have hbA : Below wr.heap.size wr (wr.alloc (.cells #[.int .i64 mm.f.args, .int .i64 mm.f.regs, .slice mm.A mm.f.ops.length mm.c] 41)) := Cd.fn1 _ _ _
          have keepU : ∀ q, q < wr.heap.size → q ≠ C → some q ≠ (Value.slice A2 (l.length + i) c2).ownBlock → (w4.setCell ⟨C, 0, none⟩ (.slice (some ⟨g, 0, none⟩) (l.length + i + 1) cap)).heap[q]? = wr.heap[q]? := fun q hq hne hr =>
            (Below.heap_setCell _ _ _ _ (by intro e; try dsimp only at e; omega)).trans ((hgr.block q (Nat.lt_of_lt_of_le hq hbA.size) hr).trans (hbA.block q hq))
          have HNW : Hid (Ck.TwSt w X Z C b (some ad) l c (i + 1) (ms ++ [mm]) (some ⟨g, 0, none⟩) cap (w4.setCell ⟨C, 0, none⟩ (.slice (some ⟨g, 0, none⟩) (l.length + i + 1) cap))) := by
            obtain ⟨b1, b2, b3, b4⟩ := HNB.out
            have hlt := fun q hq => (HSW.out.rows.lt q hq).1
            refine ⟨HTT.out, by rw [List.length_append, HSW.out.len]; rfl, (keepU X (Cd.ltH HSW.out.x) (by omega) (fun e => by have := hlt X e.symm; omega)).trans HSW.out.x, (keepU Z (Cd.ltH HSW.out.z) (by omega) (fun e => by have := hlt Z e.symm; omega)).trans HSW.out.z, hC4.set0 _, ?_, ?_, ?_, ?_⟩
            · have h1 := (HSW.out.bel.trans (hbA.mono HSW.out.bel.size)).grown hgr (by have h2 := HSW.out.bel.size; have h3 := hbA.size; omega) (fun q hq => by have := hlt q hq; omega)
              exact Cd.setCell_below h1 h1.size (by omega)
            · have h1 := hbA.size
              have h2 := hgr.size
              have h3 := HSW.out.lo
              simp [World.setCell]
              simp at h1 h2
              omega
            · rw [Cd.mcells_snoc]
              exact Cd.rowKeep hown (fun q hq => Below.heap_setCell _ _ _ _ (by intro e; exact Ck.rowTy hown hC4 (by decide) q hq e))
            · intro m' hm'
              rcases List.mem_append.1 hm' with h | h
              · have h2 := HSW.out.os m' h
                exact Cd.rowKeep h2 (fun q hq => keepU q (h2.lt q hq).2 (Ck.rowTy h2 HSW.out.p (by decide) q hq) (fun e => Cd.rowNe h2 HSW.out.rows (by decide) q hq e.symm))
              · rw [List.mem_singleton.1 h]
                have h2 := HRM.out
                exact Cd.rowKeep h2 (fun q hq => keepU q (h2.lt q hq).2 (Ck.rowTy h2 HSW.out.p (by decide) q hq) (fun e => Cd.rowNe h2 HSW.out.rows (by decide) q hq e.symm))
          exact ⟨⟨i + 1, ms ++ [mm], some ⟨g, 0, none⟩, cap, by omega, by go_num, HNW.out⟩, by simp [intOf]; omega⟩
    · obtain rfl : i = l.length := by omega
      have k1 : ¬ ((l.length : Int) < l.length) := by omega
      clear hlt
      go_wp2_with (first
        | refine wpList_load_row rfl 24 (.tmp 3) rfl C rfl 24 #[.slice A2 (l.length + l.length) c2] (0, 0) _ HS.out.p Tryz.underlying24 rfl HI.out ?_
        | refine wpList_store_row rfl 24 (.tmp 2) (.tmp 74) rfl Z #[.slice A2 (l.length + l.length) c2] rfl rfl 24 _ HS.out.z HI.out rfl (by simp [Value.oneCell']) ?_)
      try simp only [Exit.inBlock, Exit.then]
      refine bodyPost_ret (v := .agg #[.slice A2 (l.length + l.length) c2]) (results_cell_row Tryz.results10 _ _ Z 24 #[.slice A2 (l.length + l.length) c2] (0, 0) _ rfl (setRow_heap _ _ _ _ _ _ HS.out.z) Tryz.underlying24 rfl HI.out) rfl ⟨ms, A2, c2, ?_, ?_, ?_, ?_⟩
      · rw [HS.out.len]
      · rw [HS.out.fns, Ck.dbl_take]
      · have hrs : Cd.Rows _ b A2 c2 ms := ⟨by rw [HS.out.len]; exact HS.out.rows, HS.out.os⟩
        exact (hrs.keep (fun q h1 h2 => setRow_other _ Z q _ (by have := HNB.out; omega))).base (by have := HNB.out; omega)
      · exact Cd.row_below HS.out.bel (by have := HNB.out; omega) _
end Go.Proofs.YtkigoidklonhcaaGreatDoor
