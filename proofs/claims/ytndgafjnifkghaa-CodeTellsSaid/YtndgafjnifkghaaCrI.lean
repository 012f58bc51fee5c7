/-
  The document's Decode (layer 10).
-/
import Derived.Test.YtndgafjnifkghaaCrH
import Derived.Test.YtndgafjnifkghaaCdU
import Derived.Test.YtndgafjnifkghaaCdV
namespace Go.Proofs.Ytndgafjnifkghaa
open Go.RowKit

namespace Cd
theorem dOp_size (s : ByteArray) (f : Nat) : (dOp s f).2.1.size ≤ s.size := by
  have hk : (dKind s f).2.1.size ≤ s.size := by
    unfold dKind
    split
    · exact Wire.step_size _ _
    · exact Wire.step_size _ _
  have hh : (dHead s f).2.1.size ≤ s.size := Nat.le_trans (rRegs_size _ _) hk
  unfold dOp
  split
  · exact Nat.le_trans (Wire.step_size _ _) hh
  · exact hh
theorem FB.set1 {w : World} {F : Nat} {a b : Int} {v : Value} (h : FB w F a b v) (x : Int) : FB (w.setCell ⟨F, 1, none⟩ (.int .i64 x)) F a x v := by
  unfold FB at h ⊢
  simp [World.setCell, Array.getElem?_modify, h]
/-- The program that is being read: its block P, the result's Z, the reader's R; the rows lie from b0 on. -/
structure QSt (w0 : World) (Z R P b0 i : Nat) (ms : List Fm) (A : Option Addr) (c : Nat) (t : ByteArray) (g : Nat) (w : World) : Prop where
  p : PBlk w P (.slice A i c)
  r : Wire.RR R t g w
  z : w.heap[Z]? = some (.cells #[.slice none 0 0] 24 (0, 0))
  bel : Below w0.heap.size w0 w
  rows : Rows w b0 A c ms
  len : ms.length = i
  lo : b0 ≤ w.heap.size
  ne : w0.heap.size ≤ Z ∧ Z < R ∧ R < P ∧ P < b0
theorem QSt.after {w0 w w' : World} {Z R P b0 i : Nat} {ms : List Fm} {A : Option Addr} {c : Nat} {t ys : ByteArray} {g yf : Nat} (h : QSt w0 Z R P b0 i ms A c t g w) (hA : Wire.Post R ys yf w w') : QSt w0 Z R P b0 i ms A c ys yf w' := by
  have hn := h.ne
  refine ⟨h.p.of_block (hA.2.block P h.p.lt (fun e => by have := Option.some.inj e; omega)), hA.1, (hA.2.block Z (ltH h.z) (fun e => by have := Option.some.inj e; omega)).trans h.z, h.bel.grown hA.2 h.bel.size (fun k hk => by cases hk; omega),
    h.rows.keep (fun i h1 h2 => hA.2.block i h2 (fun e => by have := Option.some.inj e; omega)), h.len, Nat.le_trans h.lo hA.2.size, hn⟩
/-- The function that is being read, in block F; its ops lie from b1 on. -/
structure ISt (wr : World) (R F b1 : Nat) (a b : Int) (j : Nat) (os : List OpV) (A : Option Addr) (c : Nat) (t : ByteArray) (g : Nat) (wk : World) : Prop where
  f : FB wk F a b (.slice A j c)
  post : Wire.Post R t g wr wk
  row : wk.ownsRow b1 43 5 (.slice A j c) j (ocells os)
  len : os.length = j
  lo : b1 ≤ wk.heap.size
  ne : wr.heap.size ≤ F ∧ F < b1 ∧ R < wr.heap.size
end Cd

set_option maxHeartbeats 3000000 in
set_option maxRecDepth 20000 in
theorem rDecode10 (s : ByteArray) (hs : s.size ≤ maxLen) (w : World) :
    Calls Try.prog 16 #[.string s] w fun e w' => ∃ (ms : List Cd.Fm) (A : Option Addr) (c : Nat), e = .returned (.tuple #[.agg #[.slice A ms.length c], .int .i64 (Cd.dec s).2]) ∧ Cd.fns ms = (Cd.dec s).1 ∧ Cd.Rows w' w.heap.size A c ms ∧ Below w.heap.size w w' := by
  obtain ⟨W, hW⟩ : ∃ W, W = w.alloc (.cells #[.slice none 0 0] 24) := ⟨_, rfl⟩
  have hb : Below w.heap.size w W := by rw [hW]; exact Cd.fn1 _ _ _
  have hZ : W.heap[w.heap.size]? = some (.cells #[.slice none 0 0] 24 (0, 0)) := by rw [hW]; exact heap_alloc_new w _
  have HB := Lib.hid hb
  have HZ := Lib.hid hZ
  have HI := Lib.hid Cd.pgSize
  have HIF := Lib.hid Cd.fnSize
  have HSZ := Lib.hid hs
  have hs63 : (s.size : Int) ≤ 9223372036854775807 := by unfold maxLen at hs; omega
  clear hb hZ
  by_cases hbig : 16384 < s.size
  · have HE : Hid (Cd.dec s = ([], 4)) := by show _ = _; unfold Cd.dec; rw [if_pos hbig]
    have hbi : (16384 : Int) < (s.size : Int) := by omega
    clear hbig hs
    go_enter Try.func16, Try.ntmps16
    go_upto_region 1 with fail
    rw [← hW]
    clear hW
    obtain ⟨Z, hZe⟩ : ∃ Z, Z = w.heap.size := ⟨_, rfl⟩
    rw [← hZe] at HZ ⊢
    have HZE := Lib.hid hZe
    clear hZe
    go_wp2_with (refine wpList_store_row rfl 24 _ _ rfl Z #[.slice none 0 0] rfl rfl 24 _ HZ.out HI.out rfl (by simp [Value.oneCell']) ?_)
    try simp only [Exit.inBlock, Exit.then]
    refine bodyPost_ret (v := .tuple #[.agg #[.slice none 0 0], .int .i64 4]) (Cd.results_ct Try.results16 _ _ Z 24 #[.slice none 0 0] (0, 0) _ rfl (setRow_heap _ _ _ _ _ _ HZ.out) Try.underlying24 rfl HI.out _ rfl) rfl ⟨[], none, 0, ?_, ?_, Cd.Rows.nil _ _, ?_⟩
    · rw [HE.out]; rfl
    · rw [HE.out]; rfl
    · exact Cd.row_below HB.out (by have := HZE.out; omega) _
  · have hbi : ¬ (16384 : Int) < (s.size : Int) := by omega
    have HNB := Lib.hid hbig
    have hs16 : s.size ≤ 16384 := by omega
    clear hbig hs
    obtain ⟨W2, hW2⟩ : ∃ W2, W2 = W.alloc (.cells #[.string s, .int .i64 0] 63) := ⟨_, rfl⟩
    have hb2 : Below W.heap.size W W2 := by rw [hW2]; exact Cd.fn1 _ _ _
    have hR2 : Wire.RR W.heap.size s 0 W2 := by show W2.heap[_]? = _; rw [hW2]; exact heap_alloc_new W _
    have hWs : W.heap.size = w.heap.size + 1 := by rw [hW]; simp
    rw [hWs] at hR2
    have HR2 := Lib.hid hR2
    have HB2 := Lib.hid (HB.out.trans (hb2.mono HB.out.size))
    have HZ2 : Hid (W2.heap[w.heap.size]? = some (.cells #[.slice none 0 0] 24 (0, 0))) := (hb2.block _ (Cd.ltH HZ.out)).trans HZ.out
    have hZR : w.heap.size < w.heap.size + 1 := Nat.lt_succ_self _
    go_enter Try.func16, Try.ntmps16
    go_upto_region 4 with fail
    rw [← hW, ← hW2]
    clear hW hW2 hb2 hR2 HZ HB
    obtain ⟨Z, hZe⟩ : ∃ Z, Z = w.heap.size := ⟨_, rfl⟩
    obtain ⟨R, hRe⟩ : ∃ R, R = w.heap.size + 1 := ⟨_, rfl⟩
    rw [← hRe] at hZR HR2 ⊢
    rw [← hZe] at hZR HZ2 ⊢
    have HNE : Hid (Z = w.heap.size ∧ Z < R) := ⟨hZe, hZR⟩
    clear hZe hRe hZR hWs
    have HU := Lib.hid (frUint_any 18446744073709551615 R s 0 W2 HR2.out HSZ.out)
    have HS1 := Lib.hid (Wire.step_size (wrong := Wire.wU 18446744073709551615) s 0)
    have HDC : Hid (∀ r, r = Wire.step (Wire.wU 18446744073709551615) s 0 → (r.2.2 ≠ 0 → Cd.dec s = ([], 8)) ∧ (r.2.2 = 0 → r.1 ≠ 1 → Cd.dec s = ([], 100)) ∧ (r.2.2 = 0 → r.1 = 1 → Wire.step (Wire.wU 18446744073709551615) s 0 = (1, r.2.1, 0))) := fun r hr => by
      subst hr
      refine ⟨fun h => ?_, fun h h2 => ?_, fun h h2 => Prod.ext h2 (Prod.ext rfl h)⟩
      · unfold Cd.dec
        rw [if_neg HNB.out, if_pos h]
      · unfold Cd.dec
        rw [if_neg HNB.out, if_neg (by simpa using h), if_pos h2]
    obtain ⟨y, hy⟩ : ∃ y, y = Wire.step (Wire.wU 18446744073709551615) s 0 := ⟨_, rfl⟩
    rw [← hy] at HU HS1
    have HDY := Lib.hid (HDC.out y hy)
    clear hy HDC
    obtain ⟨v, s1, f1⟩ := y
    simp only at HU HDY HS1
    go_wp2_with fail
    refine HU.out.mono ?_
    rintro e w3 ⟨rfl, hA3⟩
    have HR3 := Lib.hid hA3.1
    have cE := hA3.1.c1
    have HB3 : Hid (Below w.heap.size w w3) := HB2.out.grown hA3.2 HB2.out.size (fun k hk => by cases hk; have := HNE.out; omega)
    have HZ3 : Hid (w3.heap[Z]? = some (.cells #[.slice none 0 0] 24 (0, 0))) := (hA3.2.block Z (Cd.ltH HZ2.out) (fun e => by have := Option.some.inj e; have := HNE.out; omega)).trans HZ2.out
    clear hA3 HU HR2 HB2 HZ2
    by_cases hf : f1 = 0
    · subst hf
      by_cases hv : v = 1
      · subst hv
        have HST1 := Lib.hid (HDY.out.2.2 rfl rfl)
        have hs1 : s1.size ≤ 16384 := Nat.le_trans HS1.out hs16
        obtain ⟨P, hPe⟩ : ∃ P, P = w3.heap.size := ⟨_, rfl⟩
        obtain ⟨w4, hw4⟩ : ∃ w4, w4 = w3.alloc (.cells #[.slice none 0 0] 24) := ⟨_, rfl⟩
        have hb4 : Below w3.heap.size w3 w4 := by rw [hw4]; exact Cd.fn1 _ _ _
        have hP4 : Cd.PBlk w4 P (.slice none 0 0) := by show w4.heap[P]? = _; rw [hw4, hPe]; exact heap_alloc_new w3 _
        have HQ4 : Hid (Cd.QSt w Z R P w4.heap.size 0 [] none 0 s1 0 w4) :=
          ⟨hP4, HR3.out.below hb4, (hb4.block Z (Cd.ltH HZ3.out)).trans HZ3.out, HB3.out.trans (hb4.mono HB3.out.size), Cd.Rows.nil _ _, rfl, Nat.le_refl _, by have h1 := HNE.out; have h2 := HR3.out.lt; have h3 := hP4.lt; omega⟩
        clear hb4 hP4 HDY HS1 HR3 HB3 HZ3
        go_upto_region 10 with fail
        rw [← hw4, ← hPe]
        clear hw4 hPe cE
        obtain ⟨b0, hb0⟩ : ∃ b0, b0 = w4.heap.size := ⟨_, rfl⟩
        rw [← hb0] at HQ4
        clear hb0
        have HCN := Lib.hid (frCount_any 16 (by omega) (by omega) R s1 0 w4 HQ4.out.r (by unfold maxLen; omega))
        have HPS := Lib.hid (Nat.le_trans (Wire.step_size (wrong := Wire.wC 16) s1 0) hs1)
        have HSRC : Hid (∀ l R, Cd.SrcF s1 l R → l.length = (Cd.pC s1).1 ∧ (∀ o ∈ l, Cd.GF o) ∧ (Cd.pC s1).2.1.data.toList = l.flatMap Cd.FnV.bytes ++ R ∧ (Cd.pC s1).2.2 = 0) := fun l R h => Cd.srcF h
        have HFIN : Hid (∀ (fs : List Cd.FnV) (t : ByteArray) (g : Nat), Cd.Inv Cd.FnV.bytes Cd.GF (Cd.SrcF s1) (Cd.pC s1).2.1 (Cd.pC s1).2.2 fs t g → (g = 0 → fs.length = (Cd.pC s1).1) → Cd.dec s = if Wire.fin t g = 0 then (fs, 0) else ([], 8)) := fun fs t g h hn => Cd.dec_doc HNB.out HST1.out h hn
        have hpl := Cd.pC_le s1
        obtain ⟨pc, hpc⟩ : ∃ p, p = Cd.pC s1 := ⟨_, rfl⟩
        have e1 : Wire.step (Wire.wC 16) s1 0 = pc := hpc.symm
        rw [e1] at HCN HPS
        rw [← hpc] at HSRC HFIN hpl
        clear hpc e1
        obtain ⟨n, qs, qf⟩ := pc
        simp only at HCN HPS HSRC HFIN hpl
        go_wp2_with fail
        refine HCN.out.mono ?_
        rintro e w5 ⟨rfl, hA5⟩
        have HQ5 := Lib.hid (HQ4.out.after hA5)
        have hqs : qs.size ≤ 16384 := HPS.out
        clear hA5 HCN HQ4 HPS
        go_wp2_with fail
        go_loopw [8] (fun s8 wr => ∃ (i : Nat) (ms : List Cd.Fm) (A : Option Addr) (c : Nat) (t : ByteArray) (g : Nat), i ≤ n ∧ s8 = .int .i64 i ∧ t.size ≤ 16384 ∧ Hid (Cd.QSt w Z R P b0 i ms A c t g wr) ∧ Hid (Cd.Inv Cd.FnV.bytes Cd.GF (Cd.SrcF s1) qs qf (Cd.fns ms) t g)) (fun s8 _ => n - (intOf s8).toNat)
        case atStart => exact ⟨0, [], none, 0, qs, qf, Nat.zero_le _, rfl, hqs, HQ5.out, Cd.Inv.start (fun l R h => (HSRC.out l R h).2.2.2)⟩
        case round =>
          clear HQ5 hqs
          obtain ⟨i, ms, A, c, t, g, hi, rfl, htz, HQ, HV⟩ := hrel
          have cE := HQ.out.r.c1
          by_cases hgo : i < n ∧ g = 0
          · obtain ⟨hlt, rfl⟩ := hgo
            have k1 : (i : Int) < (n : Int) := by omega
            have hi100 : i ≤ 100000 := by omega
            have HA := Lib.hid (frUint_any 16 R t 0 wr HQ.out.r (by unfold maxLen; omega))
            have HBU : Hid (∀ U, Wire.RR R (Cd.fA t).2.1 (Cd.fA t).2.2 U → Calls Try.prog 33 #[.pointer (some ⟨R, 0, none⟩), .int .u64 16] U fun e w' => e = .returned (.int .u64 ((Cd.fB t).1 : Int)) ∧ Wire.Post R (Cd.fB t).2.1 (Cd.fB t).2.2 U w') := fun U hU => frUint_any 16 R _ _ U hU (by have h1 := Wire.step_size (wrong := Wire.wU 16) t 0; have h2 : (Cd.fA t).2.1.size ≤ t.size := h1; unfold maxLen; omega)
            have HCU : Hid (∀ U, Wire.RR R (Cd.fB t).2.1 (Cd.fB t).2.2 U → Calls Try.prog 34 #[.pointer (some ⟨R, 0, none⟩), .int .i64 64] U fun e w' => e = .returned (.int .i64 ((Cd.fC t).1 : Int)) ∧ Wire.Post R (Cd.fC t).2.1 (Cd.fC t).2.2 U w') := fun U hU => frCount_any 64 (by omega) (by omega) R _ _ U hU (by have h1 := Wire.step_size (wrong := Wire.wU 16) t 0; have h2 : (Cd.fA t).2.1.size ≤ t.size := h1; have h3 := Wire.step_size (wrong := Wire.wU 16) (Cd.fA t).2.1 (Cd.fA t).2.2; have h4 : (Cd.fB t).2.1.size ≤ (Cd.fA t).2.1.size := h3; unfold maxLen; omega)
            have HCZ : Hid ((Cd.fC t).2.1.size ≤ 16384) := by
              have h1 := Wire.step_size (wrong := Wire.wU 16) t 0
              have h2 : (Cd.fA t).2.1.size ≤ t.size := h1
              have h3 := Wire.step_size (wrong := Wire.wU 16) (Cd.fA t).2.1 (Cd.fA t).2.2
              have h4 : (Cd.fB t).2.1.size ≤ (Cd.fA t).2.1.size := h3
              have h5 := Wire.step_size (wrong := Wire.wC 64) (Cd.fB t).2.1 (Cd.fB t).2.2
              have h6 : (Cd.fC t).2.1.size ≤ (Cd.fB t).2.1.size := h5
              show _ ≤ _
              omega
            have HSO : Hid (∀ l R, Cd.SrcO t l R → l.length = (Cd.fC t).1 ∧ (∀ o ∈ l, Cd.GO o) ∧ (Cd.fC t).2.1.data.toList = l.flatMap Cd.OpV.bytes ++ R ∧ (Cd.fC t).2.2 = 0) := fun l R h => Cd.srcO h
            have HFD : Hid (∀ (os : List Cd.OpV) (t' : ByteArray) (g' : Nat), Cd.Inv Cd.OpV.bytes Cd.GO (Cd.SrcO t) (Cd.fC t).2.1 (Cd.fC t).2.2 os t' g' → (g' = 0 → os.length = (Cd.fC t).1) →
                (∀ f R, Cd.GF f → t.data.toList = f.bytes ++ R → g' = 0) ∧ (g' = 0 → t.data.toList = (⟨(Cd.fA t).1, (Cd.fB t).1, os⟩ : Cd.FnV).bytes ++ t'.data.toList ∧ Cd.GF ⟨(Cd.fA t).1, (Cd.fB t).1, os⟩)) := fun os t' g' h hn => Cd.fn_done h hn
            have al : (Cd.fA t).1 ≤ 16 := Cd.stepU_le 16 _ _
            have bl : (Cd.fB t).1 ≤ 16 := Cd.stepU_le 16 _ _
            have cl := Cd.fC_le t
            have eA : Wire.step (Wire.wU 16) t 0 = Cd.fA t := rfl
            rw [eA] at HA
            clear eA
            generalize Cd.fA t = fa at HA HBU HFD al
            generalize Cd.fB t = fb at HBU HCU HFD bl
            generalize Cd.fC t = fc at HCU HCZ HSO HFD cl
            obtain ⟨av, sA, fA⟩ := fa
            obtain ⟨bv, sB, fB⟩ := fb
            obtain ⟨cn, sC, fC⟩ := fc
            simp only at HA HBU HCU HCZ HSO HFD al bl cl
            have hwa : IntKind.i64.wrap (av : Int) = (av : Int) := by rw [IntKind.wrap_i64]; omega
            have hwb : IntKind.i64.wrap (bv : Int) = (bv : Int) := by rw [IntKind.wrap_i64]; omega
            clear hlt
            go_wp2_with fail
            refine HA.out.mono ?_
            rintro e v1 ⟨rfl, hp1⟩
            obtain ⟨F, hFe⟩ : ∃ F, F = v1.heap.size := ⟨_, rfl⟩
            obtain ⟨v2, hv2⟩ : ∃ v2, v2 = v1.alloc (.cells #[.int .i64 (av : Int), .int .i64 0, .slice none 0 0] 41) := ⟨_, rfl⟩
            have hbv : Below v1.heap.size v1 v2 := by rw [hv2]; exact Cd.fn1 _ _ _
            have hFv : Cd.FB v2 F (av : Int) 0 (.slice none 0 0) := by show v2.heap[F]? = _; rw [hv2, hFe]; exact heap_alloc_new v1 _
            have HF2 := Lib.hid hFv
            have HP2 : Hid (Wire.Post R sA fA wr v2) := ⟨hp1.1.below hbv, Cd.grown_below hp1.2 hbv⟩
            have HFN : Hid (wr.heap.size ≤ F ∧ F < v2.heap.size ∧ R < wr.heap.size) := ⟨by have := hp1.2.size; omega, hFv.lt, HQ.out.r.lt⟩
            clear hp1 hbv hFv HA cE
            go_upto_region 15 with fail
            rw [← hv2, ← hFe]
            clear hv2 hFe hwa
            obtain ⟨b1, hb1⟩ : ∃ b1, b1 = v2.heap.size := ⟨_, rfl⟩
            rw [← hb1] at HFN
            have HB1 : Hid (b1 = v2.heap.size) := hb1
            clear hb1
            go_wp2_with fail
            refine (HBU.out _ HP2.out.1).mono ?_
            rintro e v3 ⟨rfl, hp3⟩
            have hF3 : Cd.FB v3 F (av : Int) 0 (.slice none 0 0) := HF2.out.of_block (hp3.2.block F HF2.out.lt (fun e => by have := Option.some.inj e; have := HFN.out; omega))
            have f1c := hF3.c1
            have f1f := hF3.f 1
            have hF4 := hF3.set1 (bv : Int)
            have hp4 := HP2.out.trans hp3
            have HP4 : Hid (Wire.Post R sB fB wr (v3.setCell ⟨F, 1, none⟩ (.int .i64 (bv : Int)))) := ⟨(Below.heap_setCell _ _ _ _ (by have := HFN.out; intro e; try dsimp only at e; omega)).trans hp4.1, Cd.grown_setX hp4.2 HFN.out.1⟩
            have HF4 := Lib.hid hF4
            have HS4 : Hid (b1 ≤ (v3.setCell ⟨F, 1, none⟩ (.int .i64 (bv : Int))).heap.size) := by have h1 := HB1.out; have h2 := hp3.2.size; show _ ≤ _; simp [World.setCell]; omega
            clear hp3 hF3 hF4 hp4 HBU HF2 HP2
            go_wp2_with fail
            refine (HCU.out _ HP4.out.1).mono ?_
            rintro e v5 ⟨rfl, hp5⟩
            have HI5 : Hid (Cd.ISt wr R F b1 (av : Int) (bv : Int) 0 [] none 0 sC fC v5) :=
              ⟨HF4.out.of_block (hp5.2.block F HF4.out.lt (fun e => by have := Option.some.inj e; have := HFN.out; omega)), HP4.out.trans hp5, ⟨rfl, .inl ⟨rfl, rfl⟩⟩, rfl, Nat.le_trans HS4.out hp5.2.size, HFN.out⟩
            have hsC : sC.size ≤ 16384 := HCZ.out
            clear hp5 HCU HP4 HF4 HS4 f1c f1f hwb
            go_wp2_with fail
            go_loopw [11] (fun s11 wk => ∃ (j : Nat) (os : List Cd.OpV) (Ao : Option Addr) (co : Nat) (t' : ByteArray) (g' : Nat), j ≤ cn ∧ s11 = .int .i64 j ∧ t'.size ≤ 16384 ∧ Hid (Cd.ISt wr R F b1 (av : Int) (bv : Int) j os Ao co t' g' wk) ∧ Hid (Cd.Inv Cd.OpV.bytes Cd.GO (Cd.SrcO t) sC fC os t' g')) (fun s11 _ => cn - (intOf s11).toNat)
            case atStart => exact ⟨0, [], none, 0, sC, fC, Nat.zero_le _, rfl, hsC, HI5.out, Cd.Inv.start (fun l R h => (HSO.out l R h).2.2.2)⟩
            case round =>
              clear HI5 hsC
              rename World => wk
              obtain ⟨j, os, Ao, co, t', g', hj, rfl, htz', HIS, HIV⟩ := hrel
              have cE := HIS.out.post.1.c1
              by_cases hgo2 : j < cn ∧ g' = 0
              · obtain ⟨hjt, rfl⟩ := hgo2
                have j1 : (j : Int) < (cn : Int) := by omega
                have hj100 : j ≤ 100000 := by omega
                have HC0 := Lib.hid (rReadOp10 R t' 0 wk.drew HIS.out.post.1 (by unfold maxLen; omega))
                have HVN : Hid (Cd.Inv Cd.OpV.bytes Cd.GO (Cd.SrcO t) sC fC (os ++ [(Cd.dOp t' 0).1]) (Cd.dOp t' 0).2.1 (Cd.dOp t' 0).2.2) :=
                  HIV.out.step (fun l R h => ⟨(HSO.out l R h).1, (HSO.out l R h).2.1, (HSO.out l R h).2.2.1⟩) Cd.splitsO (by rw [HIS.out.len]; exact hjt) (fun o R ho h => Cd.dOp_left ho h) (fun h => (Cd.dOp_good h).2)
                have hys := Nat.le_trans (Cd.dOp_size t' 0) htz'
                generalize Cd.dOp t' 0 = y at HC0 HVN hys
                obtain ⟨o, ys, yf⟩ := y
                simp only at HC0 HVN hys
                have HC : Hid (Calls Try.prog 35 #[.pointer (some ⟨R, 0, none⟩)] wk.drew fun e w' => ∃ v, e = .returned v ∧ v = .agg #[.int .u8 (o.k : Int), .int .i64 o.d, .int .i64 o.a, .int .i64 o.b, .int .i64 o.n] ∧ Wire.Post R ys yf wk.drew w') := HC0.out.mono fun e w' hh => ⟨_, hh.1, rfl, hh.2⟩
                have cF := HIS.out.f.c2
                clear HC0 hjt HIV
                go_upto_region 20 with fail
                go_region_law (first
                  | (refine Cd.opush_step hrow5 (by rfl) _ _ (by rfl) (by rfl) (by rfl) o (by rfl) hj100 hsz5 ?_
                     intro gg cap w6 hown6 hgr6
                     have hF6 := hFa.of_block (hgr6.block F hFa.lt (fun e => by have h1 := (hrow5.lt F e.symm).1; have := HFN.out; omega))
                     have cF6 := hF6.c2
                     have fF6 := hF6.f 2)
                  | (refine Cd.step_call 35 #[.pointer (some ⟨R, 0, none⟩)] (fun v w' => v = .agg #[.int .u8 (o.k : Int), .int .i64 o.d, .int .i64 o.a, .int .i64 o.b, .int .i64 o.n] ∧ Wire.Post R ys yf wk.drew w') (by rfl) (by kernel_rfl) HC.out ?_
                     rintro v w5 ⟨rfl, hA5⟩
                     have hF5 : Cd.FB w5 F (av : Int) (bv : Int) (.slice Ao j co) := HIS.out.f.of_block (hA5.2.block F HIS.out.f.lt (fun e => by have := Option.some.inj e; have := HFN.out; omega))
                     have cF5 := hF5.c2
                     have hrow5 : w5.ownsRow b1 43 5 (.slice Ao j co) j (Cd.ocells os) := Cd.rowKeep HIS.out.row (fun p hp => hA5.2.block p (HIS.out.row.lt p hp).2 (fun e => by have := Option.some.inj e; have h1 := (HIS.out.row.lt p hp).1; have := HFN.out; omega))
                     have hsz5 : b1 ≤ w5.heap.size := Nat.le_trans HIS.out.lo hA5.2.size
                     have hFa : Cd.FB (w5.alloc (.cells #[.int .u8 (o.k : Int), .int .i64 o.d, .int .i64 o.a, .int .i64 o.b, .int .i64 o.n] 43)) F (av : Int) (bv : Int) (.slice Ao j co) := hF5.of_block ((Cd.fn1 w5 _ _).block F hF5.lt)
                     have cFa := hFa.c2))
                all_goals
                  have hsep : ∀ p, (Value.slice Ao j co).ownBlock = some p → b1 ≤ p := fun p hp => (hrow5.lt p hp).1
                  obtain ⟨U, hU⟩ : ∃ U, U = w5.alloc (.cells #[.int .u8 (o.k : Int), .int .i64 o.d, .int .i64 o.a, .int .i64 o.b, .int .i64 o.n] 43) := ⟨_, rfl⟩
                  have hbU : Below w5.heap.size w5 U := by rw [hU]; exact Cd.fn1 _ _ _
                  rw [← hU] at hgr6
                  have hR5 : R < w5.heap.size := hA5.1.lt
                  have hRne : ∀ q, q < b1 → some q ≠ (Value.slice Ao j co).ownBlock := fun q hq e => by have := hsep q e.symm; omega
                  have HNEW : Hid (Cd.ISt wr R F b1 (av : Int) (bv : Int) (j + 1) (os ++ [o]) (some ⟨gg, 0, none⟩) cap ys yf (w6.setCell ⟨F, 2, none⟩ (.slice (some ⟨gg, 0, none⟩) (j + 1) cap))) := by
                    refine ⟨hF6.set2 _, ⟨?_, ?_⟩, ?_, by rw [List.length_append, HIS.out.len]; rfl, ?_, HFN.out⟩
                    · exact (Below.heap_setCell _ _ _ _ (by have := HFN.out; intro e; try dsimp only at e; omega)).trans ((hgr6.block R (Nat.lt_of_lt_of_le hR5 hbU.size) (hRne R (by have := HFN.out; omega))).trans ((hbU.block R hR5).trans hA5.1))
                    · exact Cd.grown_setX (Cd.grown_row (Cd.grown_below (Wire.grown_trans (Cd.grown_drew HIS.out.post.2) hA5.2) hbU) hgr6 (fun p hp => by have := hsep p hp; have := HFN.out; omega)) HFN.out.1
                    · show World.ownsRow _ _ _ _ _ _ _
                      rw [Cd.ocells_snoc]
                      exact Cd.rowKeep hown6 (fun p hp => Below.heap_setCell _ _ _ _ (by intro e; have h1 := (hown6.lt p hp).1; have := HFN.out; try dsimp only at e; omega))
                    · have h1 := hbU.size
                      have h2 := hgr6.size
                      simp [World.setCell]
                      omega
                  clear hsep hU hbU hgr6 hR5 hRne hF6 hown6 hA5 hF5 hrow5 hFa cF6 fF6 cF5 cFa cF cE
                  go_wp2_with fail
                  go_roundw
                  case rel => exact ⟨j + 1, os ++ [o], some ⟨gg, 0, none⟩, cap, ys, yf, by omega, by go_num, hys, HNEW.out, HVN.out⟩
                  case measure => simp [intOf]; omega
              · have hex : g' = 0 → j = cn := fun h => by
                  by_cases hjt : j < cn
                  · exact absurd ⟨hjt, h⟩ hgo2
                  · omega
                have hor : (¬ (j : Int) < (cn : Int)) ∨ ((j : Int) < (cn : Int) ∧ ((g' : Int) == 0) = false) := by
                  by_cases hjt : j < cn
                  · exact .inr ⟨by omega, by simpa using (by have := fun h => hgo2 ⟨hjt, h⟩; omega : ¬ (g' : Int) = 0)⟩
                  · exact .inl (by omega)
                have HFX := Lib.hid (HFD.out os t' g' HIV.out (fun h => by rw [HIS.out.len]; exact hex h))
                have HVN : Hid (Cd.Inv Cd.FnV.bytes Cd.GF (Cd.SrcF s1) qs qf (Cd.fns ms ++ [⟨(av : Int), (bv : Int), os⟩]) t' g') :=
                  HV.out.step (fun l R h => ⟨(HSRC.out l R h).1, (HSRC.out l R h).2.1, (HSRC.out l R h).2.2.1⟩) Cd.splitsF (by rw [Cd.fns_len, HQ.out.len]; omega) HFX.out.1 HFX.out.2
                have HQ2 := Lib.hid (HQ.out.after HIS.out.post)
                have HOR := HIS.out.row
                have hol := HIS.out.len
                clear hgo2 hex HFX HIV HFD HSO cE
                obtain rfl : j = os.length := hol.symm
                have x0 := HQ2.out.p.c0
                have g0 := HIS.out.f.c0
                have g1 := HIS.out.f.c1
                have g2 := HIS.out.f.c2
                have cE := HQ2.out.r.c1
                have HRP : Hid (wk.ownsRow b0 41 3 (.slice A i c) i (Cd.mcells ms)) := by
                  have := HQ2.out.rows.fs
                  rwa [HQ2.out.len] at this
                have HBB : Hid (b0 ≤ b1 ∧ F < b1 ∧ b0 ≤ wk.heap.size) := ⟨by have h1 := HQ.out.lo; have h2 := HFN.out; omega, HFN.out.2.1, HQ2.out.lo⟩
                have HOW := Lib.hid HOR
                have HVN2 : Hid (Cd.Inv Cd.FnV.bytes Cd.GF (Cd.SrcF s1) qs qf (Cd.fns (ms ++ [(⟨⟨(av : Int), (bv : Int), os⟩, Ao, co⟩ : Cd.Fm)])) t' g') := by
                  have e : Cd.fns (ms ++ [(⟨⟨(av : Int), (bv : Int), os⟩, Ao, co⟩ : Cd.Fm)]) = Cd.fns ms ++ [⟨(av : Int), (bv : Int), os⟩] := by unfold Cd.fns; rw [List.map_append]; rfl
                  rw [e]
                  exact HVN.out
                clear hol HOR HVN HQ HV HIS
                rcases hor with k2 | ⟨k2, gb⟩
                all_goals
                  go_wp2_with (refine Cd.at_app rfl ?_; refine Cd.fpush HRP.out rfl _ _ rfl rfl rfl (⟨⟨(av : Int), (bv : Int), os⟩, Ao, co⟩ : Cd.Fm) (by first | with_reducible rfl | rfl) hi100 HBB.out.2.2 ?_; intro gg cap w6 hown hgr; have hCA : Cd.PBlk (wk.alloc (.cells #[.int .i64 (av : Int), .int .i64 (bv : Int), .slice Ao os.length co] 41)) P (.slice A i c) := HQ2.out.p.of_block ((Cd.fn1 wk _ _).block P HQ2.out.p.lt); have hC4 := hCA.of_block (hgr.block P hCA.lt (fun e => by have h1 := (HRP.out.lt P e.symm).1; have := HQ2.out.ne; omega)); have x4 := hC4.c0; have y4 := hC4.f 0)
                  have hbA : Below wk.heap.size wk (wk.alloc (.cells #[.int .i64 (av : Int), .int .i64 (bv : Int), .slice Ao os.length co] 41)) := Cd.fn1 _ _ _
                  have keepU : ∀ q, q < wk.heap.size → q ≠ P → some q ≠ (Value.slice A i c).ownBlock → (w6.setCell ⟨P, 0, none⟩ (.slice (some ⟨gg, 0, none⟩) (i + 1) cap)).heap[q]? = wk.heap[q]? := fun q hq hne hr =>
                    (Below.heap_setCell _ _ _ _ (by intro e; try dsimp only at e; omega)).trans ((hgr.block q (Nat.lt_of_lt_of_le hq hbA.size) hr).trans (hbA.block q hq))
                  have hno : ∀ q, q < b0 → some q ≠ (Value.slice A i c).ownBlock := fun q hq e => by have h1 := (HRP.out.lt q e.symm).1; omega
                  have HNEW : Hid (Cd.QSt w Z R P b0 (i + 1) (ms ++ [(⟨⟨(av : Int), (bv : Int), os⟩, Ao, co⟩ : Cd.Fm)]) (some ⟨gg, 0, none⟩) cap t' g' (w6.setCell ⟨P, 0, none⟩ (.slice (some ⟨gg, 0, none⟩) (i + 1) cap))) := by
                    have hn := HQ2.out.ne
                    have hl : (ms ++ [(⟨⟨(av : Int), (bv : Int), os⟩, Ao, co⟩ : Cd.Fm)]).length = i + 1 := by rw [List.length_append, HQ2.out.len]; rfl
                    refine ⟨hC4.set0 _, (keepU R HQ2.out.r.lt (by omega) (hno R (by omega))).trans HQ2.out.r, (keepU Z (Cd.ltH HQ2.out.z) (by omega) (hno Z (by omega))).trans HQ2.out.z, ?_, ⟨?_, fun m' hm' => ?_⟩, hl, ?_, hn⟩
                    · have h1 : Below w.heap.size w w6 := (HQ2.out.bel.trans (hbA.mono HQ2.out.bel.size)).grown hgr (by have h2 := HQ2.out.bel.size; have h3 := hbA.size; omega) (fun q hq => by have h2 := (HRP.out.lt q hq).1; omega)
                      exact Cd.setCell_below h1 h1.size (by omega)
                    · rw [hl, Cd.mcells_snoc]
                      exact Cd.rowKeep hown (fun p hp => Below.heap_setCell _ _ _ _ (by intro e; have h1 := (hown.lt p hp).1; try dsimp only at e; omega))
                    · have h : wk.ownsRow b0 43 5 (.slice m'.A m'.f.ops.length m'.c) m'.f.ops.length (Cd.ocells m'.f.ops) := by
                        rcases List.mem_append.1 hm' with h | h
                        · exact HQ2.out.rows.os m' h
                        · rw [List.mem_singleton.1 h]
                          exact Cd.rowBase HOW.out HBB.out.1
                      exact Cd.rowKeep h (fun p hp => keepU p (h.lt p hp).2 (by have h1 := (h.lt p hp).1; omega) (fun e => Cd.rowNe h HRP.out (by decide) p hp e.symm))
                    · have h1 := hbA.size
                      have h2 : (wk.alloc (.cells #[.int .i64 (av : Int), .int .i64 (bv : Int), .slice Ao os.length co] 41)).heap.size ≤ w6.heap.size := hgr.size
                      have h3 := HBB.out.2.2
                      simp [World.setCell]
                      omega
                  clear hC4 hCA hbA keepU hown hgr x4 y4 x0 g0 g1 g2 hno HRP HOW HBB HQ2 cE
                  go_wp2_with fail
                  go_roundw
                  case rel => exact ⟨i + 1, ms ++ [(⟨⟨(av : Int), (bv : Int), os⟩, Ao, co⟩ : Cd.Fm)], some ⟨gg, 0, none⟩, cap, t', g', by omega, by go_num, htz', HNEW.out, HVN2.out⟩
                  case measure => simp [intOf]; omega
          · have hex : g = 0 → i = n := fun h => by
              by_cases hlt : i < n
              · exact absurd ⟨hlt, h⟩ hgo
              · omega
            have hor : (¬ (i : Int) < (n : Int)) ∨ ((i : Int) < (n : Int) ∧ ((g : Int) == 0) = false) := by
              by_cases hlt : i < n
              · exact .inr ⟨by omega, by simpa using (by have := fun h => hgo ⟨hlt, h⟩; omega : ¬ (g : Int) = 0)⟩
              · exact .inl (by omega)
            have HDC := Lib.hid (HFIN.out (Cd.fns ms) t g HV.out (fun h => by rw [Cd.fns_len, HQ.out.len]; exact hex h))
            have HEN := Lib.hid (frEnd_any R t g wr HQ.out.r)
            have hlen := HQ.out.len
            clear hgo hex HFIN HSRC HV
            obtain rfl : i = ms.length := hlen.symm
            generalize Wire.fin t g = ff at HDC HEN
            by_cases hff : ff = 0
            · subst hff
              have HE : Hid (Cd.dec s = (Cd.fns ms, 0)) := HDC.out
              clear HDC
              rcases hor with k2 | ⟨k2, gb⟩
              all_goals
                go_wp2_with fail
                refine HEN.out.mono ?_
                rintro e w7 ⟨rfl, hp7⟩
                have HQ7 := Lib.hid (HQ.out.after hp7)
                clear hp7 HEN HQ cE
                go_wp2_with (first
                  | refine wpList_load_row rfl 24 (.tmp 6) rfl P rfl 24 #[.slice A ms.length c] (0, 0) _ HQ7.out.p Try.underlying24 rfl HI.out ?_
                  | refine wpList_store_row rfl 24 (.tmp 2) (.tmp 83) rfl Z #[.slice A ms.length c] rfl rfl 24 _ HQ7.out.z HI.out rfl (by simp [Value.oneCell']) ?_)
                try simp only [Exit.inBlock, Exit.then]
                refine bodyPost_ret (v := .tuple #[.agg #[.slice A ms.length c], .int .i64 0]) (Cd.results_ct Try.results16 _ _ Z 24 #[.slice A ms.length c] (0, 0) _ rfl (setRow_heap _ _ _ _ _ _ HQ7.out.z) Try.underlying24 rfl HI.out _ rfl) rfl ⟨ms, A, c, ?_, ?_, ?_, ?_⟩
                · rw [HE.out]
                · rw [HE.out]
                · exact (HQ7.out.rows.keep (w' := w7.setRow Z #[.slice A ms.length c]) (fun i h1 h2 => setRow_other w7 Z i _ (by have := HQ7.out.ne; omega))).base (by have := HQ7.out.ne; omega)
                · exact Cd.row_below HQ7.out.bel (by have := HQ7.out.ne; omega) _
            · have HE : Hid (Cd.dec s = ([], 8)) := HDC.out.trans (if_neg hff)
              have hfi : ((ff : Int) == 0) = false := by simpa using (by omega : ¬ (ff : Int) = 0)
              have hfn : ((ff : Int) != 0) = true := by simpa using (by omega : ¬ (ff : Int) = 0)
              clear HDC hff
              rcases hor with k2 | ⟨k2, gb⟩
              all_goals
                go_wp2_with fail
                refine HEN.out.mono ?_
                rintro e w7 ⟨rfl, hp7⟩
                have HQ7 := Lib.hid (HQ.out.after hp7)
                clear hp7 HEN HQ cE
                go_wp2_with (refine wpList_store_row rfl 24 _ _ rfl Z #[.slice none 0 0] rfl rfl 24 _ HQ7.out.z HI.out rfl (by simp [Value.oneCell']) ?_)
                try simp only [Exit.inBlock, Exit.then]
                refine bodyPost_ret (v := .tuple #[.agg #[.slice none 0 0], .int .i64 8]) (Cd.results_ct Try.results16 _ _ Z 24 #[.slice none 0 0] (0, 0) _ rfl (setRow_heap _ _ _ _ _ _ HQ7.out.z) Try.underlying24 rfl HI.out _ rfl) rfl ⟨[], none, 0, ?_, ?_, Cd.Rows.nil _ _, ?_⟩
                · rw [HE.out]; rfl
                · rw [HE.out]; rfl
                · exact Cd.row_below HQ7.out.bel (by have := HQ7.out.ne; omega) _
      · have HE := Lib.hid (HDY.out.2.1 rfl hv)
        have hvi : ((v : Int) != 1) = true := by simpa using (by omega : ¬ (v : Int) = 1)
        clear hv HDY
        go_wp2_with (refine wpList_store_row rfl 24 _ _ rfl Z #[.slice none 0 0] rfl rfl 24 _ HZ3.out HI.out rfl (by simp [Value.oneCell']) ?_)
        try simp only [Exit.inBlock, Exit.then]
        refine bodyPost_ret (v := .tuple #[.agg #[.slice none 0 0], .int .i64 100]) (Cd.results_ct Try.results16 _ _ Z 24 #[.slice none 0 0] (0, 0) _ rfl (setRow_heap _ _ _ _ _ _ HZ3.out) Try.underlying24 rfl HI.out _ rfl) rfl ⟨[], none, 0, ?_, ?_, Cd.Rows.nil _ _, ?_⟩
        · rw [HE.out]; rfl
        · rw [HE.out]; rfl
        · exact Cd.row_below HB3.out (by have := HNE.out; omega) _
    · have HE := Lib.hid (HDY.out.1 hf)
      have hfi : ((f1 : Int) != 0) = true := by simpa using (by omega : ¬ (f1 : Int) = 0)
      clear hf HDY
      go_wp2_with (refine wpList_store_row rfl 24 _ _ rfl Z #[.slice none 0 0] rfl rfl 24 _ HZ3.out HI.out rfl (by simp [Value.oneCell']) ?_)
      try simp only [Exit.inBlock, Exit.then]
      refine bodyPost_ret (v := .tuple #[.agg #[.slice none 0 0], .int .i64 8]) (Cd.results_ct Try.results16 _ _ Z 24 #[.slice none 0 0] (0, 0) _ rfl (setRow_heap _ _ _ _ _ _ HZ3.out) Try.underlying24 rfl HI.out _ rfl) rfl ⟨[], none, 0, ?_, ?_, Cd.Rows.nil _ _, ?_⟩
      · rw [HE.out]; rfl
      · rw [HE.out]; rfl
      · exact Cd.row_below HB3.out (by have := HNE.out; omega) _
end Go.Proofs.Ytndgafjnifkghaa
