/-
  The document's Reaches (layer 11).
-/
import Derived.Test.YtndgafjnifkghaaDoorChO
namespace Go.Proofs.YtndgafjnifkghaaDoor
open Go.RowKit

namespace Ck
/-- Of the functions before i, those that were met (or the first) have met what they begin. -/
def Past (p : List Cd.FnV) (f : Nat) (L0 : List Bool) (i : Nat) (L : List Bool) : Prop := ∀ a j : Nat, a < i → (a = f ∨ L0[a]? = some true) → Beg p a j → L[j]? = some true
theorem Past.mono {p : List Cd.FnV} {f i : Nat} {L0 L M : List Bool} (h : Past p f L0 i L) (hm : ∀ t : Nat, L[t]? = some true → M[t]? = some true) : Past p f L0 i M := fun a j ha h1 h2 => hm j (h a j ha h1 h2)
theorem begun_at {n f i : Nat} (hi : i < n) (hf : f < n) : ∃ h : i < ((List.replicate n false).set f true).length, ((List.replicate n false).set f true)[i] = decide (i = f) := by
  refine ⟨by simpa using hi, ?_⟩
  by_cases e : i = f
  · subst e
    rw [List.getElem_set_self, decide_eq_true rfl]
  · rw [List.getElem_set_ne (fun h => e h.symm), decide_eq_false e, List.getElem_replicate]
end Ck

set_option maxHeartbeats 4000000 in
set_option maxRecDepth 20000 in
theorem rReaches (A : Option Addr) (c : Nat) (l : List Cd.Fm) (w : World) (hR : ∀ m ∈ l, m.f.Rng) (hn : l.length ≤ maxLen) (hP : Cd.Prog w w.heap.size A l) (fn : Int) :
    Calls Tryd.prog 12 #[.agg #[.slice A l.length c], .int .i64 fn] w (Ck.ReachP (Cd.fns l) fn w) := by
  obtain ⟨W, hW⟩ : ∃ W, W = w.alloc (.cells #[.slice A l.length c] 24) := ⟨_, rfl⟩
  have hb : Below w.heap.size w W := by rw [hW]; exact Cd.fn1 _ _ _
  have hX : Cd.PBlk W w.heap.size (.slice A l.length c) := by show W.heap[_]? = _; rw [hW]; exact heap_alloc_new w _
  have HB := Lib.hid hb
  have HX := Lib.hid hX
  have p0 := hX.c0
  have hPW := (hP.below hb).mono hb.size
  have HWR := Lib.hid (rMay11 A c l W hR hn hPW)
  have HOK : Hid (Cd.pok (Cd.fns l) = true → Ck.PrgP W A l) := fun h => by
    rw [Cd.pok_iff, Bool.and_eq_true, decide_eq_true_eq, List.all_eq_true] at h
    exact ⟨hPW, hR, h.1, h.2⟩
  have hWs : W.heap.size = w.heap.size + 1 := by rw [hW]; simp
  clear hb hX hP hPW hR
  unfold maxLen at hn
  go_enter Tryd.func12, Tryd.ntmps12
  go_upto_region 1 with fail
  rw [← hW]
  clear hW
  generalize w.heap.size = X at HX p0 hWs ⊢
  have HXW : Hid (X < W.heap.size) := HX.out.lt
  by_cases he : (Ck.chk (Cd.fns l)).1 = 0
  · have HC := Lib.hid he
    have hz := Ck.chk_zero he
    rw [hz] at HWR
    dsimp only at HWR
    have HP := Lib.hid (HOK.out (Ck.chk_some he).2)
    have hl16 := HP.out.n
    clear he hz HOK hn
    go_wp2_with fail
    refine HWR.out.mono ?_
    rintro e w1 ⟨rfl, hb1⟩
    have H1 := Lib.hid hb1
    have p0 := (HX.out.of_block (hb1.block _ HX.out.lt)).c0
    clear hb1 HWR
    by_cases h0 : fn < 0
    · have d0 : decide (fn < 0) = true := by simpa using h0
      have HO : Hid (Ck.Out (Cd.fns l) fn []) := Ck.out_no (.inr (by unfold Ck.inN; rw [decide_eq_false (by omega)]; rfl))
      clear h0
      go_wp2_with fail
      go_ret
      exact ⟨[], none, 0, HO.out, Nat.zero_le _, rfl, Ck.lies_nil _ _, HB.out.trans (H1.out.mono HB.out.size)⟩
    · have d0 : decide (fn < 0) = false := by simpa using h0
      by_cases h1 : fn < (l.length : Int)
      · obtain ⟨f, rfl⟩ := Int.eq_ofNat_of_zero_le (by omega : 0 ≤ fn)
        have hfl : f < l.length := by omega
        have d1 : decide ((l.length : Int) ≤ (f : Int)) = false := by simpa using (by omega : ¬ (l.length : Int) ≤ (f : Int))
        have d2 : decide (l.length ≤ f) = false := by simpa using (by omega : ¬ l.length ≤ f)
        have f0 : (0 : Int) ≤ (f : Int) := by omega
        have hmem : ∀ m ∈ l, m.f ∈ Cd.fns l := fun m hm => List.mem_map.2 ⟨m, hm, rfl⟩
        have HF : Hid (∀ m ∈ l, ∀ o ∈ m.f.ops, o.k = 12 → 0 ≤ o.n ∧ o.n < (l.length : Int)) := fun m hm o ho hk => by
          have := Ck.chk_fork HC.out m.f (hmem m hm) o ho hk
          rwa [Cd.fns_len] at this
        have H64 : Hid (∀ m ∈ l, m.f.ops.length ≤ 64) := fun m hm => (Cd.FnV.ok_parts (HP.out.k m hm)).2.2.1
        have hmk : ∀ w : World, (Instr.makeSlice 54 (.int .i64 (l.length : Int)) (.int .i64 (l.length : Int))).run Tryd.prog w = .ok (.slice (some ⟨w.heap.size, 0, none⟩) l.length l.length) (w.alloc (.cells (madeCells #[.bool false] l.length) 4)) := run_make_row' (P := Tryd.prog) 54 4 (.bool false) 1 Tryd.underlying54 Ck.bool_info rfl .i64 .i64 l.length (by omega) (by omega)
        clear h0 hmem
        obtain ⟨V1, hV1⟩ : ∃ V, V = w1.alloc (.cells (madeCells #[.bool false] l.length) 4) := ⟨_, rfl⟩
        obtain ⟨V2, hV2⟩ : ∃ V, V = V1.alloc (.cells (madeCells #[.bool false] l.length) 4) := ⟨_, rfl⟩
        have hb1 : Below w1.heap.size w1 V1 := by rw [hV1]; exact Cd.fn1 _ _ _
        have hb2 : Below V1.heap.size V1 V2 := by rw [hV2]; exact Cd.fn1 _ _ _
        have hs1 : V1.heap.size = w1.heap.size + 1 := by rw [hV1]; simp
        have hs2 : V2.heap.size = V1.heap.size + 1 := by rw [hV2]; simp
        have hr1 : V1.heap[w1.heap.size]? = some (.cells (madeCells #[.bool false] l.length) 4 (0, 0)) := by rw [hV1]; exact heap_alloc_new w1 _
        have hr2 : V2.heap[V1.heap.size]? = some (.cells (madeCells #[.bool false] l.length) 4 (0, 0)) := by rw [hV2]; exact heap_alloc_new V1 _
        have HBm : Hid (Ck.Bits w1.heap.size (List.replicate l.length false) V2) := (Ck.Bits.made hr1).keep (hb2.block _ (by omega))
        have HBb : Hid (Ck.Bits V1.heap.size (List.replicate l.length false) V2) := Ck.Bits.made hr2
        have h1s := H1.out.size
        have HV2 := Lib.hid (H1.out.trans ((hb1.trans (hb2.mono hb1.size)).mono h1s))
        clear hr1 hr2 hb1 hb2
        go_upto_region 7 with fail
        rw [← hV1, ← hV2]
        clear hV1 hV2 p0 hmk
        obtain ⟨M, hM⟩ : ∃ M, M = w1.heap.size := ⟨_, rfl⟩
        rw [← hM] at hs1 HBm h1s ⊢
        obtain ⟨B, hB⟩ : ∃ B, B = M + 1 := ⟨_, rfl⟩
        rw [hs1] at hs2 HBb
        rw [← hB] at hs2 HBb ⊢
        have hMB : M < B := by omega
        clear hM hB hs1
        have HSZ : Hid (W.heap.size ≤ M ∧ V2.heap.size = B + 1) := ⟨by omega, by omega⟩
        clear hs2 h1s
        obtain ⟨hcf, hff⟩ := HBb.out f (by rw [List.length_replicate]; exact hfl)
        rw [List.getElem_replicate] at hcf
        obtain ⟨V, hV⟩ : ∃ V, V = V2.setCell ⟨B, f, none⟩ (.bool true) := ⟨_, rfl⟩
        have HBV : Hid (Ck.Bits B ((List.replicate l.length false).set f true) V) := by show Ck.Bits _ _ _; rw [hV]; exact HBb.out.set f (by rw [List.length_replicate]; exact hfl) true
        have hgV : V2.grownBy V (some B) := by rw [hV]; exact Ck.gr_set _ _ _ _
        have HMV : Hid (Ck.Bits M (List.replicate l.length false) V) := HBm.out.keep (Ck.gr_block hgV (by have := HSZ.out.2; omega) (by omega))
        have HVs : Hid (V.heap.size = B + 1) := by show _ = _; rw [hV]; simp [World.setCell]; exact HSZ.out.2
        have HVB : Hid (Below W.heap.size W V) := HV2.out.trans (Ck.below_grown hgV (by have := HSZ.out.1; omega) HV2.out.size)
        have HXV := Lib.hid (HX.out.of_block (HVB.out.block _ HX.out.lt))
        have HPV := Lib.hid (HP.out.p.below HVB.out)
        have HBG : Hid (∀ i, i < l.length → ∃ h : i < ((List.replicate l.length false).set f true).length, ((List.replicate l.length false).set f true)[i] = decide (i = f)) := fun i hi => Ck.begun_at hi hfl
        generalize (List.replicate l.length false).set f true = G at HBV HBG
        have HOY : Hid (∀ L : List Bool, L.length = l.length → Ck.Sound (Cd.fns l) f L → (Ck.Closed (Cd.fns l) f L ∨ L.count false + l.length ≤ L.length) → Ck.Out (Cd.fns l) (f : Int) (Ck.idx L)) := fun L hl hs hc => Ck.out_yes HC.out (by rw [Cd.fns_len]; exact hfl) (by rw [Cd.fns_len]; exact hl) hs (Ck.full_closed (fun i j h => by have := Ck.chk_beg HC.out i j h; rw [Cd.fns_len] at this; omega) (by rw [hl]; rw [hl] at hc; exact hc))
        have HS0 : Hid (Ck.Sound (Cd.fns l) f (List.replicate l.length false) ∧ (List.replicate l.length false).count false + 0 ≤ (List.replicate l.length false).length ∧ (List.replicate l.length false).length = l.length) := ⟨fun j hj => by
          rw [List.getElem?_replicate] at hj
          split at hj <;> simp at hj, by rw [List.count_replicate_self, List.length_replicate]; omega, by rw [List.length_replicate]⟩
        generalize List.replicate l.length false = Z at HMV HS0 HBm HBb
        have HWM := Lib.hid HSZ.out.1
        clear hgV HBm HBb HX HV2 HP HSZ
        go_upto_region 8 with fail
        rw [← hV]
        clear hV hcf hff
        go_wp2_with fail
        go_loopw [11] (fun s11 wr => ∃ r : Nat, r ≤ l.length ∧ s11 = .int .i64 r ∧ Hid (∃ L : List Bool, L.length = l.length ∧ Ck.Sound (Cd.fns l) f L ∧ (Ck.Closed (Cd.fns l) f L ∨ L.count false + r ≤ L.length) ∧ Ck.Bits M L wr ∧ V.grownBy wr (some M))) (fun s11 _ => l.length - (intOf s11).toNat)
        case atStart => exact ⟨0, Nat.zero_le _, rfl, Z, HS0.out.2.2, HS0.out.1, .inr HS0.out.2.1, HMV.out, World.grownBy.refl _ _⟩
        case round =>
          obtain ⟨r, hr, rfl, HK⟩ := hrel
          obtain ⟨L0, hl0, hs0, hc0, hbt0, hg0⟩ := HK.out
          have HL0 := Lib.hid hl0
          have HSN := Lib.hid hs0
          have HCL := Lib.hid hc0
          have HBT := Lib.hid hbt0
          have HG := Lib.hid hg0
          clear hl0 hs0 hc0 hbt0 hg0 HK
          by_cases hlt : r < l.length
          · have r1 : (r : Int) < (l.length : Int) := by omega
            go_wp2_with fail
            go_loopw [12] (fun s12 wr => ∃ i : Nat, i ≤ l.length ∧ s12 = .int .i64 i ∧ Hid (∃ L : List Bool, Ck.Rd (Cd.fns l) f L0 L ∧ Ck.Past (Cd.fns l) f L0 i L ∧ Ck.Bits M L wr ∧ V.grownBy wr (some M))) (fun s12 _ => l.length - (intOf s12).toNat)
            case atStart => exact ⟨0, Nat.zero_le _, rfl, L0, Ck.Rd.refl HSN.out, fun a j h => by omega, HBT.out, HG.out⟩
            case round =>
              obtain ⟨i, hi, rfl, HK⟩ := hrel
              obtain ⟨L1, hrd, hps, hbt, hg⟩ := HK.out
              have HR1 := Lib.hid hrd
              have HP1 := Lib.hid hps
              have HB1 := Lib.hid hbt
              have HG1 := Lib.hid hg
              clear hrd hps hbt hg HK
              by_cases hil : i < l.length
              · have i0 : (0 : Int) ≤ (i : Int) := by omega
                have i1 : (i : Int) < (l.length : Int) := by omega
                have hmm := List.getElem_mem hil
                have HFi := Lib.hid (HF.out _ hmm)
                have H64i := H64.out _ hmm
                have HLI := Lib.hid (HPV.out.os _ hmm)
                have HBO : Hid (∀ (o : Cd.OpV) (t : Nat), o ∈ l[i].f.ops → o.k = 12 → o.n = (t : Int) → Ck.Beg (Cd.fns l) i t) := fun o t ho hk hn => Ck.beg_of hil ho hk hn
                have HOB : Hid (∀ t : Nat, Ck.Beg (Cd.fns l) i t → ∃ a, ∃ ha : a < l[i].f.ops.length, (l[i].f.ops[a]).k = 12 ∧ (l[i].f.ops[a]).n = (t : Int)) := fun t h => Ck.of_beg hil h
                obtain ⟨ad, hade, -, -, -, e2⟩ := Cd.fn_at HPV.out.fs hil
                have hadb : ad.block < W.heap.size := by
                  obtain ⟨ad', hq, hb', -⟩ := Cd.fn_at HPV.out.fs hil
                  rw [hade] at hq
                  cases hq
                  exact hb'
                subst hade
                have HE2 := Lib.hid e2
                have HGI := Lib.hid (HBG.out i hil)
                generalize l[i] = m at HE2 e2 HFi H64i HLI HBO HOB
                obtain ⟨g, AO, mc⟩ := m
                dsimp only at HE2 HFi H64i HLI HBO HOB
                clear hmm e2
                go_wp2_with fail
                go_loopw [13] (fun s13 wr => ∃ k : Nat, k ≤ g.ops.length ∧ s13 = .int .i64 k ∧ Hid (∃ L : List Bool, Ck.Rd (Cd.fns l) f L0 L ∧ Ck.Past (Cd.fns l) f L0 i L ∧ (∀ a (ha : a < g.ops.length), a < k → (g.ops[a]).k = 12 → ∀ t : Nat, (g.ops[a]).n = (t : Int) → L[t]? = some true) ∧ Ck.Bits M L wr ∧ V.grownBy wr (some M))) (fun s13 _ => g.ops.length - (intOf s13).toNat)
                case atStart => exact ⟨0, Nat.zero_le _, rfl, L1, HR1.out, HP1.out, fun a _ h => by omega, HB1.out, HG1.out⟩
                case round =>
                  obtain ⟨k, hk, rfl, HK⟩ := hrel
                  obtain ⟨L, hrd, hps, hdn, hbt, hg⟩ := HK.out
                  have HR2 := Lib.hid hrd
                  have HP2 := Lib.hid hps
                  have HD2 := Lib.hid hdn
                  have HB2 := Lib.hid hbt
                  have HG2 := Lib.hid hg
                  clear hrd hps hdn hbt hg HK
                  have hXM : X ≠ M := by have := HXW.out; have := HWM.out; omega
                  have hLV : Below W.heap.size V wr := Ck.below_grown HG2.out HWM.out HVB.out.size
                  have HXr := Lib.hid (HXV.out.of_block (hLV.block _ HXW.out))
                  have p0 := HXr.out.c0
                  have e2 : wr.cell? ⟨(ad.add (i * 3)).block, (ad.add (i * 3)).off + 2, none⟩ = some (.slice AO g.ops.length mc) := (World.cell?_of_block (hLV.block _ (by show (ad.add (i * 3)).block < _; rw [Lies.add_block]; exact hadb))).trans HE2.out
                  by_cases hkl : k < g.ops.length
                  · have k0 : (0 : Int) ≤ (k : Int) := by omega
                    have k1 : (k : Int) < (g.ops.length : Int) := by omega
                    obtain ⟨gi, hgi⟩ := HGI.out
                    have hiL : i < L.length := by rw [HR2.out.len, HL0.out]; exact hil
                    obtain ⟨hcb, hfb⟩ := (HBV.out.keep (Ck.gr_block HG2.out (k := B) (by have := HVs.out; omega) (by omega))) i gi
                    obtain ⟨hcm, hfm⟩ := HB2.out i hiL
                    rw [hgi] at hcb
                    obtain ⟨ado, rfl, -, c0, c1, c2', c3, c4⟩ := Cd.op_at (HLI.out.below hLV) hkl
                    have HOBk : Hid (∀ t : Nat, (g.ops[k]).k = 12 → (g.ops[k]).n = (t : Int) → Ck.Beg (Cd.fns l) i t) := fun t => HBO.out _ t (List.getElem_mem hkl)
                    have HFk := Lib.hid (HFi.out _ (List.getElem_mem hkl))
                    have HDk : Hid (∀ M : List Bool, (∀ t : Nat, L[t]? = some true → M[t]? = some true) → ((g.ops[k]).k = 12 → ∀ t : Nat, (g.ops[k]).n = (t : Int) → M[t]? = some true) → ∀ a (ha : a < g.ops.length), a < k + 1 → (g.ops[a]).k = 12 → ∀ t : Nat, (g.ops[a]).n = (t : Int) → M[t]? = some true) := fun M' he h a ha hak hq t ht => by
                      rcases Nat.lt_succ_iff_lt_or_eq.1 hak with h1 | rfl
                      · exact he t (HD2.out a ha h1 hq t ht)
                      · exact h hq t ht
                    have HEX : Hid (i ≠ f → L[i] = false → Ck.Past (Cd.fns l) f L0 (i + 1) L) := fun hif hLi a j ha h1 h2 => by
                      rcases Nat.lt_succ_iff_lt_or_eq.1 ha with h3 | rfl
                      · exact HP2.out a j h3 h1 h2
                      · rcases h1 with h1 | h1
                        · exact absurd h1 hif
                        · have := HR2.out.ext a h1
                          rw [List.getElem?_eq_getElem hiL, hLi] at this
                          cases this
                    generalize g.ops[k] = o at c0 c1 c2' c3 c4 HOBk HFk HDk
                    have hor : (i = f ∨ L[i] = true) ∨ (i ≠ f ∧ L[i] = false) := by
                      by_cases hif : i = f
                      · exact .inl (.inl hif)
                      · cases hx : L[i]
                        · exact .inr ⟨hif, rfl⟩
                        · exact .inl (.inr rfl)
                    rcases hor with hin | ⟨hif, hLi⟩
                    · have HIN : Hid (i = f ∨ L[i]? = some true) := by
                        rcases hin with h | h
                        · exact .inl h
                        · exact .inr (by rw [List.getElem?_eq_getElem hiL, h])
                      obtain ⟨U, hU⟩ : ∃ U, U = wr.alloc (.cells #[.int .u8 (o.k : Int), .int .i64 o.d, .int .i64 o.a, .int .i64 o.b, .int .i64 o.n] 44) := ⟨_, rfl⟩
                      have hbU : Below wr.heap.size wr U := by rw [hU]; exact Cd.fn1 _ _ _
                      have hMw : M < wr.heap.size := by
                        have := HG2.out.size
                        have := HVs.out
                        omega
                      have HOU : Hid (Cd.OB U wr.heap.size o) := by show U.heap[_]? = _; rw [hU]; exact heap_alloc_new wr _
                      have HGU : Hid (V.grownBy U (some M)) := by show World.grownBy _ _ _; rw [hU]; exact World.grownBy.trans HG2.out (World.grownBy_alloc _ _ _)
                      have HBU := Lib.hid (HB2.out.keep (hbU.block M hMw))
                      have hor : (decide (i = f) = true) ∨ (decide (i = f) = false ∧ L[i] = true) := by
                        rcases hin with h | h
                        · exact .inl (by simpa using h)
                        · by_cases hif : i = f
                          · exact .inl (by simpa using hif)
                          · exact .inr ⟨by simpa using hif, h⟩
                      clear hin hbU hgi hkl hLV HEX
                      rcases hor with q1 | ⟨q1, q2⟩
                      · rw [q1] at hcb
                        clear q1 hcm
                        go_upto_region 18 with fail
                        rw [← hU]
                        clear hU c0 c1 c2' c3 c4 p0 e2 hcb hfb hfm
                        generalize wr.heap.size = O at HOU hMw ⊢
                        have hOM : O ≠ M := by omega
                        have c0 := HOU.out.c0
                        have c4 := HOU.out.c4
                        by_cases hk12 : o.k = 12
                        · have hke : (o.k : Int) = 12 := by omega
                          rw [hke] at c0
                          obtain ⟨ht0, ht1⟩ := HFk.out hk12
                          obtain ⟨t, hte⟩ := Int.eq_ofNat_of_zero_le ht0
                          have htl : t < L.length := by rw [HR2.out.len, HL0.out]; omega
                          have t0 : (0 : Int) ≤ (t : Int) := by omega
                          have t1 : (t : Int) < (l.length : Int) := by omega
                          obtain ⟨hct, hft⟩ := HBU.out t htl
                          have HRS : Hid (∃ L : List Bool, Ck.Rd (Cd.fns l) f L0 L ∧ Ck.Past (Cd.fns l) f L0 i L ∧ (∀ a (ha : a < g.ops.length), a < k + 1 → (g.ops[a]).k = 12 → ∀ t : Nat, (g.ops[a]).n = (t : Int) → L[t]? = some true) ∧ Ck.Bits M L (U.setCell ⟨M, t, none⟩ (.bool true)) ∧ V.grownBy (U.setCell ⟨M, t, none⟩ (.bool true)) (some M)) :=
                            ⟨L.set t true, HR2.out.step HIN.out (HOBk.out t hk12 hte) htl, HP2.out.mono (fun t' ht' => (Ck.set_true htl).2 (.inl ht')), HDk.out _ (fun t' ht' => (Ck.set_true htl).2 (.inl ht')) (fun _ t' ht' => (Ck.set_true htl).2 (.inr (by omega))), HBU.out.set t htl true, World.grownBy.trans HGU.out (Ck.gr_set _ _ _ _)⟩
                          rw [hte] at c4
                          generalize L[t] = bt at hct
                          clear ht0 ht1 hte hke HFk HOBk HDk htl
                          go_wp2_with fail
                          go_roundw
                          case rel => exact ⟨k + 1, by omega, by go_num, HRS.out⟩
                          case measure => simp [intOf]; omega
                        · have e12 : ((o.k : Int) == 12) = false := by rw [beq_eq_false_iff_ne]; omega
                          have HD3 := Lib.hid (HDk.out L (fun _ h => h) (fun h => absurd h hk12))
                          clear hk12 HDk HFk HOBk
                          go_wp2_with fail
                          go_roundw
                          case rel => exact ⟨k + 1, by omega, by go_num, L, HR2.out, HP2.out, HD3.out, HBU.out, HGU.out⟩
                          case measure => simp [intOf]; omega
                      · rw [q1] at hcb
                        rw [q2] at hcm
                        clear q1 q2
                        go_upto_region 18 with fail
                        rw [← hU]
                        clear hU c0 c1 c2' c3 c4 p0 e2 hcb hfb hfm hcm
                        generalize wr.heap.size = O at HOU hMw ⊢
                        have hOM : O ≠ M := by omega
                        have c0 := HOU.out.c0
                        have c4 := HOU.out.c4
                        by_cases hk12 : o.k = 12
                        · have hke : (o.k : Int) = 12 := by omega
                          rw [hke] at c0
                          obtain ⟨ht0, ht1⟩ := HFk.out hk12
                          obtain ⟨t, hte⟩ := Int.eq_ofNat_of_zero_le ht0
                          have htl : t < L.length := by rw [HR2.out.len, HL0.out]; omega
                          have t0 : (0 : Int) ≤ (t : Int) := by omega
                          have t1 : (t : Int) < (l.length : Int) := by omega
                          obtain ⟨hct, hft⟩ := HBU.out t htl
                          have HRS : Hid (∃ L : List Bool, Ck.Rd (Cd.fns l) f L0 L ∧ Ck.Past (Cd.fns l) f L0 i L ∧ (∀ a (ha : a < g.ops.length), a < k + 1 → (g.ops[a]).k = 12 → ∀ t : Nat, (g.ops[a]).n = (t : Int) → L[t]? = some true) ∧ Ck.Bits M L (U.setCell ⟨M, t, none⟩ (.bool true)) ∧ V.grownBy (U.setCell ⟨M, t, none⟩ (.bool true)) (some M)) :=
                            ⟨L.set t true, HR2.out.step HIN.out (HOBk.out t hk12 hte) htl, HP2.out.mono (fun t' ht' => (Ck.set_true htl).2 (.inl ht')), HDk.out _ (fun t' ht' => (Ck.set_true htl).2 (.inl ht')) (fun _ t' ht' => (Ck.set_true htl).2 (.inr (by omega))), HBU.out.set t htl true, World.grownBy.trans HGU.out (Ck.gr_set _ _ _ _)⟩
                          rw [hte] at c4
                          generalize L[t] = bt at hct
                          clear ht0 ht1 hte hke HFk HOBk HDk htl
                          go_wp2_with fail
                          go_roundw
                          case rel => exact ⟨k + 1, by omega, by go_num, HRS.out⟩
                          case measure => simp [intOf]; omega
                        · have e12 : ((o.k : Int) == 12) = false := by rw [beq_eq_false_iff_ne]; omega
                          have HD3 := Lib.hid (HDk.out L (fun _ h => h) (fun h => absurd h hk12))
                          clear hk12 HDk HFk HOBk
                          go_wp2_with fail
                          go_roundw
                          case rel => exact ⟨k + 1, by omega, by go_num, L, HR2.out, HP2.out, HD3.out, HBU.out, HGU.out⟩
                          case measure => simp [intOf]; omega
                    · have q1 : decide (i = f) = false := by simpa using hif
                      have HPN := Lib.hid (HEX.out hif hLi)
                      rw [q1] at hcb
                      rw [hLi] at hcm
                      clear hkl hLV hif hLi q1 hgi HEX
                      go_wp2_with fail
                      go_roundw
                      case rel => exact ⟨i + 1, by omega, by go_num, L, HR2.out, HPN.out, HB2.out, HG2.out⟩
                      case measure => simp [intOf]; omega
                  · have k1 : ¬ (k : Int) < (g.ops.length : Int) := by omega
                    have HPN : Hid (Ck.Past (Cd.fns l) f L0 (i + 1) L) := fun a j ha h1 h2 => by
                      rcases Nat.lt_succ_iff_lt_or_eq.1 ha with h3 | rfl
                      · exact HP2.out a j h3 h1 h2
                      · obtain ⟨b, hb, q1, q2⟩ := HOB.out j h2
                        exact HD2.out b hb (by omega) q1 j q2
                    clear hkl hLV
                    go_wp2_with fail
                    go_roundw
                    case rel => exact ⟨i + 1, by omega, by go_num, L, HR2.out, HPN.out, HB2.out, HG2.out⟩
                    case measure => simp [intOf]; omega
              · have i1 : ¬ (i : Int) < (l.length : Int) := by omega
                obtain rfl : i = l.length := by omega
                have HRS : Hid (∃ L : List Bool, L.length = l.length ∧ Ck.Sound (Cd.fns l) f L ∧ (Ck.Closed (Cd.fns l) f L ∨ L.count false + (r + 1) ≤ L.length) ∧ Ck.Bits M L wr ∧ V.grownBy wr (some M)) := ⟨L1, by rw [HR1.out.len, HL0.out], HR1.out.snd, HR1.out.round HSN.out HCL.out (fun a j h hb => by
                  have ha : a < l.length := by
                    obtain ⟨f', hf', -⟩ := hb
                    obtain ⟨h', -⟩ := List.getElem?_eq_some_iff.1 hf'
                    rwa [Cd.fns_len] at h'
                  exact HP1.out a j ha h hb), HB1.out, HG1.out⟩
                clear hil
                go_wp2_with fail
                go_roundw
                case rel => exact ⟨r + 1, by omega, by go_num, HRS.out⟩
                case measure => simp [intOf]; omega
          · have r1 : ¬ (r : Int) < (l.length : Int) := by omega
            obtain rfl : r = l.length := by omega
            have HO := Lib.hid (HOY.out L0 HL0.out HSN.out HCL.out)
            have HW3 : Hid (Below W.heap.size W wr) := HVB.out.trans (Ck.below_grown HG.out HWM.out HVB.out.size)
            clear hlt
            have hM3 : M < wr.heap.size := by
              have := HG.out.size
              have := HVs.out
              omega
            go_wp2_with fail
            obtain ⟨w3, hw3⟩ : ∃ w3 : World, w3 = wr := ⟨_, rfl⟩
            rw [← hw3] at HBT HW3 hM3 ⊢
            clear hw3 HG HVB HVs HXV HPV HBV HMV HBG HS0 HOY HSN HCL HF H64 HC H1 p0
            go_loopw [15, 16] (fun s6 s30 wr => ∃ (k : Nat) (A2 : Option Addr) (c2 : Nat), k ≤ l.length ∧ s6 = .slice A2 (Ck.idxT L0 k).length c2 ∧ s30 = .int .i64 k ∧ Hid (wr.ownsRow w3.heap.size 3 1 (.slice A2 (Ck.idxT L0 k).length c2) (Ck.idxT L0 k).length (icells (Ck.idxT L0 k)) ∧ Below w3.heap.size w3 wr)) (fun _ s30 _ => l.length - (intOf s30).toNat)
            case atStart => exact ⟨0, none, 0, Nat.zero_le _, rfl, rfl, ⟨rfl, .inl ⟨rfl, rfl⟩⟩, Below.refl _ _⟩
            case round =>
              obtain ⟨k, A2, c2, hk, rfl, rfl, HS⟩ := hrel
              by_cases hlt : k < l.length
              · have k0 : (0 : Int) ≤ (k : Int) := by omega
                have k1 : (k : Int) < (l.length : Int) := by omega
                have hkL : k < L0.length := by rw [HL0.out]; exact hlt
                obtain ⟨hc, hf⟩ := (HBT.out.keep (HS.out.2.block M hM3)) k hkL
                have HIT : Hid (Ck.idxT L0 (k + 1) = Ck.idxT L0 k ++ if L0[k]? = some true then [(k : Int)] else []) := rfl
                have hk100 : (Ck.idxT L0 k).length ≤ 100000 := by have := Ck.idxT_len L0 k; omega
                have hbs := HS.out.2.size
                cases hv : L0[k] with
                | true =>
                  rw [hv] at hc
                  have HI2 : Hid (Ck.idxT L0 (k + 1) = Ck.idxT L0 k ++ [(k : Int)]) := by
                    show _ = _
                    rw [HIT.out, if_pos (by rw [List.getElem?_eq_getElem hkL, hv])]
                  clear hv hkL HIT hlt
                  generalize Ck.idxT L0 k = xs at HS hk100 HI2
                  go_wp2_with (refine Cd.at_app rfl ?_; refine Ck.ipush HS.out.1 rfl _ _ rfl rfl rfl (k : Int) (by first | with_reducible rfl | rfl) hk100 hbs ?_; intro g cap w6 hown hgr)
                  have HNEW : Hid (w6.ownsRow w3.heap.size 3 1 (.slice (some ⟨g, 0, none⟩) (Ck.idxT L0 (k + 1)).length cap) (Ck.idxT L0 (k + 1)).length (icells (Ck.idxT L0 (k + 1))) ∧ Below w3.heap.size w3 w6) := by
                    refine ⟨?_, ?_⟩
                    · rw [HI2.out, Ck.icells_app, List.length_append]
                      exact hown
                    · have hb := HS.out.2.trans ((Cd.fn1 wr #[.int .i64 (k : Int)] 3).mono HS.out.2.size)
                      exact hb.grown hgr hb.size (fun q hq => (HS.out.1.lt q hq).1)
                  have HLN : Hid ((Ck.idxT L0 (k + 1)).length = xs.length + 1) := by show _ = _; rw [HI2.out, List.length_append]; rfl
                  clear hown hgr hbs hc hf HI2
                  go_wp2_with fail
                  go_roundw
                  case rel => exact ⟨k + 1, some ⟨g, 0, none⟩, cap, by omega, by rw [HLN.out], by go_num, HNEW.out⟩
                  case measure => simp [intOf]; omega
                | false =>
                  rw [hv] at hc
                  have HI2 : Hid (Ck.idxT L0 (k + 1) = Ck.idxT L0 k) := by
                    show _ = _
                    rw [HIT.out, if_neg (by rw [List.getElem?_eq_getElem hkL, hv]; simp), List.append_nil]
                  clear hv hkL HIT hlt
                  go_wp2_with fail
                  go_roundw
                  case rel => exact ⟨k + 1, A2, c2, by omega, by rw [HI2.out], by go_num, by rw [HI2.out]; exact HS.out⟩
                  case measure => simp [intOf]; omega
              · obtain rfl : k = l.length := by omega
                have k1 : ¬ (l.length : Int) < (l.length : Int) := by omega
                have HXS : Hid (Ck.idxT L0 l.length = Ck.idx L0) := by show _ = _; unfold Ck.idx; rw [HL0.out]
                have h16 : (Ck.idxT L0 l.length).length ≤ 16 := by have := Ck.idxT_len L0 l.length; omega
                have HLI := Lib.hid (Cd.rowLies HS.out.1)
                have HBL := Lib.hid (HB.out.trans ((HW3.out.trans (HS.out.2.mono HW3.out.size)).mono HB.out.size))
                rw [← HXS.out] at HO
                clear hlt
                go_wp2_with fail
                go_ret
                exact ⟨Ck.idxT L0 l.length, A2, c2, HO.out, h16, rfl, HLI.out, HBL.out⟩
      · have d1 : decide ((l.length : Int) ≤ fn) = true := by simpa using (by omega : (l.length : Int) ≤ fn)
        have HO : Hid (Ck.Out (Cd.fns l) fn []) := Ck.out_no (.inr (by unfold Ck.inN; rw [Cd.fns_len, decide_eq_false h1, Bool.and_false]))
        clear h0 h1
        go_wp2_with fail
        go_ret
        exact ⟨[], none, 0, HO.out, Nat.zero_le _, rfl, Ck.lies_nil _ _, HB.out.trans (H1.out.mono HB.out.size)⟩
  · have HO : Hid (Ck.Out (Cd.fns l) fn []) := Ck.out_no (.inl he)
    generalize Ck.chk (Cd.fns l) = x at HWR he
    obtain ⟨e, i, k⟩ := x
    dsimp only at HWR he
    have hei : ((e : Int) != 0) = true := by simpa using (by omega : ¬ (e : Int) = 0)
    clear he HOK
    go_wp2_with fail
    refine HWR.out.mono ?_
    rintro e2 w1 ⟨rfl, hb1⟩
    have H1 := Lib.hid hb1
    clear hb1 HWR p0
    go_wp2_with fail
    go_ret
    exact ⟨[], none, 0, HO.out, Nat.zero_le _, rfl, Ck.lies_nil _ _, HB.out.trans (H1.out.mono HB.out.size)⟩
end Go.Proofs.YtndgafjnifkghaaDoor
