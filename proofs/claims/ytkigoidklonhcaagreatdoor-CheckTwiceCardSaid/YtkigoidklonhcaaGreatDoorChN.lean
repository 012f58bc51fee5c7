/-
  The contract of check.mark.
-/
import Derived.Test.YtkigoidklonhcaaGreatDoorChL
import Derived.Test.YtkigoidklonhcaaGreatDoorLowWireR
namespace Go.Proofs.YtkigoidklonhcaaGreatDoor
open Go.RowKit

namespace Ck
/-- What mark leaves. -/
def Marked (p : List Cd.FnV) (fn : Nat) (R : List Bool) (B : Nat) (w : World) (e : Ending) (w' : World) : Prop := e = .returned (.tuple #[]) ∧ ∃ L, Mk p fn R L ∧ (∀ j : Nat, Beg p fn j → L[j]? = some true) ∧ Bits B L w' ∧ w.grownBy w' (some B)
theorem below_grown {lo B : Nat} {w w' : World} (h : w.grownBy w' (some B)) (hlo : lo ≤ B) (hs : lo ≤ w.heap.size) : Below lo w w' := (Below.refl lo w).grown h hs (fun k hk => by cases hk; exact hlo)
theorem gr_block {B k : Nat} {w w' : World} (h : w.grownBy w' (some B)) (hk : k < w.heap.size) (hne : k ≠ B) : w'.heap[k]? = w.heap[k]? := h.block k hk (by simpa using fun e => hne e)
theorem gr_set (w : World) (B i : Nat) (u : Value) : w.grownBy (w.setCell ⟨B, i, none⟩ u) (some B) :=
  ⟨rfl, rfl, rfl, by simp [World.setCell], fun k _ hne => Below.heap_setCell _ _ _ _ (by intro e; apply hne; rw [e])⟩
theorem beg_of {l : List Cd.Fm} {fn t : Nat} (h : fn < l.length) {o : Cd.OpV} (ho : o ∈ l[fn].f.ops) (hk : o.k = 12) (hn : o.n = (t : Int)) : Beg (Cd.fns l) fn t :=
  ⟨l[fn].f, by unfold Cd.fns; rw [List.getElem?_map, List.getElem?_eq_getElem h]; rfl, o, ho, hk, hn⟩
theorem of_beg {l : List Cd.Fm} {fn t : Nat} (h : fn < l.length) (hb : Beg (Cd.fns l) fn t) : ∃ i, ∃ hi : i < l[fn].f.ops.length, (l[fn].f.ops[i]).k = 12 ∧ (l[fn].f.ops[i]).n = (t : Int) := by
  obtain ⟨f, hf, o, ho, hk, hn⟩ := hb
  unfold Cd.fns at hf
  rw [List.getElem?_map, List.getElem?_eq_getElem h] at hf
  cases hf
  obtain ⟨i, hi, rfl⟩ := List.getElem_of_mem ho
  exact ⟨i, hi, hk, hn⟩
end Ck

set_option maxHeartbeats 2000000 in
set_option maxRecDepth 20000 in
theorem kmark (A : Option Addr) (c : Nat) (l : List Cd.Fm) (lo B : Nat) (hlo : lo ≤ B) (_hn : l.length ≤ 16) (h64 : ∀ m ∈ l, m.f.ops.length ≤ 64) (hF : ∀ m ∈ l, ∀ o ∈ m.f.ops, o.k = 12 → 0 ≤ o.n ∧ o.n < (l.length : Int)) (c2 : Nat) (N : Nat) :
    ∀ (R : List Bool) (fn : Nat) (w : World), R.count false < N → R.length = l.length → fn < l.length → Cd.Prog w lo A l → lo ≤ w.heap.size → B < w.heap.size → Ck.Bits B R w →
    Calls Tryz.prog 26 #[.agg #[.slice A l.length c], .int .i64 (fn : Int), .slice (some ⟨B, 0, none⟩) l.length c2] w (Ck.Marked (Cd.fns l) fn R B w) := by
  induction N with
  | zero => intro R fn w h; exact absurd h (by omega)
  | succ N ih =>
    intro R fn w hc hR hfn hP hls hBs hbits
    have IH := Lib.hid ih
    clear ih
    obtain ⟨W, hW⟩ : ∃ W, W = w.alloc (.cells #[.slice A l.length c] 24) := ⟨_, rfl⟩
    have hb : Below w.heap.size w W := by rw [hW]; exact Cd.fn1 _ _ _
    have hX : Cd.PBlk W w.heap.size (.slice A l.length c) := by show W.heap[_]? = _; rw [hW]; exact heap_alloc_new w _
    have HX := Lib.hid hX
    have p0 := hX.c0
    have hWs : W.heap.size = w.heap.size + 1 := by rw [hW]; simp
    have HGW : Hid (w.grownBy W (some B)) := by show World.grownBy _ _ _; rw [hW]; exact World.grownBy_alloc _ _ _
    have HBW := Lib.hid (hbits.keep (hb.block B hBs))
    have HPW := Lib.hid (hP.below (hb.mono hls))
    have HC := Lib.hid hc
    have HR := Lib.hid hR
    have HF := Lib.hid (hF _ (List.getElem_mem hfn))
    have h64m := h64 _ (List.getElem_mem hfn)
    have HLI := Lib.hid (HPW.out.os _ (List.getElem_mem hfn))
    have HBO : Hid (∀ (o : Cd.OpV) (t : Nat), o ∈ l[fn].f.ops → o.k = 12 → o.n = (t : Int) → Ck.Beg (Cd.fns l) fn t) := fun o t ho hk hn => Ck.beg_of hfn ho hk hn
    have HOB : Hid (∀ t : Nat, Ck.Beg (Cd.fns l) fn t → ∃ i, ∃ hi : i < l[fn].f.ops.length, (l[fn].f.ops[i]).k = 12 ∧ (l[fn].f.ops[i]).n = (t : Int)) := fun t h => Ck.of_beg hfn h
    obtain ⟨ad, rfl, -, -, -, d2⟩ := Cd.fn_at HPW.out.fs hfn
    have k0 : (0 : Int) ≤ (fn : Int) := by omega
    have k1 : (fn : Int) < (l.length : Int) := by omega
    generalize l[fn] = m at d2 HF h64m HLI HBO HOB
    obtain ⟨g, AO, mc⟩ := m
    dsimp only at d2 HF h64m HLI HBO HOB
    have HW := Lib.hid hWs
    have HLS := Lib.hid hls
    have HBS := Lib.hid hBs
    clear hb hX hc hR hP hbits hF h64 hWs hls hBs
    go_enter Tryz.func26, Tryz.ntmps26
    go_upto_region 1 with fail
    rw [← hW]
    clear hW
    obtain ⟨X, hXe⟩ : ∃ X, X = w.heap.size := ⟨_, rfl⟩
    rw [← hXe] at HX p0 ⊢
    have HXE := Lib.hid hXe
    clear hXe
    go_wp2_with fail
    clear p0 d2
    go_loopw [15] (fun s15 wr => ∃ k : Nat, k ≤ g.ops.length ∧ s15 = .int .i64 k ∧ Hid (∃ L, Ck.Mk (Cd.fns l) fn R L ∧ (∀ i (hi : i < g.ops.length), i < k → (g.ops[i]).k = 12 → ∀ t : Nat, (g.ops[i]).n = (t : Int) → L[t]? = some true) ∧ Ck.Bits B L wr ∧ W.grownBy wr (some B))) (fun s15 _ => g.ops.length - (intOf s15).toNat)
    case atStart => exact ⟨0, Nat.zero_le _, rfl, R, Ck.Mk.refl _ _ _, fun i _ h => by omega, HBW.out, World.grownBy.refl _ _⟩
    case round =>
      obtain ⟨k, hk, rfl, HK⟩ := hrel
      obtain ⟨L, hmk, hdn, hbt, hgr⟩ := HK.out
      have HM := Lib.hid hmk
      have HD := Lib.hid hdn
      have HB := Lib.hid hbt
      have HG := Lib.hid hgr
      clear hmk hdn hbt hgr HK
      by_cases hlt : k < g.ops.length
      · have j0 : (0 : Int) ≤ (k : Int) := by omega
        have j1 : (k : Int) < (g.ops.length : Int) := by omega
        have hbl : Below lo W wr := Ck.below_grown HG.out hlo (by have := HW.out; have := HLS.out; omega)
        obtain ⟨ado, rfl, -, c0, c1, c2', c3, c4⟩ := Cd.op_at (HLI.out.below hbl) hlt
        have HPr := Lib.hid (HPW.out.below hbl)
        have HD2 : Hid (∀ M : List Bool, (∀ t : Nat, L[t]? = some true → M[t]? = some true) → ((g.ops[k]).k = 12 → ∀ t : Nat, (g.ops[k]).n = (t : Int) → M[t]? = some true) → ∀ i (hi : i < g.ops.length), i < k + 1 → (g.ops[i]).k = 12 → ∀ t : Nat, (g.ops[i]).n = (t : Int) → M[t]? = some true) := fun M he h i hi hik hq t ht => by
          rcases Nat.lt_succ_iff_lt_or_eq.1 hik with h1 | rfl
          · exact he t (HD.out i hi h1 hq t ht)
          · exact h hq t ht
        have HFk := Lib.hid (HF.out _ (List.getElem_mem hlt))
        have HBk : Hid (∀ t : Nat, (g.ops[k]).k = 12 → (g.ops[k]).n = (t : Int) → Ck.Beg (Cd.fns l) fn t) := fun t => HBO.out _ t (List.getElem_mem hlt)
        generalize g.ops[k] = o at c0 c1 c2' c3 c4 HD2 HFk HBk
        obtain ⟨U, hU⟩ : ∃ U, U = wr.alloc (.cells #[.int .u8 (o.k : Int), .int .i64 o.d, .int .i64 o.a, .int .i64 o.b, .int .i64 o.n] 44) := ⟨_, rfl⟩
        have hbU : Below wr.heap.size wr U := by rw [hU]; exact Cd.fn1 _ _ _
        have hwrs : X < wr.heap.size ∧ B < wr.heap.size ∧ B ≠ X := by
          have h1 := HG.out.size
          have h2 := HW.out
          have h3 := HBS.out
          have h4 := HXE.out
          omega
        have HOU : Hid (Cd.OB U wr.heap.size o) := by show U.heap[_]? = _; rw [hU]; exact heap_alloc_new wr _
        have HGU : Hid (W.grownBy U (some B)) := by show World.grownBy _ _ _; rw [hU]; exact World.grownBy.trans HG.out (World.grownBy_alloc _ _ _)
        have HBU := Lib.hid (HB.out.keep (hbU.block B hwrs.2.1))
        have HXU := Lib.hid (HX.out.of_block (Ck.gr_block HGU.out HX.out.lt (fun e => hwrs.2.2 e.symm)))
        clear hlt hbl HD hbU
        go_upto_region 4 with fail
        rw [← hU]
        clear hU c0 c1 c2' c3 c4
        generalize wr.heap.size = O at HOU hwrs ⊢
        have hOB : O ≠ B := by omega
        have c0 := HOU.out.c0
        have c4 := HOU.out.c4
        have p0 := HXU.out.c0
        by_cases hk12 : o.k = 12
        · have hke : (o.k : Int) = 12 := by omega
          rw [hke] at c0
          obtain ⟨ht0, ht1⟩ := HFk.out hk12
          obtain ⟨t, hte⟩ := Int.eq_ofNat_of_zero_le ht0
          have htl : t < L.length := by rw [HM.out.len, HR.out]; omega
          have t0 : (0 : Int) ≤ (t : Int) := by omega
          have t1 : (t : Int) < (l.length : Int) := by omega
          have t2 : t < l.length := by omega
          have HBG := Lib.hid (HBk.out t hk12 hte)
          rw [hte] at c4
          obtain ⟨hc, hf⟩ := HBU.out t htl
          have HTE := Lib.hid hte
          clear ht0 ht1 hte hke HFk HBk
          cases hbv : L[t] with
          | true =>
            rw [hbv] at hc
            have HL : Hid (L[t]? = some true) := by show _ = _; rw [List.getElem?_eq_getElem htl, hbv]
            clear hbv
            go_wp2_with fail
            go_roundw
            case rel => exact ⟨k + 1, by omega, by go_num, L, HM.out, HD2.out L (fun _ h => h) (fun _ t' ht' => by have : t' = t := by have := HTE.out; omega
                                                                                                                   rw [this]; exact HL.out), HBU.out, HGU.out⟩
            case measure => simp [intOf]; omega
          | false =>
            rw [hbv] at hc
            obtain ⟨V, hV⟩ : ∃ V, V = U.setCell ⟨B, t, none⟩ (.bool true) := ⟨_, rfl⟩
            have HBV : Hid (Ck.Bits B (L.set t true) V) := by show Ck.Bits _ _ _; rw [hV]; exact HBU.out.set t htl true
            have HGV0 : Hid (U.grownBy V (some B)) := by show World.grownBy _ _ _; rw [hV]; exact Ck.gr_set _ _ _ _
            have HGV := Lib.hid (World.grownBy.trans HGU.out HGV0.out)
            have HOV := Lib.hid (HOU.out.of_block (Ck.gr_block HGV0.out HOU.out.lt hOB))
            have HXV := Lib.hid (HXU.out.of_block (Ck.gr_block HGV0.out HXU.out.lt (fun e => hwrs.2.2 e.symm)))
            have hVs := HGV.out.size
            have hls2 : lo ≤ W.heap.size ∧ B < W.heap.size := by
              have h1 := HLS.out
              have h2 := HBS.out
              have h3 := HW.out
              omega
            have HPV := Lib.hid (HPW.out.below (Ck.below_grown HGV.out hlo hls2.1))
            have hcn : (L.set t true).count false < N := by
              have h1 := Ck.set_count htl hbv
              have h2 := HM.out.cnt
              have h3 := HC.out
              omega
            have HREC := Lib.hid (IH.out (L.set t true) t V hcn (by rw [List.length_set, HM.out.len]; exact HR.out) t2 HPV.out (by omega) (by omega) HBV.out)
            have HMS : Hid (∀ M, Ck.Mk (Cd.fns l) t (L.set t true) M → (∀ j : Nat, Ck.Beg (Cd.fns l) t j → M[j]? = some true) → Ck.Mk (Cd.fns l) fn R M) := fun M h1 h2 => HM.out.step HBG.out htl hbv h1 h2
            have HXT : Hid (∀ M, Ck.Mk (Cd.fns l) t (L.set t true) M → (∀ t' : Nat, L[t']? = some true → M[t']? = some true) ∧ M[t]? = some true) := fun M h1 => ⟨fun t' ht' => h1.ext t' ((Ck.set_true htl).2 (.inl ht')), h1.ext t ((Ck.set_true htl).2 (.inr rfl))⟩
            clear hcn hls2 hVs hbv
            go_upto_region 6 with fail
            rw [← hV]
            clear hV c0 c4 p0 hc hf
            have c0 := HOV.out.c0
            have c4 := HOV.out.c4
            have p0 := HXV.out.c0
            rw [HTE.out] at c4
            go_wp2_with fail
            refine HREC.out.mono ?_
            rintro e2 w3 ⟨rfl, M, hmk2, hdn2, hbt2, hgr2⟩
            have HRS : Hid (∃ L, Ck.Mk (Cd.fns l) fn R L ∧ (∀ i (hi : i < g.ops.length), i < k + 1 → (g.ops[i]).k = 12 → ∀ t : Nat, (g.ops[i]).n = (t : Int) → L[t]? = some true) ∧ Ck.Bits B L w3 ∧ W.grownBy w3 (some B)) := ⟨M, HMS.out M hmk2 hdn2, HD2.out M (HXT.out M hmk2).1 (fun _ t' ht' => by
              have : t' = t := by have := HTE.out; omega
              rw [this]
              exact (HXT.out M hmk2).2), hbt2, World.grownBy.trans HGV.out hgr2⟩
            clear hmk2 hdn2 hbt2 hgr2 c0 c4 p0 HREC
            go_wp2_with fail
            go_roundw
            case rel => exact ⟨k + 1, by omega, by go_num, HRS.out⟩
            case measure => simp [intOf]; omega
        · have e12 : ((o.k : Int) == 12) = false := by rw [beq_eq_false_iff_ne]; omega
          have HD3 := Lib.hid (HD2.out L (fun _ h => h) (fun h => absurd h hk12))
          clear hk12 HD2 HFk HBk
          go_wp2_with fail
          go_roundw
          case rel => exact ⟨k + 1, by omega, by go_num, L, HM.out, HD3.out, HBU.out, HGU.out⟩
          case measure => simp [intOf]; omega
      · have j1 : ¬ (k : Int) < (g.ops.length : Int) := by omega
        have HDN : Hid (∀ j : Nat, Ck.Beg (Cd.fns l) fn j → L[j]? = some true) := fun j hj => by
          obtain ⟨i, hi, h1, h2⟩ := HOB.out j hj
          exact HD.out i hi (by omega) h1 j h2
        clear hlt HD
        go_wp2_with fail
        go_end0
        exact ⟨rfl, L, HM.out, HDN.out, HB.out, World.grownBy.trans HGW.out HG.out⟩
end Go.Proofs.YtkigoidklonhcaaGreatDoor
