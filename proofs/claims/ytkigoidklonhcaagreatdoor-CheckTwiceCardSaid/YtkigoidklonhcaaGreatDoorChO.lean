/-
  The contract of check.Reaches.
-/
import Derived.Test.YtkigoidklonhcaaGreatDoorChN
import Derived.Deep.OwnRows
namespace Go.Proofs.YtkigoidklonhcaaGreatDoor
open Go.RowKit

namespace Ck
/-- What is told of what a function reaches. -/
def Out (p : List Cd.FnV) (fn : Int) (xs : List Int) : Prop := if (chk p).1 = 0 ∧ inN fn p.length = true then ∃ L : List Bool, L.length = p.length ∧ Sound p fn.toNat L ∧ Closed p fn.toNat L ∧ xs = idx L else xs = []
theorem Out.eq {p : List Cd.FnV} {fn : Int} {xs ys : List Int} (h1 : Out p fn xs) (h2 : Out p fn ys) : xs = ys := by
  unfold Out at h1 h2
  split at h1
  · rename_i h
    rw [if_pos h] at h2
    obtain ⟨L, a1, a2, a3, rfl⟩ := h1
    obtain ⟨M, b1, b2, b3, rfl⟩ := h2
    rw [reach_eq (a1.trans b1.symm) a2 a3 b2 b3]
  · rename_i h
    rw [if_neg h] at h2
    rw [h1, h2]
def ReachP (p : List Cd.FnV) (fn : Int) (w : World) (e : Ending) (w' : World) : Prop := ∃ (xs : List Int) (A : Option Addr) (c : Nat), Out p fn xs ∧ xs.length ≤ 16 ∧ e = .returned (.slice A xs.length c) ∧ Lies w' w'.heap.size A (icells xs) ∧ Below w.heap.size w w'
theorem bool_info : (Tryz.prog.info? 4).map (fun i => (i.zero, i.size, i.bytes)) = some (some (.bool false), 1, 1) := by kernel_rfl
theorem Bits.made {w : World} {B n : Nat} {T : TypeId} (h : w.heap[B]? = some (.cells (madeCells #[.bool false] n) T (0, 0))) : Bits B (List.replicate n false) w := by
  intro i hi
  have hi' : i < n := by simpa using hi
  refine ⟨?_, ?_⟩
  · rw [cell_of_row w B i _ _ _ h, Array.getElem?_eq_getElem (by rw [size_madeCells]; exact hi')]
    simp [madeCells, Nat.mod_one]
  · unfold World.frozen?
    rw [h]
    simp
theorem lies_nil (w : World) (B : Nat) : Lies w B none (icells []) := fun h => absurd h (by simp [icells])
theorem out_no {p : List Cd.FnV} {fn : Int} (h : (chk p).1 ≠ 0 ∨ inN fn p.length = false) : Out p fn [] := by
  unfold Out
  rw [if_neg (by rintro ⟨h1, h2⟩; rcases h with h | h; exact h h1; rw [h2] at h; cases h)]
theorem out_yes {p : List Cd.FnV} {fn : Nat} (h : (chk p).1 = 0) (h2 : fn < p.length) {L : List Bool} (hl : L.length = p.length) (hs : Sound p fn L) (hc : Closed p fn L) : Out p (fn : Int) (idx L) := by
  unfold Out
  rw [if_pos ⟨h, by unfold inN; rw [decide_eq_true (by omega), decide_eq_true (by omega)]; rfl⟩]
  exact ⟨L, hl, by rw [Int.toNat_natCast]; exact hs, by rw [Int.toNat_natCast]; exact hc, rfl⟩
theorem icells_app (a b : List Int) : icells (a ++ b) = icells a ++ icells b := by unfold icells; rw [List.map_append]
end Ck

set_option maxHeartbeats 2000000 in
set_option maxRecDepth 20000 in
theorem kReaches (A : Option Addr) (c : Nat) (l : List Cd.Fm) (w : World) (hR : ∀ m ∈ l, m.f.Rng) (hn : l.length ≤ maxLen) (hP : Cd.Prog w w.heap.size A l) (fn : Int) :
    Calls Tryz.prog 9 #[.agg #[.slice A l.length c], .int .i64 fn] w (Ck.ReachP (Cd.fns l) fn w) := by
  obtain ⟨W, hW⟩ : ∃ W, W = w.alloc (.cells #[.slice A l.length c] 24) := ⟨_, rfl⟩
  have hb : Below w.heap.size w W := by rw [hW]; exact Cd.fn1 _ _ _
  have hX : Cd.PBlk W w.heap.size (.slice A l.length c) := by show W.heap[_]? = _; rw [hW]; exact heap_alloc_new w _
  have HB := Lib.hid hb
  have HX := Lib.hid hX
  have p0 := hX.c0
  have hPW := (hP.below hb).mono hb.size
  have HWR := Lib.hid (kwrong A c l W hR hn hPW)
  have HOK : Hid (Cd.pok (Cd.fns l) = true → Ck.PrgP W A l) := fun h => by
    rw [Cd.pok_iff, Bool.and_eq_true, decide_eq_true_eq, List.all_eq_true] at h
    exact ⟨hPW, hR, h.1, h.2⟩
  have hWs : W.heap.size = w.heap.size + 1 := by rw [hW]; simp
  clear hb hX hP hPW hR
  unfold maxLen at hn
  go_enter Tryz.func9, Tryz.ntmps9
  go_upto_region 1 with fail
  rw [← hW]
  clear hW
  generalize w.heap.size = X at HX p0 hWs ⊢
  by_cases he : (Ck.chk (Cd.fns l)).1 = 0
  · have HC := Lib.hid he
    have hz := Ck.chk_zero he
    rw [hz] at HWR
    have HWR2 : Hid (Calls Tryz.prog 15 #[.agg #[.slice A l.length c]] W fun e w' => e = .returned .nilIface ∧ Below W.heap.size W w') := HWR.out
    have HP := Lib.hid (HOK.out (Ck.chk_some he).2)
    have hl16 := HP.out.n
    clear he hz HWR HOK hn
    go_wp2_with fail
    refine HWR2.out.mono ?_
    rintro e w1 ⟨rfl, hb1⟩
    have H1 := Lib.hid hb1
    have p0 := (HX.out.of_block (hb1.block _ HX.out.lt)).c0
    clear hb1 HWR2
    have HWI := Lib.hid (fun U => kwithin fn l.length (by omega) U)
    by_cases hin : Ck.inN fn l.length = true
    · rw [hin] at HWI
      obtain ⟨f, rfl, hfl⟩ : ∃ f : Nat, fn = (f : Int) ∧ f < l.length := by
        unfold Ck.inN at hin
        rw [Bool.and_eq_true, decide_eq_true_eq, decide_eq_true_eq] at hin
        obtain ⟨q, hq⟩ := Int.eq_ofNat_of_zero_le hin.1
        exact ⟨q, hq, by omega⟩
      clear hin
      go_wp2_with fail
      refine (HWI.out _).mono ?_
      rintro e w2 ⟨rfl, rfl⟩
      have HMK : Hid (∀ w : World, (Instr.makeSlice 66 (.int .i64 (l.length : Int)) (.int .i64 (l.length : Int))).run Tryz.prog w = .ok (.slice (some ⟨w.heap.size, 0, none⟩) l.length l.length) (w.alloc (.cells (madeCells #[.bool false] l.length) 4))) := run_make_row' (P := Tryz.prog) 66 4 (.bool false) 1 Tryz.underlying66 Ck.bool_info rfl .i64 .i64 l.length (by omega) (by omega)
      have hmk := HMK.out
      clear HMK
      have hmem : ∀ m ∈ l, m.f ∈ Cd.fns l := fun m hm => List.mem_map.2 ⟨m, hm, rfl⟩
      have hF : ∀ m ∈ l, ∀ o ∈ m.f.ops, o.k = 12 → 0 ≤ o.n ∧ o.n < (l.length : Int) := fun m hm o ho hk => by
        have := Ck.chk_fork HC.out m.f (hmem m hm) o ho hk
        rwa [Cd.fns_len] at this
      have h64 : ∀ m ∈ l, m.f.ops.length ≤ 64 := fun m hm => (Cd.FnV.ok_parts (HP.out.k m hm)).2.2.1
      obtain ⟨V, hV⟩ : ∃ V, V = w1.alloc (.cells (madeCells #[.bool false] l.length) 4) := ⟨_, rfl⟩
      have hbV : Below w1.heap.size w1 V := by rw [hV]; exact Cd.fn1 _ _ _
      have hVs : V.heap.size = w1.heap.size + 1 := by rw [hV]; simp
      have hVr : V.heap[w1.heap.size]? = some (.cells (madeCells #[.bool false] l.length) 4 (0, 0)) := by rw [hV]; exact heap_alloc_new w1 _
      have h1s := H1.out.size
      have hXl := HX.out.lt
      have HV1 := Lib.hid (H1.out.trans (hbV.mono h1s))
      have hcf : (List.replicate l.length false).count false < l.length + 1 := by rw [List.count_replicate_self]; omega
      have HMA := Lib.hid (kmark A c l W.heap.size w1.heap.size h1s hl16 h64 hF l.length (l.length + 1) (List.replicate l.length false) f V hcf (by rw [List.length_replicate]) hfl (HP.out.p.below HV1.out) HV1.out.size (by omega) (Ck.Bits.made hVr))
      have HXV := Lib.hid ((HX.out.of_block (H1.out.block _ HX.out.lt)).of_block (hbV.block _ (by omega)))
      have HOY : Hid (∀ L : List Bool, L.length = l.length → Ck.Sound (Cd.fns l) f L → Ck.Closed (Cd.fns l) f L → Ck.Out (Cd.fns l) (f : Int) (Ck.idx L)) := fun L hl hs hc => Ck.out_yes HC.out (by rw [Cd.fns_len]; exact hfl) (by rw [Cd.fns_len]; exact hl) hs hc
      have H1S := Lib.hid h1s
      clear hmem hF h64 hcf hVr hbV h1s hXl
      go_upto_region 4 with fail
      rw [← hV]
      clear hV p0 hmk
      obtain ⟨B, hB⟩ : ∃ B, B = w1.heap.size := ⟨_, rfl⟩
      have HBE := Lib.hid hB
      rw [← hB] at HMA ⊢
      rw [← hB] at hVs
      clear hB
      have HVS := Lib.hid hVs
      clear hVs hWs
      have p0 := HXV.out.c0
      go_wp2_with fail
      refine HMA.out.mono ?_
      rintro e w3 ⟨rfl, L, hmk2, hdn2, hbt2, hgr2⟩
      obtain ⟨hL1, hL2, hL3⟩ := hmk2.sound hdn2
      have HO := Lib.hid (HOY.out L hL1 hL2 hL3)
      have HLL := Lib.hid hL1
      have HBT := Lib.hid hbt2
      have hs3 := hgr2.size
      have HB3 : Hid (Below W.heap.size W w3) := HV1.out.trans (Ck.below_grown hgr2 (by have := HBE.out; have := H1S.out; omega) HV1.out.size)
      have hB3 : B < w3.heap.size := by have := HVS.out; omega
      clear hmk2 hdn2 hbt2 hgr2 hL1 hL2 hL3 HOY HMA p0 hs3
      go_wp2_with fail
      go_loopw [6, 30] (fun s6 s30 wr => ∃ (k : Nat) (A2 : Option Addr) (c2 : Nat), k ≤ l.length ∧ s6 = .slice A2 (Ck.idxT L k).length c2 ∧ s30 = .int .i64 k ∧ Hid (wr.ownsRow w3.heap.size 3 1 (.slice A2 (Ck.idxT L k).length c2) (Ck.idxT L k).length (icells (Ck.idxT L k)) ∧ Below w3.heap.size w3 wr)) (fun _ s30 _ => l.length - (intOf s30).toNat)
      case atStart => exact ⟨0, none, 0, Nat.zero_le _, rfl, rfl, ⟨rfl, .inl ⟨rfl, rfl⟩⟩, Below.refl _ _⟩
      case round =>
        obtain ⟨k, A2, c2, hk, rfl, rfl, HS⟩ := hrel
        by_cases hlt : k < l.length
        · have k0 : (0 : Int) ≤ (k : Int) := by omega
          have k1 : (k : Int) < (l.length : Int) := by omega
          have hkL : k < L.length := by rw [HLL.out]; exact hlt
          obtain ⟨hc, hf⟩ := (HBT.out.keep (HS.out.2.block B hB3)) k hkL
          have HIT : Hid (Ck.idxT L (k + 1) = Ck.idxT L k ++ if L[k]? = some true then [(k : Int)] else []) := rfl
          have hk100 : (Ck.idxT L k).length ≤ 100000 := by have := Ck.idxT_len L k; omega
          have hbs := HS.out.2.size
          cases hv : L[k] with
          | true =>
            rw [hv] at hc
            have HI2 : Hid (Ck.idxT L (k + 1) = Ck.idxT L k ++ [(k : Int)]) := by
              show _ = _
              rw [HIT.out, if_pos (by rw [List.getElem?_eq_getElem hkL, hv])]
            clear hv hkL HIT hlt
            generalize Ck.idxT L k = xs at HS hk100 HI2
            go_wp2_with (refine Cd.at_app rfl ?_; refine Ck.ipush HS.out.1 rfl _ _ rfl rfl rfl (k : Int) (by first | with_reducible rfl | rfl) hk100 hbs ?_; intro g cap w6 hown hgr)
            have HNEW : Hid (w6.ownsRow w3.heap.size 3 1 (.slice (some ⟨g, 0, none⟩) (Ck.idxT L (k + 1)).length cap) (Ck.idxT L (k + 1)).length (icells (Ck.idxT L (k + 1))) ∧ Below w3.heap.size w3 w6) := by
              refine ⟨?_, ?_⟩
              · rw [HI2.out, Ck.icells_app, List.length_append]
                exact hown
              · have hb := HS.out.2.trans ((Cd.fn1 wr #[.int .i64 (k : Int)] 3).mono HS.out.2.size)
                exact hb.grown hgr hb.size (fun q hq => (HS.out.1.lt q hq).1)
            have HLN : Hid ((Ck.idxT L (k + 1)).length = xs.length + 1) := by show _ = _; rw [HI2.out, List.length_append]; rfl
            clear hown hgr hbs hc hf HI2
            go_wp2_with fail
            go_roundw
            case rel => exact ⟨k + 1, some ⟨g, 0, none⟩, cap, by omega, by rw [HLN.out], by go_num, HNEW.out⟩
            case measure => simp [intOf]; omega
          | false =>
            rw [hv] at hc
            have HI2 : Hid (Ck.idxT L (k + 1) = Ck.idxT L k) := by
              show _ = _
              rw [HIT.out, if_neg (by rw [List.getElem?_eq_getElem hkL, hv]; simp), List.append_nil]
            clear hv hkL HIT hlt
            go_wp2_with fail
            go_roundw
            case rel => exact ⟨k + 1, A2, c2, by omega, by rw [HI2.out], by go_num, by rw [HI2.out]; exact HS.out⟩
            case measure => simp [intOf]; omega
        · obtain rfl : k = l.length := by omega
          have k1 : ¬ (l.length : Int) < (l.length : Int) := by omega
          have HXS : Hid (Ck.idxT L l.length = Ck.idx L) := by show _ = _; unfold Ck.idx; rw [HLL.out]
          have h16 : (Ck.idxT L l.length).length ≤ 16 := by have := Ck.idxT_len L l.length; omega
          have HLI := Lib.hid (Cd.rowLies HS.out.1)
          have HBL := Lib.hid (HB.out.trans ((HB3.out.trans (HS.out.2.mono HB3.out.size)).mono HB.out.size))
          rw [← HXS.out] at HO
          clear hlt
          go_wp2_with fail
          go_ret
          exact ⟨Ck.idxT L l.length, A2, c2, HO.out, h16, rfl, HLI.out, HBL.out⟩
    · have hin' : Ck.inN fn l.length = false := by simpa using hin
      rw [hin'] at HWI
      have HO : Hid (Ck.Out (Cd.fns l) fn []) := Ck.out_no (.inr (by rw [Cd.fns_len]; exact hin'))
      clear hin hin'
      go_wp2_with fail
      refine (HWI.out _).mono ?_
      rintro e w2 ⟨rfl, rfl⟩
      go_wp2_with fail
      go_ret
      exact ⟨[], none, 0, HO.out, Nat.zero_le _, rfl, Ck.lies_nil _ _, HB.out.trans (H1.out.mono HB.out.size)⟩
  · have HO : Hid (Ck.Out (Cd.fns l) fn []) := Ck.out_no (.inl he)
    generalize Ck.chk (Cd.fns l) = x at HWR he
    obtain ⟨e, i, k⟩ := x
    have HV := Lib.hid (Ck.errV_fault e i k he)
    rw [HV.out] at HWR
    clear he HV HOK
    go_wp2_with fail
    refine HWR.out.mono ?_
    rintro e2 w1 ⟨rfl, hb1⟩
    have H1 := Lib.hid hb1
    clear hb1 HWR p0
    go_wp2_with fail
    go_ret
    exact ⟨[], none, 0, HO.out, Nat.zero_le _, rfl, Ck.lies_nil _ _, HB.out.trans (H1.out.mono HB.out.size)⟩
end Go.Proofs.YtkigoidklonhcaaGreatDoor
