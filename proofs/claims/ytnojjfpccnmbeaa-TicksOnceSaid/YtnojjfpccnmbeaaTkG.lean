/-
  The contract of the document's All.
-/
import Derived.Test.YtnojjfpccnmbeaaTkF
namespace Go.Proofs.Ytnojjfpccnmbeaa
open Go.RowKit

namespace Tk
theorem add_addT (a : Addr) (j k : Nat) : (a.add k).add j = a.add (k + j) := by
  unfold Addr.add
  by_cases hk : k = 0
  · subst hk; simp
  · rw [if_neg hk]
    by_cases hj : j = 0
    · subst hj; simp [hk]
    · rw [if_neg hj, if_neg (by omega)]
      simp [Nat.add_assoc]
theorem tks_len2 (l : List Tm) : (tks l).length = l.length * 2 := by
  rw [tks_len]
theorem append_front {lo : Nat} (w1 : World) (b q : Nat) (A2 : Option Addr) (c2 : Nat) (out : List Tm) (hol : Lies w1 lo A2 (tks out)) (hq : q ≤ out.length) (hlen : out.length ≤ 100000) (hb : b ≤ w1.heap.size) (ty : TypeId) :
    ∃ v' w2, (Builtin.append_ #[28, 28] ty #[.slice none 0 0, .slice A2 q c2]).run Try.prog w1 = .ok v' w2 ∧ w2.ownsRow b 42 2 v' q (tks (out.take q)) ∧ Below b w1 w2 := by
  obtain ⟨v', w2, h1, h2, h3⟩ := append_tms w1 b (.slice none 0 0) 0 [] (World.ownsRow_nil _ _ _ _) A2 q c2 (tks (out.take q)) (by rw [tks_len2, List.length_take]; omega) (fun h0 => by
    obtain ⟨ad, e, _, hc⟩ := hol (by rw [tks_len2]; omega)
    refine ⟨ad, e, fun j u hu => hc j u ?_⟩
    rw [tks_take, List.getElem?_take] at hu
    split at hu
    · exact hu
    · cases hu) (tks_one _) (by omega) hb ty
  rw [Nat.zero_add, List.nil_append] at h2
  exact ⟨v', w2, h1, h2, (Below.refl b w1).grown h3 hb (by
    intro k hk
    rcases h2.2 with ⟨rfl, _⟩ | ⟨g, cap, cur, rfl, hg, _⟩
    · cases hk
    · have : g = k := by injection hk
      omega)⟩
theorem append_back {lo : Nat} (w1 : World) (b q : Nat) (v : Value) (xs : List Value) (A2 : Option Addr) (c2 : Nat) (out : List Tm) (hv : w1.ownsRow b 42 2 v (q + 1) xs) (hol : Lies w1 lo A2 (tks out)) (hq : q ≤ out.length) (hlen : out.length ≤ 100000) (hb : b ≤ w1.heap.size) (ty : TypeId) (hc : out.length ≤ c2) :
    ∃ g cap w2, (Builtin.append_ #[28, 28] ty #[v, .slice (trest A2 c2 q) (out.length - q) (c2 - q)]).run Try.prog w1 = .ok (.slice (some ⟨g, 0, none⟩) (out.length + 1) cap) w2 ∧ w2.ownsRow b 42 2 (.slice (some ⟨g, 0, none⟩) (out.length + 1) cap) (out.length + 1) (xs ++ tks (out.drop q)) ∧ Below b w1 w2 := by
  obtain ⟨v', w2, h1, h2, h3⟩ := append_tms w1 b v (q + 1) xs hv (trest A2 c2 q) (out.length - q) (c2 - q) (tks (out.drop q)) (by rw [tks_len2, List.length_drop]) (fun h0 => by
    obtain ⟨ad, e, _, hcl⟩ := hol (by rw [tks_len2]; omega)
    subst e
    refine ⟨ad.add (q * 2), by unfold trest; rw [if_neg (by omega)]; rfl, fun j u hu => ?_⟩
    rw [add_addT]
    refine hcl _ u ?_
    rw [tks_drop, List.getElem?_drop] at hu
    rwa [Nat.mul_comm q 2]) (tks_one _) (by omega) hb ty
  have hn : q + 1 + (out.length - q) = out.length + 1 := by omega
  rw [hn] at h2
  obtain ⟨g, cap, rfl⟩ := ownsRow_succ h2
  refine ⟨g, cap, w2, h1, h2, (Below.refl b w1).grown h3 hb ?_⟩
  intro k hk
  obtain ⟨g1, cap1, rfl⟩ := ownsRow_succ hv
  have e : g1 = k := by injection hk
  rcases hv.2 with ⟨e2, _⟩ | ⟨g', _, _, e2, hg, _⟩
  · cases e2
  · injection e2 with e2 _ _
    injection e2 with e2
    injection e2 with e2
    omega
end Tk

set_option maxRecDepth 20000 in
set_option maxHeartbeats 4000000 in
theorem rAll {R : Nat} {v : Value} {c : Int} {l : List Tk.Tm} {w : World} (h : Tk.DTm R v c l w) (hl : l.length ≤ 100000) (hd : Tk.Dist l) :
    Calls Try.prog 23 #[.pointer (some ⟨R, 0, none⟩)] w fun e w' => ∃ (A : Option Addr) (n : Nat) (out : List Tk.Tm), e = .returned (.slice A out.length n) ∧ out.Perm l ∧ out.Pairwise Tk.kl ∧ Lies w' w'.heap.size A (Tk.tks out) ∧ Below w.heap.size w w' := by
  obtain ⟨A, n, rfl⟩ := h.form
  obtain ⟨i0, hi0, hz0, hz1, hz2⟩ := info_parts Tk.tm_info
  have HC : Hid (∀ wx, Below w.heap.size w wx → wx.cell? ⟨R, 1, none⟩ = some (.slice A l.length n)) := fun wx hb => (h.below hb).c1
  have HLI := Lib.hid (Tk.own_lies h.row)
  have HD := Lib.hid hd
  clear h hd
  go_enter Try.func23, Try.ntmps23
  go_wp2_with fail
  go_loopw [3, 4] (fun O t wr => ∃ (A2 : Option Addr) (c2 j : Nat) (out : List Tk.Tm), O = .slice A2 out.length c2 ∧ t = .int .i64 j ∧ j ≤ l.length ∧ Hid (out.length = j) ∧ Hid (out.Perm (l.take j)) ∧ Hid (out.Pairwise Tk.kl) ∧ Hid (wr.ownsRow w.heap.size 42 2 (.slice A2 out.length c2) out.length (Tk.tks out)) ∧ Hid (Below w.heap.size w wr)) (fun _ t _ => l.length - (intOf t).toNat)
  case atStart => exact ⟨none, 0, 0, [], rfl, rfl, Nat.zero_le _, by show _ = _; rfl, by show List.Perm _ _; simp, List.Pairwise.nil, World.ownsRow_nil _ _ _ _, Below.refl _ _⟩
  case round =>
    rename World => wo
    obtain ⟨A2, c2, j, out, rfl, rfl, hj, hol, HP, HS, HROW, HB⟩ := hrel
    have hc1 := HC.out _ HB.out
    by_cases hlt : j < l.length
    · have k0 : (0 : Int) ≤ (j : Int) := by omega
      have k1 : (j : Int) < l.length := by omega
      obtain ⟨p, rfl, hpb, hp0, hp1⟩ := Tk.at2 (HLI.out.below HB.out) hlt
      have HINS : Hid (∀ q, (∀ y ∈ out.take q, Tk.kl y l[j]) → (∀ y, out[q]? = some y → ¬ Tk.kl y l[j]) → (out.take q ++ l[j] :: out.drop q).Perm (l.take (j + 1)) ∧ (out.take q ++ l[j] :: out.drop q).Pairwise Tk.kl) := fun q h1 h2 => Tk.ins_ok hlt HD.out HP.out HS.out h1 h2
      have HXC : Hid (∀ wx, Below wo.heap.size wo wx → wx.cell? (p.add (j * 2)) = some (.string (l[j]).1) ∧ wx.cell? ⟨(p.add (j * 2)).block, (p.add (j * 2)).off + 1, none⟩ = some (.int .i64 (l[j]).2)) := fun wx hb => by
        have hpl : (p.add (j * 2)).block < wo.heap.size := by rw [Lies.add_block]; have := HB.out.size; omega
        exact ⟨(hb.cell hpl).trans hp0, (hb.cell (p := ⟨(p.add (j * 2)).block, (p.add (j * 2)).off + 1, none⟩) hpl).trans hp1⟩
      generalize l[j] = x at hp0 hp1 HINS HXC
      obtain ⟨x1, x2⟩ := x
      simp only [] at hp0 hp1 HXC
      have HOL := Lib.hid (Tk.own_lies HROW.out)
      have hcap : out.length ≤ c2 := by
        rcases HROW.out.2 with ⟨_, h0⟩ | ⟨g, cap, cur, e1, _, _, h3, _⟩
        · have := hol.out; omega
        · injection e1 with _ _ e3
          omega
      have HCAP := Lib.hid hcap
      clear hlt hp0 hp1 hcap
      go_wp2_with fail
      go_loopw [5] (fun t wk => ∃ q : Nat, q ≤ out.length ∧ t = .int .i64 q ∧ Hid (∀ y ∈ out.take q, Tk.kl y (x1, x2)) ∧ Hid (Below wo.heap.size wo wk)) (fun t _ => out.length - (intOf t).toNat)
      case atStart => exact ⟨0, Nat.zero_le _, rfl, fun y hy => by simp at hy, Below.refl _ _⟩
      case round =>
        obtain ⟨q, hq, rfl, HY, HBK⟩ := hrel
        have hc1k := HC.out _ (HB.out.trans (HBK.out.mono HB.out.size))
        obtain ⟨hx0, hx1⟩ := HXC.out _ HBK.out
        have hlo : out.length ≤ 100000 := by have := hol.out; omega
        by_cases hqt : q < out.length
        · have HQ : Hid (∀ y, out[q]? = some y → y = out[q]) := fun y hy => by rw [List.getElem?_eq_getElem hqt] at hy; exact (Option.some.inj hy).symm
          have HT : Hid (Tk.kl out[q] (x1, x2) → ∀ y ∈ out.take (q + 1), Tk.kl y (x1, x2)) := fun e y hy => by
            rw [List.take_succ_eq_append_getElem hqt] at hy
            rcases List.mem_append.1 hy with hy | hy
            · exact HY.out y hy
            · rw [List.mem_singleton.1 hy]; exact e
          obtain ⟨p2, rfl, hp2b, hy0, hy1⟩ := Tk.at2 (HOL.out.below HBK.out) hqt
          generalize out[q] = y at hy0 hy1 HQ HT
          obtain ⟨y1, y2⟩ := y
          simp only [] at hy0 hy1
          have q0 : (0 : Int) ≤ (q : Int) := by omega
          have q1 : (q : Int) < out.length := by omega
          have hless := Tk.less_eq y1 x1
          by_cases e : y1.data.toList < x1.data.toList
          · have HT2 := Lib.hid (HT.out e)
            have d : Op.bytesLess y1.toList x1.toList = true := by rw [hless]; simpa using e
            clear HT HQ hless e
            go_wp2_with fail
            go_quiet (fail)
            go_wp2_with fail
            go_roundw
            case rel => exact ⟨q + 1, by omega, by go_num, HT2.out, below_drewN HBK.out _⟩
            case measure => simp [intOf]; omega
          · have HH : Hid (∀ y, out[q]? = some y → ¬ Tk.kl y (x1, x2)) := fun y hy => by rw [HQ.out y hy]; exact e
            have d : Op.bytesLess y1.toList x1.toList = false := by rw [hless]; simpa using e
            clear HT HQ hless e
            go_wp2_with fail
            go_quiet (fail)
            have HK := Lib.hid (HINS.out q HY.out HH.out)
            have hs1 := fun w => Tk.tslice_front (some p2) out.length c2 q (Nat.le_trans hq HCAP.out) w
            have hs2 := fun w => Tk.tslice_back (some p2) out.length c2 q hq w
            obtain ⟨v2, w2, hr2, ho2, hb2⟩ := Tk.append_front (wr.drewN nq) wo.heap.size q (some p2) c2 out (HOL.out.below (below_drewN HBK.out _)) hq hlo HBK.out.size 28
            have HR2 := Lib.hid hr2
            have HO2 := Lib.hid ho2
            have HB2 : Hid (Below wo.heap.size wo w2) := (below_drewN HBK.out _).trans hb2
            clear hr2 ho2 hb2 HH HY HINS
            have c2k := HC.out w2 (HB.out.trans (HB2.out.mono HB.out.size))
            obtain ⟨z0, z1⟩ := HXC.out w2 HB2.out
            have hws2 := HB2.out.size
            clear hc1k hx0 hx1
            go_wp2_with (first | (at_builtin; refine Lib.wpList_append_run _ rfl (.tmp 38) (.tmp 41) 28 28 rfl _ _ rfl rfl _ _ HR2.out ?_) | (at_builtin; refine wpList_append_own _ rfl _ _ 28 rfl wo.heap.size 42 i0 (.agg #[.string ⟨#[]⟩, .int .i64 0]) 2 24 Try.underlying28 hi0 hz0 hz1 hz2 rfl (by decide) _ _ _ rfl (HO2.out.alloc _) ⟨w2.heap.size, 0, none⟩ 1 1 [.string x1, .int .i64 x2] rfl rfl (Tk.cellTwoTm w2 (.string x1) (.int .i64 x2) 42) (by simp [Value.oneCell']) (by unfold maxLen; omega) (by omega) (by simp; omega) ?_))
            intro v3 w3 hown3 hgrow3 _
            have hlt3 := fun k => (HO2.out.lt k)
            have hb3 : Below wo.heap.size wo w3 := (HB2.out.alloc (by omega) _).grown hgrow3 (by simp; omega) (fun k hk => (hlt3 k hk).1)
            obtain ⟨g, cap, w4, hr4, ho4, hb4⟩ := Tk.append_back w3 wo.heap.size q v3 _ (some p2) c2 out hown3 (HOL.out.below hb3) hq hlo hb3.size 28 HCAP.out
            have HR4 := Lib.hid hr4
            have HB4 : Hid (Below w.heap.size w w4) := HB.out.trans ((hb3.trans hb4).mono HB.out.size)
            have HO4 : Hid (w4.ownsRow w.heap.size 42 2 (.slice (some ⟨g, 0, none⟩) (out.take q ++ (x1, x2) :: out.drop q).length cap) (out.take q ++ (x1, x2) :: out.drop q).length (Tk.tks (out.take q ++ (x1, x2) :: out.drop q))) := by
              have hlen : (out.take q ++ (x1, x2) :: out.drop q).length = out.length + 1 := by
                rw [List.length_append, List.length_cons, List.length_take, List.length_drop]; omega
              have ht : Tk.tks (out.take q ++ (x1, x2) :: out.drop q) = (Tk.tks (out.take q) ++ [.string x1, .int .i64 x2]) ++ Tk.tks (out.drop q) := by
                rw [Tk.tks_app, Tk.tks_cons, List.append_assoc]
              rw [hlen, ht]
              refine ⟨ho4.1, ?_⟩
              rcases ho4.2 with h | ⟨g', cap', cur, h, hg, hrest⟩
              · exact .inl h
              · exact .inr ⟨g', cap', cur, h, Nat.le_trans HB.out.size hg, hrest⟩
            have HLEN : Hid (out.length + 1 = (out.take q ++ (x1, x2) :: out.drop q).length) := by
              show _ = _
              rw [List.length_append, List.length_cons, List.length_take, List.length_drop]; omega
            clear hown3 hgrow3 hlt3 hb3 hr4 ho4 hb4
            go_wp2_with (at_builtin; refine Lib.wpList_append_run _ rfl (.tmp 53) (.tmp 56) 28 28 rfl _ _ rfl rfl _ _ HR4.out ?_)
            go_wp2_with fail
            go_roundw
            case rel => exact ⟨some ⟨g, 0, none⟩, cap, j + 1, out.take q ++ (x1, x2) :: out.drop q, by rw [← HLEN.out], by go_num, by omega, by show _ = _; rw [← HLEN.out, hol.out], HK.out.1, HK.out.2, HO4.out, HB4.out⟩
            case measure => simp [intOf]; omega
        · have q1 : ¬ ((q : Int) < out.length) := by omega
          have HH : Hid (∀ y, out[q]? = some y → ¬ Tk.kl y (x1, x2)) := fun y hy => by rw [List.getElem?_eq_none (by omega)] at hy; cases hy
          go_wp2_with fail
          go_quiet (fail)
          have HK := Lib.hid (HINS.out q HY.out HH.out)
          have hs1 := fun w => Tk.tslice_front A2 out.length c2 q (Nat.le_trans hq HCAP.out) w
          have hs2 := fun w => Tk.tslice_back A2 out.length c2 q hq w
          obtain ⟨v2, w2, hr2, ho2, hb2⟩ := Tk.append_front (wr.drewN nq) wo.heap.size q A2 c2 out (HOL.out.below (below_drewN HBK.out _)) hq hlo HBK.out.size 28
          have HR2 := Lib.hid hr2
          have HO2 := Lib.hid ho2
          have HB2 : Hid (Below wo.heap.size wo w2) := (below_drewN HBK.out _).trans hb2
          clear hr2 ho2 hb2 HH HY HINS
          have c2k := HC.out w2 (HB.out.trans (HB2.out.mono HB.out.size))
          obtain ⟨z0, z1⟩ := HXC.out w2 HB2.out
          have hws2 := HB2.out.size
          clear hc1k hx0 hx1
          go_wp2_with (first | (at_builtin; refine Lib.wpList_append_run _ rfl (.tmp 38) (.tmp 41) 28 28 rfl _ _ rfl rfl _ _ HR2.out ?_) | (at_builtin; refine wpList_append_own _ rfl _ _ 28 rfl wo.heap.size 42 i0 (.agg #[.string ⟨#[]⟩, .int .i64 0]) 2 24 Try.underlying28 hi0 hz0 hz1 hz2 rfl (by decide) _ _ _ rfl (HO2.out.alloc _) ⟨w2.heap.size, 0, none⟩ 1 1 [.string x1, .int .i64 x2] rfl rfl (Tk.cellTwoTm w2 (.string x1) (.int .i64 x2) 42) (by simp [Value.oneCell']) (by unfold maxLen; omega) (by omega) (by simp; omega) ?_))
          intro v3 w3 hown3 hgrow3 _
          have hlt3 := fun k => (HO2.out.lt k)
          have hb3 : Below wo.heap.size wo w3 := (HB2.out.alloc (by omega) _).grown hgrow3 (by simp; omega) (fun k hk => (hlt3 k hk).1)
          obtain ⟨g, cap, w4, hr4, ho4, hb4⟩ := Tk.append_back w3 wo.heap.size q v3 _ A2 c2 out hown3 (HOL.out.below hb3) hq hlo hb3.size 28 HCAP.out
          have HR4 := Lib.hid hr4
          have HB4 : Hid (Below w.heap.size w w4) := HB.out.trans ((hb3.trans hb4).mono HB.out.size)
          have HO4 : Hid (w4.ownsRow w.heap.size 42 2 (.slice (some ⟨g, 0, none⟩) (out.take q ++ (x1, x2) :: out.drop q).length cap) (out.take q ++ (x1, x2) :: out.drop q).length (Tk.tks (out.take q ++ (x1, x2) :: out.drop q))) := by
            have hlen : (out.take q ++ (x1, x2) :: out.drop q).length = out.length + 1 := by
              rw [List.length_append, List.length_cons, List.length_take, List.length_drop]; omega
            have ht : Tk.tks (out.take q ++ (x1, x2) :: out.drop q) = (Tk.tks (out.take q) ++ [.string x1, .int .i64 x2]) ++ Tk.tks (out.drop q) := by
              rw [Tk.tks_app, Tk.tks_cons, List.append_assoc]
            rw [hlen, ht]
            refine ⟨ho4.1, ?_⟩
            rcases ho4.2 with h | ⟨g', cap', cur, h, hg, hrest⟩
            · exact .inl h
            · exact .inr ⟨g', cap', cur, h, Nat.le_trans HB.out.size hg, hrest⟩
          have HLEN : Hid (out.length + 1 = (out.take q ++ (x1, x2) :: out.drop q).length) := by
            show _ = _
            rw [List.length_append, List.length_cons, List.length_take, List.length_drop]; omega
          clear hown3 hgrow3 hlt3 hb3 hr4 ho4 hb4
          go_wp2_with (at_builtin; refine Lib.wpList_append_run _ rfl (.tmp 53) (.tmp 56) 28 28 rfl _ _ rfl rfl _ _ HR4.out ?_)
          go_wp2_with fail
          go_roundw
          case rel => exact ⟨some ⟨g, 0, none⟩, cap, j + 1, out.take q ++ (x1, x2) :: out.drop q, by rw [← HLEN.out], by go_num, by omega, by show _ = _; rw [← HLEN.out, hol.out], HK.out.1, HK.out.2, HO4.out, HB4.out⟩
          case measure => simp [intOf]; omega
    · have k1 : ¬ ((j : Int) < l.length) := by omega
      have HP2 : Hid (out.Perm l) := by
        have := HP.out
        rwa [List.take_of_length_le (by omega)] at this
      go_wp2_with fail
      go_ret
      exact ⟨A2, c2, out, rfl, HP2.out, HS.out, Tk.own_lies HROW.out, HB.out⟩
end Go.Proofs.Ytnojjfpccnmbeaa
