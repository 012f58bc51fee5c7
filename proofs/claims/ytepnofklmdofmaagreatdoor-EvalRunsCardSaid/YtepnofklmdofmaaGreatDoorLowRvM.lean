/-
  Layer 13: the document's Joined.
  Layer 13: what the document's Do keeps: the run, the results that wait, what is told; appends.
  Layer 13: the document's Do: what its loop keeps.
-/
import Derived.Test.YtepnofklmdofmaaGreatDoorLowRvF
import Derived.Test.YtepnofklmdofmaaGreatDoorLowEvA
import Derived.BigRegion
import Derived.Test.YtepnofklmdofmaaGreatDoorRvK
import Derived.Maps.AppendAt
section
namespace Go.Proofs.YtepnofklmdofmaaGreatDoor
open Go.RowKit

namespace Ev
def rc1 (r : Res) : List Value := [.int .i64 r.val, .int .i64 r.err]
def rescells (l : List Res) : List Value := l.flatMap rc1
theorem rescells_len (l : List Res) : (rescells l).length = l.length * 2 := by
  induction l with
  | nil => rfl
  | cons o l ih =>
    show (rc1 o ++ rescells l).length = _
    rw [List.length_append, ih]
    simp [rc1]
    omega
theorem rescells_app (a b : List Res) : rescells (a ++ b) = rescells a ++ rescells b := by unfold rescells; simp
theorem rescells_at {l : List Res} {j i : Nat} {u : Value} (hj : j < l.length) (h : (rc1 l[j])[i]? = some u) : (rescells l)[j * 2 + i]? = some u := by
  induction l generalizing j with
  | nil => simp at hj
  | cons o l ih =>
    have e : rescells (o :: l) = rc1 o ++ rescells l := rfl
    have hc : (rc1 o).length = 2 := rfl
    cases j with
    | zero =>
      have hi : i < 2 := by
        have := (List.getElem?_eq_some_iff.1 h).1
        simpa [rc1] using this
      rw [e, List.getElem?_append_left (by omega)]
      simpa using h
    | succ j =>
      rw [e, List.getElem?_append_right (by omega), hc]
      have : (j + 1) * 2 + i - 2 = j * 2 + i := by omega
      rw [this]
      exact ih (by simpa using hj) (by simpa using h)
/-- One result's cells, as a walk asks for them. -/
theorem res_at {w : World} {B : Nat} {A : Option Addr} {l : List Res} (h : Lies w B A (rescells l)) {j : Nat} (hj : j < l.length) :
    ∃ ad : Addr, A = some ad ∧ ad.block < B ∧ w.cell? (ad.add (j * 2)) = some (.int .i64 l[j].val) ∧ w.cell? ⟨(ad.add (j * 2)).block, (ad.add (j * 2)).off + 1, none⟩ = some (.int .i64 l[j].err) := by
  obtain ⟨ad, e, hb, hc⟩ := h (by rw [rescells_len]; omega)
  have hx : ∀ i u, (rc1 l[j])[i]? = some u → w.cell? ((ad.add (j * 2)).add i) = some u := fun i u hu => by
    have := hc (j * 2 + i) u (rescells_at hj hu)
    have e2 : (ad.add (j * 2)).add i = ad.add (j * 2 + i) := by
      unfold Addr.add
      repeat' split
      all_goals first | rfl | omega | (simp_all; done) | (simp_all; omega)
    rw [e2]; exact this
  refine ⟨ad, e, hb, hx 0 _ rfl, ?_⟩
  rw [← Cd.off _ 1 (by omega)]
  exact hx 1 _ rfl
theorem into_at {js : List Int} {s : St} {k : Nat} (hk : k < s.wts.length) : (icells (into js s))[js.length + k]? = some (.int .i64 s.wts[k].1) := by
  unfold icells into
  rw [List.getElem?_map, List.getElem?_append_right (by omega), Nat.add_sub_cancel_left, List.getElem?_map, List.getElem?_eq_getElem hk]
  rfl
/-- What the document's Joined leaves. -/
def RJoinP (B R : Nat) (F u v : Value) (t : Tsk) (A : Option Addr) (c : Nat) (js : List Int) (ds : List Dm) (s : St) (w : World) (e : Ending) (w' : World) : Prop :=
  e = .returned (.int .i64 (kidsE s.wts)) ∧ (kidsE s.wts ≠ 0 → Rn B R F u v t A c js ds s w') ∧ (kidsE s.wts = 0 → Rn B R F u v t A c (js ++ s.wts.map Prod.fst) ds { s with regs := joined s.wts s.regs, wts := [] } w') ∧ Gm.Mvg (ROff B R u v) (ROff B R u v) w w'
end Ev

set_option maxHeartbeats 2000000 in
set_option maxRecDepth 20000 in
theorem rJoined13 {B R : Nat} {F u v : Value} {t : Ev.Tsk} {A : Option Addr} {c : Nat} {js : List Int} {ds : List Ev.Dm} {s : Ev.St} {w : World} (h : Ev.Rn B R F u v t A c js ds s w) (WA : Option Addr) (wc : Nat) (hl : Lies w w.heap.size WA (Ev.rescells (s.wts.map Prod.snd))) (ho : ∀ p, WA = some p → Ev.ROff B R u v p.block)
    (hk : s.kids = js.length + s.wts.length) (hw : s.kids ≤ 16) (hr : ∀ x ∈ s.wts, 0 ≤ x.1 ∧ x.1 < (s.regs.length : Int)) :
    Calls Tryz.prog 55 #[.pointer (some ⟨B, 0, none⟩), .slice WA s.wts.length wc] w (Ev.RJoinP B R F u v t A c js ds s w) := by
  obtain ⟨U, cu, hu⟩ := Ev.own_slice h.rowu
  subst hu
  have H := Lib.hid h
  have HR := Lib.hid hr
  have HL := Lib.hid hl
  have HO := Lib.hid ho
  have HK0 := Lib.hid hk
  have HW := Lib.hid hw
  have hlen : (s.wts.map Prod.snd).length = s.wts.length := by simp
  have hk16 : (s.wts.length : Int) ≤ 16 := by omega
  clear h hr hl ho hk hw
  go_enter Tryz.func55, Tryz.ntmps55
  go_wp2_with fail
  go_loopw [5] (fun s5 wr => ∃ k : Nat, k ≤ s.wts.length ∧ s5 = .int .i64 k ∧ Hid (∀ x ∈ s.wts.take k, x.2.err = 0) ∧ wr = w) (fun s5 _ => s.wts.length - (intOf s5).toNat)
  case atStart => exact ⟨0, Nat.zero_le _, rfl, (fun x hx => by simp at hx), rfl⟩
  case round =>
    obtain ⟨k, hk, rfl, HE, hwr⟩ := hrel
    obtain rfl : w = wr := hwr.symm
    by_cases hlt : k < s.wts.length
    · have k0 : (0 : Int) ≤ (k : Int) := by omega
      have k1 : (k : Int) < (s.wts.length : Int) := by omega
      have hk17 : k ≤ 16 := by omega
      obtain ⟨ad, rfl, hadl, c0, c1⟩ := Ev.res_at HL.out (j := k) (by rw [hlen]; exact hlt)
      have ex : (s.wts.map Prod.snd)[k]'(by rw [hlen]; exact hlt) = s.wts[k].2 := by simp
      rw [ex] at c1
      clear c0 hadl ex
      have HTS := Lib.hid (List.take_succ_eq_append_getElem hlt)
      have HFI := Lib.hid (Ev.kidsE_first hlt HE.out)
      have HLT := Lib.hid hlt
      generalize s.wts[k] = x at c1 HTS HFI
      clear hlt
      by_cases he : x.2.err = 0
      · have HZ := Lib.hid he
        rw [he] at c1
        clear he
        go_wp2_with fail
        have hl1 : k < s.wts.length := HLT.out
        go_roundw
        case rel => exact ⟨k + 1, by omega, by go_num, (by
          intro y hy
          rw [HTS.out] at hy
          rcases List.mem_append.1 hy with hy | hy
          · exact HE.out y hy
          · rw [List.mem_singleton.1 hy]; exact HZ.out), trivial⟩
        case measure => simp [intOf]; omega
      · have HK := Lib.hid (HFI.out he)
        have hne := Lib.hid he
        have hb : (x.2.err == 0) = false := by simpa using he
        generalize x.2.err = er at c1 hb HK hne
        clear he HFI HTS
        go_wp2_with fail
        go_ret
        refine ⟨by rw [HK.out]; rfl, fun _ => H.out, fun h => absurd (HK.out.symm.trans h) hne.out, Gm.Mvg.refl _ _⟩
    · have k1 : ¬ (k : Int) < (s.wts.length : Int) := by omega
      obtain rfl : k = s.wts.length := by omega
      rw [List.take_length] at HE
      have HKE := Lib.hid (Ev.kidsE_zero HE.out)
      clear hlt HE
      go_wp2_with fail
      go_loopw [6] (fun s6 W => ∃ k : Nat, k ≤ s.wts.length ∧ s6 = .int .i64 k ∧ Hid (Ev.Rn B R F (.slice U (Ev.into js s).length cu) v t A c js ds { s with regs := Ev.joined (s.wts.take k) s.regs } W ∧ Gm.Mvg (Ev.ROff B R (.slice U (Ev.into js s).length cu) v) (Ev.ROff B R (.slice U (Ev.into js s).length cu) v) w W)) (fun s6 _ => s.wts.length - (intOf s6).toNat)
      case atStart => exact ⟨0, Nat.zero_le _, rfl, H.out, Gm.Mvg.refl _ _⟩
      case round =>
        obtain ⟨k, hk, rfl, HN⟩ := hrel
        by_cases hlt : k < s.wts.length
        · have k0 : (0 : Int) ≤ (k : Int) := by omega
          have k1 : (k : Int) < (s.wts.length : Int) := by omega
          have hk17 : k ≤ 16 := by omega
          have hlw := Ev.lies_mv HL.out (fun _ p hp => HO.out p hp) HN.out.2
          obtain ⟨ad, rfl, hadl, c0, c1⟩ := Ev.res_at hlw (j := k) (by rw [hlen]; exact hlt)
          have ex : (s.wts.map Prod.snd)[k]'(by rw [hlen]; exact hlt) = s.wts[k].2 := by simp
          rw [ex] at c0
          clear c1 hadl ex hlw
          have hli := Cd.rowLies HN.out.1.rowu
          have hij : js.length + k < (Ev.into js s).length := by unfold Ev.into; rw [List.length_append, List.length_map]; omega
          obtain ⟨au, rfl, _, hc⟩ := hli (by show 0 < (icells (Ev.into js s)).length; unfold icells; rw [List.length_map]; omega)
          have v0 : wr.cell? (au.add (js.length + k)) = some (.int .i64 s.wts[k].1) := hc (js.length + k) _ (Ev.into_at hlt)
          have hreg := HR.out _ (List.getElem_mem hlt)
          have HJ := Lib.hid (Ev.joined_succ (r := s.regs) hlt)
          generalize s.wts[k] = x at c0 v0 hreg HJ
          obtain ⟨d, val, err⟩ := x
          simp only [] at c0 v0 hreg
          obtain ⟨dn, rfl⟩ := Int.eq_ofNat_of_zero_le hreg.1
          have hrl : (Ev.joined (s.wts.take k) s.regs).length = s.regs.length := Ev.joined_len _ _
          have hdn : dn < (Ev.joined (s.wts.take k) s.regs).length := by rw [hrl]; omega
          have t5 : wr.cell? ⟨B, 5, none⟩ = some (.slice (some ⟨R, 0, none⟩) s.regs.length s.regs.length) := by
            have h := HN.out.1.cell 5
            unfold Ev.rcs at h
            simp only [hrl] at h
            exact h
          have t9 : wr.cell? ⟨B, 9, none⟩ = some (.int .i64 ((js.length : Int) + 1)) := HN.out.1.cell 9
          have t10 : wr.cell? ⟨B, 10, none⟩ = some (.slice (some au) (Ev.into js s).length cu) := HN.out.1.cell 10
          have r0 := HN.out.1.reg hdn
          have rf := HN.out.1.rfro dn
          have d0 : (0 : Int) ≤ (dn : Int) := by omega
          have d1 : (dn : Int) < (s.regs.length : Int) := by omega
          have HNEW : Hid (Ev.Rn B R F (.slice (some au) (Ev.into js s).length cu) v t A c js ds { s with regs := Ev.joined (s.wts.take (k + 1)) s.regs } (wr.setCell ⟨R, dn, none⟩ (.int .i64 val)).drew ∧ Gm.Mvg (Ev.ROff B R (.slice (some au) (Ev.into js s).length cu) v) (Ev.ROff B R (.slice (some au) (Ev.into js s).length cu) v) w (wr.setCell ⟨R, dn, none⟩ (.int .i64 val)).drew) := by
            refine ⟨?_, Ev.mvg_drew (Ev.mvg_set HN.out.2 (fun i _ h => h.2.1) _ _)⟩
            rw [HJ.out]
            simpa using (HN.out.1.setR dn val).drew
          have hj16 : js.length ≤ 16 := by have h1 := HK0.out; have h2 := HW.out; omega
          have hij2 : (js.length : Int) + (k : Int) < ((Ev.into js s).length : Int) := by omega
          have HLT := Lib.hid hlt
          generalize (Ev.St.regs { s with regs := Ev.joined (s.wts.take k) s.regs })[dn]'_ = old at r0
          generalize (Ev.into js s).length = N at t10 hij2 HNEW ⊢
          generalize js.length = J at t9 v0 hij2 hj16
          have w1 : (J : Int) + 1 - 1 = (J : Int) := by omega
          have w2 : ((J : Int) + (k : Int)).toNat = J + k := by omega
          have w3 : (0 : Int) ≤ (J : Int) + (k : Int) := by omega
          clear hlt hreg hrl hdn HN HJ hli hc hij
          go_wp2_with fail
          go_region
          generalize (wr.setCell ⟨R, dn, none⟩ (.int .i64 val)).drew = w6 at HNEW ⊢
          go_wp2_with fail
          have hl1 : k < s.wts.length := HLT.out
          go_roundw
          case rel => exact ⟨k + 1, by omega, by go_num, HNEW⟩
          case measure => simp [intOf]; omega
        · have k1 : ¬ (k : Int) < (s.wts.length : Int) := by omega
          obtain rfl : k = s.wts.length := by omega
          rw [List.take_length] at HN
          have t8 : wr.cell? ⟨B, 8, none⟩ = some (.int .i64 (s.kids : Int)) := HN.out.1.cell 8
          have t9 : wr.cell? ⟨B, 9, none⟩ = some (.int .i64 ((js.length : Int) + 1)) := HN.out.1.cell 9
          have tf := HN.out.1.fro 9
          have hk20 : s.kids ≤ 16 := HW.out
          have HF : Hid (Ev.RJoinP B R F (.slice U (Ev.into js s).length cu) v t A c js ds s w (.returned (.int .i64 0)) (wr.setCell ⟨B, 9, none⟩ (.int .i64 ((s.kids : Int) + 1)))) := by
            refine ⟨by rw [HKE.out], fun h => absurd HKE.out h, fun _ => ?_, Ev.mvg_set HN.out.2 (fun i _ h => h.1) _ _⟩
            have e : ((s.kids : Int) + 1) = (((js ++ s.wts.map Prod.fst).length : Nat) : Int) + 1 := by
              rw [List.length_append, List.length_map, HK0.out]
            rw [e]
            refine HN.out.1.setT { s with regs := Ev.joined s.wts s.regs, wts := [] } (js ++ s.wts.map Prod.fst) 9 _ rfl rfl ?_ rfl
            unfold Ev.into
            simp
          clear hlt HN
          go_wp2_with fail
          go_ret
          exact HF.out
end Go.Proofs.YtepnofklmdofmaaGreatDoor
end

section
namespace Go.Proofs.YtepnofklmdofmaaGreatDoor
open Go.RowKit

namespace Ev
/-- All that is told lies at a slice. -/
structure RRow (w : World) (A : Option Addr) (ms : List Dm) : Prop where
  li : Lies w w.heap.size A (dcells ms)
  args : ∀ m ∈ ms, Lies w w.heap.size m.A (icells m.d.t.args)
theorem RRow.below {w w' : World} {A : Option Addr} {ms : List Dm} (h : RRow w A ms) (hb : Below w.heap.size w w') : RRow w' A ms := ⟨(h.li.below hb).mono hb.size, fun m hm => ((h.args m hm).below hb).mono hb.size⟩
theorem rres_info : (Tryz.prog.info? 30).map (fun i => (i.zero, i.size, i.bytes)) = some (some (.agg #[.int .i64 0, .int .i64 0]), 2, 16) := by kernel_rfl
theorem dcells_one (ms : List Dm) : ∀ u ∈ dcells ms, u.oneCell' = true := by
  intro u hu
  unfold dcells at hu
  obtain ⟨m, _, h⟩ := List.mem_flatMap.1 hu
  unfold Dm.cells at h
  simp only [List.mem_cons, List.not_mem_nil, or_false] at h
  rcases h with rfl | rfl | rfl | rfl | rfl | rfl | rfl <;> rfl
theorem dcells_cat (a b : List Dm) : dcells (a ++ b) = dcells a ++ dcells b := by unfold dcells; simp
/-- What is told is appended to an owned row of it. -/
theorem dapp_run (w : World) (v : Value) (n : Nat) (xs : List Value) (hown : w.ownsRow 0 96 7 v n xs) (A : Option Addr) (ms : List Dm) (c : Nat)
    (hsrc : Lies w w.heap.size A (dcells ms)) (hn : n + ms.length ≤ 1000000) (ty : TypeId) :
    ∃ v' w', (Builtin.append_ #[35, 35] ty #[v, .slice A ms.length c]).run Tryz.prog w = .ok v' w' ∧ w'.ownsRow 0 96 7 v' (n + ms.length) (xs ++ dcells ms) ∧ w.grownBy w' v.ownBlock ∧ (v'.ownBlock = v.ownBlock ∨ v'.ownBlock = some w.heap.size) := by
  obtain ⟨i, hi, hz⟩ := Option.map_eq_some_iff.1 done_info
  simp only [Prod.mk.injEq] at hz
  obtain ⟨z1, z2, z3⟩ := hz
  have hmax : n + ms.length ≤ maxLen := by unfold maxLen; omega
  have hlen := dcells_len ms
  cases A with
  | some ad =>
    obtain ⟨v', w', a, b, d, _, e⟩ := run_append_own_at (P := Tryz.prog) w 0 35 ty 96 i _ 7 80 Tryz.underlying35 hi z1 z2 z3 rfl (by omega) v n xs hown ad ms.length c (dcells ms) (by omega) (fun j u hu => by
      obtain ⟨ad', e, _, hc⟩ := hsrc (by have := (List.getElem?_eq_some_iff.1 hu).1; omega)
      cases e
      exact hc j u hu) (dcells_one ms) hmax (by omega) (Nat.zero_le _)
    exact ⟨v', w', a, b, d, e⟩
  | none =>
    have hm : ms.length = 0 := by
      rcases Nat.eq_zero_or_pos ms.length with h | h
      · exact h
      · obtain ⟨_, e, _⟩ := hsrc (by omega)
        cases e
    obtain rfl := List.eq_nil_of_length_eq_zero hm
    refine ⟨v, w, ?_, by simpa [dcells] using hown, ⟨rfl, rfl, rfl, Nat.le_refl _, fun _ _ _ => rfl⟩, .inl rfl⟩
    rcases hown.2 with ⟨rfl, rfl⟩ | ⟨g, cap, cur, rfl, _, _, hnc, _⟩
    · simp [Builtin.append_, run_underlying (P := Tryz.prog) Tryz.underlying35, sizeOf, typeInfo, hi, Builtin.lenOf, Builtin.firstCells]
    · simp [Builtin.append_, run_underlying (P := Tryz.prog) Tryz.underlying35, sizeOf, typeInfo, hi, Builtin.lenOf, Builtin.firstCells, hnc, storeCells]
theorem dwp_append_run {w w' : World} {oo : Oper} {a : Act} {K : Act → World → Prop} {Q : Exit → Act → World → Prop} (s x : Operand) {v u v' : Value}
    (ho : oo.op = .call { callee := .builtin .append, args := #[s, x], argTypes := #[35, 35] }) (hs : a.eval s = v) (hx : a.eval x = u)
    (hr : (Builtin.append_ #[35, 35] oo.type #[v, u]).run Tryz.prog w = .ok v' w') (h : K (a.put oo.dst v') w') : oo.wp Tryz.prog a w K Q := by
  unfold Oper.wp execOp
  simp only [ho, resolve, invoke, builtin, Sem.run_bind, Sem.run_pure, Result.andThen_ok, List.map_toArray, List.map_cons, List.map_nil, hs, hx, hr]
  exact h
/-- At a step of a region that draws. -/
theorem dstep_append_run {w w' : World} {ops : Array Oper} {oo : Oper} {a : Act} {K : Act → World → Prop} {Q : Exit → Act → World → Prop} {E : Prop} (hgd : oo.guard = none) (s x : Operand) {v u v' : Value}
    (ho : oo.op = .call { callee := .builtin .append, args := #[s, x], argTypes := #[35, 35] }) (hs : a.eval s = v) (hx : a.eval x = u)
    (hr : (Builtin.append_ #[35, 35] oo.type #[v, u]).run Tryz.prog w = .ok v' w') (h : K (a.put oo.dst v') w') :
    if Region.wanted oo (yielded ops a.tmps) = true then Oper.wp Tryz.prog oo a w K Q else E := by
  have hw : Region.wanted oo (yielded ops a.tmps) = true := by simp [Region.wanted, hgd]
  rw [if_pos hw]
  exact dwp_append_run s x ho hs hx hr h
theorem dwpl_append_run {w w' : World} {ops : Array Oper} {rest : List Oper} {oo : Oper} {a : Act} {Q : Exit → Act → World → Prop} (hgd : oo.guard = none) (s x : Operand) {v u v' : Value}
    (ho : oo.op = .call { callee := .builtin .append, args := #[s, x], argTypes := #[35, 35] }) (hs : a.eval s = v) (hx : a.eval x = u)
    (hr : (Builtin.append_ #[35, 35] oo.type #[v, u]).run Tryz.prog w = .ok v' w') (h : wpList Tryz.prog ops Q rest (a.put oo.dst v') w') : wpList Tryz.prog ops Q (oo :: rest) a w :=
  wpList_plain hgd fun _ hK => dwp_append_run s x ho hs hx hr (hK _ _ h)
/-- A result is appended to an owned row of them. -/
theorem rpush {ops : Array Oper} {rest : List Oper} {oo : Oper} {a : Act} {U : World} {Q : Exit → Act → World → Prop} {T1 : TypeId} {n b : Nat} {v : Value} {xs : List Value}
    (hrow : U.ownsRow 0 30 2 v n xs) (hgd : oo.guard = none) (s x : Operand)
    (hop : oo.op = .call { callee := .builtin .append, args := #[s, x], argTypes := #[70, 70] }) (hs : a.eval s = v) (hx : a.eval x = .slice (some ⟨b, 0, none⟩) 1 1) (r : Res)
    (hb : U.heap[b]? = some (.cells #[.int .i64 r.val, .int .i64 r.err] T1 (0, 0))) (hn : n ≤ 100000)
    (h : ∀ g cap w', w'.ownsRow 0 30 2 (.slice (some ⟨g, 0, none⟩) (n + 1) cap) (n + 1) (xs ++ rc1 r) → U.grownBy w' v.ownBlock → (v.ownBlock = some g ∨ g = U.heap.size) → wpList Tryz.prog ops Q rest (a.put oo.dst (.slice (some ⟨g, 0, none⟩) (n + 1) cap)) w') :
    wpList Tryz.prog ops Q (oo :: rest) a U := by
  obtain ⟨i, hi, hz⟩ := Option.map_eq_some_iff.1 rres_info
  simp only [Prod.mk.injEq] at hz
  obtain ⟨z1, z2, z3⟩ := hz
  refine wpList_append_lies _ hgd s x 70 hop 0 30 i (.agg #[.int .i64 0, .int .i64 0]) 2 16 Tryz.underlying70 hi z1 z2 z3 rfl (by decide) v n xs hs hrow ⟨b, 0, none⟩ 1 1 (rc1 r) hx rfl
    (fun j u hu => World.news_of_block hb j u hu) (by unfold rc1; simp [Value.oneCell']) (by decide) (by unfold maxLen; omega) (by omega) (Nat.zero_le _) U.heap.size rfl ?_
  intro g cap w' h1 h2 h3 _
  exact h g cap w' h1 h2 h3
end Ev
end Go.Proofs.YtepnofklmdofmaaGreatDoor
end

section
namespace Go.Proofs.YtepnofklmdofmaaGreatDoor
open Go.RowKit

namespace Ev
/-- What a Do comes to: where the arguments of all that are told lie. -/
def off0 (w : World) (A : Option Addr) (i : Nat) : Prop := w.heap.size ≤ i ∨ ∃ q, A = some q ∧ i = q.block
def RDoP (p : List Cd.FnV) (t : Tsk) (A : Option Addr) (w : World) (e : Ending) (w' : World) : Prop :=
  ∃ (A2 : Option Addr) (c2 : Nat) (ms : List Dm), e = .returned (.tuple #[.agg #[.int .i64 (doT p t).1.val, .int .i64 (doT p t).1.err], .slice A2 ms.length c2]) ∧ ms.map Dm.d = (doT p t).2 ∧ (Lies w' w'.heap.size A2 (dcells ms) ∧ ∀ q, A2 = some q → w.heap.size ≤ q.block) ∧ Args (off0 w A) ms w' ∧ Below w.heap.size w w'
/-- Off the run's blocks, and those of the results that wait. -/
def LOff (w0 : World) (B R : Nat) (u v : Value) (WA : Option Addr) (i : Nat) : Prop := ROff B R u v i ∧ w0.heap.size ≤ i ∧ ∀ q, WA = some q → i ≠ q.block
/-- The run of a Do, all of whose memory is its own, and the results that wait. -/
structure RLp (w0 : World) (F : Value) (t : Tsk) (A : Option Addr) (c B R : Nat) (u v : Value) (js : List Int) (ds : List Dm) (s : St) (WA : Option Addr) (wc : Nat) (l : List Res) (w : World) : Prop where
  rn : Rn B R F u v t A c js ds s w
  args : Args (LOff w0 B R u v WA) ds w
  bel : Below w0.heap.size w0 w
  lo : ∀ i, i < w0.heap.size → ROff B R u v i
  row : w.ownsRow 0 30 2 (.slice WA l.length wc) l.length (rescells l)
  woff : ∀ q, WA = some q → ROff B R u v q.block ∧ w0.heap.size ≤ q.block
/-- What is off stays, and is off then, too. -/
def Stay (off off' : Nat → Prop) (w w' : World) : Prop := ∀ i, i < w.heap.size → off i → w'.heap[i]? = w.heap[i]? ∧ off' i
section
variable {w0 : World} {F : Value} {t : Tsk} {A : Option Addr} {c B R : Nat} {u v u' v' : Value} {js js' : List Int} {ds ms : List Dm} {s s' : St} {w w' w2 : World} {WA : Option Addr} {wc : Nat} {l : List Res}
theorem RLp.wlt (h : RLp w0 F t A c B R u v js ds s WA wc l w) : ∀ q, WA = some q → q.block < w.heap.size := fun q hq => (h.row.lt q.block (by rw [hq]; rfl)).2
theorem RLp.mv (h : RLp w0 F t A c B R u v js ds s WA wc l w) (h' : Rn B R F u' v' t A c js' ds s' w') (mv : Gm.Mvg (ROff B R u v) (ROff B R u' v') w w') : RLp w0 F t A c B R u' v' js' ds s' WA wc l w' := by
  have hs := h.bel.size
  refine ⟨h', h.args.mv ⟨mv.os, mv.tape, mv.output, mv.size, fun i hi ho => mv.block i hi ho.1, fun i hi ho => ⟨mv.keep i hi ho.1, ho.2⟩⟩, ?_, fun i hi => mv.keep i (by omega) (h.lo i hi), Gm.ownsKeep h.row fun i hi => ?_, fun q hq => ⟨mv.keep _ (h.wlt q hq) (h.woff q hq).1, (h.woff q hq).2⟩⟩
  · exact ⟨mv.os.trans h.bel.os, mv.tape.trans h.bel.tape, mv.output.trans h.bel.output, Nat.le_trans hs mv.size, fun i hi => (mv.block i (by omega) (h.lo i hi)).trans (h.bel.block i hi)⟩
  · cases WA with
    | none => cases hi
    | some q =>
      injection hi with hi
      subst hi
      exact mv.block _ (h.wlt q rfl) (h.woff q rfl).1
theorem stay_mv (mv : Gm.Mvg (ROff B R u v) (ROff B R u' v') w w') : Stay (LOff w0 B R u v WA) (LOff w0 B R u' v' WA) w w' := fun i hi ho => ⟨mv.block i hi ho.1, mv.keep i hi ho.1, ho.2⟩
theorem RLp.fresh (h : RLp w0 F t A c B R u v js ds s WA wc l w) {i : Nat} (hi : w.heap.size ≤ i) : LOff w0 B R u v WA i := ⟨h.rn.fresh hi, Nat.le_trans h.bel.size hi, fun q hq e => by have := h.wlt q hq; omega⟩
theorem RLp.below (h : RLp w0 F t A c B R u v js ds s WA wc l w) (hb : Below w.heap.size w w') : RLp w0 F t A c B R u v js ds s WA wc l w' := h.mv (h.rn.below hb) (Gm.Mvg.of_below hb)
theorem RLp.lies (h : RLp w0 F t A c B R u v js ds s WA wc l w) : Lies w w.heap.size WA (rescells l) := fun hp => by
  rcases h.row.2 with ⟨e, h0⟩ | ⟨g, cap, cur, e1, hg, hh, _⟩
  · have := rescells_len l
    omega
  · obtain rfl : WA = some ⟨g, 0, none⟩ := by injection e1
    exact ⟨⟨g, 0, none⟩, rfl, (h.row.lt g rfl).2, fun j u hu => h.row.cells (g := g) rfl j u hu⟩
/-- Nothing waits any more. -/
theorem RLp.clear (h : RLp w0 F t A c B R u v js ds s WA wc l w) : RLp w0 F t A c B R u v js ds s none 0 [] w :=
  ⟨h.rn, h.args.imp fun _ _ ho => ⟨ho.1, ho.2.1, fun _ h => by cases h⟩, h.bel, h.lo, World.ownsRow_nil _ _ _ _, fun _ h => by cases h⟩
/-- A result more waits: in whatever row. -/
theorem RLp.wait (h : RLp w0 F t A c B R u v js ds s WA wc l w) {g cap : Nat} {r : Res} (hrow : w'.ownsRow 0 30 2 (.slice (some ⟨g, 0, none⟩) (l.length + 1) cap) (l.length + 1) (rescells l ++ rc1 r)) (hgr : w.grownBy w' (Value.slice WA l.length wc).ownBlock) (hg : (Value.slice WA l.length wc).ownBlock = some g ∨ g = w.heap.size) :
    RLp w0 F t A c B R u v js ds s (some ⟨g, 0, none⟩) cap (l ++ [r]) w' ∧ Stay (LOff w0 B R u v WA) (LOff w0 B R u v (some ⟨g, 0, none⟩)) w w' := by
  have hq : ∀ i, (Value.slice WA l.length wc).ownBlock = some i → ∃ q, WA = some q ∧ i = q.block := fun i hi => by
    cases WA with
    | none => cases hi
    | some q => injection hi with hi; exact ⟨q, rfl, hi.symm⟩
  have hk : ∀ i, i < w.heap.size → (∀ q, WA = some q → q.block ≠ i) → w'.heap[i]? = w.heap[i]? := fun i hi hn => hgr.block i hi fun e => by
    obtain ⟨q, e1, e2⟩ := hq i e.symm
    exact hn q e1 e2.symm
  have ne : ∀ i, ¬ ROff B R u v i → ∀ q, WA = some q → q.block ≠ i := fun i hi q e e2 => hi (by rw [← e2]; exact (h.woff q e).1)
  have hrn : Rn B R F u v t A c js ds s w' := h.rn.of (hk B h.rn.ltB (ne B fun e => e.1 rfl)) (hk R h.rn.ltR (ne R fun e => e.2.1 rfl)) (fun i hi => hk i (h.rn.rowu.lt i hi).2 (ne i fun e => e.2.2.1 hi.symm)) (fun i hi => hk i (h.rn.rowv.lt i hi).2 (ne i fun e => e.2.2.2 hi.symm))
  have hs := h.bel.size
  have hgo : ROff B R u v g ∧ w0.heap.size ≤ g := by
    rcases hg with e | e
    · obtain ⟨q, e1, e2⟩ := hq g e
      rw [e2]
      exact h.woff q e1
    · rw [e]
      exact ⟨h.rn.fresh (Nat.le_refl _), hs⟩
  have hst : Stay (LOff w0 B R u v WA) (LOff w0 B R u v (some ⟨g, 0, none⟩)) w w' := fun i hi ho => ⟨hk i hi fun q e e2 => ho.2.2 q e e2.symm, ho.1, ho.2.1, fun q e e2 => by
    obtain rfl := Option.some.inj e
    have e3 : i = g := e2
    rcases hg with e4 | e4
    · obtain ⟨q', e5, e6⟩ := hq g e4
      exact ho.2.2 q' e5 (e3.trans e6)
    · omega⟩
  refine ⟨⟨hrn, ?_, ⟨hgr.os.trans h.bel.os, hgr.tape.trans h.bel.tape, hgr.output.trans h.bel.output, Nat.le_trans hs hgr.size, fun i hi => (hk i (by omega) fun q e e2 => ?_).trans (h.bel.block i hi)⟩, h.lo, ?_, fun q e => ?_⟩, hst⟩
  · exact h.args.mv ⟨hgr.os, hgr.tape, hgr.output, hgr.size, fun i hi ho => (hst i hi ho).1, fun i hi ho => (hst i hi ho).2⟩
  · have := (h.woff q e).2
    omega
  · have e : (l ++ [r]).length = l.length + 1 := by rw [List.length_append]; rfl
    rw [e, rescells_app]
    simpa [rescells] using hrow
  · obtain rfl := Option.some.inj e
    exact hgo
/-- More is told. -/
theorem RLp.tell (h : RLp w0 F t A c B R u v js ds s WA wc l w) (ha : Args (LOff w0 B R u v WA) ms w) (hrow : w2.ownsRow 0 96 7 v' (ds.length + ms.length) (dcells ds ++ dcells ms)) (hgr : w.grownBy w2 v.ownBlock) (hbl : v'.ownBlock = v.ownBlock ∨ v'.ownBlock = some w.heap.size) :
    RLp w0 F t A c B R u v' js (ds ++ ms) { s with done := s.done ++ ms.map Dm.d } WA wc l (w2.setCell ⟨B, 11, none⟩ v') ∧ Stay (LOff w0 B R u v WA) (LOff w0 B R u v' WA) w (w2.setCell ⟨B, 11, none⟩ v') := by
  have hk : ∀ i, i < w.heap.size → i ≠ B → some i ≠ v.ownBlock → (w2.setCell ⟨B, 11, none⟩ v').heap[i]? = w.heap[i]? := fun i hi hn hv => (Below.heap_setCell _ _ _ _ hn).trans (hgr.block i hi hv)
  have hB : w2.heap[B]? = some (.cells (rcs F R u v t A c js s) 77 (0, 0)) := (hgr.block B h.rn.ltB fun e => h.rn.nv e.symm).trans h.rn.obj
  have hv' : ∀ i, v'.ownBlock = some i → v.ownBlock = some i ∨ i = w.heap.size := fun i hi => by
    rcases hbl with e | e
    · exact .inl (e.symm.trans hi)
    · rw [e] at hi
      exact .inr (Option.some.inj hi).symm
  have nvB : v'.ownBlock ≠ some B := fun e => by
    rcases hv' B e with e | e
    · exact h.rn.nv e
    · have := h.rn.ltB; omega
  have nvR : v'.ownBlock ≠ some R := fun e => by
    rcases hv' R e with e | e
    · exact h.rn.nw e
    · have := h.rn.ltR; omega
  have mv : Gm.Mvg (ROff B R u v) (ROff B R u v') w (w2.setCell ⟨B, 11, none⟩ v') := by
    refine ⟨hgr.os, hgr.tape, hgr.output, Nat.le_trans hgr.size (by simp [World.setCell]), fun i hi ho => hk i hi ho.1 ho.2.2.2, fun i hi ho => ⟨ho.1, ho.2.1, ho.2.2.1, fun e => ?_⟩⟩
    rcases hv' i e.symm with e | e
    · exact ho.2.2.2 e.symm
    · omega
  have hrn : Rn B R F u v' t A c js (ds ++ ms) { s with done := s.done ++ ms.map Dm.d } (w2.setCell ⟨B, 11, none⟩ v') := by
    refine ⟨?_, (hk R h.rn.ltR h.rn.ne fun e => h.rn.nw e.symm).trans h.rn.regs, Gm.ownsKeep h.rn.rowu fun i hi => hk i (h.rn.rowu.lt i hi).2 (fun e => h.rn.nu (by rw [hi, e])) fun e => h.rn.uv i hi e.symm, ?_, by rw [List.map_append, h.rn.told], h.rn.ne, h.rn.nu, h.rn.nr, nvB, nvR, fun i hi e => ?_⟩
    · rw [heap_setCell_same _ _ _ _ _ _ hB]
      rfl
    · rw [List.length_append, dcells_cat]
      exact Gm.ownsKeep hrow fun i hi => Below.heap_setCell _ _ _ _ fun e => nvB (by rw [hi, e])
    · rcases hv' i e with e | e
      · exact h.rn.uv i hi e
      · have := (h.rn.rowu.lt i hi).2; omega
  have hA : Args (LOff w0 B R u v WA) (ds ++ ms) w := fun m hm => by
    rcases List.mem_append.1 hm with hm | hm
    · exact h.args m hm
    · exact ha m hm
  have hs := h.bel.size
  refine ⟨⟨hrn, hA.mv ⟨mv.os, mv.tape, mv.output, mv.size, fun i hi ho => mv.block i hi ho.1, fun i hi ho => ⟨mv.keep i hi ho.1, ho.2⟩⟩, ?_, fun i hi => mv.keep i (by omega) (h.lo i hi), Gm.ownsKeep h.row fun i hi => ?_, fun q hq => ⟨mv.keep _ (h.wlt q hq) (h.woff q hq).1, (h.woff q hq).2⟩⟩, stay_mv mv⟩
  · exact ⟨mv.os.trans h.bel.os, mv.tape.trans h.bel.tape, mv.output.trans h.bel.output, Nat.le_trans hs mv.size, fun i hi => (mv.block i (by omega) (h.lo i hi)).trans (h.bel.block i hi)⟩
  · cases WA with
    | none => cases hi
    | some q =>
      injection hi with hi
      subst hi
      exact mv.block _ (h.wlt q rfl) (h.woff q rfl).1
end
/-- What an op comes to: its error, the state behind it. -/
def Next (p : List Cd.FnV) (t : Tsk) (o : Cd.OpV) (er : Int) (s s2 : St) : Prop :=
  (er ≠ 0 → doT p t = fin t s2 ⟨0, er⟩) ∧ (er = 0 → o.k = 14 → doT p t = fin t s2 ⟨rgAt s2.regs o.a, 0⟩) ∧ (er = 0 → o.k ≠ 14 → doT p t = run (s2.left + 1) p t s2 ∧ SOk p t s2 ∧ s2.left + 1 ≤ s.left)
theorem next_act {p : List Cd.FnV} {t : Tsk} {s : St} (h : TOk p t) (hg : ∀ f ∈ p, GoodF p f) (hs : SOk p t s) (h0 : s.left ≠ 0) (hr : doT p t = run (s.left + 1) p t s) : Next p t (opAt p t s) (actE t (paid s) (opAt p t s)) s (actS p t (paid s) (opAt p t s)) := by
  rw [run_act p s.left t s h0 (Nat.le_refl _)] at hr
  refine ⟨fun e => by rw [hr, if_pos e], fun e h14 => by rw [hr, if_neg (by omega), if_pos h14], fun e h14 => ?_⟩
  rw [if_neg (by omega), if_neg h14] at hr
  obtain ⟨h1, h2⟩ := act_ok h hg hs e h14
  refine ⟨?_, h1, by omega⟩
  rw [hr]
  obtain ⟨m, hm⟩ : ∃ m, s.left = (actS p t (paid s) (opAt p t s)).left + 1 + m := ⟨s.left - ((actS p t (paid s) (opAt p t s)).left + 1), by omega⟩
  have := run_more p ((actS p t (paid s) (opAt p t s)).left + 1) m t (actS p t (paid s) (opAt p t s)) (Nat.lt_succ_self _)
  rw [← hm] at this
  exact this
end Ev
end Go.Proofs.YtepnofklmdofmaaGreatDoor
end
