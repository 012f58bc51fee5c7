/-
  Law 15: a cell holds what was put there last.
-/
import Derived.Test.YtepnofklmdofmaaRows
import Derived.Test.YtepnofklmdofmaaCeE
import Derived.Test.YtepnofklmdofmaaL15S
import Derived.Deep.DeepCutAuto
import Derived.Deep.CutBlock
import Derived.ProofKit
import Derived.OpenShut
import Derived.ShutString
namespace Go.Proofs.Ytepnofklmdofmaa.cellLast
open Go.ChangeShapes Go.WideShapes Go.ChangeAt Go.RowKit
open Go.ChangeMaps (open_string shut_string)

theorem and7 (x : Int) : ∃ k : Nat, k < 8 ∧ bits BinOp.and IntKind.i64 x 7 = (k : Int) := by
  have h : (BitVec.ofInt IntKind.i64.bits x &&& BitVec.ofInt IntKind.i64.bits 7).toNat < 8 := by
    rw [BitVec.toNat_and]
    exact Nat.and_lt_two_pow (n := 3) _ (by decide)
  refine ⟨_, h, ?_⟩
  simp only [bits]
  rw [IntKind.wrap_i64]
  omega
/-- Steps at a cell that is there. -/
theorem at_k {xs : List Int} {k : Nat} (h : k < xs.length) : Ce.ldV xs (k : Int) = xs[k] ∧ Ce.erC xs (k : Int) = 0 ∧ (∀ n, Ce.cnt xs (k : Int) n = n + 1) ∧ (∀ x, Ce.stX xs (k : Int) x = xs.set k x) ∧ (∀ o, Ce.swB xs (k : Int) o = decide (xs[k] = o)) ∧ ∀ o x, Ce.swX xs (k : Int) o x = if xs[k] = o then xs.set k x else xs := by
  have h1 := Ce.has_nat h
  have h2 := Ce.getD_nat h
  unfold Ce.ldV Ce.erC Ce.cnt Ce.stX Ce.swX Ce.swB
  rw [h1, h2]
  refine ⟨rfl, rfl, fun _ => rfl, fun x => ?_, fun o => by rw [Bool.true_and], fun o x => ?_⟩
  · rw [if_pos rfl, Int.toNat_natCast]
  · rw [Bool.true_and, Int.toNat_natCast]
    by_cases e : xs[k] = o
    · rw [if_pos (decide_eq_true e), if_pos e]
    · rw [if_neg (by simpa using e), if_neg e]
/-- The cells, and what is held. -/
structure Keeps (w0 : World) (B M H : Nat) (xs : List Int) (n : Nat) (w : World) : Prop where
  pm : Ce.Pm (fun i => i < w0.heap.size ∨ i = H) B M xs n w
  row : w.heap[H]? = some (.cells (icells xs).toArray 2 (0, 0))
  bel : Below w0.heap.size w0 w
  len : xs.length = 8
  ho : w0.heap.size ≤ H
/-- And a step's block. -/
structure KeepS (w0 : World) (B M H S : Nat) (o : Obj) (xs ys : List Int) (n : Nat) (w : World) : Prop where
  pm : Ce.Pm (fun i => i < w0.heap.size ∨ i = H ∨ i = S) B M xs n w
  row : w.heap[H]? = some (.cells (icells ys).toArray 2 (0, 0))
  bel : Below w0.heap.size w0 w
  len : xs.length = 8
  lens : ys.length = 8
  ho : w0.heap.size ≤ H
  st : w.heap[S]? = some o
  ne : H ≠ S
section
variable {w0 w w' : World} {B M H S : Nat} {o : Obj} {xs ys xs' : List Int} {n n' : Nat}
theorem Keeps.push (h : Keeps w0 B M H xs n w) (o : Obj) : KeepS w0 B M H w.heap.size o xs xs n (w.alloc o) := by
  have hb : Below w.heap.size w (w.alloc o) := (Below.refl _ _).alloc (Nat.le_refl _) _
  have hl := Gm.ltHeap h.row
  refine ⟨(h.pm.push hb).mono fun i hi => ?_, (hb.block H hl).trans h.row, h.bel.trans (hb.mono h.bel.size), h.len, h.len, h.ho, heap_alloc_new _ _, by omega⟩
  rcases hi with h1 | h1 | h1
  · exact .inl (.inl h1)
  · exact .inl (.inr h1)
  · exact .inr ⟨by omega, by rw [h1]; simp⟩
theorem KeepS.step (h : KeepS w0 B M H S o xs ys n w) (hp : Ce.Pm (fun i => i < w0.heap.size ∨ i = H ∨ i = S) B M xs' n' w') (hl : xs'.length = 8) (hk : Ce.Kept (fun i => i < w0.heap.size ∨ i = H ∨ i = S) w w') : KeepS w0 B M H S o xs' ys n' w' :=
  ⟨hp, hk.row h.row (.inr (.inl rfl)), hk.below h.bel h.bel.size (fun _ hi => .inl hi), hl, h.lens, h.ho, hk.row h.st (.inr (.inr rfl)), h.ne⟩
theorem KeepS.hold (h : KeepS w0 B M H S o xs ys n w) (k : Nat) (x : Int) : KeepS w0 B M H S o xs (ys.set k x) n (w.setCell ⟨H, k, none⟩ (.int .i64 x)) := by
  have hk : ∀ i, i ≠ H → (w.setCell ⟨H, k, none⟩ (.int .i64 x)).heap[i]? = w.heap[i]? := fun i hi => Below.heap_setCell _ _ _ _ hi
  obtain ⟨v, h1, h2⟩ := h.pm.ex
  have oH := h2 H (.inr (.inl rfl))
  refine ⟨⟨⟨v, h1.of (hk B (fun e => oH.1 e.symm)) (hk M (fun e => oH.2.1 e.symm)) (fun i hi => hk i fun e => oH.2.2 (by rw [hi, e])), h2⟩, fun i hi => by simpa [World.setCell] using h.pm.lt i hi⟩, ?_, h.bel.setCell h.ho _, h.len, by rw [List.length_set]; exact h.lens, h.ho, (hk S (fun e => h.ne e.symm)).trans h.st, h.ne⟩
  rw [heap_setCell_same _ _ _ _ _ _ h.row]
  unfold icells
  rw [List.map_set, List.setIfInBounds_toArray]
theorem KeepS.below (h : KeepS w0 B M H S o xs ys n w) (hb : Below w.heap.size w w') : KeepS w0 B M H S o xs ys n w' :=
  h.step (h.pm.below hb) h.len (Ce.Kept.of_below hb)
theorem KeepS.pop (h : KeepS w0 B M H S o xs xs n w) : Keeps w0 B M H xs n w :=
  ⟨h.pm.mono fun i hi => by rcases hi with h1 | h1; exact .inl h1; exact .inr (.inl h1), h.row, h.bel, h.len, h.ho⟩
theorem KeepS.held (h : KeepS w0 B M H S o xs ys n w) {k : Nat} (hk : k < 8) : w.cell? ⟨H, k, none⟩ = some (.int .i64 (ys[k]'(by rw [h.lens]; exact hk))) := by
  rw [cell_of_row _ _ k _ _ _ h.row]
  simpa using icells_at (by rw [h.lens]; exact hk)
theorem KeepS.hfro (h : KeepS w0 B M H S o xs ys n w) (k : Nat) : w.frozen? ⟨H, k, none⟩ = false := frozen_of_row _ _ k _ _ h.row
end
set_option maxHeartbeats 2000000 in
set_option maxRecDepth 20000 in
theorem walk (w0 : World) (l : List StepC) (A : Option Addr) (c : Nat) (la : LiesC w0 w0.heap.size A l) (nl : l.length ≤ maxLen) (ok : ∀ a ∈ l, a.Ok w0) :
    Calls Try.prog 4 #[.slice A l.length c] w0 fun e w' => e = .returned (.bool true) ∧ Below w0.heap.size w0 w' := by
  have HV := Lib.hid (heavyc l A c w0 la nl)
  have LA := Lib.hid la
  have OK := Lib.hid ok
  clear la ok
  go_enter Try.func4, Try.ntmps4
  go_wp2_with fail
  refine HV.out.mono ?_
  rintro e w1 ⟨b, rfl, hb, hb1⟩
  have HB1 := Lib.hid hb1
  have HBF := Lib.hid hb
  clear HV hb hb1
  cases b with
  | true =>
    go_wp2_with fail
    refine (alive15_any _).mono ?_
    rintro e w2 ⟨rfl, hb2⟩
    have HB2 := Lib.hid (HB1.out.trans (hb2.mono HB1.out.size))
    clear hb2
    go_wp2_with fail
    go_ret
    exact ⟨rfl, HB2.out⟩
  | false =>
    have nl2 : l.length ≤ 300 := (HBF.out rfl).1
    clear HBF nl
    go_wp2_with fail
    refine (pm_new _).mono ?_
    rintro e w2 ⟨B, M, rfl, h2, hb2⟩
    have HB2 := Lib.hid (HB1.out.trans (hb2.mono HB1.out.size))
    have H2 := Lib.hid (h2.mono fun i (hi : i < w0.heap.size) => Nat.lt_of_lt_of_le hi HB1.out.size)
    clear h2 hb2
    obtain ⟨V, hV⟩ : ∃ V, V = w2.alloc (.cells #[.int .i64 0, .int .i64 1, .int .i64 2, .int .i64 3, .int .i64 4, .int .i64 5, .int .i64 6, .int .i64 7] 2) := ⟨_, rfl⟩
    have hbV : Below w2.heap.size w2 V := by rw [hV]; exact (Below.refl _ _).alloc (Nat.le_refl _) _
    have hli : Lies V V.heap.size (some ⟨w2.heap.size, 0, none⟩) (icells [0, 1, 2, 3, 4, 5, 6, 7]) := fun _ =>
      ⟨⟨w2.heap.size, 0, none⟩, rfl, by rw [hV]; simp, by rw [hV]; exact fun j u hu => World.news_of_block (heap_alloc_new w2 (.cells #[.int .i64 0, .int .i64 1, .int .i64 2, .int .i64 3, .int .i64 4, .int .i64 5, .int .i64 6, .int .i64 7] 2)) j u hu⟩
    have HC := Lib.hid (pm_more (H2.out.below hbV) (some ⟨w2.heap.size, 0, none⟩) [0, 1, 2, 3, 4, 5, 6, 7] 8 hli (by decide) (by decide))
    have HB3 := Lib.hid (HB2.out.trans (hbV.mono HB2.out.size))
    clear hbV hli
    go_wp2_with fail
    rw [← hV]
    clear hV
    refine HC.out.mono ?_
    rintro e w3 ⟨rfl, h3, k3⟩
    have HB4 := Lib.hid (k3.below HB3.out HB3.out.size fun i hi => hi)
    obtain ⟨V4, hV4⟩ : ∃ V, V = w3.alloc (.cells #[.int .i64 0, .int .i64 1, .int .i64 2, .int .i64 3, .int .i64 4, .int .i64 5, .int .i64 6, .int .i64 7] 2) := ⟨_, rfl⟩
    have HKP : Hid (Keeps w0 B M w3.heap.size [0, 1, 2, 3, 4, 5, 6, 7] 0 V4) := by
      have hb : Below w3.heap.size w3 V4 := by rw [hV4]; exact (Below.refl _ _).alloc (Nat.le_refl _) _
      refine ⟨((Ce.Pm.push h3 hb).mono fun i hi => ?_), by rw [hV4]; exact heap_alloc_new _ _, HB4.out.trans (hb.mono HB4.out.size), rfl, HB4.out.size⟩
      rcases hi with h1 | h1
      · exact .inl h1
      · exact .inr ⟨by omega, by rw [h1, hV4]; simp⟩
    obtain ⟨H, hH⟩ : ∃ H, H = w3.heap.size := ⟨_, rfl⟩
    rw [← hH] at HKP
    clear h3 k3 HC HB3
    go_wp2_with fail
    rw [← hV4]
    try rw [← hH]
    clear hV4 hH
    go_loopg [7, 8] l.length (fun g s7 s8 wr => ∃ (k n : Nat) (xs : List Int), k ≤ l.length ∧ g = l.length - k ∧ n ≤ 2 * k ∧ s7 = .int .i64 n ∧ s8 = .int .i64 k ∧ Hid (Keeps w0 B M H xs n wr))
    case atStart => exact ⟨0, 0, [0, 1, 2, 3, 4, 5, 6, 7], Nat.zero_le _, rfl, Nat.le_refl _, rfl, rfl, HKP.out⟩
    case round =>
      rename World => wr
      obtain ⟨k, n, xs, hk, rfl, hn, rfl, rfl, HO⟩ := hrel
      by_cases hlt : k < l.length
      · have k1 : (k : Int) < l.length := by omega
        have k0 : (0 : Int) ≤ (k : Int) := by omega
        obtain ⟨ad, rfl, hadb, hc⟩ := (LA.out.below HO.out.bel) (by omega)
        obtain ⟨q0, q1, q2, q3, q4⟩ := stc_at hlt (ad.add (k * 5)) (hc k hlt)
        generalize l[k] = a at q0 q1 q2 q3 q4
        obtain ⟨act, sa, sv, so, sl, TA, tc⟩ := a
        simp only [] at q0 q1 q2 q3 q4
        obtain ⟨z, hz8, hz⟩ := and7 sa
        obtain ⟨W, hW⟩ : ∃ W, W = wr.alloc (.cells #[.int .i64 act, .int .i64 sa, .int .i64 sv, .int .i64 so, .slice TA sl.length tc] 32) := ⟨_, rfl⟩
        have HS : Hid (KeepS w0 B M H wr.heap.size (.cells #[.int .i64 act, .int .i64 sa, .int .i64 sv, .int .i64 so, .slice TA sl.length tc] 32 (0, 0)) xs xs n W) := by show KeepS _ _ _ _ _ _ _ _ _ _; rw [hW]; exact HO.out.push _
        obtain ⟨S, hS⟩ : ∃ S, S = wr.heap.size := ⟨_, rfl⟩
        rw [← hS] at HS
        have s0 : W.cell? ⟨S, 0, none⟩ = some (.int .i64 act) := cell_of_row _ _ 0 _ _ _ HS.out.st
        have s1 : W.cell? ⟨S, 1, none⟩ = some (.int .i64 sa) := cell_of_row _ _ 1 _ _ _ HS.out.st
        have s2 : W.cell? ⟨S, 2, none⟩ = some (.int .i64 sv) := cell_of_row _ _ 2 _ _ _ HS.out.st
        have s3 : W.cell? ⟨S, 3, none⟩ = some (.int .i64 so) := cell_of_row _ _ 3 _ _ _ HS.out.st
        have HZ := Lib.hid hz8
        have HN := Lib.hid hn
        clear hc hadb
        go_upto_region 16 with fail
        try rw [← hW]
        try rw [← hS]
        clear hW hS hz q0 q1 q2 q3 q4
        obtain ⟨y, hy⟩ : ∃ y, y = xs[z]'(by rw [HS.out.len]; exact hz8) := ⟨_, rfl⟩
        obtain ⟨t1, t2, t3, t4, t5, t6⟩ := at_k (xs := xs) (k := z) (by rw [HS.out.len]; exact hz8)
        rw [← hy] at t1 t5 t6
        have hhd : W.cell? ⟨H, z, none⟩ = some (.int .i64 y) := by rw [hy]; exact HS.out.held hz8
        have hhf := HS.out.hfro z
        have HHD := Lib.hid hhd
        have z0 : (0 : Int) ≤ (z : Int) := by omega
        have z8 : (z : Int) < 8 := by omega
        by_cases a1 : act = 1
        · as_aux_lemma =>
          subst a1
          have hc := pm_load HS.out.pm (by have := HN.out; omega) (z : Int)
          rw [t1, t2, t3] at hc
          have HC := Lib.hid hc
          clear hc t1 t2 t3 t4 t5 t6 hy hhf
          go_wp2_with fail
          refine HC.out.mono ?_
          rintro e w5 ⟨rfl, h5, k5⟩
          have h6 := HS.out.step h5 HS.out.len k5
          have hh6 : w5.cell? ⟨H, z, none⟩ = some (.int .i64 y) := by
            rw [cell_of_row _ _ z _ _ _ h6.row]
            have := cell_of_row _ _ z _ _ _ HS.out.row
            rw [← this]
            exact hhd
          have HK := Lib.hid h6.pop
          clear h5 k5 h6 HC hhd
          go_wp2_with fail
          go_roundg (l.length - (k + 1))
          case measure => omega
          case rel => exact ⟨k + 1, n + 1, xs, by omega, rfl, by omega, by go_num, by go_num, HK.out⟩
        by_cases a2 : act = 2
        · as_aux_lemma =>
          subst a2
          have hc := pm_store HS.out.pm (by have := HN.out; omega) (z : Int) sv
          rw [t2, t3, t4] at hc
          have HC := Lib.hid hc
          clear hc t1 t2 t3 t4 t5 t6 hy hhf a1
          go_wp2_with fail
          refine HC.out.mono ?_
          rintro e w5 ⟨rfl, h5, k5⟩
          have h6 := HS.out.step h5 (by rw [List.length_set]; exact HS.out.len) k5
          have hh6 : w5.cell? ⟨H, z, none⟩ = some (.int .i64 y) := by
            rw [cell_of_row _ _ z _ _ _ h6.row]
            have := cell_of_row _ _ z _ _ _ HS.out.row
            rw [← this]
            exact hhd
          have hf6 := h6.hfro z
          have s26 : w5.cell? ⟨S, 2, none⟩ = some (.int .i64 sv) := cell_of_row _ _ 2 _ _ _ h6.st
          have HK := Lib.hid (h6.hold z sv).pop
          clear h5 k5 h6 HC hhd
          go_wp2_with fail
          go_roundg (l.length - (k + 1))
          case measure => omega
          case rel => exact ⟨k + 1, n + 1, _, by omega, rfl, by omega, by go_num, by go_num, HK.out⟩
        by_cases a3 : act = 3
        · as_aux_lemma =>
          subst a3
          have hc := pm_swap HS.out.pm (by have := HN.out; omega) (z : Int) so sv
          rw [t2, t3, t5, t6] at hc
          by_cases hyo : y = so
          · rw [if_pos hyo, decide_eq_true hyo] at hc
            have HC := Lib.hid hc
            clear hc t1 t2 t3 t4 t5 t6 hy hhf a1 a2
            go_wp2_with fail
            refine HC.out.mono ?_
            rintro e w5 ⟨rfl, h5, k5⟩
            have h6 := HS.out.step h5 (by rw [List.length_set]; exact HS.out.len) k5
            have hh6 : w5.cell? ⟨H, z, none⟩ = some (.int .i64 y) := by
              rw [cell_of_row _ _ z _ _ _ h6.row]
              have := cell_of_row _ _ z _ _ _ HS.out.row
              rw [← this]
              exact hhd
            have s36 : w5.cell? ⟨S, 3, none⟩ = some (.int .i64 so) := cell_of_row _ _ 3 _ _ _ h6.st
            have H6 := Lib.hid h6
            clear h5 k5 h6 HC hhd
            go_upto_region 27 with fail
            go_quiet (fail)
            have h6 := H6.out.below (Ce.belDN (Below.refl _ _) nq)
            clear H6 hh6 s36
            generalize w5.drewN nq = w5 at h6 ⊢
            have hh6 : w5.cell? ⟨H, z, none⟩ = some (.int .i64 y) := by
              rw [cell_of_row _ _ z _ _ _ h6.row]
              have := cell_of_row _ _ z _ _ _ HS.out.row
              rw [← this, HHD.out]
            have hf6 := h6.hfro z
            have s26 : w5.cell? ⟨S, 2, none⟩ = some (.int .i64 sv) := cell_of_row _ _ 2 _ _ _ h6.st
            have h7 := h6.hold z sv
            have s27 : (w5.setCell ⟨H, z, none⟩ (.int .i64 sv)).cell? ⟨S, 2, none⟩ = some (.int .i64 sv) := cell_of_row _ _ 2 _ _ _ h7.st
            have s37 : (w5.setCell ⟨H, z, none⟩ (.int .i64 sv)).cell? ⟨S, 3, none⟩ = some (.int .i64 so) := cell_of_row _ _ 3 _ _ _ h7.st
            have hlz : z < (xs.set z sv).length := by rw [List.length_set, HS.out.len]; exact HZ.out
            obtain ⟨u1, u2, u3, u4, u5, u6⟩ := at_k hlz
            have hgz : (xs.set z sv)[z] = sv := by simp
            rw [hgz] at u5 u6
            have hc := pm_swap h7.pm (by have := HN.out; omega) (z : Int) so sv
            rw [u2, u3, u5, u6] at hc
            have hxx : (if sv = so then (xs.set z sv).set z sv else xs.set z sv) = xs.set z sv := by split <;> simp
            rw [hxx] at hc
            have HC2 := Lib.hid hc
            have H7 := Lib.hid h7
            clear hc h6 h7 u1 u2 u3 u4 u5 u6 hlz hgz hxx
            go_upto_region 31 with fail
            obtain ⟨w6, hw6⟩ : ∃ w6, w6 = w5.setCell ⟨H, z, none⟩ (.int .i64 sv) := ⟨_, rfl⟩
            rw [← hw6] at H7 HC2 s27 s37
            rw [← hw6]
            clear hw6 hh6 hf6 s26
            by_cases hvo : sv = so
            · subst hvo
              have hde : decide (sv = sv) = true := decide_eq_true rfl
              rw [hde] at HC2
              clear hde
              go_wp2_with fail
              refine HC2.out.mono ?_
              rintro e w7 ⟨rfl, h8, k8⟩
              have h9 := H7.out.step h8 (by rw [List.length_set]; exact HS.out.len) k8
              have s29 : w7.cell? ⟨S, 2, none⟩ = some (.int .i64 sv) := cell_of_row _ _ 2 _ _ _ h9.st
              have s39 : w7.cell? ⟨S, 3, none⟩ = some (.int .i64 sv) := cell_of_row _ _ 3 _ _ _ h9.st
              have HK := Lib.hid h9.pop
              clear h8 k8 h9 HC2
              go_wp2_with fail
              go_roundg (l.length - (k + 1))
              case measure => omega
              case rel => exact ⟨k + 1, n + 2, _, by omega, rfl, by omega, by go_num, by go_num, HK.out⟩
            · have hde : decide (sv = so) = false := decide_eq_false hvo
              have hdo : ¬ so = sv := fun e => hvo e.symm
              rw [hde] at HC2
              clear hde
              go_wp2_with fail
              refine HC2.out.mono ?_
              rintro e w7 ⟨rfl, h8, k8⟩
              have h9 := H7.out.step h8 (by rw [List.length_set]; exact HS.out.len) k8
              have s29 : w7.cell? ⟨S, 2, none⟩ = some (.int .i64 sv) := cell_of_row _ _ 2 _ _ _ h9.st
              have s39 : w7.cell? ⟨S, 3, none⟩ = some (.int .i64 so) := cell_of_row _ _ 3 _ _ _ h9.st
              have HK := Lib.hid h9.pop
              clear h8 k8 h9 HC2
              go_wp2_with fail
              go_roundg (l.length - (k + 1))
              case measure => omega
              case rel => exact ⟨k + 1, n + 2, _, by omega, rfl, by omega, by go_num, by go_num, HK.out⟩
          · rw [if_neg hyo, decide_eq_false hyo] at hc
            have HC := Lib.hid hc
            clear hc t1 t2 t3 t4 t5 t6 hy hhf a1 a2
            go_wp2_with fail
            refine HC.out.mono ?_
            rintro e w5 ⟨rfl, h5, k5⟩
            have h6 := HS.out.step h5 HS.out.len k5
            have hh6 : w5.cell? ⟨H, z, none⟩ = some (.int .i64 y) := by
              rw [cell_of_row _ _ z _ _ _ h6.row]
              have := cell_of_row _ _ z _ _ _ HS.out.row
              rw [← this]
              exact hhd
            have s36 : w5.cell? ⟨S, 3, none⟩ = some (.int .i64 so) := cell_of_row _ _ 3 _ _ _ h6.st
            have H6 := Lib.hid h6
            clear h5 k5 h6 HC hhd
            go_upto_region 27 with fail
            go_quiet (fail)
            have HK := Lib.hid (H6.out.below (Ce.belDN (Below.refl _ _) nq)).pop
            clear H6 hh6 s36
            go_wp2_with fail
            go_roundg (l.length - (k + 1))
            case measure => omega
            case rel => exact ⟨k + 1, n + 1, xs, by omega, rfl, by omega, by go_num, by go_num, HK.out⟩
        · have e1 : (act == 1) = false := by simpa using a1
          have e2 : (act == 2) = false := by simpa using a2
          have e3 : (act == 3) = false := by simpa using a3
          have HK := Lib.hid HS.out.pop
          clear t1 t2 t3 t4 t5 t6 hy hhf hhd a1 a2 a3
          go_wp2_with fail
          go_roundg (l.length - (k + 1))
          case measure => omega
          case rel => exact ⟨k + 1, n, xs, by omega, rfl, by omega, by go_num, by go_num, HK.out⟩
      · have k1 : ¬ ((k : Int) < l.length) := by omega
        have HST := Lib.hid (pm_steps HO.out.pm)
        go_wp2_with fail
        refine HST.out.mono ?_
        rintro e w5 ⟨rfl, hb5⟩
        have hl := pm_len (HO.out.pm.below hb5)
        rw [HO.out.len] at hl
        have HL := Lib.hid hl
        have HB5 := Lib.hid (HO.out.bel.trans (hb5.mono HO.out.bel.size))
        clear hb5 hl
        go_wp2_with fail
        refine HL.out.mono ?_
        rintro e w6 ⟨rfl, hb6⟩
        have HB6 := Lib.hid (HB5.out.trans (hb6.mono HB5.out.size))
        clear hb6
        go_wp2_with fail
        refine (alive15_any _).mono ?_
        rintro e w7 ⟨rfl, hb7⟩
        have HB7 := Lib.hid (HB6.out.trans (hb7.mono HB6.out.size))
        clear hb7
        go_wp2_with fail
        go_ret
        exact ⟨rfl, HB7.out⟩

/-! ### From the walk to the statement -/
theorem own : ownKnob Try.prog.godebug = none := by kernel_rfl

set_option maxRecDepth 20000 in
theorem contract (H : Type) (enc : TypeId × Value → H) (W : World) (base : Nat) (args : Array Value) (ds gs : List (DataW H)) (before : List MemPlace)
    (hval : ∀ (j : Nat) t v, Try.f4.params[j]? = some t → args[j]? = some v → Value.okWide Try.prog W .any base t v)
    (hW : DataW.Whole enc Try.prog Try.f4.params.toList Rows.cellLastSpec.vars false W args.toList ds gs before) :
    Calls Try.prog 4 args W fun e W' => ∃ v, e = .returned v ∧ Rows.cellLastSpec.post enc Try.prog Try.f4 false true false false W args v W' := by
  have hW' := hW
  obtain ⟨p, q, hA0, hV, rfl, hfz, hnd⟩ := hW
  have hA : DataW.TrodAll enc Try.prog W 0 (fun _ => true) true Try.f4.params.toList args.toList ds p := hA0
  rw [Try.params4] at hA hval
  obtain ⟨v0, vs0, d0, ds0, p0, q0, hargs, rfl, rfl, h0, r0⟩ := trodAll_cons hA
  obtain ⟨rfl, rfl, rfl⟩ := trodAll_nil r0
  obtain rfl : args = #[v0] := by cases args; simp_all
  obtain ⟨rfl, rfl⟩ := trodVars_none hV
  have k0 := h0
  obtain ⟨fuel0, hf0⟩ := h0
  obtain ⟨xs0, A0, c0, hcs0, hn0, hl0, hb0⟩ := trod_stepsc hf0
  obtain rfl := slice_of Try.underlying22 (hval 0 22 v0 rfl rfl) hcs0
  clear hA0
  simp only [List.append_nil] at hW'
  refine (walk W xs0 A0 c0 hl0 hn0 hb0).mono fun e W' ⟨he, bel⟩ => ?_
  subst he
  exact ⟨_, rfl, _, _, _, [], _, [], hW', trodAll_mk1 (shut_bool Try.underlying4 _), (trodAll_cons_mk (Below.trod laidOut (by kernel_rfl) (of_decide_eq_true (by kernel_rfl)) k0 bel (fun x hx => DataW.trod_lt _ _ _ _ hf0 x hx)) trodAll_mk0), rfl, bel.frame _, fun h => by cases h⟩

set_option maxRecDepth 100000 in
theorem lifted (os : Os) (started : os.Started) (H : Type) (enc : TypeId × Value → H) :
    ReturnsInHanded {} Try.checked os 4 .any (Rows.cellLastSpec.pre6 enc Try.prog Try.f4 Rows.cellLastRow.domain false) (Rows.cellLastSpec.post enc Try.prog Try.f4 false true false false) := by
  refine returnsInHanded_of_change (C := Try.checked) own started (by kernel_rfl) Try.func4
    (ChangeSpec.witness6 (enc := enc) (C := Try.checked) false ⟨#[], #[.slice none 0 0], []⟩ 8 (by kernel_rfl) (by kernel_rfl) (by kernel_rfl) (by kernel_rfl)) ?_
  intro W base args ds gs before hval hW _ _
  exact contract H enc W base args ds gs before hval hW

theorem over : Rows.cellLastRow.holds Try.pinned (OpenSpec.ofChange Rows.cellLastSpec) :=
  OpenClaim.holds_of_wide 4 Try.f4 rfl rfl rfl rfl rfl rfl rfl ⟨rfl, rfl, rfl, rfl, rfl⟩ rfl rfl rfl rfl rfl (by kernel_rfl) Try.func4 (by kernel_rfl)
    (of_decide_eq_true (by kernel_rfl)) (by unfold Func.isWrapper; first | (rw [if_pos (by decide +kernel)]; kernel_rfl) | (rw [if_neg (by decide +kernel)]; exact ⟨rfl, rfl⟩))
    (fun os started H enc _ => lifted os started H enc)

/-- The statement. -/
theorem proved : Rows.CellLastSaid :=
  over

end Go.Proofs.Ytepnofklmdofmaa.cellLast
