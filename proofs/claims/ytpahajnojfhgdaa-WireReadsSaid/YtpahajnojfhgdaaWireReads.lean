/-
  What is proved: for every string and every slice of calls the law WireReads of layer 3 returns true and changes nothing: what a reader answers to any calls, one after the other, its fault, and what is left. No condition.
-/
import Derived.Test.YtpahajnojfhgdaaRows
import Derived.Test.YtpahajnojfhgdaaL03A
import Derived.Test.YtpahajnojfhgdaaWireA
import Derived.Test.YtpahajnojfhgdaaWireH
import Derived.Test.YtpahajnojfhgdaaWireQ
import Derived.Deep.DeepCutAuto
import Derived.Deep.CutBlock
import Derived.Deep.LoopGhost
import Derived.BigQuiet
import Derived.WalkLawsBesides
import Derived.Deep.RegionWith
import Derived.Deep.RegionHeld3
import Derived.ProofKit
import Derived.OpenShut
import Derived.ShutString
namespace Go.Proofs.Ytpahajnojfhgdaa.wireReads
open Go.ChangeShapes Go.WideShapes Go.ChangeAt Go.RowKit
open Go.ChangeMaps (open_string shut_string)

theorem later {B : Nat} {a b c : World} (h : Below B a b) (k : Below b.heap.size b c) (hB : B ≤ a.heap.size) : Below B a c := h.trans (k.mono (by have := h.size; omega))

/-- Both readers, at blocks B and C, are alike; nothing that was there has turned. -/
def St (B C : Nat) (w wr : World) : Prop := ∃ (t : ByteArray) (f : Nat), Wire.RD B t f wr ∧ Wire.RR C t f wr ∧ t.size ≤ 4096 ∧ Below w.heap.size w wr

theorem keepcell {B D i : Nat} {w w' : World} {v : Value} (h : w.grownBy w' (some B)) (c : w.cell? ⟨D, i, none⟩ = some v) (ne : D ≠ B) : w'.cell? ⟨D, i, none⟩ = some v := World.grownBy.cell h c (by intro e; injection e with e; exact ne e)
theorem keep2 {B D i j : Nat} {w w' : World} {v u : Value} (h : w.grownBy w' (some B)) (c : w.cell? ⟨D, i, none⟩ = some v ∧ w.cell? ⟨D, j, none⟩ = some u) (ne : D ≠ B) : w'.cell? ⟨D, i, none⟩ = some v ∧ w'.cell? ⟨D, j, none⟩ = some u :=
  ⟨keepcell h c.1 ne, keepcell h c.2 ne⟩
theorem met {B C : Nat} {w wa w2 w3 : World} {t : ByteArray} {f : Nat} (hA : Wire.After B t f wa w2) (hP : Wire.Post C t f w2 w3) (hne : B ≠ C) (hz : t.size ≤ 4096) (hb : Below w.heap.size w wa) (hB : w.heap.size ≤ B) (hC : w.heap.size ≤ C) : St B C w w3 :=
  ⟨t, f, hA.1.grown hP.2 hne, hP.1, hz, (hb.grown hA.2 hb.size (fun k h => by injection h; omega)).grown hP.2 (by have := hA.2.size; have := hb.size; omega) (fun k h => by injection h; omega)⟩
theorem ask_lies {B : Nat} {w wa w2 : World} {A : Option Addr} {xs : List Nat} (h : Lies w w.heap.size A (u64s xs)) (hb : Below w.heap.size w wa) (hg : wa.grownBy w2 (some B)) (hB : w.heap.size ≤ B) :
    Lies w2 w2.heap.size A (u64s xs) ∧ (0 < xs.length → ∀ C, w.heap.size ≤ C → ∀ ad, A = some ad → ad.block ≠ C) := by
  have h2 : Below w.heap.size w w2 := hb.grown hg hb.size (fun k h => by injection h; omega)
  refine ⟨(h.below h2).mono h2.size, fun h0 C hC ad e => ?_⟩
  obtain ⟨ad', e', hl, _⟩ := h (by simpa [u64s] using h0)
  rw [e] at e'
  injection e' with e'
  rw [e']
  omega
theorem add_off (p : Addr) (i : Nat) (h : i ≠ 0) : p.add i = ⟨p.block, p.off + i, none⟩ := by unfold Addr.add; rw [if_neg h]
theorem ask_at {l : List AskV} {k : Nat} (h : k < l.length) (p : Addr) (w : World) (hc : ∀ i u, (l[k].cells)[i]? = some u → w.cell? (p.add i) = some u) :
    w.cell? p = some (.int .u8 (l[k].act : Int)) ∧ w.cell? ⟨p.block, p.off + 1, none⟩ = some (.int .u64 (l[k].most : Int)) ∧ w.cell? ⟨p.block, p.off + 2, none⟩ = some (.int .i64 l[k].least) ∧
    w.cell? ⟨p.block, p.off + 3, none⟩ = some (.int .i64 l[k].high) ∧ w.cell? ⟨p.block, p.off + 4, none⟩ = some (.int .i64 l[k].n) ∧ w.cell? ⟨p.block, p.off + 5, none⟩ = some (.slice l[k].A l[k].of.length l[k].c) := by
  refine ⟨hc 0 _ rfl, ?_, ?_, ?_, ?_, ?_⟩
  · rw [← add_off p 1 (by decide)]; exact hc 1 _ rfl
  · rw [← add_off p 2 (by decide)]; exact hc 2 _ rfl
  · rw [← add_off p 3 (by decide)]; exact hc 3 _ rfl
  · rw [← add_off p 4 (by decide)]; exact hc 4 _ rfl
  · rw [← add_off p 5 (by decide)]; exact hc 5 _ rfl

set_option maxRecDepth 20000 in
set_option maxHeartbeats 16000000 in
theorem walk (w : World) (s : ByteArray) (hs : s.size ≤ maxLen) (l : List AskV) (A : Option Addr) (c : Nat) (la : LiesA w w.heap.size A l) (nl : l.length ≤ maxLen) (ok : ∀ a ∈ l, a.Ok w) :
    Calls Try.prog 4 #[.string s, .slice A l.length c] w fun e w' => e = .returned (.bool true) ∧ Below w.heap.size w w' := by
  unfold maxLen at hs nl
  have LA := Lib.hid la
  have OK := Lib.hid ok
  clear la ok
  by_cases hbig : (s.size : Int) > 4096
  · go_enter Try.func4, Try.ntmps4
    go_wp2_with fail
    refine (alive_any _).mono ?_
    rintro e w1 ⟨rfl, hb1⟩
    go_wp2_with fail
    go_ret
    exact ⟨rfl, hb1⟩
  by_cases hl : 200 < l.length
  · have d1 : decide (200 < l.length) = true := by simpa using hl
    go_enter Try.func4, Try.ntmps4
    go_wp2_with fail
    refine (alive_any _).mono ?_
    rintro e w1 ⟨rfl, hb1⟩
    go_wp2_with fail
    go_ret
    exact ⟨rfl, hb1⟩
  have d1 : decide (200 < l.length) = false := by simpa using hl
  go_enter Try.func4, Try.ntmps4
  go_wp2_with fail
  refine (new_any s _).mono ?_
  rintro e w1 ⟨rfl, hr1, hb1⟩
  have hlt := hr1.lt
  have hst : St w.heap.size w1.heap.size w (w1.alloc (.cells #[.string s, .int .i64 0] 43)) :=
    ⟨s, 0, hr1.alloc _, heap_alloc_new w1 _, by omega, hb1.alloc hb1.size _⟩
  have HST := Lib.hid hst
  clear hr1 hb1 hst
  go_wp2_with fail
  go_loopg [7] l.length (fun n i wr => ∃ k : Nat, k ≤ l.length ∧ n = l.length - k ∧ i = .int .i64 k ∧ St w.heap.size w1.heap.size w wr)
  case atStart => exact ⟨0, Nat.zero_le _, rfl, rfl, HST.out⟩
  case round =>
    clear HST
    obtain ⟨k, hk, rfl, rfl, hst⟩ := hrel
    by_cases hlt2 : k < l.length
    · obtain ⟨t, f, hrd, hrr, htz, hbel⟩ := hst
      obtain ⟨ad, rfl, _, hc⟩ := (LA.out.below hbel) (by omega)
      obtain ⟨q0, q1, q2, q3, q4, q5⟩ := ask_at hlt2 (ad.add (k * 6)) _ (hc k hlt2)
      have hok := OK.out l[k] (List.getElem_mem hlt2)
      generalize l[k] = a at q0 q1 q2 q3 q4 q5 hok
      obtain ⟨act, most, least, high, n, of, A', c'⟩ := a
      simp only [] at q0 q1 q2 q3 q4 q5
      have HOK := Lib.hid hok
      clear hc hok
      by_cases hof : 40 < of.length
      · have dof : decide (40 < of.length) = true := by simpa using hof
        have hz := hbel.size
        go_wp2_with fail
        refine (alive_any _).mono ?_
        rintro e w4 ⟨rfl, hb4⟩
        go_wp2_with fail
        go_ret
        exact ⟨rfl, later (hbel.alloc hz _) hb4 (Nat.le_refl _)⟩
      · have dof : decide (40 < of.length) = false := by simpa using hof
        go_upto_region 12 with fail
        obtain ⟨wa, hwa⟩ : ∃ wa : World, wr.alloc (.cells #[.int .u8 (act : Int), .int .u64 (most : Int), .int .i64 least, .int .i64 high, .int .i64 n, .slice A' of.length c'] 45) = wa := ⟨_, rfl⟩
        have a0 : wa.cell? ⟨wr.heap.size, 0, none⟩ = some (.int .u8 (act : Int)) := by rw [← hwa]; exact World.cell?_alloc_at _ _ _ _ rfl
        have a1 : wa.cell? ⟨wr.heap.size, 1, none⟩ = some (.int .u64 (most : Int)) := by rw [← hwa]; exact World.cell?_alloc_at _ _ _ _ rfl
        have a2 : wa.cell? ⟨wr.heap.size, 2, none⟩ = some (.int .i64 least) := by rw [← hwa]; exact World.cell?_alloc_at _ _ _ _ rfl
        have a3 : wa.cell? ⟨wr.heap.size, 3, none⟩ = some (.int .i64 high) := by rw [← hwa]; exact World.cell?_alloc_at _ _ _ _ rfl
        have a4 : wa.cell? ⟨wr.heap.size, 4, none⟩ = some (.int .i64 n) := by rw [← hwa]; exact World.cell?_alloc_at _ _ _ _ rfl
        have a5 : wa.cell? ⟨wr.heap.size, 5, none⟩ = some (.slice A' of.length c') := by rw [← hwa]; exact World.cell?_alloc_at _ _ _ _ rfl
        have RDa : Wire.RD w.heap.size t f wa := by rw [← hwa]; exact hrd.alloc _
        have RRa : Wire.RR w1.heap.size t f wa := by rw [← hwa]; exact hrr.alloc _
        have hba : Below w.heap.size w wa := by rw [← hwa]; exact hbel.alloc hbel.size _
        have nB : w.heap.size < wr.heap.size := hrd.lt
        have nC : w1.heap.size < wr.heap.size := hrr.lt
        rw [hwa]
        clear hwa hrd hrr hbel q0 q1 q2 q3 q4 q5
        generalize wr.heap.size = D at *
        go_upto_block 2 with fail
        have hsm : t.size ≤ maxLen := by unfold maxLen; omega
        go_cut [9] (fun v wx => v = .bool true ∧ St w.heap.size w1.heap.size w wx)
        case first =>
          have h7 : act % 7 = 0 ∨ act % 7 = 1 ∨ act % 7 = 2 ∨ act % 7 = 3 ∨ act % 7 = 4 ∨ act % 7 = 5 ∨ act % 7 = 6 := by omega
          rcases h7 with h7 | h7 | h7 | h7 | h7 | h7 | h7
          · have e0 : ((act : Int) % 7 == 0) = true := by rw [beq_iff_eq]; omega
            clear h7
            go_wp2_with fail
            go_region_held3 (fun w' => w'.cell? ⟨D, 1, none⟩ = some (.int .u64 (most : Int))) (first | assumption | exact keepcell hP.2 (by assumption) (by omega) | exact keepcell hA.2 (by assumption) (by omega)) (first
              | (go_at_call 18; refine (rUint_any most _ t f _ (Wire.RD.drew RDa) hsm).mono ?_; rintro e w2 ⟨rfl, hA⟩; have hRR2 := Wire.RR.grown (Wire.RR.drew RRa) hA.2 (by omega))
              | (go_at_call 19; refine (frUint_any most _ t f _ hRR2 hsm).mono ?_; rintro e w3 ⟨rfl, hP⟩))
            go_wp2_with fail
            go_meet
            exact ⟨by simp, met hA hP (by omega) (Nat.le_trans (Wire.step_size t f) htz) hba.drew (Nat.le_refl _) (by omega)⟩
          · have e0 : ((act : Int) % 7 == 0) = false := by rw [beq_eq_false_iff_ne]; omega
            have e1 : ((act : Int) % 7 == 1) = true := by rw [beq_iff_eq]; omega
            clear h7
            go_wp2_with fail
            go_region_held3 (fun w' => w'.cell? ⟨D, 2, none⟩ = some (.int .i64 least) ∧ w'.cell? ⟨D, 3, none⟩ = some (.int .i64 high)) (first | assumption | exact keepcell hP.2 (by assumption) (by omega) | exact keepcell hA.2 (by assumption) (by omega) | exact keep2 hP.2 (by assumption) (by omega) | (refine ⟨?_, ?_⟩ <;> first | assumption | exact keepcell hA.2 (by assumption) (by omega))) (first
              | (go_at_call 20; refine (rInt_any least high _ t f _ (Wire.RD.drew RDa) hsm).mono ?_; rintro e w2 ⟨rfl, hA⟩; have hRR2 := Wire.RR.grown (Wire.RR.drew RRa) hA.2 (by omega))
              | (go_at_call 21; refine (frInt_any least high _ t f _ hRR2 hsm).mono ?_; rintro e w3 ⟨rfl, hP⟩))
            go_wp2_with fail
            go_meet
            exact ⟨by simp, met hA hP (by omega) (Nat.le_trans (Wire.step_size t f) htz) hba.drew (Nat.le_refl _) (by omega)⟩
          · have e0 : ((act : Int) % 7 == 0) = false := by rw [beq_eq_false_iff_ne]; omega
            have e1 : ((act : Int) % 7 == 1) = false := by rw [beq_eq_false_iff_ne]; omega
            have e2 : ((act : Int) % 7 == 2) = true := by rw [beq_iff_eq]; omega
            clear h7
            go_wp2_with fail
            go_region_held3 (fun w' => w'.cell? ⟨D, 4, none⟩ = some (.int .i64 n)) (first | assumption | exact keepcell hP.2 (by assumption) (by omega) | exact keepcell hA.2 (by assumption) (by omega)) (first
              | (go_at_call 22; refine (rText_any n HOK.out.n.1 HOK.out.n.2 _ t f _ (Wire.RD.drew RDa) hsm (.inr (by omega))).mono ?_; rintro e w2 ⟨rfl, hA⟩; have hRR2 := Wire.RR.grown (Wire.RR.drew RRa) hA.2 (by omega))
              | (go_at_call 23; refine (frText_any n HOK.out.n.1 HOK.out.n.2 _ t f _ hRR2 hsm).mono ?_; rintro e w3 ⟨rfl, hP⟩))
            go_wp2_with fail
            go_meet
            exact ⟨by simp, met hA hP (by omega) (Nat.le_trans (Wire.text_size n t f) htz) hba.drew (Nat.le_refl _) (by omega)⟩
          · have e0 : ((act : Int) % 7 == 0) = false := by rw [beq_eq_false_iff_ne]; omega
            have e1 : ((act : Int) % 7 == 1) = false := by rw [beq_eq_false_iff_ne]; omega
            have e2 : ((act : Int) % 7 == 2) = false := by rw [beq_eq_false_iff_ne]; omega
            have e3 : ((act : Int) % 7 == 3) = true := by rw [beq_iff_eq]; omega
            clear h7
            go_wp2_with fail
            refine (rBool_any _ t f _ RDa hsm).mono ?_
            rintro e w2 ⟨rfl, hA⟩
            have hRR2 := Lib.hid (Wire.RR.grown RRa hA.2 (by omega))
            have HA := Lib.hid hA
            clear hA
            go_wp2_with fail
            refine (frBool_any _ t f _ hRR2.out hsm).mono ?_
            rintro e w3 ⟨rfl, hP⟩
            have HP := Lib.hid hP
            clear hP
            go_wp2_with fail
            go_meet
            exact ⟨by simp, met HA.out HP.out (by omega) (Nat.le_trans (Wire.step_size t f) htz) hba (Nat.le_refl _) (by omega)⟩
          · have e0 : ((act : Int) % 7 == 0) = false := by rw [beq_eq_false_iff_ne]; omega
            have e1 : ((act : Int) % 7 == 1) = false := by rw [beq_eq_false_iff_ne]; omega
            have e2 : ((act : Int) % 7 == 2) = false := by rw [beq_eq_false_iff_ne]; omega
            have e3 : ((act : Int) % 7 == 3) = false := by rw [beq_eq_false_iff_ne]; omega
            have e4 : ((act : Int) % 7 == 4) = true := by rw [beq_iff_eq]; omega
            clear h7
            go_wp2_with fail
            go_region_held3 (fun w' => w'.cell? ⟨D, 4, none⟩ = some (.int .i64 n)) (first | assumption | exact keepcell hP.2 (by assumption) (by omega) | exact keepcell hA.2 (by assumption) (by omega)) (first
              | (go_at_call 26; refine (rCount_any n HOK.out.n.1 HOK.out.n.2 _ t f _ (Wire.RD.drew RDa) hsm).mono ?_; rintro e w2 ⟨rfl, hA⟩; have hRR2 := Wire.RR.grown (Wire.RR.drew RRa) hA.2 (by omega))
              | (go_at_call 27; refine (frCount_any n HOK.out.n.1 HOK.out.n.2 _ t f _ hRR2 hsm).mono ?_; rintro e w3 ⟨rfl, hP⟩))
            go_wp2_with fail
            go_meet
            exact ⟨by simp, met hA hP (by omega) (Nat.le_trans (Wire.step_size t f) htz) hba.drew (Nat.le_refl _) (by omega)⟩
          · have e0 : ((act : Int) % 7 == 0) = false := by rw [beq_eq_false_iff_ne]; omega
            have e1 : ((act : Int) % 7 == 1) = false := by rw [beq_eq_false_iff_ne]; omega
            have e2 : ((act : Int) % 7 == 2) = false := by rw [beq_eq_false_iff_ne]; omega
            have e3 : ((act : Int) % 7 == 3) = false := by rw [beq_eq_false_iff_ne]; omega
            have e4 : ((act : Int) % 7 == 4) = false := by rw [beq_eq_false_iff_ne]; omega
            have e5 : ((act : Int) % 7 == 5) = true := by rw [beq_iff_eq]; omega
            clear h7
            have hLa := (HOK.out.of.below hba).mono hba.size
            go_wp2_with fail
            go_region_held3 (fun w' => w'.cell? ⟨D, 5, none⟩ = some (.slice A' of.length c')) (first | assumption | exact keepcell hP.2 (by assumption) (by omega) | exact keepcell hA.2 (by assumption) (by omega)) (first
              | (go_at_call 28; refine (rTag_any of _ _ _ t f _ (Lies.drew hLa) HOK.out.len (Wire.RD.drew RDa) hsm).mono ?_; rintro e w2 ⟨rfl, hA⟩; have hRR2 := Wire.RR.grown (Wire.RR.drew RRa) hA.2 (by omega); have hLt := ask_lies HOK.out.of hba.drew hA.2 (Nat.le_refl _))
              | (go_at_call 29; refine (frTag_any of _ _ _ t f _ hLt.1 HOK.out.len (fun h0 => hLt.2 h0 _ (by omega)) hRR2 hsm).mono ?_; rintro e w3 ⟨rfl, hP⟩))
            go_wp2_with fail
            go_meet
            exact ⟨by simp, met hA hP (by omega) (Nat.le_trans (Wire.step_size t f) htz) hba.drew (Nat.le_refl _) (by omega)⟩
          · have e0 : ((act : Int) % 7 == 0) = false := by rw [beq_eq_false_iff_ne]; omega
            have e1 : ((act : Int) % 7 == 1) = false := by rw [beq_eq_false_iff_ne]; omega
            have e2 : ((act : Int) % 7 == 2) = false := by rw [beq_eq_false_iff_ne]; omega
            have e3 : ((act : Int) % 7 == 3) = false := by rw [beq_eq_false_iff_ne]; omega
            have e4 : ((act : Int) % 7 == 4) = false := by rw [beq_eq_false_iff_ne]; omega
            have e5 : ((act : Int) % 7 == 5) = false := by rw [beq_eq_false_iff_ne]; omega
            have e6 : ((act : Int) % 7 == 6) = true := by rw [beq_iff_eq]; omega
            clear h7
            go_wp2_with fail
            refine (rEnd_any _ t f _ RDa hsm).mono ?_
            rintro e w2 ⟨rfl, hA⟩
            have hRR2 := Lib.hid (Wire.RR.grown RRa hA.2 (by omega))
            have HA := Lib.hid hA
            clear hA
            go_wp2_with fail
            refine (frEnd_any _ t f _ hRR2.out).mono ?_
            rintro e w3 ⟨rfl, hP⟩
            have HP := Lib.hid hP
            clear hP
            go_wp2_with fail
            go_meet
            exact ⟨by simp, met HA.out HP.out (by omega) htz hba (Nat.le_refl _) (by omega)⟩
        case rest =>
          obtain ⟨rfl, t', f', hrd, hrr, htz', hbel'⟩ := hcut
          have p0 := hrr.c0
          have p1 := hrr.c1
          have HRD := Lib.hid hrd
          have HRR := Lib.hid hrr
          have hm' : (t'.size : Int) ≤ 4096 := by omega
          clear hrd hrr RDa RRa a0 a1 a2 a3 a4 a5 hba hsm
          go_wp2_with fail
          go_region_held3 (fun w' => w'.cell? ⟨w1.heap.size, 0, none⟩ = some (.string t') ∧ w'.cell? ⟨w1.heap.size, 1, none⟩ = some (.int .i64 (f' : Int))) (first | assumption | (refine ⟨?_, ?_⟩ <;> assumption)) (first
            | (go_at_call 32; refine (err_any _ t' f' _ HRD.out.drew).mono ?_; rintro e w' ⟨rfl, rfl⟩)
            | (go_at_call 33; refine (left_any _ t' f' _ HRD.out.drew).mono ?_; rintro e w' ⟨rfl, rfl⟩))
          go_wp2_with fail
          go_roundg (l.length - (k + 1))
          case measure => omega
          case rel => exact ⟨k + 1, by omega, rfl, by go_num, t', f', HRD.out, HRR.out, htz', hbel'.drew⟩
    · obtain ⟨t, f, hrd, hrr, htz, hbel⟩ := hst
      go_wp2_with fail
      refine (alive_any _).mono ?_
      rintro e w4 ⟨rfl, hb4⟩
      go_wp2_with fail
      go_ret
      exact ⟨rfl, later hbel hb4 (Nat.le_refl _)⟩


/-! ### From the walk to the statement -/
theorem own : ownKnob Try.prog.godebug = none := by kernel_rfl

theorem contract (H : Type) (enc : TypeId × Value → H) (W : World) (base : Nat) (args : Array Value) (ds gs : List (DataW H)) (before : List MemPlace)
    (hval : ∀ (j : Nat) t v, Try.f4.params[j]? = some t → args[j]? = some v → Value.okWide Try.prog W .any base t v)
    (hW : DataW.Whole enc Try.prog Try.f4.params.toList Rows.wireReadsSpec.vars false W args.toList ds gs before) :
    Calls Try.prog 4 args W fun e W' => ∃ v, e = .returned v ∧ Rows.wireReadsSpec.post enc Try.prog Try.f4 false true false false W args v W' := by
  have hW' := hW
  obtain ⟨p, q, hA0, hV, rfl, hfz, hnd⟩ := hW
  have hA : DataW.TrodAll enc Try.prog W 0 (fun _ => true) true Try.f4.params.toList args.toList ds p := hA0
  rw [Try.params4] at hA hval
  obtain ⟨v0, vs0, d0, ds0, p0, q0, hargs, rfl, rfl, h0, r0⟩ := trodAll_cons hA
  obtain ⟨v1, vs1, d1, ds1, p1, q1, rfl, rfl, rfl, h1, r1⟩ := trodAll_cons r0
  obtain ⟨rfl, rfl, rfl⟩ := trodAll_nil r1
  obtain rfl : args = #[v0, v1] := by cases args; simp_all
  obtain ⟨rfl, rfl⟩ := trodVars_none hV
  obtain ⟨a0, rfl, rfl, rfl, w0⟩ := open_string Try.underlying9 (hval 0 9 v0 rfl rfl) h0
  have k1 := h1
  obtain ⟨fuel1, hf1⟩ := h1
  obtain ⟨xs1, A1, c1, hcs1, hn1, hl1, hb1⟩ := trod_asks hf1
  obtain rfl := slice_of Try.underlying37 (hval 1 37 v1 rfl rfl) hcs1
  clear hA0
  simp only [List.append_nil] at hW'
  refine (walk W a0 w0 xs1 A1 c1 hl1 hn1 hb1).mono fun e W' ⟨he, bel⟩ => ?_
  subst he
  exact ⟨_, rfl, _, _, _, [], _, [], hW', trodAll_mk1 (shut_bool Try.underlying4 _), (trodAll_cons_mk (shut_string Try.underlying9 w0) (trodAll_cons_mk (Below.trod laidOut (by kernel_rfl) (of_decide_eq_true (by kernel_rfl)) k1 bel (fun x hx => DataW.trod_lt _ _ _ _ hf1 x hx)) trodAll_mk0)), rfl, bel.frame _, fun h => by cases h⟩

set_option maxRecDepth 100000 in
theorem lifted (os : Os) (started : os.Started) (H : Type) (enc : TypeId × Value → H) :
    ReturnsInHanded {} Try.checked os 4 .any (Rows.wireReadsSpec.pre6 enc Try.prog Try.f4 Rows.wireReadsRow.domain false) (Rows.wireReadsSpec.post enc Try.prog Try.f4 false true false false) := by
  refine returnsInHanded_of_change (C := Try.checked) own started (by kernel_rfl) Try.func4
    (ChangeSpec.witness6 (enc := enc) (C := Try.checked) false ⟨#[], #[.string ByteArray.empty, .slice none 0 0], []⟩ 8 (by kernel_rfl) (by kernel_rfl) (by kernel_rfl) (by kernel_rfl)) ?_
  intro W base args ds gs before hval hW _ _
  exact contract H enc W base args ds gs before hval hW

theorem over : Rows.wireReadsRow.holds Try.pinned (OpenSpec.ofChange Rows.wireReadsSpec) :=
  OpenClaim.holds_of_wide 4 Try.f4 rfl rfl rfl rfl rfl rfl rfl ⟨rfl, rfl, rfl, rfl, rfl⟩ rfl rfl rfl rfl rfl (by kernel_rfl) Try.func4 (by kernel_rfl)
    (of_decide_eq_true (by kernel_rfl)) (by unfold Func.isWrapper; first | (rw [if_pos (by decide +kernel)]; kernel_rfl) | (rw [if_neg (by decide +kernel)]; exact ⟨rfl, rfl⟩))
    (fun os started H enc _ => lifted os started H enc)

/-- The statement. -/
theorem proved : Rows.WireReadsSaid :=
  over

end Go.Proofs.Ytpahajnojfhgdaa.wireReads
