/-
  Contracts of code.mayDo, mayHave, may: a program's form.
-/
import Derived.Test.YtaijafkfiogmlaaDoorLowCdA
import Derived.Deep.DeepCutAuto
import Derived.Deep.CutBlock
import Derived.BigRegion
namespace Go.Proofs.YtaijafkfiogmlaaDoor
open Go.RowKit

namespace Cd
/-- Two ops held against each other. -/
theorem run_eqOp (x : OpV) (k : Int) (w : World) : (binOp .eql 23 (.agg x.arr) (.agg #[.int .u8 k, .int .i64 0, .int .i64 0, .int .i64 0, .int .i64 0])).run Tryd.prog w = .ok (.bool ((x.k : Int) == k && ((x.d == 0) && ((x.a == 0) && ((x.b == 0) && (x.n == 0)))))) w := by
  unfold OpV.arr
  go_simp
  by_cases h0 : (x.k : Int) = k <;> by_cases h1 : x.d = 0 <;> by_cases h2 : x.a = 0 <;> by_cases h3 : x.b = 0 <;> by_cases h4 : x.n = 0 <;> simp [h0, h1, h2, h3, h4]
end Cd

set_option maxHeartbeats 1200000 in
set_option maxRecDepth 20000 in
theorem cmayDo (o : Cd.OpV) (hR : o.Rng) (B : Nat) (w : World) (hm : Cd.Tbl w B) :
    Calls Tryd.prog 74 #[.map (some B), .agg #[.int .u8 (o.k : Int), .int .i64 o.d, .int .i64 o.a, .int .i64 o.b, .int .i64 o.n]] w fun e w' => e = .returned (.bool o.ok) ∧ Below w.heap.size w w' := by
  obtain ⟨W, hW⟩ : ∃ W, W = w.alloc (.cells #[.int .u8 (o.k : Int), .int .i64 o.d, .int .i64 o.a, .int .i64 o.b, .int .i64 o.n] 23) := ⟨_, rfl⟩
  have HO : Hid (Cd.OB W w.heap.size o) := by
    show W.heap[w.heap.size]? = _
    rw [hW]
    exact heap_alloc_new w _
  have HBW : Hid (Below w.heap.size w W) := by
    show Below _ _ _
    rw [hW]
    exact (Below.refl _ _).alloc (Nat.le_refl _) _
  have HLK := Lib.hid (Cd.Tbl.look (w := W) (hm.below (by rw [hW]; exact (Below.refl _ _).alloc (Nat.le_refl _) _)) hR.k)
  clear hm
  have c0 := HO.out.c0
  go_enter Tryd.func74, Tryd.ntmps74
  go_upto_region 1 with fail
  rw [← hW]
  clear hW
  obtain ⟨X, hX⟩ : ∃ X, X = w.heap.size := ⟨_, rfl⟩
  rw [← hX] at HO c0 ⊢
  clear hX
  cases hK : Cd.isK o.k with
  | false =>
    rw [hK] at HLK
    have HE : Hid (o.ok = false) := by show _ = _; unfold Cd.OpV.ok; rw [hK]; rfl
    have c1 := HO.out.c1
    have c2 := HO.out.c2
    have c3 := HO.out.c3
    go_upto_region 2 with (at_lookup; refine Gm.gpl_look _ rfl _ _ _ _ rfl _ _ _ rfl rfl HLK.out ?_)
    go_region
    all_goals
      go_wp2_with fail
      go_ret
      exact ⟨by rw [HE.out]; rfl, HBW.out.drew⟩
  | true =>
    rw [hK] at HLK
    clear hR
    go_upto_region 2 with (at_lookup; refine Gm.gpl_look _ rfl _ _ _ _ rfl _ _ _ rfl rfl HLK.out ?_)
    have HV : Hid (Cd.OB (W.alloc (.cells #[.int .i64 o.d, .int .i64 o.a, .int .i64 o.b] 3)).drew X o ∧ Below w.heap.size w (W.alloc (.cells #[.int .i64 o.d, .int .i64 o.a, .int .i64 o.b] 3)).drew) := ⟨HO.out.below ((Below.refl _ _).alloc (Nat.le_refl _) _).drew, (HBW.out.alloc HBW.out.size _).drew⟩
    have HSM : Hid (Calls Tryd.prog 71 #[.slice (some ⟨W.heap.size, 0, none⟩) 3 3] (W.alloc (.cells #[.int .i64 o.d, .int .i64 o.a, .int .i64 o.b] 3)).drew fun e w' => e = .returned (.bool ([o.d, o.a, o.b].all Cd.reg)) ∧ (W.alloc (.cells #[.int .i64 o.d, .int .i64 o.a, .int .i64 o.b] 3)).drew = w') :=
      csmall [o.d, o.a, o.b] (some ⟨W.heap.size, 0, none⟩) 3 (W.alloc (.cells #[.int .i64 o.d, .int .i64 o.a, .int .i64 o.b] 3)).drew (by simp) (lies_new W #[.int .i64 o.d, .int .i64 o.a, .int .i64 o.b] 3 _ rfl).drew
    cases hS : (Cd.reg o.d && Cd.reg o.a && Cd.reg o.b) with
    | false =>
      have HE : Hid (o.ok = false) := by show _ = _; unfold Cd.OpV.ok; rw [hS]; simp
      have HA : [o.d, o.a, o.b].all Cd.reg = false := by rw [← hS]; simp [Bool.and_assoc]
      rw [HA] at HSM
      clear hS c0 HA
      refine wp_region_noPanic ?_
      refine wp_region_held_drew (S := (fun w' : World => w'.cell? ⟨X, 0, none⟩ = some (.int .u8 (o.k : Int)) ∧ w'.cell? ⟨X, 1, none⟩ = some (.int .i64 o.d) ∧ w'.cell? ⟨X, 2, none⟩ = some (.int .i64 o.a) ∧ w'.cell? ⟨X, 3, none⟩ = some (.int .i64 o.b) ∧ w'.cell? ⟨X, 4, none⟩ = some (.int .i64 o.n))) (by kernel_rfl) (by exact HO.out.cells) (fun hHeld => ?_)
      refine wpAnyH_take (i := 0) (v := ?_) rfl (by kernel_rfl) (by kernel_rfl) (by kernel_rfl) (fun _ _ _ h => h) (Or.inl ⟨by rfl, ?_⟩) (by assumption) ?_
      rotate_left
      · (intro w hSw; (try dsimp only at hSw); go_simp; try with_reducible rfl)
      try simp only [Act.put, List.setIfInBounds_toArray]
      refine wpAnyH_take (i := 1) (v := ?_) rfl (by kernel_rfl) (by kernel_rfl) (by kernel_rfl) (fun _ _ _ h => h) (Or.inl ⟨by rfl, ?_⟩) (by assumption) ?_
      rotate_left
      · (intro w hSw; (try dsimp only at hSw); go_simp; try with_reducible rfl)
      try simp only [Act.put]
      refine wpAnyH_take (i := 2) (v := ?_) rfl (by kernel_rfl) (by kernel_rfl) (by kernel_rfl) (fun _ _ _ h => h) (Or.inl ⟨by rfl, ?_⟩) (by assumption) ?_
      rotate_left
      · (intro w hSw; (try dsimp only at hSw); go_simp; try with_reducible rfl)
      try simp only [Act.put]
      refine wpAnyH_take (i := 3) (v := ?_) rfl (by kernel_rfl) (by kernel_rfl) (by kernel_rfl) (fun _ _ _ h => h) (Or.inl ⟨by rfl, ?_⟩) (by assumption) ?_
      rotate_left
      · (intro w hSw; (try dsimp only at hSw); go_simp; try with_reducible rfl)
      try simp only [Act.put]
      refine wpAnyH_take (i := 4) (v := ?_) rfl (by kernel_rfl) (by kernel_rfl) (by kernel_rfl) (fun _ _ _ h => h) (Or.inl ⟨by rfl, ?_⟩) (by assumption) ?_
      rotate_left
      · (intro w hSw; (try dsimp only at hSw); go_simp; try with_reducible rfl)
      try simp only [Act.put]
      refine wpAnyH_take (i := 5) (v := ?_) rfl (by kernel_rfl) (by kernel_rfl) (by kernel_rfl) (fun _ _ _ h => h) (Or.inl ⟨by rfl, ?_⟩) (by assumption) ?_
      rotate_left
      · (intro w hSw; (try dsimp only at hSw); go_simp; try with_reducible rfl)
      try simp only [Act.put]
      refine wpAnyH_take (i := 6) (v := ?_) rfl (by kernel_rfl) (by kernel_rfl) (by kernel_rfl) (fun _ _ _ h => h) (Or.inl ⟨by rfl, ?_⟩) (by assumption) ?_
      rotate_left
      · (intro w hSw; (try dsimp only at hSw); go_simp; try with_reducible rfl)
      try simp only [Act.put]
      refine wpAnyH_take (i := 7) (v := ?_) rfl (by kernel_rfl) (by kernel_rfl) (by kernel_rfl) (fun _ _ _ h => h) (Or.inl ⟨by rfl, ?_⟩) (by assumption) ?_
      rotate_left
      · (intro w hSw; (try dsimp only at hSw); go_simp; try with_reducible rfl)
      try simp only [Act.put]
      refine wpAnyH_ready (rs := [8]) (by kernel_rfl) (by simp) ?_
      refine AllReadyH.cons rfl (fun K hK => ?_) AllReadyH.nil
      go_simp
      refine hK.out _ _ (by exact HV.out.1.cells) (fun hHeld2 => ?_)
      clear hK K hHeld
      try simp only [Act.put, List.setIfInBounds_toArray, List.set_cons_zero, List.set_cons_succ]
      refine wpAnyH_ready (rs := [9]) (by kernel_rfl) (by simp) ?_
      refine AllReadyH.cons rfl (fun K hK => ?_) AllReadyH.nil
      go_simp
      refine HSM.out.mono ?_
      rintro e w' ⟨rfl, rfl⟩
      dsimp only
      refine hK.out _ _ (by exact HV.out.1.cells) (fun hHeld3 => ?_)
      clear hK K hHeld2
      try simp only [Act.put, List.setIfInBounds_toArray, List.set_cons_zero, List.set_cons_succ]
      refine wpAnyH_take (i := 10) (v := ?_) rfl (by kernel_rfl) (by kernel_rfl) (by kernel_rfl) (fun _ _ _ h => h) (Or.inl ⟨by rfl, ?_⟩) (by assumption) ?_
      rotate_left
      · (intro w hSw; (try dsimp only at hSw); go_simp; try with_reducible rfl)
      try simp only [Act.put, List.setIfInBounds_toArray]
      refine wpAnyH_take (i := 11) (v := ?_) rfl (by kernel_rfl) (by kernel_rfl) (by kernel_rfl) (fun _ _ _ h => h) (Or.inl ⟨by rfl, ?_⟩) (by assumption) ?_
      rotate_left
      · (intro w hSw; (try dsimp only at hSw); go_simp; try with_reducible rfl)
      try simp only [Act.put]
      refine wpAnyH_take (i := 12) (v := undef) rfl (by kernel_rfl) (by kernel_rfl) (by kernel_rfl) (fun _ _ _ h => h) (Or.inr ⟨by rfl, rfl⟩) (by assumption) ?_
      try simp only [Act.put]
      refine wpAnyH_take (i := 13) (v := undef) rfl (by kernel_rfl) (by kernel_rfl) (by kernel_rfl) (fun _ _ _ h => h) (Or.inr ⟨by rfl, rfl⟩) (by assumption) ?_
      try simp only [Act.put]
      refine wpAnyH_take (i := 15) (v := undef) rfl (by kernel_rfl) (by kernel_rfl) (by kernel_rfl) (fun _ _ _ h => h) (Or.inr ⟨by rfl, rfl⟩) (by assumption) ?_
      try simp only [Act.put]
      refine wpAnyH_take (i := 16) (v := undef) rfl (by kernel_rfl) (by kernel_rfl) (by kernel_rfl) (fun _ _ _ h => h) (Or.inr ⟨by rfl, rfl⟩) (by assumption) ?_
      try simp only [Act.put]
      refine wpAnyH_take (i := 17) (v := undef) rfl (by kernel_rfl) (by kernel_rfl) (by kernel_rfl) (fun _ _ _ h => h) (Or.inr ⟨by rfl, rfl⟩) (by assumption) ?_
      try simp only [Act.put]
      refine wpAnyH_ready (rs := [14]) (by kernel_rfl) (by simp) ?_
      refine AllReadyH.cons rfl (fun K hK => ?_) AllReadyH.nil
      go_simp
      refine hK.out _ _ (by exact HV.out.1.cells) (fun hHeld4 => ?_)
      clear hK K hHeld3
      try simp only [Act.put, List.setIfInBounds_toArray, List.set_cons_zero, List.set_cons_succ]
      refine wpAnyH_take (i := 18) (oi := { dst := some 32, op := Op.binOp BinOp.eql 23 (Operand.tmp 28) (Operand.tmp 31) 23, type := 4, pos := "code.go:95", after := #[{ on := 14, ground := Ground.data }, { on := 17, ground := Ground.data }, { on := 11, ground := Ground.guard }], guard := some (11, true) }) (v := undef) rfl (by kernel_rfl) (by kernel_rfl) (by kernel_rfl) (fun _ _ _ h => h) (Or.inr ⟨by rfl, rfl⟩) (by assumption) ?_
      try simp only [Act.put, List.setIfInBounds_toArray, List.set_cons_zero, List.set_cons_succ]
      refine wpAnyH_take (i := 19) (oi := { dst := some 33, op := Op.pick (Operand.tmp 25) (Operand.tmp 32) (Operand.const (Value.bool false)), type := 4, pos := "code.go:95", after := #[{ on := 11, ground := Ground.data }, { on := 18, ground := Ground.data }], guard := none }) (v := ?_) rfl (by kernel_rfl) (by kernel_rfl) (by kernel_rfl) (fun _ _ _ h => h) (Or.inl ⟨by rfl, ?_⟩) (by assumption) ?_
      rotate_left
      · (intro w hSw; (try dsimp only at hSw); go_simp; try with_reducible rfl)
      try simp only [Act.put, List.setIfInBounds_toArray, List.set_cons_zero, List.set_cons_succ]
      refine wpAnyH_take (i := 20) (oi := { dst := some 4, op := Op.assign (Operand.tmp 33), type := 4, pos := "code.go:95", after := #[{ on := 19, ground := Ground.data }, { on := 14, ground := Ground.chain }, { on := 0, ground := Ground.phase }, { on := 1, ground := Ground.phase }, { on := 2, ground := Ground.phase }, { on := 3, ground := Ground.phase }, { on := 4, ground := Ground.phase }, { on := 5, ground := Ground.phase }, { on := 6, ground := Ground.phase }, { on := 7, ground := Ground.phase }, { on := 8, ground := Ground.phase }, { on := 9, ground := Ground.phase }, { on := 10, ground := Ground.phase }, { on := 11, ground := Ground.phase }, { on := 12, ground := Ground.phase }, { on := 13, ground := Ground.phase }, { on := 14, ground := Ground.phase }, { on := 15, ground := Ground.phase }, { on := 16, ground := Ground.phase }, { on := 17, ground := Ground.phase }, { on := 18, ground := Ground.phase }, { on := 19, ground := Ground.phase }], guard := none }) (v := ?_) rfl (by kernel_rfl) (by kernel_rfl) (by kernel_rfl) (fun _ _ _ h => h) (Or.inl ⟨by rfl, ?_⟩) (by assumption) ?_
      rotate_left
      · (intro w hSw; (try dsimp only at hSw); go_simp; try with_reducible rfl)
      try simp only [Act.put, List.setIfInBounds_toArray, List.set_cons_zero, List.set_cons_succ]
      refine wpAnyH_done (by kernel_rfl) ?_ _
      refine NoPanic.normal ?_
      go_wp2_with fail
      go_ret
      exact ⟨by rw [HE.out]; rfl, HV.out.2⟩
    | true =>
      have HA : [o.d, o.a, o.b].all Cd.reg = true := by rw [← hS]; simp [Bool.and_assoc]
      rw [HA] at HSM
      have HBR := Lib.hid (fun W' => cbare (Cd.hD o.k) (Cd.hA o.k) (Cd.hB o.k) (Cd.hN o.k) o W')
      have HEQ : ∀ W', (binOp .eql 23 (.agg (o.less (Cd.hD o.k) (Cd.hA o.k) (Cd.hB o.k) (Cd.hN o.k)).arr) (.agg #[.int .u8 (o.k : Int), .int .i64 0, .int .i64 0, .int .i64 0, .int .i64 0])).run Tryd.prog W' = .ok (.bool o.ok) W' := by
        intro W'
        have hz : o.ok = ((o.k : Int) == (o.k : Int) && ((o.bare.d == 0) && ((o.bare.a == 0) && ((o.bare.b == 0) && (o.bare.n == 0))))) := by
          unfold Cd.OpV.ok
          rw [hK, hS]
          simp only [beq_self_eq_true, Bool.true_and, Bool.and_assoc]
          rfl
        rw [hz]
        exact Cd.run_eqOp _ _ W' 
      clear c0 HA hS
      go_region_held3 (fun w' : World => w'.cell? ⟨X, 0, none⟩ = some (.int .u8 (o.k : Int)) ∧ w'.cell? ⟨X, 1, none⟩ = some (.int .i64 o.d) ∧ w'.cell? ⟨X, 2, none⟩ = some (.int .i64 o.a) ∧ w'.cell? ⟨X, 3, none⟩ = some (.int .i64 o.b) ∧ w'.cell? ⟨X, 4, none⟩ = some (.int .i64 o.n)) (first | assumption | exact HO.out.cells | exact HV.out.1.cells | exact (HV.out.1.below (by assumption)).cells)
        (first
          | (go_at_call 71; refine HSM.out.mono ?_; rintro e w' ⟨rfl, rfl⟩)
          | (go_at_call 81; refine (HBR.out _).mono ?_; rintro e w' ⟨rfl, hb⟩))
      go_wp2_with fail
      go_ret
      refine ⟨rfl, (HV.out.2.trans ((by assumption : Below (W.alloc (.cells #[.int .i64 o.d, .int .i64 o.a, .int .i64 o.b] 3)).drew.heap.size (W.alloc (.cells #[.int .i64 o.d, .int .i64 o.a, .int .i64 o.b] 3)).drew _).mono HV.out.2.size))⟩
end Go.Proofs.YtaijafkfiogmlaaDoor
