/-
  Contracts of code.mayDo, mayHave, may: a program's form.
  Contracts of code.mayHave, may, May: a program's form.
  Contracts of code.may, May: a program's form.
-/
import Derived.Test.YtepnofklmdofmaaGreatDoorLowCdA
import Derived.Deep.DeepCutAuto
import Derived.Deep.CutBlock
import Derived.BigRegion
section
namespace Go.Proofs.YtepnofklmdofmaaGreatDoor
open Go.RowKit

namespace Cd
/-- Two ops held against each other. -/
theorem run_eqOp (x : OpV) (k : Int) (w : World) : (binOp .eql 72 (.agg x.arr) (.agg #[.int .u8 k, .int .i64 0, .int .i64 0, .int .i64 0, .int .i64 0])).run Tryz.prog w = .ok (.bool ((x.k : Int) == k && ((x.d == 0) && ((x.a == 0) && ((x.b == 0) && (x.n == 0)))))) w := by
  unfold OpV.arr
  go_simp
  by_cases h0 : (x.k : Int) = k <;> by_cases h1 : x.d = 0 <;> by_cases h2 : x.a = 0 <;> by_cases h3 : x.b = 0 <;> by_cases h4 : x.n = 0 <;> simp [h0, h1, h2, h3, h4]
end Cd

set_option maxHeartbeats 1200000 in
set_option maxRecDepth 20000 in
theorem cmayDo (o : Cd.OpV) (hR : o.Rng) (B : Nat) (w : World) (hm : Cd.Tbl w B) :
    Calls Tryz.prog 152 #[.map (some B), .agg #[.int .u8 (o.k : Int), .int .i64 o.d, .int .i64 o.a, .int .i64 o.b, .int .i64 o.n]] w fun e w' => e = .returned (.bool o.ok) ∧ Below w.heap.size w w' := by
  obtain ⟨W, hW⟩ : ∃ W, W = w.alloc (.cells #[.int .u8 (o.k : Int), .int .i64 o.d, .int .i64 o.a, .int .i64 o.b, .int .i64 o.n] 72) := ⟨_, rfl⟩
  have HO : Hid (Cd.OB W w.heap.size o) := by
    show W.heap[w.heap.size]? = _
    rw [hW]
    exact heap_alloc_new w _
  have HBW : Hid (Below w.heap.size w W) := by
    show Below _ _ _
    rw [hW]
    exact (Below.refl _ _).alloc (Nat.le_refl _) _
  have HLK := Lib.hid (Cd.Tbl.look (w := W) (hm.below (by rw [hW]; exact (Below.refl _ _).alloc (Nat.le_refl _) _)) hR.k)
  clear hm
  have c0 := HO.out.c0
  go_enter Tryz.func152, Tryz.ntmps152
  go_upto_region 1 with fail
  rw [← hW]
  clear hW
  obtain ⟨X, hX⟩ : ∃ X, X = w.heap.size := ⟨_, rfl⟩
  rw [← hX] at HO c0 ⊢
  clear hX
  cases hK : Cd.isK o.k with
  | false =>
    rw [hK] at HLK
    have HE : Hid (o.ok = false) := by show _ = _; unfold Cd.OpV.ok; rw [hK]; rfl
    have c1 := HO.out.c1
    have c2 := HO.out.c2
    have c3 := HO.out.c3
    go_upto_region 2 with (at_lookup; refine Gm.gpl_look _ rfl _ _ _ _ rfl _ _ _ rfl rfl HLK.out ?_)
    go_region
    all_goals
      go_wp2_with fail
      go_ret
      exact ⟨by rw [HE.out]; rfl, HBW.out.drew⟩
  | true =>
    rw [hK] at HLK
    clear hR
    go_upto_region 2 with (at_lookup; refine Gm.gpl_look _ rfl _ _ _ _ rfl _ _ _ rfl rfl HLK.out ?_)
    have HV : Hid (Cd.OB (W.alloc (.cells #[.int .i64 o.d, .int .i64 o.a, .int .i64 o.b] 3)).drew X o ∧ Below w.heap.size w (W.alloc (.cells #[.int .i64 o.d, .int .i64 o.a, .int .i64 o.b] 3)).drew) := ⟨HO.out.below ((Below.refl _ _).alloc (Nat.le_refl _) _).drew, (HBW.out.alloc HBW.out.size _).drew⟩
    have HSM : Hid (Calls Tryz.prog 149 #[.slice (some ⟨W.heap.size, 0, none⟩) 3 3] (W.alloc (.cells #[.int .i64 o.d, .int .i64 o.a, .int .i64 o.b] 3)).drew fun e w' => e = .returned (.bool ([o.d, o.a, o.b].all Cd.reg)) ∧ (W.alloc (.cells #[.int .i64 o.d, .int .i64 o.a, .int .i64 o.b] 3)).drew = w') :=
      csmall [o.d, o.a, o.b] (some ⟨W.heap.size, 0, none⟩) 3 (W.alloc (.cells #[.int .i64 o.d, .int .i64 o.a, .int .i64 o.b] 3)).drew (by simp) (lies_new W #[.int .i64 o.d, .int .i64 o.a, .int .i64 o.b] 3 _ rfl).drew
    cases hS : (Cd.reg o.d && Cd.reg o.a && Cd.reg o.b) with
    | false =>
      have HE : Hid (o.ok = false) := by show _ = _; unfold Cd.OpV.ok; rw [hS]; simp
      have HA : [o.d, o.a, o.b].all Cd.reg = false := by rw [← hS]; simp [Bool.and_assoc]
      rw [HA] at HSM
      clear hS c0 HA
      refine wp_region_noPanic ?_
      refine wp_region_held_drew (S := (fun w' : World => w'.cell? ⟨X, 0, none⟩ = some (.int .u8 (o.k : Int)) ∧ w'.cell? ⟨X, 1, none⟩ = some (.int .i64 o.d) ∧ w'.cell? ⟨X, 2, none⟩ = some (.int .i64 o.a) ∧ w'.cell? ⟨X, 3, none⟩ = some (.int .i64 o.b) ∧ w'.cell? ⟨X, 4, none⟩ = some (.int .i64 o.n))) (by kernel_rfl) (by exact HO.out.cells) (fun hHeld => ?_)
      refine wpAnyH_take (i := 0) (v := ?_) rfl (by kernel_rfl) (by kernel_rfl) (by kernel_rfl) (fun _ _ _ h => h) (Or.inl ⟨by rfl, ?_⟩) (by assumption) ?_
      rotate_left
      · (intro w hSw; (try dsimp only at hSw); go_simp; try with_reducible rfl)
      try simp only [Act.put, List.setIfInBounds_toArray]
      refine wpAnyH_take (i := 1) (v := ?_) rfl (by kernel_rfl) (by kernel_rfl) (by kernel_rfl) (fun _ _ _ h => h) (Or.inl ⟨by rfl, ?_⟩) (by assumption) ?_
      rotate_left
      · (intro w hSw; (try dsimp only at hSw); go_simp; try with_reducible rfl)
      try simp only [Act.put]
      refine wpAnyH_take (i := 2) (v := ?_) rfl (by kernel_rfl) (by kernel_rfl) (by kernel_rfl) (fun _ _ _ h => h) (Or.inl ⟨by rfl, ?_⟩) (by assumption) ?_
      rotate_left
      · (intro w hSw; (try dsimp only at hSw); go_simp; try with_reducible rfl)
      try simp only [Act.put]
      refine wpAnyH_take (i := 3) (v := ?_) rfl (by kernel_rfl) (by kernel_rfl) (by kernel_rfl) (fun _ _ _ h => h) (Or.inl ⟨by rfl, ?_⟩) (by assumption) ?_
      rotate_left
      · (intro w hSw; (try dsimp only at hSw); go_simp; try with_reducible rfl)
      try simp only [Act.put]
      refine wpAnyH_take (i := 4) (v := ?_) rfl (by kernel_rfl) (by kernel_rfl) (by kernel_rfl) (fun _ _ _ h => h) (Or.inl ⟨by rfl, ?_⟩) (by assumption) ?_
      rotate_left
      · (intro w hSw; (try dsimp only at hSw); go_simp; try with_reducible rfl)
      try simp only [Act.put]
      refine wpAnyH_take (i := 5) (v := ?_) rfl (by kernel_rfl) (by kernel_rfl) (by kernel_rfl) (fun _ _ _ h => h) (Or.inl ⟨by rfl, ?_⟩) (by assumption) ?_
      rotate_left
      · (intro w hSw; (try dsimp only at hSw); go_simp; try with_reducible rfl)
      try simp only [Act.put]
      refine wpAnyH_take (i := 6) (v := ?_) rfl (by kernel_rfl) (by kernel_rfl) (by kernel_rfl) (fun _ _ _ h => h) (Or.inl ⟨by rfl, ?_⟩) (by assumption) ?_
      rotate_left
      · (intro w hSw; (try dsimp only at hSw); go_simp; try with_reducible rfl)
      try simp only [Act.put]
      refine wpAnyH_take (i := 7) (v := ?_) rfl (by kernel_rfl) (by kernel_rfl) (by kernel_rfl) (fun _ _ _ h => h) (Or.inl ⟨by rfl, ?_⟩) (by assumption) ?_
      rotate_left
      · (intro w hSw; (try dsimp only at hSw); go_simp; try with_reducible rfl)
      try simp only [Act.put]
      refine wpAnyH_ready (rs := [8]) (by kernel_rfl) (by simp) ?_
      refine AllReadyH.cons rfl (fun K hK => ?_) AllReadyH.nil
      go_simp
      refine hK.out _ _ (by exact HV.out.1.cells) (fun hHeld2 => ?_)
      clear hK K hHeld
      try simp only [Act.put, List.setIfInBounds_toArray, List.set_cons_zero, List.set_cons_succ]
      refine wpAnyH_ready (rs := [9]) (by kernel_rfl) (by simp) ?_
      refine AllReadyH.cons rfl (fun K hK => ?_) AllReadyH.nil
      go_simp
      refine HSM.out.mono ?_
      rintro e w' ⟨rfl, rfl⟩
      dsimp only
      refine hK.out _ _ (by exact HV.out.1.cells) (fun hHeld3 => ?_)
      clear hK K hHeld2
      try simp only [Act.put, List.setIfInBounds_toArray, List.set_cons_zero, List.set_cons_succ]
      refine wpAnyH_take (i := 10) (v := ?_) rfl (by kernel_rfl) (by kernel_rfl) (by kernel_rfl) (fun _ _ _ h => h) (Or.inl ⟨by rfl, ?_⟩) (by assumption) ?_
      rotate_left
      · (intro w hSw; (try dsimp only at hSw); go_simp; try with_reducible rfl)
      try simp only [Act.put, List.setIfInBounds_toArray]
      refine wpAnyH_take (i := 11) (v := ?_) rfl (by kernel_rfl) (by kernel_rfl) (by kernel_rfl) (fun _ _ _ h => h) (Or.inl ⟨by rfl, ?_⟩) (by assumption) ?_
      rotate_left
      · (intro w hSw; (try dsimp only at hSw); go_simp; try with_reducible rfl)
      try simp only [Act.put]
      refine wpAnyH_take (i := 12) (v := undef) rfl (by kernel_rfl) (by kernel_rfl) (by kernel_rfl) (fun _ _ _ h => h) (Or.inr ⟨by rfl, rfl⟩) (by assumption) ?_
      try simp only [Act.put]
      refine wpAnyH_take (i := 13) (v := undef) rfl (by kernel_rfl) (by kernel_rfl) (by kernel_rfl) (fun _ _ _ h => h) (Or.inr ⟨by rfl, rfl⟩) (by assumption) ?_
      try simp only [Act.put]
      refine wpAnyH_take (i := 15) (v := undef) rfl (by kernel_rfl) (by kernel_rfl) (by kernel_rfl) (fun _ _ _ h => h) (Or.inr ⟨by rfl, rfl⟩) (by assumption) ?_
      try simp only [Act.put]
      refine wpAnyH_take (i := 16) (v := undef) rfl (by kernel_rfl) (by kernel_rfl) (by kernel_rfl) (fun _ _ _ h => h) (Or.inr ⟨by rfl, rfl⟩) (by assumption) ?_
      try simp only [Act.put]
      refine wpAnyH_take (i := 17) (v := undef) rfl (by kernel_rfl) (by kernel_rfl) (by kernel_rfl) (fun _ _ _ h => h) (Or.inr ⟨by rfl, rfl⟩) (by assumption) ?_
      try simp only [Act.put]
      refine wpAnyH_ready (rs := [14]) (by kernel_rfl) (by simp) ?_
      refine AllReadyH.cons rfl (fun K hK => ?_) AllReadyH.nil
      go_simp
      refine hK.out _ _ (by exact HV.out.1.cells) (fun hHeld4 => ?_)
      clear hK K hHeld3
      try simp only [Act.put, List.setIfInBounds_toArray, List.set_cons_zero, List.set_cons_succ]
      refine wpAnyH_take (i := 18) (oi := { dst := some 32, op := Op.binOp BinOp.eql 72 (Operand.tmp 28) (Operand.tmp 31) 72, type := 4, pos := "code.go:95", after := #[{ on := 14, ground := Ground.data }, { on := 17, ground := Ground.data }, { on := 11, ground := Ground.guard }], guard := some (11, true) }) (v := undef) rfl (by kernel_rfl) (by kernel_rfl) (by kernel_rfl) (fun _ _ _ h => h) (Or.inr ⟨by rfl, rfl⟩) (by assumption) ?_
      try simp only [Act.put, List.setIfInBounds_toArray, List.set_cons_zero, List.set_cons_succ]
      refine wpAnyH_take (i := 19) (oi := { dst := some 33, op := Op.pick (Operand.tmp 25) (Operand.tmp 32) (Operand.const (Value.bool false)), type := 4, pos := "code.go:95", after := #[{ on := 11, ground := Ground.data }, { on := 18, ground := Ground.data }], guard := none }) (v := ?_) rfl (by kernel_rfl) (by kernel_rfl) (by kernel_rfl) (fun _ _ _ h => h) (Or.inl ⟨by rfl, ?_⟩) (by assumption) ?_
      rotate_left
      · (intro w hSw; (try dsimp only at hSw); go_simp; try with_reducible rfl)
      try simp only [Act.put, List.setIfInBounds_toArray, List.set_cons_zero, List.set_cons_succ]
      refine wpAnyH_take (i := 20) (oi := { dst := some 4, op := Op.assign (Operand.tmp 33), type := 4, pos := "code.go:95", after := #[{ on := 19, ground := Ground.data }, { on := 14, ground := Ground.chain }, { on := 0, ground := Ground.phase }, { on := 1, ground := Ground.phase }, { on := 2, ground := Ground.phase }, { on := 3, ground := Ground.phase }, { on := 4, ground := Ground.phase }, { on := 5, ground := Ground.phase }, { on := 6, ground := Ground.phase }, { on := 7, ground := Ground.phase }, { on := 8, ground := Ground.phase }, { on := 9, ground := Ground.phase }, { on := 10, ground := Ground.phase }, { on := 11, ground := Ground.phase }, { on := 12, ground := Ground.phase }, { on := 13, ground := Ground.phase }, { on := 14, ground := Ground.phase }, { on := 15, ground := Ground.phase }, { on := 16, ground := Ground.phase }, { on := 17, ground := Ground.phase }, { on := 18, ground := Ground.phase }, { on := 19, ground := Ground.phase }], guard := none }) (v := ?_) rfl (by kernel_rfl) (by kernel_rfl) (by kernel_rfl) (fun _ _ _ h => h) (Or.inl ⟨by rfl, ?_⟩) (by assumption) ?_
      rotate_left
      · (intro w hSw; (try dsimp only at hSw); go_simp; try with_reducible rfl)
      try simp only [Act.put, List.setIfInBounds_toArray, List.set_cons_zero, List.set_cons_succ]
      refine wpAnyH_done (by kernel_rfl) ?_ _
      refine NoPanic.normal ?_
      go_wp2_with fail
      go_ret
      exact ⟨by rw [HE.out]; rfl, HV.out.2⟩
    | true =>
      have HA : [o.d, o.a, o.b].all Cd.reg = true := by rw [← hS]; simp [Bool.and_assoc]
      rw [HA] at HSM
      have HBR := Lib.hid (fun W' => cbare (Cd.hD o.k) (Cd.hA o.k) (Cd.hB o.k) (Cd.hN o.k) o W')
      have HEQ : ∀ W', (binOp .eql 72 (.agg (o.less (Cd.hD o.k) (Cd.hA o.k) (Cd.hB o.k) (Cd.hN o.k)).arr) (.agg #[.int .u8 (o.k : Int), .int .i64 0, .int .i64 0, .int .i64 0, .int .i64 0])).run Tryz.prog W' = .ok (.bool o.ok) W' := by
        intro W'
        have hz : o.ok = ((o.k : Int) == (o.k : Int) && ((o.bare.d == 0) && ((o.bare.a == 0) && ((o.bare.b == 0) && (o.bare.n == 0))))) := by
          unfold Cd.OpV.ok
          rw [hK, hS]
          simp only [beq_self_eq_true, Bool.true_and, Bool.and_assoc]
          rfl
        rw [hz]
        exact Cd.run_eqOp _ _ W' 
      clear c0 HA hS
      go_region_held3 (fun w' : World => w'.cell? ⟨X, 0, none⟩ = some (.int .u8 (o.k : Int)) ∧ w'.cell? ⟨X, 1, none⟩ = some (.int .i64 o.d) ∧ w'.cell? ⟨X, 2, none⟩ = some (.int .i64 o.a) ∧ w'.cell? ⟨X, 3, none⟩ = some (.int .i64 o.b) ∧ w'.cell? ⟨X, 4, none⟩ = some (.int .i64 o.n)) (first | assumption | exact HO.out.cells | exact HV.out.1.cells | exact (HV.out.1.below (by assumption)).cells)
        (first
          | (go_at_call 149; refine HSM.out.mono ?_; rintro e w' ⟨rfl, rfl⟩)
          | (go_at_call 171; refine (HBR.out _).mono ?_; rintro e w' ⟨rfl, hb⟩))
      go_wp2_with fail
      go_ret
      refine ⟨rfl, (HV.out.2.trans ((by assumption : Below (W.alloc (.cells #[.int .i64 o.d, .int .i64 o.a, .int .i64 o.b] 3)).drew.heap.size (W.alloc (.cells #[.int .i64 o.d, .int .i64 o.a, .int .i64 o.b] 3)).drew _).mono HV.out.2.size))⟩
end Go.Proofs.YtepnofklmdofmaaGreatDoor
end

section
namespace Go.Proofs.YtepnofklmdofmaaGreatDoor
open Go.RowKit

namespace Cd
theorem fn1 (w : World) (cs : Array Value) (T : TypeId) : Below w.heap.size w (w.alloc (.cells cs T)) := (Below.refl _ _).alloc (Nat.le_refl _) _
/-- Block X holds the table's map, block B is the table. -/
structure TB (w : World) (X B : Nat) : Prop where
  x : w.heap[X]? = some (.cells #[.map (some B)] 211 (0, 0))
  t : Tbl w B
theorem TB.below {w w' : World} {X B : Nat} (h : TB w X B) (hb : Below w.heap.size w w') : TB w' X B := ⟨(hb.block _ (ltH h.x)).trans h.x, Gm.MapF.below h.t hb⟩
theorem TB.c {w : World} {X B : Nat} (h : TB w X B) : w.cell? ⟨X, 0, none⟩ = some (.map (some B)) := cell_of_row _ _ 0 _ _ _ h.x
end Cd

set_option maxHeartbeats 400000 in
set_option maxRecDepth 20000 in
theorem cmayHave1 (o : Cd.OpV) (hR : o.Rng) (X B : Nat) (w : World) (hm : Cd.TB w X B) :
    Calls Tryz.prog 151 #[.agg #[.int .u8 (o.k : Int), .int .i64 o.d, .int .i64 o.a, .int .i64 o.b, .int .i64 o.n], .pointer (some ⟨X, 0, none⟩)] w fun e w' => e = .returned (.bool (!o.ok)) ∧ Below w.heap.size w w' := by
  obtain ⟨W, hW⟩ : ∃ W, W = w.alloc (.cells #[.int .u8 (o.k : Int), .int .i64 o.d, .int .i64 o.a, .int .i64 o.b, .int .i64 o.n] 72) := ⟨_, rfl⟩
  have hb : Below w.heap.size w W := by rw [hW]; exact Cd.fn1 _ _ _
  have hO : Cd.OB W w.heap.size o := by show W.heap[w.heap.size]? = _; rw [hW]; exact heap_alloc_new w _
  have HB := Lib.hid hb
  have HC := Lib.hid (cmayDo o hR B W (hm.below hb).t)
  have cX := (hm.below hb).c
  obtain ⟨c0, c1, c2, c3, c4⟩ := hO.cells
  clear hm hb hO hR
  go_enter Tryz.func151, Tryz.ntmps151
  go_upto_region 1 with fail
  rw [← hW]
  clear hW
  go_wp2_with fail
  refine HC.out.mono ?_
  rintro e w2 ⟨rfl, hb2⟩
  have HB2 : Hid (Below w.heap.size w w2) := HB.out.trans (hb2.mono HB.out.size)
  clear hb2
  go_wp2_with fail
  go_ret
  exact ⟨rfl, HB2.out⟩

set_option maxHeartbeats 400000 in
set_option maxRecDepth 20000 in
theorem cidxop (l : List Cd.OpV) (hR : ∀ o ∈ l, o.Rng) (A : Option Addr) (c X B : Nat) (w : World) (hn : l.length ≤ 1000000) (hm : Cd.TB w X B) (hli : Lies w w.heap.size A (Cd.ocells l)) :
    Calls Tryz.prog 170 #[.slice A l.length c, .func (.func 151) #[] #[.pointer (some ⟨X, 0, none⟩)]] w fun e w' => ∃ i : Int, e = .returned (.int .i64 i) ∧ decide (0 ≤ i) = !l.all Cd.OpV.ok ∧ Below w.heap.size w w' := by
  have HL := Lib.hid hli
  have HM := Lib.hid hm
  have HR := Lib.hid hR
  clear hli hm hR
  go_enter Tryz.func170, Tryz.ntmps170
  go_wp2_with fail
  go_loopw [8] (fun i wr => ∃ k : Nat, k ≤ l.length ∧ i = .int .i64 k ∧ Hid ((l.take k).all Cd.OpV.ok = true) ∧ Hid (Below w.heap.size w wr)) (fun i _ => l.length - (intOf i).toNat)
  case atStart => exact ⟨0, Nat.zero_le _, rfl, rfl, Below.refl _ _⟩
  case round =>
    obtain ⟨k, hk, rfl, HN, HB⟩ := hrel
    by_cases hlt : k < l.length
    · obtain ⟨ad, rfl, hadb, c0, c1, c2, c3, c4⟩ := Cd.op_at (HL.out.below HB.out) hlt
      have k0 : (0 : Int) ≤ (k : Int) := by omega
      have k1 : (k : Int) < l.length := by omega
      have HME := Lib.hid (List.getElem_mem hlt)
      have HT := Lib.hid (List.take_succ_eq_append_getElem hlt)
      have HC := Lib.hid (cmayHave1 l[k] (HR.out _ HME.out) X B wr (HM.out.below HB.out))
      generalize l[k] = o at c0 c1 c2 c3 c4 HME HT HC
      clear hadb hlt
      cases he : o.ok
      · have HD : Hid (l.all Cd.OpV.ok = false) := by
          show _ = _
          rw [List.all_eq_false]
          exact ⟨o, HME.out, by rw [he]; decide⟩
        rw [he] at HC
        clear he
        go_wp2_with fail
        refine HC.out.mono ?_
        rintro e w2 ⟨rfl, hb2⟩
        have HB2 : Hid (Below w.heap.size w w2) := HB.out.trans (hb2.mono HB.out.size)
        clear hb2
        go_wp2_with fail
        go_ret
        exact ⟨k, rfl, by rw [HD.out]; simp, HB2.out⟩
      · rw [he] at HC
        have HE := Lib.hid he
        clear he
        go_wp2_with fail
        refine HC.out.mono ?_
        rintro e w2 ⟨rfl, hb2⟩
        have HB2 : Hid (Below w.heap.size w w2) := HB.out.trans (hb2.mono HB.out.size)
        clear hb2
        go_wp2_with fail
        go_roundw
        case rel => exact ⟨k + 1, by omega, by go_num, by show _ = _; rw [HT.out, List.all_append, HN.out]; simp [HE.out], HB2.out⟩
        case measure => simp [intOf]; omega
    · have HD : Hid (l.all Cd.OpV.ok = true) := by
        show _ = _
        rw [← HN.out, List.take_of_length_le (by omega)]
      have k1 : ¬ ((k : Int) < l.length) := by omega
      go_wp2_with fail
      go_ret
      exact ⟨-1, rfl, by rw [HD.out]; decide, HB.out⟩

set_option maxHeartbeats 400000 in
set_option maxRecDepth 20000 in
theorem ccontop (l : List Cd.OpV) (hR : ∀ o ∈ l, o.Rng) (A : Option Addr) (c X B : Nat) (w : World) (hn : l.length ≤ 1000000) (hm : Cd.TB w X B) (hli : Lies w w.heap.size A (Cd.ocells l)) :
    Calls Tryz.prog 150 #[.slice A l.length c, .func (.func 151) #[] #[.pointer (some ⟨X, 0, none⟩)]] w fun e w' => e = .returned (.bool (!l.all Cd.OpV.ok)) ∧ Below w.heap.size w w' := by
  have HI := Lib.hid (cidxop l hR A c X B w hn hm hli)
  clear hli hn hR hm
  go_enter Tryz.func150, Tryz.ntmps150
  go_wp2_with fail
  refine HI.out.mono ?_
  rintro e w1 ⟨i, rfl, hi, hb⟩
  have HB := Lib.hid hb
  clear hb
  go_wp2_with fail
  go_ret
  exact ⟨by rw [← hi]; rfl, HB.out⟩

set_option maxHeartbeats 600000 in
set_option maxRecDepth 20000 in
theorem cmayHave (m : Cd.Fm) (hR : m.f.Rng) (B : Nat) (w : World) (hm : Cd.Tbl w B) (hli : Lies w w.heap.size m.A (Cd.ocells m.f.ops)) :
    Calls Tryz.prog 134 #[.map (some B), .agg #[.int .i64 m.f.args, .int .i64 m.f.regs, .slice m.A m.f.ops.length m.c]] w fun e w' => e = .returned (.bool m.f.ok) ∧ Below w.heap.size w w' := by
  have hlen := hR.len
  unfold maxLen at hlen
  obtain ⟨V, hV⟩ : ∃ V, V = w.alloc (.cells #[.map (some B)] 211) := ⟨_, rfl⟩
  have hVs : V.heap.size = w.heap.size + 1 := by rw [hV]; simp
  obtain ⟨W, hW⟩ : ∃ W, W = V.alloc (.cells #[.int .i64 m.f.args, .int .i64 m.f.regs, .slice m.A m.f.ops.length m.c] 107) := ⟨_, rfl⟩
  have hb1 : Below w.heap.size w V := by rw [hV]; exact Cd.fn1 _ _ _
  have hb2 : Below V.heap.size V W := by rw [hW]; exact Cd.fn1 _ _ _
  have hb : Below w.heap.size w W := hb1.trans (hb2.mono hb1.size)
  have hX : W.heap[w.heap.size]? = some (.cells #[.map (some B)] 211 (0, 0)) := by
    rw [hb2.block _ (by rw [hVs]; omega), hV]
    exact heap_alloc_new w _
  have hF : W.heap[w.heap.size + 1]? = some (.cells #[.int .i64 m.f.args, .int .i64 m.f.regs, .slice m.A m.f.ops.length m.c] 107 (0, 0)) := by
    rw [← hVs, hW]
    exact heap_alloc_new V _
  have HB := Lib.hid hb
  have HTB : Hid (Cd.TB W w.heap.size B) := ⟨hX, Gm.MapF.below hm hb⟩
  have HL := Lib.hid ((hli.below hb).mono hb.size)
  have HR := Lib.hid hR.ops
  have f0 : W.cell? ⟨w.heap.size + 1, 0, none⟩ = some (.int .i64 m.f.args) := cell_of_row _ _ 0 _ _ _ hF
  have f1 : W.cell? ⟨w.heap.size + 1, 1, none⟩ = some (.int .i64 m.f.regs) := cell_of_row _ _ 1 _ _ _ hF
  have f2 : W.cell? ⟨w.heap.size + 1, 2, none⟩ = some (.slice m.A m.f.ops.length m.c) := cell_of_row _ _ 2 _ _ _ hF
  have hWs : W.heap.size = w.heap.size + 1 + 1 := by rw [hW]; simp [hVs]
  have HSM : Hid (Calls Tryz.prog 149 #[.slice (some ⟨w.heap.size + 1 + 1, 0, none⟩) 2 2] (W.alloc (.cells #[.int .i64 m.f.args, .int .i64 m.f.regs] 3)) fun e w' => e = .returned (.bool ([m.f.args, m.f.regs].all Cd.reg)) ∧ W.alloc (.cells #[.int .i64 m.f.args, .int .i64 m.f.regs] 3) = w') :=
    csmall [m.f.args, m.f.regs] (some ⟨w.heap.size + 1 + 1, 0, none⟩) 2 _ (by simp) (by have := lies_new W #[.int .i64 m.f.args, .int .i64 m.f.regs] 3 (icells [m.f.args, m.f.regs]) rfl; rw [hWs] at this; exact this)
  have g2 : (W.alloc (.cells #[.int .i64 m.f.args, .int .i64 m.f.regs] 3)).cell? ⟨w.heap.size + 1, 2, none⟩ = some (.slice m.A m.f.ops.length m.c) := cell_of_row _ _ 2 _ _ _ (((Cd.fn1 W _ _).block _ (Cd.ltH hF)).trans hF)
  have HBV : Hid (Below w.heap.size w (W.alloc (.cells #[.int .i64 m.f.args, .int .i64 m.f.regs] 3))) := hb.trans ((Cd.fn1 W _ _).mono hb.size)
  have hmf : ∀ (fn : Fn) (first cap : Array Value) (w : World), (Instr.makeFunc fn first cap).run Tryz.prog w = .ok (.func fn first cap) w := fun _ _ _ _ => rfl
  clear hb1 hb2 hb hX hF hm hli hR hVs
  go_enter Tryz.func134, Tryz.ntmps134
  go_upto_region 1 with fail
  rw [← hV, ← hW]
  clear hW hV
  go_wp2_with fail
  cases hS : (Cd.reg m.f.args && Cd.reg m.f.regs) with
  | false =>
    have HE : Hid (m.f.ok = false) := by show _ = _; unfold Cd.FnV.ok; rw [hS]; simp
    have HA : [m.f.args, m.f.regs].all Cd.reg = false := by rw [← hS]; simp
    rw [HA] at HSM
    clear hS HA
    refine HSM.out.mono ?_
    rintro e w' ⟨rfl, rfl⟩
    go_wp2_with fail
    go_ret
    exact ⟨by rw [HE.out]; rfl, HBV.out⟩
  | true =>
    have HA : [m.f.args, m.f.regs].all Cd.reg = true := by rw [← hS]; simp
    rw [HA] at HSM
    refine HSM.out.mono ?_
    rintro e w' ⟨rfl, rfl⟩
    by_cases h64 : 64 < m.f.ops.length
    · have HE : Hid (m.f.ok = false) := by show _ = _; unfold Cd.FnV.ok; simp; intros; omega
      have h64i : (64 : Int) < m.f.ops.length := by omega
      clear hS HA h64
      go_wp2_with fail
      go_ret
      exact ⟨by rw [HE.out]; rfl, HBV.out⟩
    · have HE : Hid (m.f.ok = m.f.ops.all Cd.OpV.ok) := by
        show _ = _
        unfold Cd.FnV.ok
        rw [hS, decide_eq_true (by omega : m.f.ops.length ≤ 64)]
        rfl
      have h64i : ¬ (64 : Int) < m.f.ops.length := by omega
      have HCO := Lib.hid (ccontop m.f.ops HR.out m.A m.c w.heap.size B _ (by omega) (HTB.out.below (Cd.fn1 W #[.int .i64 m.f.args, .int .i64 m.f.regs] 3)) ((HL.out.below (Cd.fn1 W _ _)).mono (Cd.fn1 W _ _).size))
      clear hS HA h64
      go_wp2_with fail
      refine HCO.out.mono ?_
      rintro e w2 ⟨rfl, hb2⟩
      have HB2 : Hid (Below w.heap.size w w2) := HBV.out.trans (hb2.mono HBV.out.size)
      clear hb2
      go_wp2_with fail
      go_ret
      refine ⟨?_, HB2.out⟩
      rw [HE.out]
      cases m.f.ops.all Cd.OpV.ok <;> rfl
end Go.Proofs.YtepnofklmdofmaaGreatDoor
end

section
namespace Go.Proofs.YtepnofklmdofmaaGreatDoor
open Go.RowKit

namespace Cd
theorem pok_iff (l : List Fm) : pok (fns l) = (decide (l.length ≤ 16) && l.all fun m => m.f.ok) := by
  unfold pok fns
  rw [List.length_map, List.all_map]
  rfl
theorem ksCell {W V : World} {B n X : Nat} {v : Value} {T : TypeId} (hk : KS W.drew B n V) (hF : W.heap[X]? = some (.cells #[v] T (0, 0))) : V.cell? ⟨X, 0, none⟩ = some v :=
  cell_of_row _ _ 0 _ _ _ ((hk.bel.block X (ltH hF)).trans hF)
theorem belCell {W V : World} {X : Nat} {v : Value} {T : TypeId} (hb : Below W.heap.size W V) (hF : W.heap[X]? = some (.cells #[v] T (0, 0))) : V.cell? ⟨X, 0, none⟩ = some v :=
  cell_of_row _ _ 0 _ _ _ ((hb.block X (ltH hF)).trans hF)
end Cd

set_option maxHeartbeats 400000 in
set_option maxRecDepth 20000 in
theorem cmay1 (m : Cd.Fm) (hR : m.f.Rng) (X B : Nat) (w : World) (hm : Cd.TB w X B) (hli : Lies w w.heap.size m.A (Cd.ocells m.f.ops)) :
    Calls Tryz.prog 133 #[.agg #[.int .i64 m.f.args, .int .i64 m.f.regs, .slice m.A m.f.ops.length m.c], .pointer (some ⟨X, 0, none⟩)] w fun e w' => e = .returned (.bool (!m.f.ok)) ∧ Below w.heap.size w w' := by
  obtain ⟨W, hW⟩ : ∃ W, W = w.alloc (.cells #[.int .i64 m.f.args, .int .i64 m.f.regs, .slice m.A m.f.ops.length m.c] 107) := ⟨_, rfl⟩
  have hb : Below w.heap.size w W := by rw [hW]; exact Cd.fn1 _ _ _
  have hF : W.heap[w.heap.size]? = some (.cells #[.int .i64 m.f.args, .int .i64 m.f.regs, .slice m.A m.f.ops.length m.c] 107 (0, 0)) := by rw [hW]; exact heap_alloc_new w _
  have HB := Lib.hid hb
  have HC := Lib.hid (cmayHave m hR B W (hm.below hb).t ((hli.below hb).mono hb.size))
  have cX := (hm.below hb).c
  have f0 : W.cell? ⟨w.heap.size, 0, none⟩ = some (.int .i64 m.f.args) := cell_of_row _ _ 0 _ _ _ hF
  have f1 : W.cell? ⟨w.heap.size, 1, none⟩ = some (.int .i64 m.f.regs) := cell_of_row _ _ 1 _ _ _ hF
  have f2 : W.cell? ⟨w.heap.size, 2, none⟩ = some (.slice m.A m.f.ops.length m.c) := cell_of_row _ _ 2 _ _ _ hF
  clear hm hb hF hR hli
  go_enter Tryz.func133, Tryz.ntmps133
  go_upto_region 1 with fail
  rw [← hW]
  clear hW
  go_wp2_with fail
  refine HC.out.mono ?_
  rintro e w2 ⟨rfl, hb2⟩
  have HB2 : Hid (Below w.heap.size w w2) := HB.out.trans (hb2.mono HB.out.size)
  clear hb2
  go_wp2_with fail
  go_ret
  exact ⟨rfl, HB2.out⟩

set_option maxHeartbeats 400000 in
set_option maxRecDepth 20000 in
theorem cidxfn (l : List Cd.Fm) (hR : ∀ m ∈ l, m.f.Rng) (A : Option Addr) (c X B : Nat) (w : World) (hn : l.length ≤ 1000000) (hm : Cd.TB w X B) (hP : Cd.Prog w w.heap.size A l) :
    Calls Tryz.prog 148 #[.slice A l.length c, .func (.func 133) #[] #[.pointer (some ⟨X, 0, none⟩)]] w fun e w' => ∃ i : Int, e = .returned (.int .i64 i) ∧ decide (0 ≤ i) = !(l.all fun m => m.f.ok) ∧ Below w.heap.size w w' := by
  have HP := Lib.hid hP
  have HM := Lib.hid hm
  have HR := Lib.hid hR
  clear hP hm hR
  go_enter Tryz.func148, Tryz.ntmps148
  go_wp2_with fail
  go_loopw [8] (fun i wr => ∃ k : Nat, k ≤ l.length ∧ i = .int .i64 k ∧ Hid ((l.take k).all (fun m => m.f.ok) = true) ∧ Hid (Below w.heap.size w wr)) (fun i _ => l.length - (intOf i).toNat)
  case atStart => exact ⟨0, Nat.zero_le _, rfl, rfl, Below.refl _ _⟩
  case round =>
    obtain ⟨k, hk, rfl, HN, HB⟩ := hrel
    by_cases hlt : k < l.length
    · have hPB := HP.out.below HB.out
      obtain ⟨ad, rfl, hadb, c0, c1, c2⟩ := Cd.fn_at hPB.fs hlt
      have k0 : (0 : Int) ≤ (k : Int) := by omega
      have k1 : (k : Int) < l.length := by omega
      have HME := Lib.hid (List.getElem_mem hlt)
      have HT := Lib.hid (List.take_succ_eq_append_getElem hlt)
      have HC := Lib.hid (cmay1 l[k] (HR.out _ HME.out) X B wr (HM.out.below HB.out) ((hPB.os _ HME.out).mono HB.out.size))
      generalize l[k] = m at c0 c1 c2 HME HT HC
      clear hadb hlt hPB
      cases he : m.f.ok
      · have HD : Hid ((l.all fun m => m.f.ok) = false) := by
          show _ = _
          rw [List.all_eq_false]
          exact ⟨m, HME.out, by rw [he]; decide⟩
        rw [he] at HC
        clear he
        go_wp2_with fail
        refine HC.out.mono ?_
        rintro e w2 ⟨rfl, hb2⟩
        have HB2 : Hid (Below w.heap.size w w2) := HB.out.trans (hb2.mono HB.out.size)
        clear hb2
        go_wp2_with fail
        go_ret
        exact ⟨k, rfl, by rw [HD.out]; simp, HB2.out⟩
      · rw [he] at HC
        have HE := Lib.hid he
        clear he
        go_wp2_with fail
        refine HC.out.mono ?_
        rintro e w2 ⟨rfl, hb2⟩
        have HB2 : Hid (Below w.heap.size w w2) := HB.out.trans (hb2.mono HB.out.size)
        clear hb2
        go_wp2_with fail
        go_roundw
        case rel => exact ⟨k + 1, by omega, by go_num, by show _ = _; rw [HT.out, List.all_append, HN.out]; simp [HE.out], HB2.out⟩
        case measure => simp [intOf]; omega
    · have HD : Hid ((l.all fun m => m.f.ok) = true) := by
        show _ = _
        rw [← HN.out, List.take_of_length_le (by omega)]
      have k1 : ¬ ((k : Int) < l.length) := by omega
      go_wp2_with fail
      go_ret
      exact ⟨-1, rfl, by rw [HD.out]; decide, HB.out⟩

set_option maxHeartbeats 400000 in
set_option maxRecDepth 20000 in
theorem ccontfn (l : List Cd.Fm) (hR : ∀ m ∈ l, m.f.Rng) (A : Option Addr) (c X B : Nat) (w : World) (hn : l.length ≤ 1000000) (hm : Cd.TB w X B) (hP : Cd.Prog w w.heap.size A l) :
    Calls Tryz.prog 132 #[.slice A l.length c, .func (.func 133) #[] #[.pointer (some ⟨X, 0, none⟩)]] w fun e w' => e = .returned (.bool (!(l.all fun m => m.f.ok))) ∧ Below w.heap.size w w' := by
  have HI := Lib.hid (cidxfn l hR A c X B w hn hm hP)
  clear hP hn hR hm
  go_enter Tryz.func132, Tryz.ntmps132
  go_wp2_with fail
  refine HI.out.mono ?_
  rintro e w1 ⟨i, rfl, hi, hb⟩
  have HB := Lib.hid hb
  clear hb
  go_wp2_with fail
  go_ret
  exact ⟨by rw [← hi]; rfl, HB.out⟩

set_option maxHeartbeats 600000 in
set_option maxRecDepth 20000 in
theorem cmay (l : List Cd.Fm) (hR : ∀ m ∈ l, m.f.Rng) (hn : l.length ≤ maxLen) (A : Option Addr) (c B : Nat) (w : World) (hm : Cd.Tbl w B) (hP : Cd.Prog w w.heap.size A l) :
    Calls Tryz.prog 111 #[.map (some B), .agg #[.slice A l.length c]] w fun e w' => e = .returned (.bool (Cd.pok (Cd.fns l))) ∧ Below w.heap.size w w' := by
  unfold maxLen at hn
  obtain ⟨V, hV⟩ : ∃ V, V = w.alloc (.cells #[.map (some B)] 211) := ⟨_, rfl⟩
  have hVs : V.heap.size = w.heap.size + 1 := by rw [hV]; simp
  obtain ⟨W, hW⟩ : ∃ W, W = V.alloc (.cells #[.slice A l.length c] 24) := ⟨_, rfl⟩
  have hb1 : Below w.heap.size w V := by rw [hV]; exact Cd.fn1 _ _ _
  have hb2 : Below V.heap.size V W := by rw [hW]; exact Cd.fn1 _ _ _
  have hb : Below w.heap.size w W := hb1.trans (hb2.mono hb1.size)
  have hX : W.heap[w.heap.size]? = some (.cells #[.map (some B)] 211 (0, 0)) := by
    rw [hb2.block _ (by rw [hVs]; omega), hV]
    exact heap_alloc_new w _
  have hF : W.heap[w.heap.size + 1]? = some (.cells #[.slice A l.length c] 24 (0, 0)) := by
    rw [← hVs, hW]
    exact heap_alloc_new V _
  have HB := Lib.hid hb
  have HTB : Hid (Cd.TB W w.heap.size B) := ⟨hX, Gm.MapF.below hm hb⟩
  have HP := Lib.hid ((hP.below hb).mono hb.size)
  have HR := Lib.hid hR
  have f0 : W.cell? ⟨w.heap.size + 1, 0, none⟩ = some (.slice A l.length c) := cell_of_row _ _ 0 _ _ _ hF
  have hmf : ∀ (fn : Fn) (first cap : Array Value) (w : World), (Instr.makeFunc fn first cap).run Tryz.prog w = .ok (.func fn first cap) w := fun _ _ _ _ => rfl
  have HPO := Lib.hid (Cd.pok_iff l)
  clear hb1 hb2 hb hX hF hm hP hR hVs
  go_enter Tryz.func111, Tryz.ntmps111
  go_upto_region 1 with fail
  rw [← hV, ← hW]
  clear hW hV
  by_cases h16 : 16 < l.length
  · have HE : Hid (Cd.pok (Cd.fns l) = false) := by show _ = _; rw [HPO.out, decide_eq_false (by omega)]; rfl
    have h16i : (16 : Int) < l.length := by omega
    clear h16
    go_wp2_with fail
    go_ret
    exact ⟨by rw [HE.out]; rfl, HB.out⟩
  · have HE : Hid (Cd.pok (Cd.fns l) = l.all fun m => m.f.ok) := by show _ = _; rw [HPO.out, decide_eq_true (by omega)]; rfl
    have h16i : ¬ (16 : Int) < l.length := by omega
    have HCO := Lib.hid (ccontfn l HR.out A c w.heap.size B W (by omega) HTB.out HP.out)
    clear h16
    go_wp2_with fail
    refine HCO.out.mono ?_
    rintro e w2 ⟨rfl, hb2⟩
    have HB2 : Hid (Below w.heap.size w w2) := HB.out.trans (hb2.mono HB.out.size)
    clear hb2
    go_wp2_with fail
    go_ret
    refine ⟨?_, HB2.out⟩
    rw [HE.out]
    cases (l.all fun m => m.f.ok) <;> rfl

set_option maxHeartbeats 600000 in
set_option maxRecDepth 20000 in
theorem cMay (l : List Cd.Fm) (hR : ∀ m ∈ l, m.f.Rng) (hn : l.length ≤ maxLen) (A : Option Addr) (c : Nat) (w : World) (hP : Cd.Prog w w.heap.size A l) :
    Calls Tryz.prog 91 #[.agg #[.slice A l.length c]] w fun e w' => e = .returned (.bool (Cd.pok (Cd.fns l))) ∧ Below w.heap.size w w' := by
  obtain ⟨W, hW⟩ : ∃ W, W = w.alloc (.cells #[.slice A l.length c] 24) := ⟨_, rfl⟩
  have hb : Below w.heap.size w W := by rw [hW]; exact Cd.fn1 _ _ _
  have hF : W.heap[w.heap.size]? = some (.cells #[.slice A l.length c] 24 (0, 0)) := by rw [hW]; exact heap_alloc_new w _
  have HB := Lib.hid hb
  have HCM : Hid (∀ B V, Cd.KS W.drew B 14 V → Calls Tryz.prog 111 #[.map (some B), .agg #[.slice A l.length c]] V fun e w' => e = .returned (.bool (Cd.pok (Cd.fns l))) ∧ Below W.heap.size W w') := fun B V hk => by
    have hbd : Below W.heap.size W V := (Below.refl _ _).drew.trans hk.bel
    refine (cmay l hR hn A c B V hk.m ((hP.below (hb.trans (hbd.mono hb.size))).mono (hb.trans (hbd.mono hb.size)).size)).mono ?_
    rintro e w' ⟨he, hb2⟩
    exact ⟨he, hbd.trans (hb2.mono hbd.size)⟩
  have HF := Lib.hid hF
  clear hb hF hR hP
  go_enter Tryz.func91, Tryz.ntmps91
  go_upto_region 1 with fail
  rw [← hW]
  clear hW
  go_region_held3 (fun w' : World => w'.cell? ⟨w.heap.size, 0, none⟩ = some (.slice A l.length c)) (first | assumption | exact cell_of_row _ _ 0 _ _ _ HF.out | exact Cd.ksCell (by assumption) HF.out | exact Cd.belCell (by assumption) HF.out)
    (first
      | (go_at_call 110; refine (ckinds _).mono ?_; rintro e w2 ⟨B, rfl, hk⟩)
      | (go_at_call 111; refine (HCM.out _ _ (by assumption)).mono ?_; rintro e w3 ⟨rfl, hb3⟩))
  all_goals
    go_wp2_with fail
    go_ret
    exact ⟨rfl, HB.out.trans (Below.mono (by assumption) HB.out.size)⟩
end Go.Proofs.YtepnofklmdofmaaGreatDoor
end
