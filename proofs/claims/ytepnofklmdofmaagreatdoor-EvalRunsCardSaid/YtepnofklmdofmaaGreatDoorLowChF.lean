/-
  errors.As at a *check.fault: of no error, and of a fault. (METHODN: the number that stands in the walk's 'Go.method ..': the dump's types and 100.)
  errors.As at a *check.fault, of a fault; check.May, Input.
  Contracts of check.May, check.Input.
-/
import Derived.Test.YtepnofklmdofmaaGreatDoorLowCh
import Derived.LaidEql
import Derived.Stop.Asserts
import Derived.RowKitTokens
import Derived.Laws.Tables
section
namespace Go.Proofs.YtepnofklmdofmaaGreatDoor
open Go.RowKit Go.Extern.Stop Go.Stop Go.Extern

namespace Ck
theorem typesN : Tryz.prog.types.size = 292 := by kernel_rfl
/-- A type's handle. -/
def hnd (t : Nat) : Value := .pointer (some ⟨1, t, none⟩)
theorem v51 (t : Addr) (w : World) : (ReflectliteValue.unpack (.iface 144 (.pointer (some t)))).run Tryz.prog w
    = .ok (.agg #[.pointer (some ⟨1, 144, none⟩), .pointer (some ⟨w.heap.size, 0, none⟩), .int .u64 150]) (w.alloc (.cells #[.pointer (some t)] 144)) := by kernel_rfl
theorem t51 (a : Addr) (w : World) : (ReflectliteValue.methodAny (ReflectliteValue.valueError "reflectlite.Value.Type" 0) (fun t _ _ _ => ReflectliteType.toType t) #[.agg #[.pointer (some ⟨1, 144, none⟩), .pointer (some a), .int .u64 150]]).run Tryz.prog w
    = .ok (.iface 197 (.agg #[.pointer (some ⟨1, 144, none⟩)])) w := by kernel_rfl
theorem mKind (h : Value) (w : World) : (Go.method 392 197 (.agg #[h]) "Kind").run Tryz.prog w = .ok (190, h) w := by kernel_rfl
theorem mElem (h : Value) (w : World) : (Go.method 392 197 (.agg #[h]) "Elem").run Tryz.prog w = .ok (200, .agg #[h]) w := by kernel_rfl
theorem mImplements (h : Value) (w : World) : (Go.method 392 197 (.agg #[h]) "Implements").run Tryz.prog w = .ok (201, .agg #[h]) w := by kernel_rfl
theorem mAssignableTo (h : Value) (w : World) : (Go.method 392 197 (.agg #[h]) "AssignableTo").run Tryz.prog w = .ok (198, .agg #[h]) w := by kernel_rfl
theorem k51 (w : World) : ((ReflectliteType.abiMethod fun t => (fun a : Nat => Value.int IntKind.u8 (a : Int)) <$> Rtype.kind t) #[.pointer (some ⟨1, 144, none⟩)]).run Tryz.prog w = .ok (.int .u8 22) w := by kernel_rfl
theorem k46 (w : World) : ((ReflectliteType.abiMethod fun t => (fun a : Nat => Value.int IntKind.u8 (a : Int)) <$> Rtype.kind t) #[.pointer (some ⟨1, 139, none⟩)]).run Tryz.prog w = .ok (.int .u8 25) w := by kernel_rfl
theorem p51 (a : Addr) (w : World) : (ReflectliteValue.parts (.agg #[.pointer (some ⟨1, 144, none⟩), .pointer (some a), .int .u64 150])).run Tryz.prog w = .ok (some (144, a, 150)) w := by kernel_rfl
theorem isNil51 (a p : Addr) (W : World) (ha : W.cell? a = some (.pointer (some p))) :
    (ReflectliteValue.method (ReflectliteValue.valueError "reflectlite.Value.IsNil" 0) ReflectliteValue.isNil #[.agg #[.pointer (some ⟨1, 144, none⟩), .pointer (some a), .int .u64 150]]).run Tryz.prog W = .ok (.bool false) W := by
  change Sem.run Tryz.prog (ReflectliteValue.parts (.agg #[.pointer (some ⟨1, 144, none⟩), .pointer (some a), .int .u64 150]) >>= _) W = _
  rw [Sem.run_bind, p51]
  simp only [Result.andThen]
  simp [ReflectliteValue.isNil, loadVar, isAgg, underlying, Tryz.underlying144, ha, Result.andThen]
theorem elem51 (w : World) : (ReflectliteType.method ReflectliteType.elem #[.agg #[.pointer (some ⟨1, 144, none⟩)]]).run Tryz.prog w = .ok (.iface 197 (.agg #[.pointer (some ⟨1, 139, none⟩)])) w := by kernel_rfl
theorem impl46 (w : World) : (ReflectliteType.relation "Implements" ReflectliteType.implements_ #[.agg #[.pointer (some ⟨1, 139, none⟩)], .iface 197 (.agg #[.pointer (some ⟨1, 142, none⟩)])]).run Tryz.prog w = .ok (.bool true) w := by kernel_rfl
theorem typeOf46 (v : Value) (w : World) : (ReflectliteType.typeOf #[.iface 139 v]).run Tryz.prog w = .ok (.iface 197 (.agg #[.pointer (some ⟨1, 139, none⟩)])) w := by kernel_rfl
theorem assign46 (w : World) : (ReflectliteType.relation "AssignableTo" ReflectliteType.assignableTo #[.agg #[.pointer (some ⟨1, 139, none⟩)], .iface 197 (.agg #[.pointer (some ⟨1, 139, none⟩)])]).run Tryz.prog w = .ok (.bool true) w := by kernel_rfl
theorem v46 (a b c : Value) (w : World) : (ReflectliteValue.unpack (.iface 139 (.agg #[a, b, c]))).run Tryz.prog w
    = .ok (.agg #[.pointer (some ⟨1, 139, none⟩), .pointer (some ⟨w.heap.size, 0, none⟩), .int .u64 153]) (w.alloc (.cells #[a, b, c] 139)) := by kernel_rfl
theorem elemOf51 (w : World) : (Rtype.elem? 144).run Tryz.prog w = .ok (some 139) w := by kernel_rfl
theorem mk46 (p : Addr) (w : World) : (ReflectliteValue.mk 139 p ReflectliteValue.flagAddr).run Tryz.prog w = .ok (.agg #[.pointer (some ⟨1, 139, none⟩), .pointer (some p), .int .u64 409]) w := by kernel_rfl
theorem elemV51 (a p : Addr) (W : World) (ha : W.cell? a = some (.pointer (some p))) :
    (ReflectliteValue.method (ReflectliteValue.valueError "reflectlite.Value.Elem" 0) ReflectliteValue.elem #[.agg #[.pointer (some ⟨1, 144, none⟩), .pointer (some a), .int .u64 150]]).run Tryz.prog W
      = .ok (.agg #[.pointer (some ⟨1, 139, none⟩), .pointer (some p), .int .u64 409]) W := by
  change Sem.run Tryz.prog (ReflectliteValue.parts (.agg #[.pointer (some ⟨1, 144, none⟩), .pointer (some a), .int .u64 150]) >>= _) W = _
  rw [Sem.run_bind, p51]
  simp only [Result.andThen]
  simp [ReflectliteValue.elem, loadVar, isAgg, underlying, Tryz.underlying144, ha, Result.andThen, elemOf51, mk46]
theorem p46a (a : Addr) (w : World) : (ReflectliteValue.parts (.agg #[.pointer (some ⟨1, 139, none⟩), .pointer (some a), .int .u64 409])).run Tryz.prog w = .ok (some (139, a, 409)) w := by kernel_rfl
theorem p46 (a : Addr) (w : World) : (ReflectliteValue.parts (.agg #[.pointer (some ⟨1, 139, none⟩), .pointer (some a), .int .u64 153])).run Tryz.prog w = .ok (some (139, a, 153)) w := by kernel_rfl
theorem direct46 (w : World) : (Rtype.directlyAssignable 139 139).run Tryz.prog w = .ok true w := by kernel_rfl
theorem faultSize : (Tryz.prog.info? 139).map (·.size) = some 3 := by kernel_rfl
/-- (Value).Set: the fault at T gets what block b holds. -/
theorem set46 (T b : Nat) (old cs : Array Value) (W : World) (hb : W.heap[b]? = some (.cells cs 139 (0, 0))) (ht : W.heap[T]? = some (.cells old 139 (0, 0))) (ho : old.size = 3) (hc : cs.size = 3) (h1 : cs.all (·.oneCell') = true) :
    (ReflectliteValue.set #[.agg #[.pointer (some ⟨1, 139, none⟩), .pointer (some ⟨T, 0, none⟩), .int .u64 409], .agg #[.pointer (some ⟨1, 139, none⟩), .pointer (some ⟨b, 0, none⟩), .int .u64 153]]).run Tryz.prog W
      = .ok (.tuple #[]) (W.setRow T cs) := by
  have hl := run_loadVar_row (P := Tryz.prog) W b 139 139 cs (0, 0) _ hb Tryz.underlying139 rfl (by rw [faultSize, hc])
  have hs := run_storeVar_row (P := Tryz.prog) W T 139 139 old cs ht (by rw [faultSize, hc]) (by rw [ho, hc]) h1
  change Sem.run Tryz.prog (ReflectliteValue.parts (.agg #[.pointer (some ⟨1, 139, none⟩), .pointer (some ⟨T, 0, none⟩), .int .u64 409]) >>= fun r => ReflectliteValue.parts (.agg #[.pointer (some ⟨1, 139, none⟩), .pointer (some ⟨b, 0, none⟩), .int .u64 153]) >>= _) W = _
  rw [Sem.run_bind, p46a]
  simp only [Result.andThen]
  rw [Sem.run_bind, p46]
  simp only [Result.andThen]
  simp [ReflectliteValue.flagAddr, hl, Result.andThen, direct46, hs]
end Ck

theorem kas_nil (t : Value) (w : World) : Calls Tryz.prog 57 #[.nilIface, t] w fun e w' => e = .returned (.bool false) ∧ w' = w := by
  go_enter Tryz.func57, Tryz.ntmps57
  go_wp2
  go_ret
  exact ⟨rfl, rfl⟩
end Go.Proofs.YtepnofklmdofmaaGreatDoor
end

section
namespace Go.Proofs.YtepnofklmdofmaaGreatDoor
open Go.RowKit Go.Extern.Stop Go.Stop Go.Extern

set_option maxHeartbeats 4000000 in
theorem kas_run (x y z : Int) (T : Nat) (old : Array Value) (w : World) (hg : w.cell? ⟨0, 0, none⟩ = some (.iface 197 (.agg #[.pointer (some ⟨1, 142, none⟩)]))) (ht : w.heap[T]? = some (.cells old 139 (0, 0))) (ho : old.size = 3) :
    Calls Tryz.prog 57 #[.iface 139 (.agg #[.int .i64 x, .int .i64 y, .int .i64 z]), .iface 144 (.pointer (some ⟨T, 0, none⟩))] w fun ev w' => ev = .returned (.bool true) ∧
      w' = ((((w.alloc (.cells #[.pointer (some ⟨T, 0, none⟩)] 144)).alloc (.cells #[.pointer (some ⟨1, 144, none⟩), .pointer (some ⟨w.heap.size, 0, none⟩), .int .u64 150] 174)).alloc (.cells #[.pointer (some ⟨1, 144, none⟩), .pointer (some ⟨w.heap.size, 0, none⟩), .int .u64 150] 174)).alloc (.cells #[.int .i64 x, .int .i64 y, .int .i64 z] 139)).setRow T #[.int .i64 x, .int .i64 y, .int .i64 z] := by
  have h6 := @run_callFunc_extern Tryz.prog 87 _ (fun args => ReflectliteValue.unpack (args.getD 0 (.tuple #[]))) Tryz.func87 (by kernel_rfl) (by kernel_rfl) (by kernel_rfl) (by kernel_rfl)
  have h7 := @run_callFunc_extern Tryz.prog 88 _ (ReflectliteValue.methodAny (ReflectliteValue.valueError "reflectlite.Value.Type" 0) (fun t _ _ _ => ReflectliteType.toType t)) Tryz.func88 (by kernel_rfl) (by kernel_rfl) (by kernel_rfl) (by kernel_rfl)
  have h8 := @run_callFunc_extern Tryz.prog 89 _ (ReflectliteValue.method (ReflectliteValue.valueError "reflectlite.Value.IsNil" 0) ReflectliteValue.isNil) Tryz.func89 (by kernel_rfl) (by kernel_rfl) (by kernel_rfl) (by kernel_rfl)
  have h27 := @run_callFunc_extern Tryz.prog 190 _ (ReflectliteType.abiMethod fun t => do pure (.int .u8 (← Rtype.kind t))) Tryz.func190 (by kernel_rfl) (by kernel_rfl) (by kernel_rfl) (by kernel_rfl)
  have h37 := @run_callFunc_extern Tryz.prog 200 _ (ReflectliteType.method ReflectliteType.elem) Tryz.func200 (by kernel_rfl) (by kernel_rfl) (by kernel_rfl) (by kernel_rfl)
  have h38 := @run_callFunc_extern Tryz.prog 201 _ (ReflectliteType.relation "Implements" ReflectliteType.implements_) Tryz.func201 (by kernel_rfl) (by kernel_rfl) (by kernel_rfl) (by kernel_rfl)
  have h10 := @run_callFunc_extern Tryz.prog 107 _ ReflectliteType.typeOf Tryz.func107 (by kernel_rfl) (by kernel_rfl) (by kernel_rfl) (by kernel_rfl)
  have h35 := @run_callFunc_extern Tryz.prog 198 _ (ReflectliteType.relation "AssignableTo" ReflectliteType.assignableTo) Tryz.func198 (by kernel_rfl) (by kernel_rfl) (by kernel_rfl) (by kernel_rfl)
  have h11 := @run_callFunc_extern Tryz.prog 108 _ (ReflectliteValue.method (ReflectliteValue.valueError "reflectlite.Value.Elem" 0) ReflectliteValue.elem) Tryz.func108 (by kernel_rfl) (by kernel_rfl) (by kernel_rfl) (by kernel_rfl)
  have h12 := @run_callFunc_extern Tryz.prog 109 _ ReflectliteValue.set Tryz.func109 (by kernel_rfl) (by kernel_rfl) (by kernel_rfl) (by kernel_rfl)
  have tO := Ck.typeOf46
  have mA := Ck.mAssignableTo
  have a46 := Ck.assign46
  have v46 := Ck.v46
  have f6 := Ck.v51
  have f7 := Ck.t51
  have mK := Ck.mKind
  have mE := Ck.mElem
  have mI := Ck.mImplements
  have k51 := Ck.k51
  have k46 := Ck.k46
  have e51 := Ck.elem51
  have i46 := Ck.impl46
  obtain ⟨A1, hA1⟩ : ∃ A1, A1 = w.alloc (.cells #[.pointer (some ⟨T, 0, none⟩)] 144) := ⟨_, rfl⟩
  have hT : T < w.heap.size := Cd.ltH ht
  have hlt : 0 < w.heap.size := by omega
  have n8 := Ck.isNil51 ⟨w.heap.size, 0, none⟩ ⟨T, 0, none⟩ ((w.alloc (.cells #[.pointer (some ⟨T, 0, none⟩)] 144)).alloc (.cells #[.pointer (some ⟨1, 144, none⟩), .pointer (some ⟨w.heap.size, 0, none⟩), .int .u64 150] 174)) (by simp)
  have hg2 : ((w.alloc (.cells #[.pointer (some ⟨T, 0, none⟩)] 144)).alloc (.cells #[.pointer (some ⟨1, 144, none⟩), .pointer (some ⟨w.heap.size, 0, none⟩), .int .u64 150] 174)).cell? ⟨0, 0, none⟩ = some (.iface 197 (.agg #[.pointer (some ⟨1, 142, none⟩)])) := by
    rw [World.cell?_alloc_lt _ _ ⟨0, 0, none⟩ (by simp), World.cell?_alloc_lt _ _ ⟨0, 0, none⟩ hlt]; exact hg
  have el := Ck.elemV51 ⟨w.heap.size, 0, none⟩ ⟨T, 0, none⟩ (((w.alloc (.cells #[.pointer (some ⟨T, 0, none⟩)] 144)).alloc (.cells #[.pointer (some ⟨1, 144, none⟩), .pointer (some ⟨w.heap.size, 0, none⟩), .int .u64 150] 174)).alloc (.cells #[.pointer (some ⟨1, 144, none⟩), .pointer (some ⟨w.heap.size, 0, none⟩), .int .u64 150] 174)) (by rw [World.cell?_alloc_lt _ _ ⟨w.heap.size, 0, none⟩ (by simp; omega), World.cell?_alloc_lt _ _ ⟨w.heap.size, 0, none⟩ (by simp)]; simp)
  have st := Ck.set46 T (w.heap.size + 1 + 1 + 1) old #[.int .i64 x, .int .i64 y, .int .i64 z] ((((w.alloc (.cells #[.pointer (some ⟨T, 0, none⟩)] 144)).alloc (.cells #[.pointer (some ⟨1, 144, none⟩), .pointer (some ⟨w.heap.size, 0, none⟩), .int .u64 150] 174)).alloc (.cells #[.pointer (some ⟨1, 144, none⟩), .pointer (some ⟨w.heap.size, 0, none⟩), .int .u64 150] 174)).alloc (.cells #[.int .i64 x, .int .i64 y, .int .i64 z] 139))
    (by
      have h := heap_alloc_new (((w.alloc (.cells #[.pointer (some ⟨T, 0, none⟩)] 144)).alloc (.cells #[.pointer (some ⟨1, 144, none⟩), .pointer (some ⟨w.heap.size, 0, none⟩), .int .u64 150] 174)).alloc (.cells #[.pointer (some ⟨1, 144, none⟩), .pointer (some ⟨w.heap.size, 0, none⟩), .int .u64 150] 174)) (.cells #[.int .i64 x, .int .i64 y, .int .i64 z] 139)
      simpa using h)
    (by
      rw [Below.heap_alloc _ _ _ (by simp; omega), Below.heap_alloc _ _ _ (by simp; omega), Below.heap_alloc _ _ _ (by simp; omega), Below.heap_alloc _ _ _ hT]
      exact ht)
    ho rfl (by simp [Value.oneCell'])
  clear hA1 A1
  go_enter Tryz.func57, Tryz.ntmps57
  go_wp2
  refine wp_loop_rounds 1 ?_
  rw [rounds_succ]
  go_wp2
  go_ret
  exact ⟨rfl, rfl⟩
end Go.Proofs.YtepnofklmdofmaaGreatDoor
end

section
namespace Go.Proofs.YtepnofklmdofmaaGreatDoor
open Go.RowKit

namespace Ck
/-- What the program's text lays of errors' own variable. -/
def Laid (w : World) : Prop := w.cell? ⟨0, 0, none⟩ = some (.iface 197 (.agg #[.pointer (some ⟨1, 142, none⟩)]))
theorem Laid.pos {w : World} (h : Laid w) : 0 < w.heap.size := by
  rcases Nat.eq_zero_or_pos w.heap.size with h0 | h0
  · unfold Laid at h
    simp [World.cell?, h0] at h
  · exact h0
theorem Laid.later {w w' : World} (h : Laid w) (hb : Below w.heap.size w w') : Laid w' := (World.cell?_of_block (hb.block 0 h.pos)).trans h
theorem fnsE_zero {p l : List Cd.FnV} {j : Nat} (h : (fnsE p l j).1 = 0) : fnsE p l j = (0, 0, 0) := by
  induction l generalizing j with
  | nil => rfl
  | cons f l ih =>
    unfold fnsE at h ⊢
    split at h
    · rename_i h0
      rw [if_pos h0]
      exact ih h
    · rename_i h0
      exact absurd h h0
theorem chk_zero {p : List Cd.FnV} (h : (chk p).1 = 0) : chk p = (0, 0, 0) := by
  unfold chk at h ⊢
  split at h
  · rename_i h0
    rw [if_pos h0]
    split at h
    · cases (show (110 : Nat) = 0 from h)
    · rename_i h1
      rw [if_neg h1]
      exact fnsE_zero h
  · cases (show (8 : Nat) = 0 from h)
end Ck

set_option maxHeartbeats 1000000 in
set_option maxRecDepth 20000 in
theorem kMay (A : Option Addr) (c : Nat) (l : List Cd.Fm) (w : World) (hR : ∀ m ∈ l, m.f.Rng) (hn : l.length ≤ maxLen) (hP : Cd.Prog w w.heap.size A l) (hL : Ck.Laid w) :
    Calls Tryz.prog 39 #[.agg #[.slice A l.length c]] w fun e w' => e = .returned (.tuple #[.int .i64 ((Ck.chk (Cd.fns l)).1 : Int), .int .i64 ((Ck.chk (Cd.fns l)).2.1 : Int), .int .i64 ((Ck.chk (Cd.fns l)).2.2 : Int)]) ∧ Below w.heap.size w w' := by
  obtain ⟨V, hV⟩ : ∃ V, V = w.alloc (.cells #[.slice A l.length c] 24) := ⟨_, rfl⟩
  obtain ⟨W, hW⟩ : ∃ W, W = V.alloc (.cells #[.int .i64 0, .int .i64 0, .int .i64 0] 139) := ⟨_, rfl⟩
  have hVs : V.heap.size = w.heap.size + 1 := by rw [hV]; simp
  have hb1 : Below w.heap.size w V := by rw [hV]; exact Cd.fn1 _ _ _
  have hb2 : Below V.heap.size V W := by rw [hW]; exact Cd.fn1 _ _ _
  have hb : Below w.heap.size w W := hb1.trans (hb2.mono hb1.size)
  have hX : W.heap[w.heap.size]? = some (.cells #[.slice A l.length c] 24 (0, 0)) := by rw [hb2.block _ (by omega), hV]; exact heap_alloc_new w _
  have hT : W.heap[w.heap.size + 1]? = some (.cells #[.int .i64 0, .int .i64 0, .int .i64 0] 139 (0, 0)) := by rw [← hVs, hW]; exact heap_alloc_new V _
  have HB := Lib.hid hb
  have HT := Lib.hid hT
  have HL := Lib.hid (hL.later hb)
  have p0 : W.cell? ⟨w.heap.size, 0, none⟩ = some (.slice A l.length c) := cell_of_row _ _ 0 _ _ _ hX
  have HC := Lib.hid (kwrong A c l W hR hn ((hP.below hb).mono hb.size))
  have HZ : Hid ((Ck.chk (Cd.fns l)).1 = 0 → Ck.chk (Cd.fns l) = (0, 0, 0)) := fun h => Ck.chk_zero h
  generalize Ck.chk (Cd.fns l) = x at HC HZ ⊢
  obtain ⟨e, i, k⟩ := x
  dsimp only
  clear hb1 hb2 hb hX hT hL hP hR hn
  go_enter Tryz.func39, Tryz.ntmps39
  go_upto_region 2 with fail
  rw [← hV, ← hVs, ← hW, hVs]
  clear hV hW hVs
  obtain ⟨T, hTe⟩ : ∃ T, T = w.heap.size + 1 := ⟨_, rfl⟩
  rw [← hTe] at HT ⊢
  have HTE := Lib.hid hTe
  clear hTe
  by_cases he : e = 0
  · subst he
    have hz := HZ.out rfl
    simp only [Prod.mk.injEq] at hz
    obtain ⟨-, rfl, rfl⟩ := hz
    have HC2 : Hid (Calls Tryz.prog 58 #[.agg #[.slice A l.length c]] W fun e w' => e = .returned .nilIface ∧ Below W.heap.size W w') := HC.out
    clear HC
    go_wp2_with fail
    refine HC2.out.mono ?_
    rintro e2 w3 ⟨rfl, hb3⟩
    have H3 := Lib.hid (HB.out.trans (hb3.mono HB.out.size))
    clear hb3 p0 HC2
    go_wp2_with fail
    refine (kas_nil _ _).mono ?_
    rintro e4 w4 ⟨rfl, rfl⟩
    go_wp2_with fail
    go_ret3
    exact ⟨rfl, H3.out⟩
  · have HV := Lib.hid (Ck.errV_fault e i k he)
    rw [HV.out] at HC
    clear HV
    go_wp2_with fail
    refine HC.out.mono ?_
    rintro e2 w3 ⟨rfl, hb3⟩
    have H3 := Lib.hid hb3
    have HT3 := Lib.hid ((hb3.block T (Cd.ltH HT.out)).trans HT.out)
    have HAS := Lib.hid (kas_run (e : Int) (i : Int) (k : Int) T _ w3 (HL.out.later hb3) HT3.out rfl)
    clear hb3 p0 HC
    go_wp2_with fail
    refine HAS.out.mono ?_
    rintro e4 w4 ⟨rfl, hw4⟩
    have hrow : w4.heap[T]? = some (.cells #[.int .i64 (e : Int), .int .i64 (i : Int), .int .i64 (k : Int)] 139 (0, 0)) := by
      rw [hw4]
      refine setRow_heap _ T #[.int .i64 0, .int .i64 0, .int .i64 0] _ _ _ ?_
      have hlt := Cd.ltH HT3.out
      rw [Below.heap_alloc _ _ _ (by simp; omega), Below.heap_alloc _ _ _ (by simp; omega), Below.heap_alloc _ _ _ (by simp; omega), Below.heap_alloc _ _ _ hlt]
      exact HT3.out
    have hbl : Below w.heap.size w w4 := by
      rw [hw4]
      have h0 := HB.out.trans (H3.out.mono HB.out.size)
      have h1 := h0.alloc h0.size (.cells #[.pointer (some ⟨T, 0, none⟩)] 144)
      have h2 := h1.alloc h1.size (.cells #[.pointer (some ⟨1, 144, none⟩), .pointer (some ⟨w3.heap.size, 0, none⟩), .int .u64 150] 174)
      have h3 := h2.alloc h2.size (.cells #[.pointer (some ⟨1, 144, none⟩), .pointer (some ⟨w3.heap.size, 0, none⟩), .int .u64 150] 174)
      have h4 := h3.alloc h3.size (.cells #[.int .i64 (e : Int), .int .i64 (i : Int), .int .i64 (k : Int)] 139)
      exact Cd.row_below h4 (by have := HTE.out; omega) _
    have HBL := Lib.hid hbl
    have q0 : w4.cell? ⟨T, 0, none⟩ = some (.int .i64 (e : Int)) := cell_of_row _ _ 0 _ _ _ hrow
    have q1 : w4.cell? ⟨T, 1, none⟩ = some (.int .i64 (i : Int)) := cell_of_row _ _ 1 _ _ _ hrow
    have q2 : w4.cell? ⟨T, 2, none⟩ = some (.int .i64 (k : Int)) := cell_of_row _ _ 2 _ _ _ hrow
    clear hw4 hrow hbl HAS
    go_upto_region 3 with fail
    go_region
    all_goals
      go_wp2_with fail
      go_ret3
      exact ⟨rfl, HBL.out.drew⟩

namespace Ck
/-- What Input tells. -/
def inp (p : List Cd.FnV) (n : Nat) : Nat := if (chk p).1 = 0 then (if (p[0]?.getD default).args = (n : Int) then 0 else 114) else (chk p).1
theorem chk_some {p : List Cd.FnV} (h : (chk p).1 = 0) : 0 < p.length ∧ Cd.pok p = true := by
  unfold chk at h
  split at h
  · rename_i h0
    split at h
    · cases (show (110 : Nat) = 0 from h)
    · rename_i h1
      exact ⟨List.length_pos_iff.2 h1, h0⟩
  · cases (show (8 : Nat) = 0 from h)
end Ck

set_option maxHeartbeats 1000000 in
set_option maxRecDepth 20000 in
theorem kInput (A : Option Addr) (c : Nat) (l : List Cd.Fm) (w : World) (hR : ∀ m ∈ l, m.f.Rng) (hn : l.length ≤ maxLen) (hP : Cd.Prog w w.heap.size A l) (hL : Ck.Laid w) (A2 : Option Addr) (n c2 : Nat) (_hn2 : n ≤ maxLen) :
    Calls Tryz.prog 36 #[.agg #[.slice A l.length c], .slice A2 n c2] w fun e w' => e = .returned (.int .i64 (Ck.inp (Cd.fns l) n : Int)) ∧ Below w.heap.size w w' := by
  unfold maxLen at _hn2
  obtain ⟨W, hW⟩ : ∃ W, W = w.alloc (.cells #[.slice A l.length c] 24) := ⟨_, rfl⟩
  have hb : Below w.heap.size w W := by rw [hW]; exact Cd.fn1 _ _ _
  have hX : Cd.PBlk W w.heap.size (.slice A l.length c) := by show W.heap[_]? = _; rw [hW]; exact heap_alloc_new w _
  have HB := Lib.hid hb
  have HX := Lib.hid hX
  have p0 := hX.c0
  have HP := Lib.hid ((hP.below hb).mono hb.size)
  have HC := Lib.hid (kMay A c l W hR hn HP.out (hL.later hb))
  have HIN : Hid (Ck.inp (Cd.fns l) n = if (Ck.chk (Cd.fns l)).1 = 0 then (if ((Cd.fns l)[0]?.getD default).args = (n : Int) then 0 else 114) else (Ck.chk (Cd.fns l)).1) := rfl
  have HPS : Hid ((Ck.chk (Cd.fns l)).1 = 0 → 0 < l.length) := fun h => by rw [← Cd.fns_len l]; exact (Ck.chk_some h).1
  generalize Ck.inp (Cd.fns l) n = r at HIN ⊢
  generalize Ck.chk (Cd.fns l) = x at HC HIN HPS
  obtain ⟨e, i, k⟩ := x
  dsimp only at HC HIN HPS
  clear hb hX hP hL hR hn
  go_enter Tryz.func36, Tryz.ntmps36
  go_upto_region 1 with fail
  rw [← hW]
  clear hW
  obtain ⟨X, hXe⟩ : ∃ X, X = w.heap.size := ⟨_, rfl⟩
  rw [← hXe] at HX p0 ⊢
  clear hXe
  go_wp2_with fail
  refine HC.out.mono ?_
  rintro e2 w2 ⟨rfl, hb2⟩
  have H2 := Lib.hid hb2
  have p0 := (HX.out.of_block (hb2.block _ HX.out.lt)).c0
  clear hb2 HC
  by_cases he : e = 0
  · subst he
    have hl0 := HPS.out rfl
    have HR2 : Hid (r = if ((Cd.fns l)[0]?.getD default).args = (n : Int) then 0 else 114) := HIN.out.trans (if_pos rfl)
    obtain ⟨ad, rfl, -, d0, -, -⟩ := Cd.fn_at ((HP.out.below H2.out).mono H2.out.size).fs hl0
    have ea : ((Cd.fns l)[0]?.getD default).args = l[0].f.args := by unfold Cd.fns; rw [List.getElem?_map, List.getElem?_eq_getElem hl0]; rfl
    have i1 : (0 : Int) < (l.length : Int) := by omega
    have HR3 : Hid (r = if l[0].f.args = (n : Int) then 0 else 114) := by have := HR2.out; rwa [ea] at this
    have d0' : w2.cell? ad = some (.int .i64 l[0].f.args) := d0
    generalize l[0].f.args = a at d0 d0' HR3
    clear HR2 ea HIN HPS hl0
    by_cases ha : a = (n : Int)
    · have HE : Hid (r = 0) := HR3.out.trans (if_pos ha)
      have hab : ((n : Int) != a) = false := by simp; omega
      clear ha HR3
      go_wp2_with fail
      go_ret
      exact ⟨by rw [HE.out]; rfl, HB.out.trans (H2.out.mono HB.out.size)⟩
    · have HE : Hid (r = 114) := HR3.out.trans (if_neg ha)
      have hab : ((n : Int) != a) = true := by simp; omega
      clear ha HR3
      go_wp2_with fail
      go_ret
      exact ⟨by rw [HE.out]; rfl, HB.out.trans (H2.out.mono HB.out.size)⟩
  · have HE : Hid (r = e) := HIN.out.trans (if_neg he)
    have hei : ((e : Int) != 0) = true := by simpa using (by omega : ¬ (e : Int) = 0)
    clear he HIN HPS
    go_wp2_with fail
    go_ret
    exact ⟨by rw [HE.out]; rfl, HB.out.trans (H2.out.mono HB.out.size)⟩
end Go.Proofs.YtepnofklmdofmaaGreatDoor
end
