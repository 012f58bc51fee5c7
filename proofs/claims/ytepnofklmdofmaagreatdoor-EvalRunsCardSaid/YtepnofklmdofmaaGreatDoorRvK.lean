/-
  Layer 13: the document's Kid: the child that a fork begins, or why there is none.
-/
import Derived.Test.YtepnofklmdofmaaGreatDoorLowRvI
import Derived.Test.YtepnofklmdofmaaGreatDoorLowBr
import Derived.Deep.RegionHeld3
import Derived.BigQuiet
import Derived.StillTailTactics
namespace Go.Proofs.YtepnofklmdofmaaGreatDoor
open Go.RowKit

namespace Ev
def kargs (p : List Cd.FnV) (s : St) (o : Cd.OpV) : List Int := (s.regs.drop o.a.toNat).take (Ck.argN p o).toNat
def rforkS (s : St) (o : Cd.OpV) (r : Res) : St := { s with left := s.left - s.left / 2, kids := s.kids + 1, wts := s.wts ++ [(o.d, r)] }
def noTask : Value := .agg #[.string ⟨#[]⟩, .int .i64 0, .slice none 0 0, .int .i64 0]
/-- What Kid answers, and what it leaves. -/
def RKidP (B R : Nat) (F u v : Value) (t : Tsk) (A : Option Addr) (c : Nat) (js : List Int) (ds : List Dm) (s : St) (p : List Cd.FnV) (o : Cd.OpV) (w : World) (e : Ending) (w' : World) : Prop :=
  (16 ≤ s.kids ∧ e = .returned (.tuple #[noTask, .int .i64 132]) ∧ Below w.heap.size w w') ∨
  (s.kids < 16 ∧ Br.kidOk t.path ((s.kids : Int) + 1) = false ∧ e = .returned (.tuple #[noTask, .int .i64 133]) ∧ Below w.heap.size w w') ∨
  (s.kids < 16 ∧ Br.kidOk t.path ((s.kids : Int) + 1) = true ∧ ∃ (A2 : Option Addr) (c2 : Nat) (u' : Value),
    e = .returned (.tuple #[.agg #[.string (Br.kidT t.path ((s.kids : Int) + 1)), .int .i64 o.n, .slice A2 (kargs p s o).length c2, .int .i64 ((s.left / 2 : Nat) : Int)], .int .i64 0]) ∧
    Lies w' w'.heap.size A2 (icells (kargs p s o)) ∧ (∀ q, A2 = some q → ROff B R u' v q.block ∧ w.heap.size ≤ q.block) ∧ (∀ r, Rn B R F u' v t A c js ds (rforkS s o r) w') ∧ Gm.Mvg (ROff B R u v) (ROff B R u' v) w w')
/-- The op and the child, each in a block of its own. -/
structure KBlk (w : World) (O Y : Nat) (o : Cd.OpV) (W : World) : Prop where
  oo : W.heap[O]? = some (.cells #[.int .u8 (o.k : Int), .int .i64 o.d, .int .i64 o.a, .int .i64 o.b, .int .i64 o.n] 72 (0, 0))
  yy : W.heap[Y]? = some (.cells #[.string ⟨#[]⟩, .int .i64 0, .slice none 0 0, .int .i64 0] 41 (0, 0))
  ho : w.heap.size ≤ O
  hy : w.heap.size ≤ Y
  ne : O ≠ Y
  bel : Below w.heap.size w W
theorem KBlk.below {w W W' : World} {O Y : Nat} {o : Cd.OpV} (h : KBlk w O Y o W) (hb : Below W.heap.size W W') : KBlk w O Y o W' :=
  ⟨(hb.block _ (Cd.ltH h.oo)).trans h.oo, (hb.block _ (Cd.ltH h.yy)).trans h.yy, h.ho, h.hy, h.ne, h.bel.trans (hb.mono h.bel.size)⟩
theorem KBlk.first (w : World) (o : Cd.OpV) : KBlk w w.heap.size (w.heap.size + 1) o ((w.alloc (.cells #[.int .u8 (o.k : Int), .int .i64 o.d, .int .i64 o.a, .int .i64 o.b, .int .i64 o.n] 72)).alloc (.cells #[.string ⟨#[]⟩, .int .i64 0, .slice none 0 0, .int .i64 0] 41)) := by
  refine ⟨?_, ?_, Nat.le_refl _, by omega, by omega, (Cd.fn1 _ _ _).alloc (by simp) _⟩
  · rw [Below.heap_alloc _ _ _ (by simp)]
    exact heap_alloc_new _ _
  · have := heap_alloc_new (w.alloc (.cells #[.int .u8 (o.k : Int), .int .i64 o.d, .int .i64 o.a, .int .i64 o.b, .int .i64 o.n] 72)) (.cells #[.string ⟨#[]⟩, .int .i64 0, .slice none 0 0, .int .i64 0] 41)
    simpa using this
theorem KBlk.cells {w W : World} {O Y : Nat} {o : Cd.OpV} (h : KBlk w O Y o W) : (W.cell? ⟨O, 1, none⟩ = some (.int .i64 o.d) ∧ W.cell? ⟨O, 2, none⟩ = some (.int .i64 o.a) ∧ W.cell? ⟨O, 4, none⟩ = some (.int .i64 o.n)) ∧
    W.cell? ⟨Y, 0, none⟩ = some (.string ⟨#[]⟩) ∧ W.cell? ⟨Y, 1, none⟩ = some (.int .i64 0) ∧ W.cell? ⟨Y, 2, none⟩ = some (.slice none 0 0) ∧ W.cell? ⟨Y, 3, none⟩ = some (.int .i64 0) ∧
    W.frozen? ⟨Y, 0, none⟩ = false ∧ W.frozen? ⟨Y, 1, none⟩ = false ∧ W.frozen? ⟨Y, 2, none⟩ = false ∧ W.frozen? ⟨Y, 3, none⟩ = false :=
  ⟨⟨cell_of_row _ _ 1 _ _ _ h.oo, cell_of_row _ _ 2 _ _ _ h.oo, cell_of_row _ _ 4 _ _ _ h.oo⟩, cell_of_row _ _ 0 _ _ _ h.yy, cell_of_row _ _ 1 _ _ _ h.yy, cell_of_row _ _ 2 _ _ _ h.yy, cell_of_row _ _ 3 _ _ _ h.yy,
    frozen_of_row _ _ 0 _ _ h.yy, frozen_of_row _ _ 1 _ _ h.yy, frozen_of_row _ _ 2 _ _ h.yy, frozen_of_row _ _ 3 _ _ h.yy⟩
/-- append(nil, xs...) at a list of operations. -/
theorem kpush {ops : Array Oper} {rest : List Oper} {oo : Oper} {a : Act} {U : World} {Q : Exit → Act → World → Prop} (hgd : oo.guard = none) (s x : Operand)
    (hop : oo.op = .call { callee := .builtin .append, args := #[s, x], argTypes := #[25, 25] }) (hs : a.eval s = .slice none 0 0) (ad : Addr) (m c : Nat) (hx : a.eval x = .slice (some ad) m c) (xs : List Int) (hl : xs.length = m) (hm : 0 < m) (hm2 : m ≤ 1000)
    (hc : ∀ j u, (icells xs)[j]? = some u → U.cell? (ad.add j) = some u)
    (h : ∀ cap w', w'.ownsRow 0 2 1 (.slice (some ⟨U.heap.size, 0, none⟩) xs.length cap) xs.length (icells xs) → Below U.heap.size U w' → wpList Tryz.prog ops Q rest (a.put oo.dst (.slice (some ⟨U.heap.size, 0, none⟩) xs.length cap)) w') :
    wpList Tryz.prog ops Q (oo :: rest) a U := by
  obtain ⟨i, hi, hz⟩ := Option.map_eq_some_iff.1 i64_info
  simp only [Prod.mk.injEq] at hz
  obtain ⟨z1, z2, z3⟩ := hz
  refine wpList_append_lies _ hgd s x 25 hop 0 2 i (.int .i64 0) 1 8 Tryz.underlying25 hi z1 z2 z3 rfl (by decide) (.slice none 0 0) 0 [] hs (World.ownsRow_nil _ _ _ _) ad m c (icells xs) hx (by unfold icells; simp; omega) hc
    (fun u hu => by unfold icells at hu; obtain ⟨z, _, rfl⟩ := List.mem_map.1 hu; rfl) hm (by unfold maxLen; omega) (by omega) (Nat.zero_le _) U.heap.size rfl ?_
  intro g cap w' h1 h2 h3 _
  rcases h3 with e | rfl
  · cases e
  · rw [Nat.zero_add, List.nil_append, ← hl] at h1
    rw [Nat.zero_add, ← hl]
    exact h cap w' h1 ((Below.refl _ _).grown h2 (Nat.le_refl _) (fun k hk => by cases hk))
/-- append(l, x) of a fork's register, at a step of a region that draws. -/
theorem ustep13 {ops : Array Oper} {oo : Oper} {a : Act} {U : World} {K : Act → World → Prop} {Q : Exit → Act → World → Prop} {E : Prop} {T1 : TypeId} {n b : Nat} {v : Value} {xs : List Value}
    (hrow : U.ownsRow 0 3 1 v n xs) (hgd : oo.guard = none) (s x : Operand)
    (hop : oo.op = .call { callee := .builtin .append, args := #[s, x], argTypes := #[75, 75] }) (hs : a.eval s = v) (hx : a.eval x = .slice (some ⟨b, 0, none⟩) 1 1) (z : Int) (hb : U.heap[b]? = some (.cells #[.int .i64 z] T1 (0, 0))) (hn : n ≤ 100000)
    (h : ∀ g cap w', w'.ownsRow 0 3 1 (.slice (some ⟨g, 0, none⟩) (n + 1) cap) (n + 1) (xs ++ icells [z]) → U.grownBy w' v.ownBlock → (v.ownBlock = some g ∨ g = U.heap.size) → K (a.put oo.dst (.slice (some ⟨g, 0, none⟩) (n + 1) cap)) w') :
    if Region.wanted oo (yielded ops a.tmps) = true then Oper.wp Tryz.prog oo a U K Q else E := by
  obtain ⟨i, hi, hz⟩ := Option.map_eq_some_iff.1 Ck.intInfo
  simp only [Prod.mk.injEq] at hz
  obtain ⟨z1, z2, z3⟩ := hz
  refine step_append_lies _ hgd s x 75 hop 0 3 i (.int .i64 0) 1 8 Tryz.underlying75 hi z1 z2 z3 rfl (by decide) v n xs hs hrow ⟨b, 0, none⟩ 1 1 (icells [z]) hx rfl
    (fun j u hu => World.news_of_block hb j u hu) (by simp [icells, Value.oneCell']) (by decide) (by unfold maxLen; omega) (by omega) (Nat.zero_le _) U.heap.size rfl ?_
  intro g cap w' h1 h2 h3 _
  exact h g cap w' h1 h2 h3
/-- A fork's register more. -/
theorem Rn.pushU {B R : Nat} {F u v u' : Value} {t : Tsk} {A : Option Addr} {c : Nat} {js : List Int} {ds : List Dm} {s : St} {w w2 : World} {d : Int} (h : Rn B R F u v t A c js ds s w) (hrow : w2.ownsRow 0 3 1 u' ((into js s).length + 1) (icells (into js s) ++ icells [d])) (hgr : w.grownBy w2 u.ownBlock) (hbl : ∀ i, u'.ownBlock = some i → u.ownBlock = some i ∨ w.heap.size ≤ i) :
    (∀ r, Rn B R F u' v t A c js ds { s with wts := s.wts ++ [(d, r)] } (w2.setCell ⟨B, 10, none⟩ u')) ∧ Gm.Mvg (ROff B R u v) (ROff B R u' v) w (w2.setCell ⟨B, 10, none⟩ u') := by
  have hk : ∀ i, i < w.heap.size → i ≠ B → some i ≠ u.ownBlock → (w2.setCell ⟨B, 10, none⟩ u').heap[i]? = w.heap[i]? := fun i hi hn hv => (Below.heap_setCell _ _ _ _ hn).trans (hgr.block i hi hv)
  have hB : w2.heap[B]? = some (.cells (rcs F R u v t A c js s) 77 (0, 0)) := (hgr.block B h.ltB fun e => h.nu e.symm).trans h.obj
  have nuB : u'.ownBlock ≠ some B := fun e => by
    rcases hbl B e with e | e
    · exact h.nu e
    · have := h.ltB; omega
  have nuR : u'.ownBlock ≠ some R := fun e => by
    rcases hbl R e with e | e
    · exact h.nr e
    · have := h.ltR; omega
  refine ⟨fun r => ⟨?_, (hk R h.ltR h.ne fun e => h.nr e.symm).trans h.regs, ?_, Gm.ownsKeep h.rowv fun i hi => hk i (h.rowv.lt i hi).2 (fun e => h.nv (by rw [hi, e])) fun e => h.uv i e.symm hi, h.told, h.ne, nuB, nuR, h.nv, h.nw, fun i hi e => ?_⟩, hgr.os, hgr.tape, hgr.output, Nat.le_trans hgr.size (by simp [World.setCell]), fun i hi ho => hk i hi ho.1 ho.2.2.1, fun i hi ho => ⟨ho.1, ho.2.1, fun e => ?_, ho.2.2.2⟩⟩
  · rw [heap_setCell_same _ _ _ _ _ _ hB]
    rfl
  · have e : into js { s with wts := s.wts ++ [(d, r)] } = into js s ++ [d] := by unfold into; simp
    rw [e, List.length_append]
    have e2 : icells (into js s ++ [d]) = icells (into js s) ++ icells [d] := by unfold icells; simp
    rw [e2]
    exact Gm.ownsKeep hrow fun i hi => Below.heap_setCell _ _ _ _ fun e => nuB (by rw [hi, e])
  · rcases hbl i hi with e2 | e2
    · exact h.uv i e2 e
    · have := (h.rowv.lt i e).2; omega
  · rcases hbl i e.symm with e2 | e2
    · exact ho.2.2.1 e2.symm
    · omega
theorem belDNr {B : Nat} {a w : World} (h : Below B a w) (n : Nat) : Below B a (w.drewN n) := ⟨h.os, h.tape, h.output, h.size, h.block⟩
theorem two_below {w w' : World} {a b : Addr} {x y : Value} (hb : Below w.heap.size w w') (h : w.cell? a = some x ∧ w.cell? b = some y) : w'.cell? a = some x ∧ w'.cell? b = some y :=
  ⟨(hb.cell (World.block_lt_of_cell? w a h.1)).trans h.1, (hb.cell (World.block_lt_of_cell? w b h.2)).trans h.2⟩
end Ev

set_option maxHeartbeats 2000000 in
set_option maxRecDepth 20000 in
theorem rkid_none {B R : Nat} {F u v : Value} {t : Ev.Tsk} {A : Option Addr} {c : Nat} {js : List Int} {ds : List Ev.Dm} {s : Ev.St} {w : World} (h : Ev.Rn B R F u v t A c js ds s w) (p : List Cd.FnV) (o : Cd.OpV) (hk : 16 ≤ s.kids) :
    Calls Tryz.prog 54 #[.pointer (some ⟨B, 0, none⟩), .agg #[.int .u8 (o.k : Int), .int .i64 o.d, .int .i64 o.a, .int .i64 o.b, .int .i64 o.n]] w (Ev.RKidP B R F u v t A c js ds s p o w) := by
  have hB := Ev.KBlk.first w o
  obtain ⟨W, hW⟩ : ∃ W, W = ((w.alloc (.cells #[.int .u8 (o.k : Int), .int .i64 o.d, .int .i64 o.a, .int .i64 o.b, .int .i64 o.n] 72)).alloc (.cells #[.string ⟨#[]⟩, .int .i64 0, .slice none 0 0, .int .i64 0] 41)) := ⟨_, rfl⟩
  rw [← hW] at hB
  have b8 : W.cell? ⟨B, 8, none⟩ = some (.int .i64 (s.kids : Int)) := (h.below hB.bel).cell 8
  have k1 : (16 : Int) ≤ (s.kids : Int) := by omega
  obtain ⟨-, y0, y1, y2, y3, yf0, yf1, yf2, yf3⟩ := hB.cells
  have HI : Hid ((Tryz.prog.info? 41).map (·.size) = some 4) := Ev.task_size
  have HK := Lib.hid hk
  have HB := Lib.hid hB
  have HY := Lib.hid (Ev.set4_heap (x := .string ⟨#[]⟩) (y := .int .i64 0) (z := .slice none 0 0) (u := .int .i64 0) hB.yy)
  have HW1 := Lib.hid (Ev.set4_below (x := .string ⟨#[]⟩) (y := .int .i64 0) (z := .slice none 0 0) (u := .int .i64 0) hB.bel hB.hy)
  clear h hB hk
  go_enter Tryz.func54, Tryz.ntmps54
  go_upto_region 1 with fail
  try rw [← hW]
  clear hW
  go_wp2_with fail
  refine bodyPost_ret (v := .tuple #[Ev.noTask, .int .i64 132]) (Cd.results_ct Tryz.results54 _ _ (w.heap.size + 1) 41 #[.string ⟨#[]⟩, .int .i64 0, .slice none 0 0, .int .i64 0] (0, 0) _ rfl HY.out Tryz.underlying41 rfl HI.out _ rfl) rfl ?_
  exact .inl ⟨HK.out, rfl, HW1.out⟩

set_option maxHeartbeats 2000000 in
set_option maxRecDepth 20000 in
theorem rkid_deep {B R : Nat} {F u v : Value} {t : Ev.Tsk} {A : Option Addr} {c : Nat} {js : List Int} {ds : List Ev.Dm} {s : Ev.St} {w : World} (h : Ev.Rn B R F u v t A c js ds s w) (p : List Cd.FnV) (o : Cd.OpV) (hk : s.kids < 16) (hp : t.path.size ≤ 1000000) (hko : Br.kidOk t.path ((s.kids : Int) + 1) = false) :
    Calls Tryz.prog 54 #[.pointer (some ⟨B, 0, none⟩), .agg #[.int .u8 (o.k : Int), .int .i64 o.d, .int .i64 o.a, .int .i64 o.b, .int .i64 o.n]] w (Ev.RKidP B R F u v t A c js ds s p o w) := by
  have hB := Ev.KBlk.first w o
  obtain ⟨W, hW⟩ : ∃ W, W = ((w.alloc (.cells #[.int .u8 (o.k : Int), .int .i64 o.d, .int .i64 o.a, .int .i64 o.b, .int .i64 o.n] 72)).alloc (.cells #[.string ⟨#[]⟩, .int .i64 0, .slice none 0 0, .int .i64 0] 41)) := ⟨_, rfl⟩
  rw [← hW] at hB
  have hn := h.below hB.bel
  have b8 : W.cell? ⟨B, 8, none⟩ = some (.int .i64 (s.kids : Int)) := hn.cell 8
  have b1 : W.cell? ⟨B, 1, none⟩ = some (.string t.path) := hn.cell 1
  have k1 : ¬ (16 : Int) ≤ (s.kids : Int) := by omega
  have hw : IntKind.i64.wrap ((s.kids : Int) + 1) = (s.kids : Int) + 1 := by rw [IntKind.wrap_i64]; omega
  have HI : Hid ((Tryz.prog.info? 41).map (·.size) = some 4) := Ev.task_size
  have HK := Lib.hid hk
  have HKO := Lib.hid hko
  have HB := Lib.hid hB
  have HRK := Lib.hid (fun U => rKid12 t.path ((s.kids : Int) + 1) U hp ⟨by omega, by omega⟩)
  have S1 : Hid (W.cell? ⟨B, 1, none⟩ = some (.string t.path) ∧ W.cell? ⟨B, 8, none⟩ = some (.int .i64 (s.kids : Int))) := ⟨b1, b8⟩
  clear h hB hk hn hko hp
  go_enter Tryz.func54, Tryz.ntmps54
  go_upto_region 1 with fail
  try rw [← hW]
  clear hW
  go_upto_region 3 with fail
  go_region_held3 (fun wx => wx.cell? ⟨B, 1, none⟩ = some (.string t.path) ∧ wx.cell? ⟨B, 8, none⟩ = some (.int .i64 (s.kids : Int))) (first | with_reducible assumption | with_reducible exact S1.out | with_reducible exact CC2.out | exact S1.out)
    (first
      | (go_at_call 84; refine (HRK.out _).mono ?_; rintro e w4 ⟨rfl, hb4⟩; have CC2 : Hid (w4.cell? ⟨B, 1, none⟩ = some (.string t.path) ∧ w4.cell? ⟨B, 8, none⟩ = some (.int .i64 (s.kids : Int))) := Ev.two_below hb4 S1.out))
  have HB4 := Lib.hid ((HB.out.below (Below.refl _ _).drew).below hb4)
  clear CC2 hb4 S1 b1 b8
  rw [HKO.out]
  obtain ⟨-, y0, y1, y2, y3, yf0, yf1, yf2, yf3⟩ := HB4.out.cells
  have HY := Lib.hid (Ev.set4_heap (x := .string ⟨#[]⟩) (y := .int .i64 0) (z := .slice none 0 0) (u := .int .i64 0) HB4.out.yy)
  have HW1 := Lib.hid (Ev.set4_below (x := .string ⟨#[]⟩) (y := .int .i64 0) (z := .slice none 0 0) (u := .int .i64 0) HB4.out.bel HB4.out.hy)
  go_wp2_with fail
  refine bodyPost_ret (v := .tuple #[Ev.noTask, .int .i64 133]) (Cd.results_ct Tryz.results54 _ _ (w.heap.size + 1) 41 #[.string ⟨#[]⟩, .int .i64 0, .slice none 0 0, .int .i64 0] (0, 0) _ rfl HY.out Tryz.underlying41 rfl HI.out _ rfl) rfl ?_
  exact .inr (.inl ⟨HK.out, HKO.out, rfl, HW1.out⟩)

set_option maxHeartbeats 4000000 in
set_option maxRecDepth 20000 in
theorem rkid_ok {B R : Nat} {PA : Option Addr} {pc : Nat} {u v : Value} {t : Ev.Tsk} {A : Option Addr} {c : Nat} {js : List Int} {ds : List Ev.Dm} {s : Ev.St} {w : World} {l : List Cd.Fm} (h : Ev.Rn B R (.slice PA l.length pc) u v t A c js ds s w) (hP : Cd.Prog w w.heap.size PA l) (o : Cd.OpV) (hk : s.kids < 16) (hp : t.path.size ≤ 1000000) (hko : Br.kidOk t.path ((s.kids : Int) + 1) = true)
    (fk na a d : Nat) (hfk : o.n = (fk : Int)) (hfl : fk < l.length) (hna : l[fk].f.args = (na : Int)) (ha : o.a = (a : Int)) (hd : o.d = (d : Int)) (_hd16 : d ≤ 16) (har : na = 0 ∨ a + na ≤ s.regs.length) (hr16 : s.regs.length ≤ 16) (hl16 : s.left ≤ 65536) (hju : js.length + s.wts.length ≤ 16) :
    Calls Tryz.prog 54 #[.pointer (some ⟨B, 0, none⟩), .agg #[.int .u8 (o.k : Int), .int .i64 o.d, .int .i64 o.a, .int .i64 o.b, .int .i64 o.n]] w (Ev.RKidP B R (.slice PA l.length pc) u v t A c js ds s (Cd.fns l) o w) := by
  have hB := Ev.KBlk.first w o
  obtain ⟨W, hW⟩ : ∃ W, W = ((w.alloc (.cells #[.int .u8 (o.k : Int), .int .i64 o.d, .int .i64 o.a, .int .i64 o.b, .int .i64 o.n] 72)).alloc (.cells #[.string ⟨#[]⟩, .int .i64 0, .slice none 0 0, .int .i64 0] 41)) := ⟨_, rfl⟩
  rw [← hW] at hB
  have hn := h.below hB.bel
  have b8 : W.cell? ⟨B, 8, none⟩ = some (.int .i64 (s.kids : Int)) := hn.cell 8
  have b1 : W.cell? ⟨B, 1, none⟩ = some (.string t.path) := hn.cell 1
  have k1 : ¬ (16 : Int) ≤ (s.kids : Int) := by omega
  have hw : IntKind.i64.wrap ((s.kids : Int) + 1) = (s.kids : Int) + 1 := by rw [IntKind.wrap_i64]; omega
  have HI : Hid ((Tryz.prog.info? 41).map (·.size) = some 4) := Ev.task_size
  have HK := Lib.hid hk
  have HKO := Lib.hid hko
  have HB := Lib.hid hB
  have HN := Lib.hid h
  have HP := Lib.hid hP
  have HRK := Lib.hid (fun U => rKid12 t.path ((s.kids : Int) + 1) U hp ⟨by omega, by omega⟩)
  have S1 : Hid (W.cell? ⟨B, 1, none⟩ = some (.string t.path) ∧ W.cell? ⟨B, 8, none⟩ = some (.int .i64 (s.kids : Int))) := ⟨b1, b8⟩
  have HAD : Hid ((o.n = (fk : Int) ∧ l[fk].f.args = (na : Int)) ∧ o.a = (a : Int) ∧ o.d = (d : Int)) := ⟨⟨hfk, hna⟩, ha, hd⟩
  have HAR := Lib.hid har
  clear h hB hk hn hko hp hP hfk hna ha hd har
  go_enter Tryz.func54, Tryz.ntmps54
  go_upto_region 1 with fail
  try rw [← hW]
  clear hW
  go_upto_region 3 with fail
  go_region_held3 (fun wx => wx.cell? ⟨B, 1, none⟩ = some (.string t.path) ∧ wx.cell? ⟨B, 8, none⟩ = some (.int .i64 (s.kids : Int))) (first | with_reducible assumption | with_reducible exact S1.out | with_reducible exact CC2.out | exact S1.out)
    (first
      | (go_at_call 84; refine (HRK.out _).mono ?_; rintro e w4 ⟨rfl, hb4⟩; have CC2 : Hid (w4.cell? ⟨B, 1, none⟩ = some (.string t.path) ∧ w4.cell? ⟨B, 8, none⟩ = some (.int .i64 (s.kids : Int))) := Ev.two_below hb4 S1.out))
  have HB4 := Lib.hid ((HB.out.below (Below.refl _ _).drew).below hb4)
  clear CC2 hb4 S1 b1 b8
  rw [HKO.out]
  obtain ⟨O, hO⟩ : ∃ O, O = w.heap.size := ⟨_, rfl⟩
  obtain ⟨Y, hY⟩ : ∃ Y, Y = w.heap.size + 1 := ⟨_, rfl⟩
  rw [← hY, ← hO] at HB4 ⊢
  have hn4 := HN.out.below HB4.out.bel
  have hP4 := (HP.out.below HB4.out.bel).mono HB4.out.bel.size
  obtain ⟨ad, rfl, hadl, c0, c1, c2⟩ := Cd.fn_at hP4.fs hfl
  obtain ⟨⟨o1, o2, o4⟩, -⟩ := HB4.out.cells
  have b0 : w4.cell? ⟨B, 0, none⟩ = some (.slice (some ad) l.length pc) := hn4.cell 0
  have b7 : w4.cell? ⟨B, 7, none⟩ = some (.int .i64 (s.left : Int)) := hn4.cell 7
  rw [HAD.out.1.2] at c0
  rw [HAD.out.1.1] at o4
  rw [HAD.out.2.1] at o2
  rw [HAD.out.2.2] at o1
  have fk0 : (0 : Int) ≤ (fk : Int) := by omega
  have fk1 : (fk : Int) < (l.length : Int) := by omega
  clear c1 c2 hn4 hP4 hadl hY hO
  go_upto_region 6 with fail
  go_quiet (fail)
  have HB5 := Lib.hid (HB4.out.below (Ev.belDNr (Below.refl _ _) nq))
  clear o1 o2 o4 b0 b7 c0 HB4
  generalize w4.drewN nq = w5 at HB5 ⊢
  obtain ⟨⟨-, -, o4⟩, -⟩ := HB5.out.cells
  rw [HAD.out.1.1] at o4
  have hn5 := HN.out.below HB5.out.bel
  have b7 : w5.cell? ⟨B, 7, none⟩ = some (.int .i64 (s.left : Int)) := hn5.cell 7
  obtain ⟨L2, hL2⟩ : ∃ L2, L2 = s.left / 2 := ⟨_, rfl⟩
  have hq : IntKind.i64.wrap (Int.tdiv (s.left : Int) 2) = (L2 : Int) := by
    have : Int.tdiv (s.left : Int) 2 = ((s.left / 2 : Nat) : Int) := rfl
    rw [this, IntKind.wrap_i64]
    omega
  have HL2 := Lib.hid hL2
  have g7 := fun x => Ev.cell_alloc x b7
  have g4 := fun x => Ev.cell_alloc x o4
  clear hn5 hL2
  go_upto_region 7 with fail
  go_region
  have hle : (s.left : Int) / 2 = (L2 : Int) := by rw [HL2.out]; omega
  rw [hle]
  obtain ⟨w6, hw6⟩ : ∃ w6, w6 = (w5.alloc (.cells #[.string (Br.kidT t.path ((s.kids : Int) + 1)), .int .i64 (fk : Int), .slice none 0 0, .int .i64 (L2 : Int)] 41)).drew := ⟨_, rfl⟩
  obtain ⟨T, hT⟩ : ∃ T, T = w5.heap.size := ⟨_, rfl⟩
  have HB6 : Hid (Ev.KBlk w O Y o w6) := by rw [hw6]; exact HB5.out.below (Cd.fn1 _ _ _).drew
  have HT6 : Hid (w6.heap[T]? = some (.cells #[.string (Br.kidT t.path ((s.kids : Int) + 1)), .int .i64 (fk : Int), .slice none 0 0, .int .i64 (L2 : Int)] 41 (0, 0))) := by show w6.heap[T]? = _; rw [hw6, hT]; exact heap_alloc_new w5 _
  have HTO : Hid (w.heap.size ≤ T ∧ O < T ∧ Y < T) := by rw [hT]; exact ⟨HB5.out.bel.size, Cd.ltH HB5.out.oo, Cd.ltH HB5.out.yy⟩
  rw [← hw6, ← hT]
  clear hw6 hT g7 g4 b7 o4 hq hle HB5
  go_upto_region 8 with fail
  obtain ⟨K, hK⟩ : ∃ K, K = Ev.kargs (Cd.fns l) s o := ⟨_, rfl⟩
  have hK2 : K = (s.regs.drop a).take na := by
    rw [hK]
    unfold Ev.kargs Ck.argN
    rw [HAD.out.1.1, HAD.out.2.1, Int.toNat_natCast, Int.toNat_natCast, List.getElem?_eq_getElem (by rw [Cd.fns_len]; exact hfl)]
    simp only [Cd.fns, List.getElem_map, Option.getD_some, HAD.out.1.2, Int.toNat_natCast]
  have HKD := Lib.hid (And.intro hK hK2)
  clear hK hK2
  rcases Nat.eq_zero_or_pos na with hz | hz
  case' inl =>
    have HX : Hid (∃ (A2 : Option Addr) (c2 : Nat), Ev.KBlk w O Y o w6 ∧ w6.heap[T]? = some (.cells #[.string (Br.kidT t.path ((s.kids : Int) + 1)), .int .i64 (fk : Int), .slice A2 K.length c2, .int .i64 (L2 : Int)] 41 (0, 0)) ∧ Lies w6 w6.heap.size A2 (icells K) ∧ ∀ q, A2 = some q → w.heap.size ≤ q.block ∧ q.block ≠ Y ∧ q.block < w6.heap.size) := by
      have hKn : K = [] := by rw [HKD.out.2, hz]; simp
      refine ⟨none, 0, HB6.out, ?_, fun hp => ?_, fun q hq => by cases hq⟩
      · rw [hKn]; exact HT6.out
      · rw [hKn] at hp; simp [icells] at hp
    have n0 : ¬ (0 : Int) < (na : Int) := by omega
    clear hz HT6 HB6 HAR
    go_upto_region 10 with fail
    generalize w6 = wx at HX ⊢
  case' inr =>
    have n0 : (0 : Int) < (na : Int) := by omega
    have han : a + na ≤ s.regs.length := by rcases HAR.out with e | e; exact absurd e (by omega); exact e
    obtain ⟨⟨-, o2, -⟩, -⟩ := HB6.out.cells
    rw [HAD.out.2.1] at o2
    have hn6 := HN.out.below HB6.out.bel
    have b5 : w6.cell? ⟨B, 5, none⟩ = some (.slice (some ⟨R, 0, none⟩) s.regs.length s.regs.length) := hn6.cell 5
    have t2 : w6.cell? ⟨T, 2, none⟩ = some (.slice none 0 0) := cell_of_row _ _ 2 _ _ _ HT6.out
    have a0 : (0 : Int) ≤ (a : Int) := by omega
    have a1 : (a : Int) ≤ (a : Int) + (na : Int) := by omega
    have a2 : (a : Int) + (na : Int) ≤ (s.regs.length : Int) := by omega
    have hw2 : IntKind.i64.wrap ((a : Int) + (na : Int)) = (a : Int) + (na : Int) := by rw [IntKind.wrap_i64]; omega
    have hreg : ∀ j x, (icells K)[j]? = some x → w6.cell? ((⟨R, a, none⟩ : Addr).add j) = some x := fun j x hx => by
      have e : (⟨R, a, none⟩ : Addr).add j = ⟨R, a + j, none⟩ := by unfold Addr.add; split <;> simp_all
      rw [e, cell_of_row _ _ (a + j) _ _ _ hn6.regs]
      rw [HKD.out.2] at hx
      unfold icells at hx ⊢
      rw [List.getElem?_map] at hx
      obtain ⟨y, hy, rfl⟩ := Option.map_eq_some_iff.1 hx
      rw [List.getElem?_take] at hy
      split at hy
      · rw [List.getElem?_drop] at hy
        rw [List.getElem?_toArray, List.getElem?_map, hy]
        rfl
      · cases hy
    have HREG := Lib.hid hreg
    have hkl : Hid (K.length = a + na - a) := by show _ = _; rw [HKD.out.2, List.length_take, List.length_drop]; omega
    have hz2 : 0 < a + na - a := by omega
    have hz3 : a + na - a ≤ 1000 := by omega
    clear hn6 hz hreg
    go_upto_region 9 with fail
    have hla : ¬ s.regs.length = a := by omega
    go_still_tail 13, (by kernel_rfl)
    change wpList _ _ _ _ _ w6.drew
    refine Ev.kpush (by rfl) _ _ (by rfl) (by rfl) ⟨R, a, none⟩ _ _ rfl K ?hl ?hm ?hm2 HREG.out ?_
    case hl => rw [hkl.out]; first | rfl | omega
    case hm => first | exact hz2 | omega
    case hm2 => first | exact hz3 | omega
    intro cap w7 hown hb7'
    have hb7 : Below w6.heap.size w6 w7 := (Below.refl _ _).drew.trans hb7'
    have hT7 : w7.heap[T]? = some (.cells #[.string (Br.kidT t.path ((s.kids : Int) + 1)), .int .i64 (fk : Int), .slice none 0 0, .int .i64 (L2 : Int)] 41 (0, 0)) := (hb7.block T (Cd.ltH HT6.out)).trans HT6.out
    have t72 : w7.cell? ⟨T, 2, none⟩ = some (.slice none 0 0) := cell_of_row _ _ 2 _ _ _ hT7
    have tf72 : w7.frozen? ⟨T, 2, none⟩ = false := frozen_of_row _ _ 2 _ _ hT7
    obtain ⟨wx, hwx⟩ : ∃ wx, wx = w7.setCell ⟨T, 2, none⟩ (.slice (some ⟨w6.heap.size, 0, none⟩) K.length cap) := ⟨_, rfl⟩
    have HX : Hid (∃ (A2 : Option Addr) (c2 : Nat), Ev.KBlk w O Y o wx ∧ wx.heap[T]? = some (.cells #[.string (Br.kidT t.path ((s.kids : Int) + 1)), .int .i64 (fk : Int), .slice A2 K.length c2, .int .i64 (L2 : Int)] 41 (0, 0)) ∧ Lies wx wx.heap.size A2 (icells K) ∧ ∀ q, A2 = some q → w.heap.size ≤ q.block ∧ q.block ≠ Y ∧ q.block < wx.heap.size) := by
      have hk7 : ∀ i, i ≠ T → wx.heap[i]? = w7.heap[i]? := fun i hi => by rw [hwx]; exact Below.heap_setCell _ _ _ _ hi
      have hs6 := HB6.out.bel.size
      have hTl := Cd.ltH HT6.out
      have hb8 := HB6.out.below hb7
      have hto := HTO.out
      refine ⟨some ⟨w6.heap.size, 0, none⟩, cap, ⟨(hk7 O (by omega)).trans hb8.oo, (hk7 Y (by omega)).trans hb8.yy, hb8.ho, hb8.hy, hb8.ne, by rw [hwx]; exact hb8.bel.setCell hto.1 _⟩, ?_, fun _ => ⟨⟨w6.heap.size, 0, none⟩, rfl, ?_, fun j x hx => ?_⟩, fun q hq => ?_⟩
      · rw [hwx, heap_setCell_same _ _ _ _ _ _ hT7]
        rfl
      · have := (hown.lt w6.heap.size rfl).2
        rw [hwx]
        simpa [World.setCell] using this
      · rw [← hown.cells (g := w6.heap.size) rfl j x hx]
        refine World.cell?_of_block (w := w7) (hk7 _ ?_)
        rw [Lies.add_block]
        show w6.heap.size ≠ T
        omega
      · obtain rfl := Option.some.inj hq
        have h9 := (hown.lt w6.heap.size rfl).2
        have h8 : wx.heap.size = w7.heap.size := by rw [hwx]; simp [World.setCell]
        show w.heap.size ≤ w6.heap.size ∧ w6.heap.size ≠ Y ∧ w6.heap.size < wx.heap.size
        omega
    clear hown hb7 hb7' hT7
    go_upto_region 10 with fail
    rw [← hwx]
    clear hla hwx t72 tf72 hz2 hz3 hkl HREG han o2 b5 t2 a0 a1 a2 hw2 HT6 HB6 HAR n0
  all_goals
    obtain ⟨A2, c2, hkx, htx, hlx, hqx⟩ := HX.out
    have hnx := HN.out.below hkx.bel
    have hBx := hnx.ltB
    have b7 : wx.cell? ⟨B, 7, none⟩ = some (.int .i64 (s.left : Int)) := hnx.cell 7
    have f7 := hnx.fro 7
    have t3 : wx.cell? ⟨T, 3, none⟩ = some (.int .i64 (L2 : Int)) := cell_of_row _ _ 3 _ _ _ htx
    obtain ⟨L3, hL3⟩ : ∃ L3, L3 = s.left - L2 := ⟨_, rfl⟩
    have hw3 : IntKind.i64.wrap ((s.left : Int) - (L2 : Int)) = (L3 : Int) := by have := HL2.out; rw [IntKind.wrap_i64]; omega
    have HL3 := Lib.hid hL3
    have hTB : T ≠ B := by have := HN.out.ltB; have := HTO.out; omega
    have hOB : O ≠ B := by have := HN.out.ltB; have := hkx.ho; omega
    have hYB : Y ≠ B := by have := HN.out.ltB; have := hkx.hy; omega
    obtain ⟨W1, hW1⟩ : ∃ W1, W1 = (wx.setCell ⟨B, 7, none⟩ (.int .i64 (L3 : Int))).drew := ⟨_, rfl⟩
    have hn1 : Ev.Rn B R (.slice (some ad) l.length pc) u v t A c js ds { s with left := L3 } W1 := by rw [hW1]; exact (hnx.setT { s with left := L3 } js 7 _ rfl rfl rfl rfl).drew
    have hm1 : Gm.Mvg (Ev.ROff B R u v) (Ev.ROff B R u v) wx W1 := by rw [hW1]; exact (Ev.mvg_set (Gm.Mvg.refl _ _) (fun i _ ho => ho.1) _ _).trans (Gm.Mvg.of_below (Below.refl _ _).drew)
    have b8 : W1.cell? ⟨B, 8, none⟩ = some (.int .i64 (s.kids : Int)) := hn1.cell 8
    have f8 := hn1.fro 8
    obtain ⟨W2, hW2⟩ : ∃ W2, W2 = (W1.setCell ⟨B, 8, none⟩ (.int .i64 ((s.kids : Int) + 1))) := ⟨_, rfl⟩
    have hn2 : Ev.Rn B R (.slice (some ad) l.length pc) u v t A c js ds { s with left := L3, kids := s.kids + 1 } W2 := by rw [hW2]; exact hn1.setT _ js 8 _ rfl rfl rfl rfl
    have hm2 : Gm.Mvg (Ev.ROff B R u v) (Ev.ROff B R u v) wx W2 := by rw [hW2]; exact Ev.mvg_set hm1 (fun i _ ho => ho.1) _ _
    have hrow2 : ∀ (i : Nat) (ob : Obj), i ≠ B → wx.heap[i]? = some ob → W2.heap[i]? = some ob := fun i ob hi hh => by
      rw [hW2, Below.heap_setCell _ _ _ _ hi, hW1]
      exact (Below.heap_setCell _ _ _ _ hi).trans hh
    have b10 : W2.cell? ⟨B, 10, none⟩ = some u := hn2.cell 10
    have o1 : W2.cell? ⟨O, 1, none⟩ = some (.int .i64 o.d) := cell_of_row _ _ 1 _ _ _ (hrow2 O _ hOB hkx.oo)
    have HN2 := Lib.hid hn2
    have HM2 := Lib.hid hm2
    have HX2 : Hid ((W2.heap[T]? = some (.cells #[.string (Br.kidT t.path ((s.kids : Int) + 1)), .int .i64 (fk : Int), .slice A2 K.length c2, .int .i64 (L2 : Int)] 41 (0, 0)) ∧ W2.heap[Y]? = some (.cells #[.string ⟨#[]⟩, .int .i64 0, .slice none 0 0, .int .i64 0] 41 (0, 0))) ∧ (Lies wx wx.heap.size A2 (icells K) ∧ (∀ q, A2 = some q → w.heap.size ≤ q.block ∧ q.block ≠ Y ∧ q.block < wx.heap.size)) ∧ Below w.heap.size w wx ∧ w.heap.size ≤ Y) := ⟨⟨hrow2 T _ hTB htx, hrow2 Y _ hYB hkx.yy⟩, ⟨hlx, hqx⟩, hkx.bel, hkx.hy⟩
    have HNE : Hid (T ≠ B ∧ Y ≠ B ∧ T ≠ Y) := ⟨hTB, hYB, by have := HTO.out; omega⟩
    clear hkx htx hlx hqx hnx hBx hL3 hTB hOB hYB hn1 hm1 hn2 hm2 hrow2 HX
    go_region
    rw [← hW1]
    clear hW1 b7 f7 t3 hw3
    go_upto_region 12 with fail
    rw [← hW2]
    clear hW2 b8 f8
    obtain ⟨U, hU⟩ : ∃ U, U = (W2.alloc (.cells #[.int .i64 o.d] 3)).drew := ⟨_, rfl⟩
    have hbU : Below W2.heap.size W2 U := by rw [hU]; exact (Cd.fn1 _ _ _).drew
    have hnU := HN2.out.below hbU
    have HBL : Hid (U.heap[W2.heap.size]? = some (.cells #[.int .i64 o.d] 3 (0, 0))) := by show U.heap[_]? = _; rw [hU]; exact heap_alloc_new W2 _
    have hil : (Ev.into js { s with left := L3, kids := s.kids + 1 }).length ≤ 100000 := by
      have : (Ev.into js { s with left := L3, kids := s.kids + 1 }).length = js.length + s.wts.length := by unfold Ev.into; simp
      omega
    have HUB : Hid (U.cell? ⟨B, 10, none⟩ = some u ∧ U.frozen? ⟨B, 10, none⟩ = false) := ⟨hnU.cell 10, hnU.fro 10⟩
    have HNU := Lib.hid hnU
    have HBU := Lib.hid hbU
    have g10 := fun x => Ev.cell_alloc x b10
    have g1 := fun x => Ev.cell_alloc x o1
    clear hbU hnU
    go_region_law (first
      | (refine Ev.ustep13 (U := (W2.alloc (.cells #[.int .i64 o.d] 3)).drew) (by rw [← hU]; exact HNU.out.rowu) (by rfl) _ _ (by rfl) (by rfl) (by rfl) o.d (by rw [← hU]; exact HBL.out) hil ?_
         rw [← hU]
         intro g cap w7 hown hgr hg
         have c10 : w7.cell? ⟨B, 10, none⟩ = some u := (World.cell?_of_block (w := U) (hgr.block B HNU.out.ltB (fun e => HNU.out.nu e.symm))).trans HUB.out.1
         have f10 : w7.frozen? ⟨B, 10, none⟩ = false := (World.frozen?_of_block (w := U) (hgr.block B HNU.out.ltB (fun e => HNU.out.nu e.symm))).trans HUB.out.2))
    all_goals
      obtain ⟨hnf, hmf⟩ := HNU.out.pushU hown hgr (fun i hi => by
        have e1 : i = g := (Option.some.inj hi).symm
        rcases hg with e | e
        · exact .inl (by rw [e1]; exact e)
        · exact .inr (by omega))
      obtain ⟨wF, hwF⟩ : ∃ wF, wF = w7.setCell ⟨B, 10, none⟩ (.slice (some ⟨g, 0, none⟩) ((Ev.into js { s with left := L3, kids := s.kids + 1 }).length + 1) cap) := ⟨_, rfl⟩
      rw [← hwF] at hnf hmf
      have hold : ∀ (i : Nat) (ob : Obj), w.heap.size ≤ i → i ≠ B → W2.heap[i]? = some ob → wF.heap[i]? = some ob := fun i ob hi hB hh => by
        have hu : some i ≠ u.ownBlock := fun e => by have := (HN.out.rowu.lt i e.symm).2; omega
        rw [hwF, Below.heap_setCell _ _ _ _ hB, hgr.block i (Nat.lt_of_lt_of_le (Cd.ltH hh) HBU.out.size) hu, HBU.out.block i (Cd.ltH hh)]
        exact hh
      have hTF := hold T _ HTO.out.1 HNE.out.1 HX2.out.1.1
      have hYF := hold Y _ HX2.out.2.2.2 HNE.out.2.1 HX2.out.1.2
      have t0 : wF.cell? ⟨T, 0, none⟩ = some (.string (Br.kidT t.path ((s.kids : Int) + 1))) := cell_of_row _ _ 0 _ _ _ hTF
      have t1 : wF.cell? ⟨T, 1, none⟩ = some (.int .i64 (fk : Int)) := cell_of_row _ _ 1 _ _ _ hTF
      have t2 : wF.cell? ⟨T, 2, none⟩ = some (.slice A2 K.length c2) := cell_of_row _ _ 2 _ _ _ hTF
      have t3 : wF.cell? ⟨T, 3, none⟩ = some (.int .i64 (L2 : Int)) := cell_of_row _ _ 3 _ _ _ hTF
      have y0 : wF.cell? ⟨Y, 0, none⟩ = some (.string ⟨#[]⟩) := cell_of_row _ _ 0 _ _ _ hYF
      have y1 : wF.cell? ⟨Y, 1, none⟩ = some (.int .i64 0) := cell_of_row _ _ 1 _ _ _ hYF
      have y2 : wF.cell? ⟨Y, 2, none⟩ = some (.slice none 0 0) := cell_of_row _ _ 2 _ _ _ hYF
      have y3 : wF.cell? ⟨Y, 3, none⟩ = some (.int .i64 0) := cell_of_row _ _ 3 _ _ _ hYF
      have yf0 := frozen_of_row _ _ 0 _ _ hYF
      have yf1 := frozen_of_row _ _ 1 _ _ hYF
      have yf2 := frozen_of_row _ _ 2 _ _ hYF
      have yf3 := frozen_of_row _ _ 3 _ _ hYF
      have HY := Lib.hid (Ev.set4_heap (x := .string (Br.kidT t.path ((s.kids : Int) + 1))) (y := .int .i64 (fk : Int)) (z := .slice A2 K.length c2) (u := .int .i64 (L2 : Int)) hYF)
      have HFIN : Hid (Ev.RKidP B R (.slice (some ad) l.length pc) u v t A c js ds s (Cd.fns l) o w (.returned (.tuple #[.agg #[.string (Br.kidT t.path ((s.kids : Int) + 1)), .int .i64 (fk : Int), .slice A2 K.length c2, .int .i64 (L2 : Int)], .int .i64 0]))
          ((((wF.setCell ⟨Y, 0, none⟩ (.string (Br.kidT t.path ((s.kids : Int) + 1)))).setCell ⟨Y, 1, none⟩ (.int .i64 (fk : Int))).setCell ⟨Y, 2, none⟩ (.slice A2 K.length c2)).setCell ⟨Y, 3, none⟩ (.int .i64 (L2 : Int)))) := by
        have hYw := HX2.out.2.2.2
        have hmx : Gm.Mvg (Ev.ROff B R u v) (Ev.ROff B R (.slice (some ⟨g, 0, none⟩) ((Ev.into js { s with left := L3, kids := s.kids + 1 }).length + 1) cap) v) wx wF := (HM2.out.trans (Gm.Mvg.of_below HBU.out)).trans hmf
        have hmw := (Gm.Mvg.of_below HX2.out.2.2.1).trans hmx
        have hof : ∀ q, A2 = some q → Ev.ROff B R u v q.block := fun q hq => HN.out.fresh (HX2.out.2.1.2 q hq).1
        have hA : Ev.AOk (fun i => Ev.ROff B R u v i ∧ i ≠ Y) wx A2 K := ⟨HX2.out.2.1.1, fun _ q hq => ⟨hof q hq, (HX2.out.2.1.2 q hq).2.1⟩⟩
        have hm4 : Gm.Mvg (fun i => Ev.ROff B R u v i ∧ i ≠ Y) (fun i => Ev.ROff B R (.slice (some ⟨g, 0, none⟩) ((Ev.into js { s with left := L3, kids := s.kids + 1 }).length + 1) cap) v i ∧ i ≠ Y) wx wF := ⟨hmx.os, hmx.tape, hmx.output, hmx.size, fun i hi ho => hmx.block i hi ho.1, fun i hi ho => ⟨hmx.keep i hi ho.1, ho.2⟩⟩
        have hm5 := Ev.mvg_set (Ev.mvg_set (Ev.mvg_set (Ev.mvg_set hm4 (B := Y) (fun _ _ ho => ho.2) 0 (.string (Br.kidT t.path ((s.kids : Int) + 1)))) (B := Y) (fun _ _ ho => ho.2) 1 (.int .i64 (fk : Int))) (B := Y) (fun _ _ ho => ho.2) 2 (.slice A2 K.length c2)) (B := Y) (fun _ _ ho => ho.2) 3 (.int .i64 (L2 : Int))
        have hnY : ∀ i, i < w.heap.size → Ev.ROff B R u v i → i ≠ Y := fun i hi _ => by omega
        have hm6 := Ev.mvg_set (Ev.mvg_set (Ev.mvg_set (Ev.mvg_set hmw (B := Y) hnY 0 (.string (Br.kidT t.path ((s.kids : Int) + 1)))) (B := Y) hnY 1 (.int .i64 (fk : Int))) (B := Y) hnY 2 (.slice A2 K.length c2)) (B := Y) hnY 3 (.int .i64 (L2 : Int))
        refine .inr (.inr ⟨HK.out, HKO.out, A2, c2, _, ?_, ?_, fun q hq => ⟨?_, (HX2.out.2.1.2 q hq).1⟩, fun r => ?_, hm6⟩)
        · rw [HAD.out.1.1, ← HKD.out.1, ← HL2.out]
        · rw [← HKD.out.1]
          exact (hA.mv hm5).li
        · exact hmx.keep _ (HX2.out.2.1.2 q hq).2.2 (hof q hq)
        · have hrf : Ev.rforkS s o r = { s with left := L3, kids := s.kids + 1, wts := s.wts ++ [(o.d, r)] } := by unfold Ev.rforkS; rw [HL3.out, HL2.out]
          rw [hrf]
          have hyo : ∀ i, i ≠ Y → ((((wF.setCell ⟨Y, 0, none⟩ (.string (Br.kidT t.path ((s.kids : Int) + 1)))).setCell ⟨Y, 1, none⟩ (.int .i64 (fk : Int))).setCell ⟨Y, 2, none⟩ (.slice A2 K.length c2)).setCell ⟨Y, 3, none⟩ (.int .i64 (L2 : Int))).heap[i]? = wF.heap[i]? := fun i hi =>
            (Below.heap_setCell _ _ _ _ hi).trans ((Below.heap_setCell _ _ _ _ hi).trans ((Below.heap_setCell _ _ _ _ hi).trans (Below.heap_setCell _ _ _ _ hi)))
          have hwU : w.heap.size ≤ U.heap.size ∧ Y < U.heap.size := ⟨Nat.le_trans (Nat.le_trans HX2.out.2.2.1.size HM2.out.size) HBU.out.size, Nat.lt_of_lt_of_le (Cd.ltH HX2.out.1.2) HBU.out.size⟩
          refine (hnf r).of (hyo B (fun e => HNE.out.2.1 e.symm)) (hyo R fun e => by have := HN.out.ltR; omega) (fun i hi => hyo i fun e => ?_) (fun i hi => hyo i fun e => by have := (HN.out.rowv.lt i hi).2; omega)
          have e1 : i = g := (Option.some.inj hi).symm
          rcases hg with e2 | e2
          · have := (HN.out.rowu.lt g e2).2
            omega
          · omega
      clear hnf hmf hold hTF hYF hown hgr hg g10 g1
      go_upto_region 13 with fail
      rw [← hwF]
      clear hwF c10 f10
      go_wp2_with fail
      refine bodyPost_ret (v := .tuple #[.agg #[.string (Br.kidT t.path ((s.kids : Int) + 1)), .int .i64 (fk : Int), .slice A2 K.length c2, .int .i64 (L2 : Int)], .int .i64 0]) (Cd.results_ct Tryz.results54 _ _ Y 41 #[.string (Br.kidT t.path ((s.kids : Int) + 1)), .int .i64 (fk : Int), .slice A2 K.length c2, .int .i64 (L2 : Int)] (0, 0) _ rfl HY.out Tryz.underlying41 rfl HI.out _ rfl) rfl ?_
      exact HFIN.out
end Go.Proofs.YtepnofklmdofmaaGreatDoor
