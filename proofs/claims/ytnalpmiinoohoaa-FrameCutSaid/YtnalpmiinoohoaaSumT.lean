/-
  Contract of sum.leftovers: the table.
-/
import Derived.Test.YtnalpmiinoohoaaSumW
namespace Go.Proofs.Ytnalpmiinoohoaa
open Go.RowKit

namespace Crc
/-- The table as cells. -/
def Entry (cs : Array Value) (x : Nat) : Prop := cs[x]? = some (.int .u32 ((T x : Nat) : Int))
def Known (d : Nat) (cs : Array Value) : Prop := ∀ x, x < 256 → x % d = 0 → Entry cs x
/-- Ahead of the inner loop's round at h: those below h are known, too. -/
def Known2 (b h : Nat) (cs : Array Value) : Prop := ∀ x, x < 256 → (x % (2 * b) = 0 ∨ x % b = 0 ∧ x < h) → Entry cs x
def Pow (b : Nat) : Prop := b = 128 ∨ b = 64 ∨ b = 32 ∨ b = 16 ∨ b = 8 ∨ b = 4 ∨ b = 2 ∨ b = 1
/-- The table's block. -/
def Row (t : TypeId) (B : Nat) (cs : Array Value) (w : World) : Prop := cs.size = 256 ∧ w.heap[B]? = some (.cells cs t (0, 0))

theorem Row.cell {t : TypeId} {B : Nat} {cs : Array Value} {w : World} (h : Row t B cs w) (x : Nat) : w.cell? ⟨B, x, none⟩ = cs[x]? := cell_of_row w B x cs t _ h.2
theorem Row.frozen {t : TypeId} {B : Nat} {cs : Array Value} {w : World} (h : Row t B cs w) (x : Nat) : w.frozen? ⟨B, x, none⟩ = false := frozen_of_row w B x cs t h.2
theorem Row.some {t : TypeId} {B : Nat} {cs : Array Value} {w : World} (h : Row t B cs w) (x : Nat) (hx : x < 256) : w.cell? ⟨B, x, none⟩ = some (cs.getD x undef) := by
  rw [h.cell]
  have : x < cs.size := by rw [h.1]; exact hx
  simp [this]
theorem Row.set {t : TypeId} {B : Nat} {cs : Array Value} {w : World} (h : Row t B cs w) (x : Nat) (v : Value) : Row t B (cs.setIfInBounds x v) (w.setCell ⟨B, x, none⟩ v) :=
  ⟨by simp [h.1], heap_setCell_same w B x cs t v h.2⟩

theorem R_one : R 1 = T 128 := by decide +kernel
theorem R_half (b : Nat) (h : b % 2 = 0) : R (T b) = T (b / 2) := by
  have : R b = b / 2 := by unfold R; rw [if_neg (by omega), Nat.xor_zero]
  unfold T
  rw [← Rn_R, this]
theorem xor_add : ∀ b h : Fin 256, (b.val = 128 ∨ b.val = 64 ∨ b.val = 32 ∨ b.val = 16 ∨ b.val = 8 ∨ b.val = 4 ∨ b.val = 2 ∨ b.val = 1) → h.val % (2 * b.val) = 0 → h.val ^^^ b.val = h.val + b.val := by decide +kernel

theorem Pow.lt {b : Nat} (hb : Pow b) : b < 256 ∧ 0 < b := by
  rcases hb with rfl | rfl | rfl | rfl | rfl | rfl | rfl | rfl <;> omega
theorem Pow.sum {b h : Nat} (hb : Pow b) (hh : h < 256) (hm : h % (2 * b) = 0) : T h ^^^ T b = T (h + b) ∧ h + b < 256 ∧ (h + 2 * b) % (2 * b) = 0 := by
  refine ⟨?_, ?_, by rw [Nat.add_mod_right]; exact hm⟩
  · rw [← T_xor, xor_add ⟨b, hb.lt.1⟩ ⟨h, hh⟩ hb hm]
  · rcases hb with rfl | rfl | rfl | rfl | rfl | rfl | rfl | rfl <;> omega

theorem Pow.half {b : Nat} (hb : Pow b) : b / 2 = 0 ∧ b = 1 ∨ Pow (b / 2) ∧ b = 2 * (b / 2) ∧ R (T b) = T (b / 2) := by
  by_cases e : b = 1
  · exact .inl ⟨by omega, e⟩
  · refine .inr ⟨?_, ?_, R_half b ?_⟩
    · unfold Pow at hb ⊢; omega
    · unfold Pow at hb; omega
    · unfold Pow at hb; omega
theorem Known.two {b : Nat} {cs : Array Value} (h : Known (2 * b) cs) : Known2 b 0 cs := fun x hx hm => h x hx (by omega)
theorem Known2.step {b h : Nat} {cs : Array Value} (hk : Known2 b h cs) (hb : Pow b) (hh : h < 256) (hm : h % (2 * b) = 0) (hs : cs.size = 256) (v : Int) (hv : v = ((T (h + b) : Nat) : Int)) :
    Known2 b (h + 2 * b) (cs.setIfInBounds (h + b) (.int .u32 v)) := by
  obtain ⟨_, hlt, _⟩ := hb.sum hh hm
  intro x hx hxm
  unfold Entry
  rw [Array.getElem?_setIfInBounds]
  by_cases e : h + b = x
  · rw [if_pos e, if_pos (by omega), hv, e]
  · rw [if_neg e]
    refine hk x hx ?_
    rcases hxm with hxm | ⟨hxm, hxl⟩
    · exact .inl hxm
    · rcases hb with rfl | rfl | rfl | rfl | rfl | rfl | rfl | rfl <;> omega
theorem Known2.all {b h : Nat} {cs : Array Value} (hk : Known2 b h cs) (hh : ¬ h < 256) : Known b cs := fun x hx hm => hk x hx (.inr ⟨hm, by omega⟩)

/-- The whole table. -/
def table : Array Value := Array.ofFn fun i : Fin 256 => Value.int .u32 ((T i.val : Nat) : Int)
theorem Known.whole {cs : Array Value} (hk : Known 1 cs) (hs : cs.size = 256) : cs = table := by
  apply Array.ext
  · simp [hs, table]
  · intro i h1 h2
    have := hk i (by omega) (by omega)
    unfold Entry at this
    rw [Array.getElem?_eq_getElem h1] at this
    simp only [table, Array.getElem_ofFn]
    exact Option.some.inj this
theorem table_size : table.size = 256 := by simp [table]
theorem table_get (x : Nat) (h : x < 256) : table[x]? = some (.int .u32 ((T x : Nat) : Int)) := by
  unfold table
  rw [Array.getElem?_eq_getElem (by simpa using h), Array.getElem_ofFn]
theorem table_one : table.all (·.oneCell') = true := by
  rw [Array.all_eq_true]
  intro i h
  simp only [table, Array.getElem_ofFn]
  rfl

def zeros : Array Value := Array.replicate 256 (.int .u32 0)
theorem zeros_known : Known 256 zeros := by
  intro x hx hm
  have : x = 0 := by omega
  subst this
  unfold Entry zeros
  rw [Array.getElem?_replicate, if_pos (by omega)]
  rfl
theorem zeros_size : zeros.size = 256 := by simp [zeros]
theorem zeros_ne : ¬ zeros = #[] := by
  intro h
  have := congrArg Array.size h
  rw [zeros_size] at this
  exact absurd this (by decide)
end Crc

theorem Crc.zero (w : World) : (zeroValue 93).run Try.prog w = .ok (.agg Crc.zeros) w := by kernel_rfl
theorem Crc.info : (Try.prog.info? 93).map (·.size) = some 256 := by kernel_rfl

theorem Crc.below_row {B : Nat} {a w : World} (h : Below B a w) (g : Nat) (cs : Array Value) (hg : B ≤ g) : Below B a (w.setRow g cs) :=
  h.trans ⟨rfl, rfl, rfl, by simp, fun k hk => setRow_other w g k cs (by omega)⟩

set_option maxHeartbeats 2000000 in
set_option maxRecDepth 20000 in
theorem leftovers_any (w : World) :
    Calls Try.prog 50 #[] w fun e w' => e = .returned (.agg Crc.table) ∧ Below w.heap.size w w' := by
  have hz := Crc.zero
  have hne := Crc.zeros_ne
  go_enter Try.func50, Try.ntmps50
  go_wp2
  clear hz hne
  have hR : Crc.Row 93 (w.heap.size + 1) Crc.zeros ((w.alloc (.cells Crc.zeros 93)).alloc (.cells Crc.zeros 93)) := ⟨Crc.zeros_size, heap_alloc2_new w _ _⟩
  have hO : Crc.Row 93 w.heap.size Crc.zeros ((w.alloc (.cells Crc.zeros 93)).alloc (.cells Crc.zeros 93)) := ⟨Crc.zeros_size, heap_alloc2_old w _ _⟩
  go_loopw [2, 3] (fun a b wr => ∃ (cs : Array Value) (r d y : Nat), a = .int .u32 r ∧ b = .int .i64 y ∧ r < 4294967296 ∧ (y = 0 ∧ d = 1 ∨ Crc.Pow y ∧ d = 2 * y ∧ Crc.R r = Crc.T y) ∧ Crc.Known d cs ∧ Crc.Row 93 (w.heap.size + 1) cs wr ∧ Crc.Row 93 w.heap.size Crc.zeros wr ∧ Below w.heap.size w wr)
    (fun _ b _ => (intOf b).toNat)
  case atStart =>
    exact ⟨Crc.zeros, 1, 256, 128, rfl, rfl, by omega, .inr ⟨.inl rfl, rfl, Crc.R_one⟩, Crc.zeros_known, hR, hO, ((Below.refl _ _).alloc (Nat.le_refl _) _).alloc (by simp) _⟩
  case round =>
    obtain ⟨cs, r, d, y, rfl, rfl, hr, hy, hk, hrow, hzero, hbel⟩ := hrel
    have HK := Lib.hid hk
    have HR := Lib.hid hrow
    have HZ := Lib.hid hzero
    clear hk hrow hzero hR hO
    rcases hy with ⟨rfl, rfl⟩ | ⟨hp, rfl, hRT⟩
    · have HC := Lib.hid (HK.out.whole HR.out.1)
      have HR' : Hid (wr.heap[w.heap.size + 1]? = some (.cells Crc.table 93 (0, 0))) := by
        show _ = _
        rw [← HC.out]; exact HR.out.2
      have HI : Hid ((Try.prog.info? 93).map (·.size) = some Crc.table.size) := by
        show _ = _
        rw [Crc.table_size]; exact Crc.info
      go_wp2_with (first
        | refine wpList_load_row rfl 93 (.tmp 1) rfl (w.heap.size + 1) rfl 93 Crc.table (0, 0) (.array 256 48) HR'.out Try.underlying93 rfl HI.out ?_
        | refine wpList_store_row rfl 93 (.tmp 0) (.tmp 26) rfl w.heap.size Crc.table rfl rfl 93 Crc.zeros HZ.out.2 HI.out (by rw [Crc.zeros_size, Crc.table_size]) Crc.table_one ?_)
      refine bodyPost_ret (v := .agg Crc.table) (results_cell_row Try.results50 _ _ w.heap.size 93 Crc.table (0, 0) (.array 256 48) rfl (setRow_heap _ _ _ _ _ _ HZ.out.2) Try.underlying93 rfl HI.out) rfl ⟨rfl, Crc.below_row hbel _ _ (Nat.le_refl _)⟩
    · have hb := hp.lt
      have HT := Lib.hid hRT
      have HP := Lib.hid hp
      clear hRT hp
      have hTy := Crc.T_lt hb.1
      go_wp2_with (go_at_call 59; refine (raise_any _ _ hr).mono ?_; rintro e w' ⟨rfl, rfl⟩)
      rw [HT.out]
      obtain ⟨wo, rfl⟩ : ∃ wo : World, wo = wr := ⟨_, rfl⟩
      go_loopw [4] (fun a wr => ∃ (cs : Array Value) (h : Nat), a = .int .i64 h ∧ h < 512 ∧ h % (2 * y) = 0 ∧ Crc.Known2 y h cs ∧ Crc.Row 93 (w.heap.size + 1) cs wr ∧ Crc.Row 93 w.heap.size Crc.zeros wr ∧ Below w.heap.size w wr)
        (fun a _ => 512 - (intOf a).toNat)
      case atStart => exact ⟨cs, 0, rfl, by omega, by simp, HK.out.two, HR.out, HZ.out, hbel⟩
      case round =>
        obtain ⟨cs', h, rfl, hh, hm, hk2, hrow, hzero, hbel'⟩ := hrel
        clear HK HR HZ hbel
        by_cases hlt : h < 256
        · obtain ⟨hsum, hlt2, hnext⟩ := HP.out.sum hlt hm
          have hnew := Lib.hid (hk2.step HP.out hlt hm hrow.1)
          have hrow' := Lib.hid (fun v => hrow.set (h + y) (.int .u32 v))
          have hzero' : Hid (∀ v, Crc.Row 93 w.heap.size Crc.zeros (wr.setCell ⟨w.heap.size + 1, h + y, none⟩ (.int .u32 v))) := fun v => ⟨Crc.zeros_size, by rw [heap_setCell_other _ _ _ _ (by simp)]; exact hzero.2⟩
          have hc : wr.cell? ⟨w.heap.size + 1, h, none⟩ = some (.int .u32 ((Crc.T h : Nat) : Int)) := by
            rw [hrow.cell]; exact hk2 h hlt (.inl hm)
          have hc2 := hrow.some (h + y) hlt2
          have hf2 := hrow.frozen (h + y)
          have hx : bits .xor .u32 ((Crc.T h : Nat) : Int) ((Crc.T y : Nat) : Int) = ((Crc.T (h + y) : Nat) : Int) := by
            rw [u32_xor_nat _ _ (Crc.T_lt hlt) hTy, hsum]
          have HX := Lib.hid hx
          have HN := Lib.hid hnext
          clear hx hnext hsum hm hk2 hrow hzero
          have hi : ((h : Int) + (y : Int)).toNat = h + y := by omega
          go_wp2
          go_roundw
          case rel => exact ⟨_, h + 2 * y, by go_num, by omega, HN.out, hnew.out _ HX.out, hrow'.out _, hzero'.out _, hbel'.setCell (by simp) _⟩
          case measure => simp [intOf]; omega
        · have HN := Lib.hid (hk2.all hlt)
          have HH := Lib.hid (HP.out.half)
          go_wp2
          go_roundw
          case rel => exact ⟨cs', Crc.T y, y, y / 2, rfl, by go_num, hTy, HH.out, HN.out, hrow, hzero, hbel'⟩
          case measure => simp [intOf]; omega
end Go.Proofs.Ytnalpmiinoohoaa
