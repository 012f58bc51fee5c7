/-
  Layer 16: the program's deque: what acts read, leave and take.
-/
import Derived.Test.YtlgelhkpdldgdaaDqB
namespace Go.Proofs.Ytlgelhkpdldgdaa
open Go.RowKit
set_option linter.unusedVariables false
set_option linter.unusedSimpArgs false

theorem q_place (w : World) (wh n i : Int) (h0 : 0 ≤ wh) (h1 : 1 ≤ n) (h2 : wh + n ≤ 70000) (hi : 0 ≤ i ∧ i ≤ 1000000) : Calls Try.prog 80 #[.agg #[.int .i64 wh, .int .i64 n], .int .i64 i] w fun e w' => e = .returned (.int .i64 (Dq.pl wh n i)) ∧ Below w.heap.size w w' := by
  have hm1 := Int.emod_nonneg i (show n ≠ 0 by omega)
  have hm2 := Int.emod_lt_of_pos i (show 0 < n by omega)
  have ht : i.tmod n = i % n := Int.tmod_eq_emod_of_nonneg hi.1
  have hn1 : ¬ n < 1 := by omega
  have hn0 : ¬ n = 0 := by omega
  have hlt : ¬ i % n < 0 := by omega
  have hw1 : IntKind.i64.wrap (i % n) = i % n := by rw [IntKind.wrap_i64]; omega
  have hw2 : IntKind.i64.wrap (wh + 1) = wh + 1 := by rw [IntKind.wrap_i64]; omega
  have hw3 : IntKind.i64.wrap (wh + 1 + i % n) = Dq.pl wh n i := by rw [IntKind.wrap_i64]; unfold Dq.pl; omega
  clear hm1 hm2 h0 h1 h2 hi
  generalize i % n = m at hlt hw1 hw3 ht
  go_enter Try.func80, Try.ntmps80
  go_wp2_with fail
  go_ret
  exact ⟨rfl, (Below.refl _ _).alloc (Nat.le_refl _) _⟩
section
variable {K : Nat → Prop} {B M R : Nat} {F : Int} {own : Value} {P : Nat} {T : TypeId} {cs : Array Value} {xs : List Int} {n : Nat} {w : World}
/-- What a reading ends in. -/
def Dq.Rdd (K : Nat → Prop) (B M R : Nat) (F : Int) (own : Value) (P : Nat) (T : TypeId) (cs : Array Value) (xs : List Int) (n : Nat) (w : World) (e : Ending) (w' : World) : Prop :=
  e = .returned (.int .i64 0) ∧ Hid (Dq.Atc K B M R F own P T cs xs n w' ∧ Ce.Kept (fun i => K i ∧ i ≠ P) w w')
theorem q_cellU (h : Dq.Atc K B M R F own P T cs xs n w) (hb : Dq.Bd F xs n) (k : Int) (hk : 0 ≤ k ∧ k ≤ 3) : ∀ U, Below w.heap.size w U → Calls Try.prog 56 #[.pointer (some ⟨P, 0, none⟩), .int .i64 k] U fun e w' => e = .returned (.int .i64 (F + k)) ∧ U = w' := fun U hU => q_cell (h.below hU) k hk (by have := hb.F0; have := hb.F3; have := hb.len; omega)
theorem q_readU (h : Dq.Atc K B M R F own P T cs xs n w) (hb : Dq.Bd F xs n) (at_ : Int) (h0 : 0 ≤ at_) (hl : at_ < xs.length) (j : Nat) (hj : j ≠ 2 ∧ j < 9 ∧ j ≠ 6) (nx : Value) (hn : Dq.Fnv nx) : ∀ U, Below w.heap.size w U → Calls Try.prog 55 #[.pointer (some ⟨P, 0, none⟩), .int .i64 at_, .pointer (some ⟨P, j, none⟩), nx] U (Dq.Rdd K B M R F own P T ((cs.setIfInBounds j (.int .i64 (Dq.ld xs at_))).setIfInBounds 6 nx) xs (n + 1) w) := fun U hU => by
  refine (q_read (h.below hU) hb at_ h0 hl j hj nx hn).mono ?_
  rintro e w' ⟨rfl, h1, h2⟩
  exact ⟨rfl, h1, h2.aft hU⟩
theorem q_writeU (h : Dq.Atc K B M R F own P T cs xs n w) (hb : Dq.Bd F xs n) (at_ v : Int) (h0 : 0 ≤ at_) (hl : at_ < xs.length) (nx : Value) (hn : Dq.Fnv nx) : ∀ U, Below w.heap.size w U → Calls Try.prog 68 #[.pointer (some ⟨P, 0, none⟩), .int .i64 at_, .int .i64 v, nx] U (Dq.Rdd K B M R F own P T (cs.setIfInBounds 6 nx) (Dq.up xs at_ v) (n + 1) w) := fun U hU => by
  refine (q_write (h.below hU) hb at_ v h0 hl nx hn).mono ?_
  rintro e w' ⟨rfl, h1, h2⟩
  exact ⟨rfl, h1, h2.aft hU⟩
theorem q_readTop (h : Dq.Atc K B M R F own P T cs xs n w) (hb : Dq.Bd F xs n) (nx : Value) (hn : Dq.Fnv nx) : Calls Try.prog 46 #[.pointer (some ⟨P, 0, none⟩), nx] w (Dq.Rdd K B M R F own P T ((cs.setIfInBounds 3 (.int .i64 (Dq.ld xs F))).setIfInBounds 6 nx) xs (n + 1) w) := by
  have HC : Hid (∀ U, Below w.heap.size w U → Calls Try.prog 56 #[.pointer (some ⟨P, 0, none⟩), .int .i64 0] U fun e w' => e = .returned (.int .i64 F) ∧ U = w') := by
    have := q_cellU h hb 0 (by omega)
    rw [Int.add_zero] at this
    exact this
  have HR := Lib.hid (q_readU h hb F hb.F0 (by have := hb.F3; omega) 3 (by decide) nx hn)
  have hd : Below w.heap.size w w.drew := (Below.refl _ _).drew
  clear h hb hn
  unfold Dq.Rdd at HR ⊢
  go_enter Try.func46, Try.ntmps46
  go_wp2_with fail
  go_region_with (first
    | (go_at_call 56; refine (HC.out _ hd).mono ?_; rintro e w' ⟨rfl, rfl⟩)
    | (go_at_call 55; refine (HR.out _ hd).mono ?_; rintro e w' ⟨rfl, hh⟩))
  all_goals
    go_wp2_with fail
    go_ret
    exact ⟨rfl, hh⟩
theorem q_readWhere (h : Dq.Atc K B M R F own P T cs xs n w) (hb : Dq.Bd F xs n) (nx : Value) (hn : Dq.Fnv nx) : Calls Try.prog 58 #[.pointer (some ⟨P, 0, none⟩), nx] w (Dq.Rdd K B M R F own P T ((cs.setIfInBounds 0 (.int .i64 (Dq.ld xs (F + 2)))).setIfInBounds 6 nx) xs (n + 1) w) := by
  have HC := Lib.hid (q_cellU h hb 2 (by omega))
  have HR := Lib.hid (q_readU h hb (F + 2) (by have := hb.F0; omega) (by have := hb.F3; omega) 0 (by decide) nx hn)
  have hd : Below w.heap.size w w.drew := (Below.refl _ _).drew
  clear h hb hn
  unfold Dq.Rdd at HR ⊢
  go_enter Try.func58, Try.ntmps58
  go_wp2_with fail
  go_region_with (first
    | (go_at_call 56; refine (HC.out _ hd).mono ?_; rintro e w' ⟨rfl, rfl⟩)
    | (go_at_call 55; refine (HR.out _ hd).mono ?_; rintro e w' ⟨rfl, hh⟩))
  all_goals
    go_wp2_with fail
    go_ret
    exact ⟨rfl, hh⟩
theorem q_readCount (h : Dq.Atc K B M R F own P T cs xs n w) (hb : Dq.Bd F xs n) (nx : Value) (hn : Dq.Fnv nx) {wh : Int} (hc : cs[0]? = some (.int .i64 wh)) (h0 : 0 ≤ wh ∧ wh < xs.length) : Calls Try.prog 73 #[.pointer (some ⟨P, 0, none⟩), nx] w (Dq.Rdd K B M R F own P T ((cs.setIfInBounds 1 (.int .i64 (Dq.ld xs wh))).setIfInBounds 6 nx) xs (n + 1) w) := by
  have HR := Lib.hid (q_readU h hb wh h0.1 h0.2 1 (by decide) nx hn)
  have hd : Below w.heap.size w w.drew := (Below.refl _ _).drew
  have c0 := h.cell 0 hc
  clear h hb hn h0
  unfold Dq.Rdd at HR ⊢
  go_enter Try.func73, Try.ntmps73
  go_wp2_with fail
  go_region_with (go_at_call 55; refine (HR.out _ hd).mono ?_; rintro e w' ⟨rfl, hh⟩)
  all_goals
    go_wp2_with fail
    go_ret
    exact ⟨rfl, hh⟩
theorem q_readPlace (h : Dq.Atc K B M R F own P T cs xs n w) (hb : Dq.Bd F xs n) (nx : Value) (hn : Dq.Fnv nx) {wh m : Int} (hc : cs[0]? = some (.int .i64 wh)) (hc1 : cs[1]? = some (.int .i64 m)) (h0 : Dq.RowOk xs wh m) (i : Int) (hi : 0 ≤ i ∧ i ≤ 1000000) : Calls Try.prog 86 #[.pointer (some ⟨P, 0, none⟩), .int .i64 i, nx] w (Dq.Rdd K B M R F own P T ((cs.setIfInBounds 5 (.int .i64 (Dq.ld xs (Dq.pl wh m i)))).setIfInBounds 6 nx) xs (n + 1) w) := by
  have hp := h0.place i
  have HR := Lib.hid (q_readU h hb (Dq.pl wh m i) hp.1 hp.2 5 (by decide) nx hn)
  have HP : Hid (∀ U, Below w.heap.size w U → Calls Try.prog 80 #[.agg #[.int .i64 wh, .int .i64 m], .int .i64 i] U fun e w' => e = .returned (.int .i64 (Dq.pl wh m i)) ∧ Below w.heap.size w w') := fun U hU => by
    have h1 := h0.w0
    have h2 := h0.n1
    have h3 := h0.lt
    have h4 := hb.len
    refine (q_place U wh m i h1 h2 (by omega) hi).mono ?_
    rintro e w' ⟨rfl, hb2⟩
    exact ⟨rfl, hU.trans (hb2.mono hU.size)⟩
  have hd : Below w.heap.size w w.drew := (Below.refl _ _).drew
  have c0 := h.cell 0 hc
  have c1 := h.cell 1 hc1
  clear h hb hn h0 hp hi
  unfold Dq.Rdd at HR ⊢
  go_enter Try.func86, Try.ntmps86
  go_wp2_with fail
  go_region_with (first
    | (go_at_call 80; refine (HP.out _ hd).mono ?_; rintro e wp ⟨rfl, hd2⟩)
    | (go_at_call 55; refine (HR.out _ (by assumption)).mono ?_; rintro e w' ⟨rfl, hh⟩))
  all_goals
    go_wp2_with fail
    go_ret
    exact ⟨rfl, hh⟩
theorem q_leave (h : Dq.Atc K B M R F own P T cs xs n w) (hb : Dq.Bd F xs n) (b came got : Int) : Calls Try.prog 85 #[.pointer (some ⟨P, 0, none⟩), .int .i64 b, .int .u8 came, .int .i64 got] w (Dq.Rdd K B M R F own P T ((((cs.setIfInBounds 6 .nilFunc).setIfInBounds 6 .nilFunc).setIfInBounds 7 (.int .u8 came)).setIfInBounds 8 (.int .i64 got)) (Dq.up xs (F + 1) b) (n + 1) w) := by
  have HC := Lib.hid (q_cellU h hb 1 (by omega) w (Below.refl _ _))
  have HW := Lib.hid (q_writeU h hb (F + 1) b (by have := hb.F0; omega) (by have := hb.F3; omega) .nilFunc (.inl rfl) w (Below.refl _ _))
  clear h hb
  unfold Dq.Rdd at HW ⊢
  go_enter Try.func85, Try.ntmps85
  go_wp2_with fail
  refine HC.out.mono ?_
  rintro e w1 ⟨rfl, rfl⟩
  go_wp2_with fail
  refine HW.out.mono ?_
  rintro e w2 ⟨rfl, hh⟩
  have HE := Lib.hid (q_end hh.out.1 came got)
  go_wp2_with fail
  refine HE.out.mono ?_
  rintro e w3 ⟨rfl, h3, k3⟩
  have HH : Hid (Dq.Atc K B M R F own P T ((((cs.setIfInBounds 6 .nilFunc).setIfInBounds 6 .nilFunc).setIfInBounds 7 (.int .u8 came)).setIfInBounds 8 (.int .i64 got)) (Dq.up xs (F + 1) b) (n + 1) w3 ∧ Ce.Kept (fun i => K i ∧ i ≠ P) w w3) := ⟨h3, hh.out.2.trans k3⟩
  clear h3 k3 hh
  go_wp2_with fail
  go_ret
  exact ⟨rfl, HH⟩
end
end Go.Proofs.Ytlgelhkpdldgdaa
