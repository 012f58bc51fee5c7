/-
  Layer 16: the program's deque: Push, Pop, Steal, New.
-/
import Derived.Test.YtlgelhkpdldgdaaDqV
namespace Go.Proofs.Ytlgelhkpdldgdaa
open Go.RowKit
set_option linter.unusedVariables false
set_option linter.unusedSimpArgs false

namespace Dq
/-- The owner's last act, and whether it is under way. -/
def OwnOk (own : Value) (busy : Bool) (w : World) : Prop := (own = .pointer none ∧ busy = false) ∨ ∃ (Po : Nat) (told : Int), own = .pointer (some ⟨Po, 0, none⟩) ∧ w.cell? ⟨Po, 7, none⟩ = some (.int .u8 told) ∧ busy = decide (told = 0)
end Dq
section
variable {K : Nat → Prop} {B M R : Nat} {F : Int} {own : Value} {D : Nat} {xs : List Int} {n : Nat} {w : World}
theorem q_free (h : Dq.Dv K B M R F own xs n w) (hd : Dq.Dd D R w) {busy : Bool} (ho : Dq.OwnOk own busy w) : Calls Try.prog 29 #[.pointer (some ⟨D, 0, none⟩)] w fun e w' => e = .returned (.int .i64 (if busy then 3 else 0)) ∧ w = w' := by
  have HI := Lib.hid (q_isD hd)
  have c0 := hd.c0
  have r4 := h.cell 4 rfl
  have HOW : Hid (Calls Try.prog 42 #[.pointer (some ⟨R, 0, none⟩)] w fun e w' => e = .returned (.bool busy) ∧ w = w') := by
    clear HI c0 h hd
    rcases ho with ⟨rfl, rfl⟩ | ⟨Po, told, rfl, c7, rfl⟩
    · go_enter Try.func42, Try.ntmps42
      go_wp2_with fail
      go_ret
      exact ⟨rfl, rfl⟩
    · have HV : Hid (Calls Try.prog 35 #[.pointer (some ⟨Po, 0, none⟩)] w fun e w' => e = .returned (.bool (decide (told ≠ 0))) ∧ w = w') := by
        clear r4
        go_enter Try.func35, Try.ntmps35
        go_wp2_with fail
        go_ret
        refine ⟨?_, rfl⟩
        first | rfl | (by_cases h0 : told = 0 <;> simp [h0])
      go_enter Try.func42, Try.ntmps42
      go_wp2_with fail
      refine HV.out.mono ?_
      rintro e w1 ⟨rfl, rfl⟩
      go_wp2_with fail
      go_ret
      refine ⟨?_, rfl⟩
      first | rfl | (by_cases h0 : told = 0 <;> simp [h0])
  clear h hd ho
  cases busy
  · go_enter Try.func29, Try.ntmps29
    go_wp2_with fail
    refine HI.out.mono ?_
    rintro e w1 ⟨rfl, rfl⟩
    go_wp2_with fail
    refine HOW.out.mono ?_
    rintro e w1 ⟨rfl, rfl⟩
    go_wp2_with fail
    go_ret
    exact ⟨rfl, rfl⟩
  · go_enter Try.func29, Try.ntmps29
    go_wp2_with fail
    refine HI.out.mono ?_
    rintro e w1 ⟨rfl, rfl⟩
    go_wp2_with fail
    refine HOW.out.mono ?_
    rintro e w1 ⟨rfl, rfl⟩
    go_wp2_with fail
    go_ret
    exact ⟨rfl, rfl⟩
end
namespace Dq
section
variable {K : Nat → Prop} {B M R : Nat} {F : Int} {own : Value} {D P : Nat} {xs : List Int} {n : Nat} {w w' : World} {a : A}
theorem cso_two {nx : Value} : 9 ≤ (cso R a nx).size ∧ (cso R a nx)[2]? = some (.pointer (some ⟨R, 0, none⟩)) := by
  unfold cso
  split
  · exact ⟨by show 9 ≤ 13; decide, rfl⟩
  · split
    · exact ⟨by show 9 ≤ 10; decide, rfl⟩
    · exact ⟨by show 9 ≤ 9; decide, rfl⟩
theorem Dd.lt (h : Dd D R w) : D < w.heap.size := Gm.ltHeap h
theorem Dd.below (h : Dd D R w) (hb : Below w.heap.size w w') : Dd D R w' := (hb.block D h.lt).trans h
/-- The owner's act is another one. -/
theorem Dv.setOwn (h : Dv K B M R F own xs n w) (x : Value) : Dv K B M R F x xs n (w.setCell ⟨R, 4, none⟩ x) := by
  refine ⟨h.pm.stay (by simp [World.setCell]) fun i _ hk => Below.heap_setCell _ _ _ _ fun (e : i = R) => hk (.inr e), ?_, h.nk⟩
  rw [heap_setCell_same _ _ _ _ _ _ h.row]
  rfl
/-- What begins an act. -/
def Bgn (K : Nat → Prop) (B M R : Nat) (F : Int) (own' : Nat → Value) (a : A) (xs : List Int) (n : Nat) (w : World) (e : Ending) (w' : World) : Prop :=
  ∃ P H, e = .returned (.tuple #[.pointer (some ⟨H, 0, none⟩), .int .i64 0]) ∧ w.heap.size ≤ P ∧ w.heap.size ≤ H ∧ P ≠ H ∧ Ap (fun i => K i ∨ i = P ∨ i = H) B M R F (own' P) P a xs n w' ∧ Hd H P w' ∧ Ce.Kept K w w'
theorem bgnOwner (h : Dv K B M R F own xs n w) {T : TypeId} {cs : Array Value} (hT : tyo a = T) (hc : cso R a (nxV w.heap.size a) = cs) : Bgn K B M R F (fun P => .pointer (some ⟨P, 0, none⟩)) a xs n w (.returned (.tuple #[.pointer (some ⟨w.heap.size + 1, 0, none⟩), .int .i64 0]))
    (((w.alloc (.cells cs T)).drew.setCell ⟨R, 4, none⟩ (.pointer (some ⟨w.heap.size, 0, none⟩))).alloc (.cells #[.pointer (some ⟨w.heap.size, 0, none⟩)] 98)) := by
  have hs : 9 ≤ cs.size ∧ cs[2]? = some (.pointer (some ⟨R, 0, none⟩)) := by rw [← hc]; exact cso_two
  have hR := h.ltR
  have b1 : Below w.heap.size w (w.alloc (.cells cs T)).drew := ((Below.refl _ _).alloc (Nat.le_refl _) _).drew
  have h1 := h.push b1
  have h2 := h1.setOwn (.pointer (some ⟨w.heap.size, 0, none⟩))
  have z2 : ((w.alloc (.cells cs T)).drew.setCell ⟨R, 4, none⟩ (.pointer (some ⟨w.heap.size, 0, none⟩))).heap.size = w.heap.size + 1 := by simp [World.setCell]
  have b3 : Below ((w.alloc (.cells cs T)).drew.setCell ⟨R, 4, none⟩ (.pointer (some ⟨w.heap.size, 0, none⟩))).heap.size ((w.alloc (.cells cs T)).drew.setCell ⟨R, 4, none⟩ (.pointer (some ⟨w.heap.size, 0, none⟩))) (((w.alloc (.cells cs T)).drew.setCell ⟨R, 4, none⟩ (.pointer (some ⟨w.heap.size, 0, none⟩))).alloc (.cells #[.pointer (some ⟨w.heap.size, 0, none⟩)] 98)) := (Below.refl _ _).alloc (Nat.le_refl _) _
  have h3 := h2.push b3
  refine ⟨w.heap.size, w.heap.size + 1, rfl, Nat.le_refl _, by omega, by omega, ?_, ?_, ?_⟩
  · unfold Ap
    rw [hT, hc]
    refine ⟨h3.mono fun i hi => ?_, ?_, .inr (.inl rfl), hs.2, hs.1⟩
    · rw [z2]
      rcases hi with hi | hi | hi
      · exact .inl (.inl hi)
      · exact .inl (.inr ⟨by omega, by simp; omega⟩)
      · exact .inr ⟨by omega, by simp [World.setCell]; omega⟩
    · rw [b3.block _ (by rw [z2]; omega), Below.heap_setCell _ _ _ _ (by show w.heap.size ≠ R; omega)]
      exact heap_alloc_new w _
  · unfold Hd
    have := heap_alloc_new ((w.alloc (.cells cs T)).drew.setCell ⟨R, 4, none⟩ (.pointer (some ⟨w.heap.size, 0, none⟩))) (.cells #[.pointer (some ⟨w.heap.size, 0, none⟩)] 98)
    rw [z2] at this
    exact this
  · exact ((Ce.Kept.of_below b1).trans (Ce.Kept.cell h.nk _ _)).trans (Ce.Kept.of_below b3)
theorem bgnSteal (h : Dv K B M R F own xs n w) {T : TypeId} {cs : Array Value} (hT : tyo a = T) (hc : cso R a (nxV w.heap.size a) = cs) : Bgn K B M R F (fun _ => own) a xs n w (.returned (.tuple #[.pointer (some ⟨w.heap.size + 1, 0, none⟩), .int .i64 0]))
    ((w.alloc (.cells cs T)).alloc (.cells #[.pointer (some ⟨w.heap.size, 0, none⟩)] 98)) := by
  have hs : 9 ≤ cs.size ∧ cs[2]? = some (.pointer (some ⟨R, 0, none⟩)) := by rw [← hc]; exact cso_two
  have hR := h.ltR
  have b1 : Below w.heap.size w (w.alloc (.cells cs T)) := (Below.refl _ _).alloc (Nat.le_refl _) _
  have h1 := h.push b1
  have z2 : (w.alloc (.cells cs T)).heap.size = w.heap.size + 1 := by simp
  have b3 : Below (w.alloc (.cells cs T)).heap.size (w.alloc (.cells cs T)) ((w.alloc (.cells cs T)).alloc (.cells #[.pointer (some ⟨w.heap.size, 0, none⟩)] 98)) := (Below.refl _ _).alloc (Nat.le_refl _) _
  have h3 := h1.push b3
  refine ⟨w.heap.size, w.heap.size + 1, rfl, Nat.le_refl _, by omega, by omega, ?_, ?_, ?_⟩
  · unfold Ap
    rw [hT, hc]
    refine ⟨h3.mono fun i hi => ?_, ?_, .inr (.inl rfl), hs.2, hs.1⟩
    · rw [z2]
      rcases hi with hi | hi | hi
      · exact .inl (.inl hi)
      · exact .inl (.inr ⟨by omega, by omega⟩)
      · exact .inr ⟨by omega, by simp; omega⟩
    · rw [b3.block _ (by rw [z2]; omega)]
      exact heap_alloc_new w _
  · unfold Hd
    have := heap_alloc_new (w.alloc (.cells cs T)) (.cells #[.pointer (some ⟨w.heap.size, 0, none⟩)] 98)
    rw [z2] at this
    exact this
  · exact (Ce.Kept.of_below b1).trans (Ce.Kept.of_below b3)
end
end Dq
section
variable {K : Nat → Prop} {B M R : Nat} {F : Int} {own : Value} {D : Nat} {xs : List Int} {n : Nat} {w : World}
set_option maxRecDepth 20000 in
theorem d_push (h : Dq.Dv K B M R F own xs n w) (hd : Dq.Dd D R w) (ho : Dq.OwnOk own false w) (v : Int) : Calls Try.prog 12 #[.pointer (some ⟨D, 0, none⟩), .int .i64 v] w (Dq.Bgn K B M R F (fun P => .pointer (some ⟨P, 0, none⟩)) (.new 0 v) xs n w) := by
  have HF := Lib.hid (q_free h hd ho)
  have c0 := hd.c0
  obtain ⟨W1, hW1⟩ : ∃ W1, W1 = w.alloc (.cells #[.int .i64 0, .int .i64 0, .pointer (some ⟨R, 0, none⟩), .int .i64 0, .int .i64 0, .int .i64 0, .func (.func 30) #[.pointer (some ⟨w.heap.size, 0, none⟩)] #[], .int .u8 0, .int .i64 0, .int .i64 v, .int .i64 0, .int .i64 0, .int .i64 0] 96) := ⟨_, rfl⟩
  have HX : Hid (Dq.Bgn K B M R F (fun P => .pointer (some ⟨P, 0, none⟩)) (.new 0 v) xs n w (.returned (.tuple #[.pointer (some ⟨w.heap.size + 1, 0, none⟩), .int .i64 0])) ((W1.drew.setCell ⟨R, 4, none⟩ (.pointer (some ⟨w.heap.size, 0, none⟩))).alloc (.cells #[.pointer (some ⟨w.heap.size, 0, none⟩)] 98))) := by
    rw [hW1]
    exact Dq.bgnOwner (a := (.new 0 v)) h rfl rfl
  have b1 : Below w.heap.size w W1 := by rw [hW1]; exact (Below.refl _ _).alloc (Nat.le_refl _) _
  have d0 : W1.cell? ⟨D, 0, none⟩ = some (.pointer (some ⟨R, 0, none⟩)) := (hd.below b1).c0
  have r4 : W1.cell? ⟨R, 4, none⟩ = some own := (h.below b1).cell 4 rfl
  have rf : W1.frozen? ⟨R, 4, none⟩ = false := (h.below b1).fro 4
  have z1 : W1.heap.size = w.heap.size + 1 := by rw [hW1]; simp
  clear h hd ho b1
  unfold Dq.Bgn at HX ⊢
  go_enter Try.func12, Try.ntmps12
  go_wp2_with fail
  refine HF.out.mono ?_
  rintro e w1 ⟨rfl, rfl⟩
  go_wp2_with fail
  rw [← hW1]
  clear hW1 HF c0
  go_region
  all_goals
    go_wp2_with fail
    go_ret2
    have hx := HX.out
    exact hx
theorem d_push_busy (h : Dq.Dv K B M R F own xs n w) (hd : Dq.Dd D R w) (ho : Dq.OwnOk own true w) (v : Int) : Calls Try.prog 12 #[.pointer (some ⟨D, 0, none⟩), .int .i64 v] w fun e w' => e = .returned (.tuple #[.pointer none, .int .i64 3]) ∧ w = w' := by
  have HF := Lib.hid (q_free h hd ho)
  clear h hd ho
  go_enter Try.func12, Try.ntmps12
  go_wp2_with fail
  refine HF.out.mono ?_
  rintro e w1 ⟨rfl, rfl⟩
  go_wp2_with fail
  go_ret2
  exact ⟨rfl, rfl⟩
set_option maxRecDepth 20000 in
theorem d_pop (h : Dq.Dv K B M R F own xs n w) (hd : Dq.Dd D R w) (ho : Dq.OwnOk own false w) : Calls Try.prog 13 #[.pointer (some ⟨D, 0, none⟩)] w (Dq.Bgn K B M R F (fun P => .pointer (some ⟨P, 0, none⟩)) (.new 1 0) xs n w) := by
  have HF := Lib.hid (q_free h hd ho)
  have c0 := hd.c0
  obtain ⟨W1, hW1⟩ : ∃ W1, W1 = w.alloc (.cells #[.int .i64 0, .int .i64 0, .pointer (some ⟨R, 0, none⟩), .int .i64 0, .int .i64 0, .int .i64 0, .func (.func 31) #[.pointer (some ⟨w.heap.size, 0, none⟩)] #[], .int .u8 0, .int .i64 0, .bool false] 101) := ⟨_, rfl⟩
  have HX : Hid (Dq.Bgn K B M R F (fun P => .pointer (some ⟨P, 0, none⟩)) (.new 1 0) xs n w (.returned (.tuple #[.pointer (some ⟨w.heap.size + 1, 0, none⟩), .int .i64 0])) ((W1.drew.setCell ⟨R, 4, none⟩ (.pointer (some ⟨w.heap.size, 0, none⟩))).alloc (.cells #[.pointer (some ⟨w.heap.size, 0, none⟩)] 98))) := by
    rw [hW1]
    exact Dq.bgnOwner (a := (.new 1 0)) h rfl rfl
  have b1 : Below w.heap.size w W1 := by rw [hW1]; exact (Below.refl _ _).alloc (Nat.le_refl _) _
  have d0 : W1.cell? ⟨D, 0, none⟩ = some (.pointer (some ⟨R, 0, none⟩)) := (hd.below b1).c0
  have r4 : W1.cell? ⟨R, 4, none⟩ = some own := (h.below b1).cell 4 rfl
  have rf : W1.frozen? ⟨R, 4, none⟩ = false := (h.below b1).fro 4
  have z1 : W1.heap.size = w.heap.size + 1 := by rw [hW1]; simp
  clear h hd ho b1
  unfold Dq.Bgn at HX ⊢
  go_enter Try.func13, Try.ntmps13
  go_wp2_with fail
  refine HF.out.mono ?_
  rintro e w1 ⟨rfl, rfl⟩
  go_wp2_with fail
  rw [← hW1]
  clear hW1 HF c0
  go_region
  all_goals
    go_wp2_with fail
    go_ret2
    have hx := HX.out
    exact hx
theorem d_pop_busy (h : Dq.Dv K B M R F own xs n w) (hd : Dq.Dd D R w) (ho : Dq.OwnOk own true w) : Calls Try.prog 13 #[.pointer (some ⟨D, 0, none⟩)] w fun e w' => e = .returned (.tuple #[.pointer none, .int .i64 3]) ∧ w = w' := by
  have HF := Lib.hid (q_free h hd ho)
  clear h hd ho
  go_enter Try.func13, Try.ntmps13
  go_wp2_with fail
  refine HF.out.mono ?_
  rintro e w1 ⟨rfl, rfl⟩
  go_wp2_with fail
  go_ret2
  exact ⟨rfl, rfl⟩
set_option maxRecDepth 20000 in
theorem d_steal (h : Dq.Dv K B M R F own xs n w) (hd : Dq.Dd D R w) : Calls Try.prog 14 #[.pointer (some ⟨D, 0, none⟩)] w (Dq.Bgn K B M R F (fun _ => own) (.new 2 0) xs n w) := by
  have HI := Lib.hid (q_isD hd)
  have c0 := hd.c0
  have HX : Hid (Dq.Bgn K B M R F (fun _ => own) (.new 2 0) xs n w (.returned (.tuple #[.pointer (some ⟨w.heap.size + 1, 0, none⟩), .int .i64 0])) ((w.alloc (.cells #[.int .i64 0, .int .i64 0, .pointer (some ⟨R, 0, none⟩), .int .i64 0, .int .i64 0, .int .i64 0, .func (.func 33) #[.pointer (some ⟨w.heap.size, 0, none⟩)] #[], .int .u8 0, .int .i64 0] 104)).alloc (.cells #[.pointer (some ⟨w.heap.size, 0, none⟩)] 98))) := Dq.bgnSteal (a := .new 2 0) h rfl rfl
  clear h hd
  unfold Dq.Bgn at HX ⊢
  go_enter Try.func14, Try.ntmps14
  go_wp2_with fail
  refine HI.out.mono ?_
  rintro e w1 ⟨rfl, rfl⟩
  go_wp2_with fail
  go_ret2
  have hx := HX.out
  simpa using hx
end
end Go.Proofs.Ytlgelhkpdldgdaa
