/-
  Layer 14: what ops make, by closures; the contracts of maker and reckon.
-/
import Derived.Test.YtnlhacgihmelhaaGreatDoorVmG
import Derived.Test.YtnlhacgihmelhaaGreatDoorLowEvA
namespace Go.Proofs.YtnlhacgihmelhaaGreatDoor
open Go.RowKit

namespace Vm
open Cd Ev
def mkV (k : Nat) (a b n : Int) : Option Int := if k = 1 then some n else calcV k a b
/-- The closure of an op's kind, and what it holds: the op, and the two numbers. -/
def mkf (k : Nat) : Nat := match k with
  | 1 => 159
  | 2 => 160
  | 3 => 161
  | 4 => 162
  | 5 => 163
  | 6 => 164
  | 7 => 165
  | 8 => 166
  | _ => 168
def mkc (k O A B : Nat) : Array Value := match k with
  | 1 => #[.pointer (some ⟨O, 0, none⟩)]
  | 2 => #[.pointer (some ⟨A, 0, none⟩)]
  | _ => #[.pointer (some ⟨A, 0, none⟩), .pointer (some ⟨B, 0, none⟩)]
theorem mkV_none {k : Nat} {a b n : Int} (h1 : 1 ≤ k) (h9 : k ≤ 9) : mkV k a b n = none ↔ (k = 6 ∨ k = 7) ∧ b = 0 := by
  unfold mkV calcV
  obtain rfl | rfl | rfl | rfl | rfl | rfl | rfl | rfl | rfl : k = 1 ∨ k = 2 ∨ k = 3 ∨ k = 4 ∨ k = 5 ∨ k = 6 ∨ k = 7 ∨ k = 8 ∨ k = 9 := by omega
  all_goals simp
theorem plainF_eq {o : OpV} {s : Fs} (h1 : 1 ≤ o.k) (h9 : o.k ≤ 9) : plainF o s = match mkV o.k (rgAt s.regs o.a) (rgAt s.regs o.b) o.n with
    | none => endW s ⟨0, 131⟩
    | some x => (.more, { s with regs := s.regs.set o.d.toNat x }) := by
  unfold plainF plain mkV
  by_cases e1 : o.k = 1
  · rw [if_pos e1, if_pos e1]
    rfl
  · rw [if_neg e1, if_neg e1, if_neg (by omega), if_neg (by omega)]
    have e : calcV o.k (rgAt (stx s).regs o.a) (if o.k = 2 then 0 else rgAt (stx s).regs o.b) = calcV o.k (rgAt s.regs o.a) (rgAt s.regs o.b) := by
      by_cases e2 : o.k = 2
      · unfold calcV
        rw [if_pos e2, if_pos e2]
        rfl
      · rw [if_neg e2]
        rfl
    rw [e]
    cases calcV o.k (rgAt s.regs o.a) (rgAt s.regs o.b) <;> rfl
end Vm

theorem vtruth (b : Bool) (w : World) : Calls Tryz.prog 167 #[.bool b] w fun e w' => e = .returned (.int .i64 (if b then 1 else 0)) ∧ w = w' := by
  cases b
  all_goals
    go_enter Tryz.func167, Tryz.ntmps167
    go_wp2_with fail
    go_ret
    exact ⟨rfl, rfl⟩
theorem vdivides (k : Nat) (w : World) : Calls Tryz.prog 158 #[.int .u8 (k : Int)] w fun e w' => e = .returned (.bool (decide (k = 6) || decide (k = 7))) ∧ w = w' := by
  by_cases h6 : k = 6
  · subst h6
    go_enter Tryz.func158, Tryz.ntmps158
    go_wp2_with fail
    go_ret
    exact ⟨rfl, rfl⟩
  · have e6 : ((k : Int) == 6) = false := by rw [beq_eq_false_iff_ne]; omega
    have e7 : ((k : Int) == 7) = decide (k = 7) := by
      rw [Bool.eq_iff_iff, beq_iff_eq, decide_eq_true_iff]
      omega
    rw [decide_eq_false h6, Bool.false_or]
    generalize decide (k = 7) = b7 at e7 ⊢
    clear h6
    go_enter Tryz.func158, Tryz.ntmps158
    go_wp2_with fail
    go_ret
    exact ⟨rfl, rfl⟩

set_option maxHeartbeats 1000000 in
set_option maxRecDepth 20000 in
theorem vmade (k : Nat) (h1 : 1 ≤ k) (h9 : k ≤ 9) (O A B : Nat) (xa xb n x : Int) (hx : Vm.mkV k xa xb n = some x) (w : World) (ho : w.cell? ⟨O, 4, none⟩ = some (.int .i64 n)) (ha : w.cell? ⟨A, 0, none⟩ = some (.int .i64 xa)) (hb : w.cell? ⟨B, 0, none⟩ = some (.int .i64 xb)) :
    Calls Tryz.prog (Vm.mkf k) (Vm.mkc k O A B) w fun e w' => e = .returned (.int .i64 x) ∧ w = w' := by
  have HX := Lib.hid hx
  have hz : (k = 6 ∨ k = 7) → xb ≠ 0 := fun h e => by
    rw [(Vm.mkV_none h1 h9).2 ⟨h, e⟩] at hx
    cases hx
  clear hx
  obtain rfl | rfl | rfl | rfl | rfl | rfl | rfl | rfl | rfl : k = 1 ∨ k = 2 ∨ k = 3 ∨ k = 4 ∨ k = 5 ∨ k = 6 ∨ k = 7 ∨ k = 8 ∨ k = 9 := by omega
  · show Calls Tryz.prog 159 #[.pointer (some ⟨O, 0, none⟩)] _ _
    clear hz
    go_enter Tryz.func159, Tryz.ntmps159
    go_wp2_with fail
    go_ret
    exact ⟨by have := Option.some.inj HX.out; rw [← this]; rfl, rfl⟩
  · show Calls Tryz.prog 160 #[.pointer (some ⟨A, 0, none⟩)] _ _
    clear hz
    go_enter Tryz.func160, Tryz.ntmps160
    go_wp2_with fail
    go_ret
    exact ⟨by have := Option.some.inj HX.out; rw [← this]; rfl, rfl⟩
  · show Calls Tryz.prog 161 #[.pointer (some ⟨A, 0, none⟩), .pointer (some ⟨B, 0, none⟩)] _ _
    clear hz
    go_enter Tryz.func161, Tryz.ntmps161
    go_wp2_with fail
    go_ret
    exact ⟨by have := Option.some.inj ((Ev.wrap_some _).symm.trans HX.out); rw [← this]; rfl, rfl⟩
  · show Calls Tryz.prog 162 #[.pointer (some ⟨A, 0, none⟩), .pointer (some ⟨B, 0, none⟩)] _ _
    clear hz
    go_enter Tryz.func162, Tryz.ntmps162
    go_wp2_with fail
    go_ret
    exact ⟨by have := Option.some.inj ((Ev.wrap_some _).symm.trans HX.out); rw [← this]; rfl, rfl⟩
  · show Calls Tryz.prog 163 #[.pointer (some ⟨A, 0, none⟩), .pointer (some ⟨B, 0, none⟩)] _ _
    clear hz
    go_enter Tryz.func163, Tryz.ntmps163
    go_wp2_with fail
    go_ret
    exact ⟨by have := Option.some.inj ((Ev.wrap_some _).symm.trans HX.out); rw [← this]; rfl, rfl⟩
  · show Calls Tryz.prog 164 #[.pointer (some ⟨A, 0, none⟩), .pointer (some ⟨B, 0, none⟩)] _ _
    have hz0 := hz (by omega)
    have HE : Hid (x = wrap64 (xa.tdiv xb)) := by
      have := HX.out
      unfold Vm.mkV Ev.calcV at this
      simp [hz0] at this
      show _ = _
      rw [← this]
      exact Option.some.inj (Ev.wrap_some _)
    clear hz
    go_enter Tryz.func164, Tryz.ntmps164
    go_wp2_with fail
    go_ret
    exact ⟨by rw [HE.out]; rfl, rfl⟩
  · show Calls Tryz.prog 165 #[.pointer (some ⟨A, 0, none⟩), .pointer (some ⟨B, 0, none⟩)] _ _
    have hz0 := hz (by omega)
    have HE : Hid (x = xa.tmod xb) := by
      have := HX.out
      unfold Vm.mkV Ev.calcV at this
      simp [hz0] at this
      show _ = _
      rw [← this]
    clear hz
    go_enter Tryz.func165, Tryz.ntmps165
    go_wp2_with fail
    go_ret
    exact ⟨by rw [HE.out]; rfl, rfl⟩
  · show Calls Tryz.prog 166 #[.pointer (some ⟨A, 0, none⟩), .pointer (some ⟨B, 0, none⟩)] _ _
    clear hz
    by_cases h : xa < xb
    · have HE : Hid (x = 1) := by
        have := HX.out
        unfold Vm.mkV Ev.calcV at this
        simp [h] at this
        exact this.symm
      have H8 := Lib.hid (vtruth true w)
      go_enter Tryz.func166, Tryz.ntmps166
      go_wp2_with fail
      refine H8.out.mono ?_
      rintro e w1 ⟨rfl, rfl⟩
      go_wp2_with fail
      go_ret
      exact ⟨by rw [HE.out]; rfl, rfl⟩
    · have HE : Hid (x = 0) := by
        have := HX.out
        unfold Vm.mkV Ev.calcV at this
        simp [h] at this
        exact this.symm
      have H8 := Lib.hid (vtruth false w)
      go_enter Tryz.func166, Tryz.ntmps166
      go_wp2_with fail
      refine H8.out.mono ?_
      rintro e w1 ⟨rfl, rfl⟩
      go_wp2_with fail
      go_ret
      exact ⟨by rw [HE.out]; rfl, rfl⟩
  · show Calls Tryz.prog 168 #[.pointer (some ⟨A, 0, none⟩), .pointer (some ⟨B, 0, none⟩)] _ _
    clear hz
    by_cases h : xa = xb
    · have HE : Hid (x = 1) := by
        have := HX.out
        unfold Vm.mkV Ev.calcV at this
        simp [h] at this
        exact this.symm
      have H8 := Lib.hid (vtruth true w)
      have hq : (xa == xb) = true := by simpa using h
      clear h
      go_enter Tryz.func168, Tryz.ntmps168
      go_wp2_with fail
      refine H8.out.mono ?_
      rintro e w1 ⟨rfl, rfl⟩
      go_wp2_with fail
      go_ret
      exact ⟨by rw [HE.out]; rfl, rfl⟩
    · have HE : Hid (x = 0) := by
        have := HX.out
        unfold Vm.mkV Ev.calcV at this
        simp [h] at this
        exact this.symm
      have H8 := Lib.hid (vtruth false w)
      have hq : (xa == xb) = false := by simpa using h
      clear h
      go_enter Tryz.func168, Tryz.ntmps168
      go_wp2_with fail
      refine H8.out.mono ?_
      rintro e w1 ⟨rfl, rfl⟩
      go_wp2_with fail
      go_ret
      exact ⟨by rw [HE.out]; rfl, rfl⟩

namespace Vm
open Cd Ev
/-- What maker leaves. -/
def MkP (k : Nat) (xa xb n : Int) (w : World) (e : Ending) (w' : World) : Prop :=
  Below w.heap.size w w' ∧ ((mkV k xa xb n = none ∧ e = .returned .nilFunc) ∨ ∃ (x : Int) (O A B : Nat), mkV k xa xb n = some x ∧ e = .returned (.func (.func (mkf k)) #[] (mkc k O A B)) ∧
    Hid (w'.cell? ⟨O, 4, none⟩ = some (.int .i64 n) ∧ w'.cell? ⟨A, 0, none⟩ = some (.int .i64 xa) ∧ w'.cell? ⟨B, 0, none⟩ = some (.int .i64 xb)))
theorem vm_two (V : World) (T : TypeId) (x y : Int) : ((V.alloc (.cells #[.int .i64 x] T)).alloc (.cells #[.int .i64 y] T)).drew.cell? ⟨V.heap.size, 0, none⟩ = some (.int .i64 x) ∧ ((V.alloc (.cells #[.int .i64 x] T)).alloc (.cells #[.int .i64 y] T)).drew.cell? ⟨V.heap.size + 1, 0, none⟩ = some (.int .i64 y) ∧ Below V.heap.size V ((V.alloc (.cells #[.int .i64 x] T)).alloc (.cells #[.int .i64 y] T)).drew := by
  have hb1 : Below V.heap.size V (V.alloc (.cells #[.int .i64 x] T)) := Cd.fn1 _ _ _
  have hb2 : Below (V.alloc (.cells #[.int .i64 x] T)).heap.size (V.alloc (.cells #[.int .i64 x] T)) ((V.alloc (.cells #[.int .i64 x] T)).alloc (.cells #[.int .i64 y] T)) := Cd.fn1 _ _ _
  have hs : (V.alloc (.cells #[.int .i64 x] T)).heap.size = V.heap.size + 1 := by simp
  refine ⟨?_, ?_, (hb1.trans (hb2.mono hb1.size)).drew⟩
  · have h1 : (V.alloc (.cells #[.int .i64 x] T)).heap[V.heap.size]? = some (.cells #[.int .i64 x] T (0, 0)) := heap_alloc_new V _
    exact cell_of_row ((V.alloc (.cells #[.int .i64 x] T)).alloc (.cells #[.int .i64 y] T)) _ 0 _ _ _ ((hb2.block V.heap.size (by omega)).trans h1)
  · have h2 : ((V.alloc (.cells #[.int .i64 x] T)).alloc (.cells #[.int .i64 y] T)).heap[V.heap.size + 1]? = some (.cells #[.int .i64 y] T (0, 0)) := by rw [← hs]; exact heap_alloc_new _ _
    exact cell_of_row ((V.alloc (.cells #[.int .i64 x] T)).alloc (.cells #[.int .i64 y] T)) _ 0 _ _ _ h2
end Vm

set_option maxHeartbeats 2000000 in
set_option maxRecDepth 20000 in
theorem vmaker {K : Nat → Prop} {b : Vm.Bk} {p : List Cd.FnV} {t : Ev.Tsk} {s : Vm.Fs} {w : World} (h : Vm.Hf K b p t s w) (k a c : Nat) (d n : Int) (h1 : 1 ≤ k) (h9 : k ≤ 9) (ha : a < s.regs.length) (hc : c < s.regs.length) :
    Calls Tryz.prog 142 #[.pointer (some ⟨b.F, 0, none⟩), .agg #[.int .u8 (k : Int), .int .i64 d, .int .i64 (a : Int), .int .i64 (c : Int), .int .i64 n]] w (Vm.MkP k (s.regs[a]) (s.regs[c]) n w) := by
  obtain ⟨V, hV⟩ : ∃ V, V = w.alloc (.cells #[.int .u8 (k : Int), .int .i64 d, .int .i64 (a : Int), .int .i64 (c : Int), .int .i64 n] 72) := ⟨_, rfl⟩
  have hb1 : Below w.heap.size w V := by rw [hV]; exact Cd.fn1 _ _ _
  have hO : V.heap[w.heap.size]? = some (.cells #[.int .u8 (k : Int), .int .i64 d, .int .i64 (a : Int), .int .i64 (c : Int), .int .i64 n] 72 (0, 0)) := by rw [hV]; exact heap_alloc_new w _
  have hF := h.fr.below hb1
  have t6 : V.cell? ⟨b.F, 6, none⟩ = some (.slice (some ⟨b.R, 0, none⟩) s.regs.length s.regs.length) := hF.cell 6
  have ra := hF.reg ha
  have rc := hF.reg hc
  have a0 : (0 : Int) ≤ (a : Int) := by omega
  have a1 : (a : Int) < (s.regs.length : Int) := by omega
  have c0 : (0 : Int) ≤ (c : Int) := by omega
  have c1 : (c : Int) < (s.regs.length : Int) := by omega
  obtain ⟨xa, hxa⟩ : ∃ x, x = s.regs[a] := ⟨_, rfl⟩
  obtain ⟨xc, hxc⟩ : ∃ x, x = s.regs[c] := ⟨_, rfl⟩
  rw [← hxa] at ra ⊢
  rw [← hxc] at rc ⊢
  have HO := Lib.hid hO
  have HB := Lib.hid hb1
  have o2 : V.cell? ⟨w.heap.size, 2, none⟩ = some (.int .i64 (a : Int)) := cell_of_row _ _ 2 _ _ _ hO
  have o3 : V.cell? ⟨w.heap.size, 3, none⟩ = some (.int .i64 (c : Int)) := cell_of_row _ _ 3 _ _ _ hO
  generalize s.regs.length = L at t6 a1 c1
  have z6 := fun o => Ev.cell_alloc o t6
  have za := fun o => Ev.cell_alloc o ra
  have zc := fun o => Ev.cell_alloc o rc
  have z2 := fun o => Ev.cell_alloc o o2
  have z3 := fun o => Ev.cell_alloc o o3
  have y6 := fun o1 o2 => Ev.cell_alloc o2 (z6 o1)
  have ya := fun o1 o2 => Ev.cell_alloc o2 (za o1)
  have yc := fun o1 o2 => Ev.cell_alloc o2 (zc o1)
  have y2 := fun o1 o2 => Ev.cell_alloc o2 (z2 o1)
  have y3 := fun o1 o2 => Ev.cell_alloc o2 (z3 o1)
  have H1 := Lib.hid (And.intro h1 h9)
  clear hF hb1 hO h ha hc hxa hxc h1 h9
  go_enter Tryz.func142, Tryz.ntmps142
  go_upto_region 1 with fail
  rw [← hV]
  clear hV
  obtain ⟨Z, hZe⟩ : ∃ Z, Z = w.heap.size := ⟨_, rfl⟩
  rw [← hZe] at HO o2 o3 z2 z3 y2 y3 ⊢
  clear hZe
  go_cut [5, 6] (fun s5 s6 wx => ∃ A B, s5 = .pointer (some ⟨A, 0, none⟩) ∧ s6 = .pointer (some ⟨B, 0, none⟩) ∧ Hid (wx.cell? ⟨A, 0, none⟩ = some (.int .i64 xa) ∧ wx.cell? ⟨B, 0, none⟩ = some (.int .i64 xc) ∧ Below V.heap.size V wx))
  case first =>
    go_upto_region 1 with fail
    go_region
    all_goals
      go_wp2_with fail
      go_meet
      case rel =>
        first
          | exact ⟨_, _, rfl, rfl, (Vm.vm_two V 2 xa xc).1, (Vm.vm_two V 2 xa xc).2.1, (Vm.vm_two V 2 xa xc).2.2⟩
          | exact ⟨_, _, rfl, rfl, (Vm.vm_two V 2 xc xa).2.1, (Vm.vm_two V 2 xc xa).1, (Vm.vm_two V 2 xc xa).2.2⟩
  case rest =>
    rename World => wx
    obtain ⟨A, B, rfl, rfl, HX⟩ := hcut
    have hOx := (HX.out.2.2.block Z (Cd.ltH HO.out)).trans HO.out
    have o0 : wx.cell? ⟨Z, 0, none⟩ = some (.int .u8 (k : Int)) := cell_of_row _ _ 0 _ _ _ hOx
    have B0 : wx.cell? ⟨B, 0, none⟩ = some (.int .i64 xc) := HX.out.2.1
    have HOX : Hid (wx.cell? ⟨Z, 4, none⟩ = some (.int .i64 n) ∧ wx.cell? ⟨A, 0, none⟩ = some (.int .i64 xa) ∧ wx.cell? ⟨B, 0, none⟩ = some (.int .i64 xc)) := ⟨cell_of_row _ _ 4 _ _ _ hOx, HX.out.1, HX.out.2.1⟩
    have HD := Lib.hid (fun U => vdivides k U)
    clear hOx t6 ra rc o2 o3 z6 za zc z2 z3 y6 ya yc y2 y3 a0 a1 c0 c1
    by_cases hnil : (k = 6 ∨ k = 7) ∧ xc = 0
    · have HNN := Lib.hid ((Vm.mkV_none (a := xa) (n := n) H1.out.1 H1.out.2).2 hnil)
      obtain ⟨hk, rfl⟩ := hnil
      rw [show (decide (k = 6) || decide (k = 7)) = true by rcases hk with h | h <;> simp [h]] at HD
      clear hk
      go_wp2_with fail
      refine (HD.out _).mono ?_
      rintro e w1 ⟨rfl, rfl⟩
      go_wp2_with fail
      go_ret
      exact ⟨HB.out.trans (HX.out.2.2.mono HB.out.size), .inl ⟨HNN.out, rfl⟩⟩
    · obtain ⟨x, hx⟩ : ∃ x, Vm.mkV k xa xc n = some x := by
        cases hm : Vm.mkV k xa xc n with
        | none => exact absurd ((Vm.mkV_none H1.out.1 H1.out.2).1 hm) hnil
        | some x => exact ⟨x, rfl⟩
      have HXX := Lib.hid hx
      have hd : xc = 0 → (decide (k = 6) || decide (k = 7)) = false := fun h => by
        rw [Bool.or_eq_false_iff, decide_eq_false_iff_not, decide_eq_false_iff_not]
        exact ⟨fun e => hnil ⟨.inl e, h⟩, fun e => hnil ⟨.inr e, h⟩⟩
      have HDD : Hid (xc = 0 → ∀ U, Calls Tryz.prog 158 #[.int .u8 (k : Int)] U fun e w' => e = .returned (.bool false) ∧ U = w') := fun h U => by
        have := HD.out U
        rw [hd h] at this
        exact this
      have h9 := H1.out
      clear hx hd HD
      obtain h | h | h | h | h | h | h | h | h : k = 1 ∨ k = 2 ∨ k = 3 ∨ k = 4 ∨ k = 5 ∨ k = 6 ∨ k = 7 ∨ k = 8 ∨ k = 9 := by omega
      · have hk : (k : Int) = 1 := by omega
        have HKE : Hid (k = 1) := by show k = 1; omega
        rw [hk] at o0 HDD
        clear hk h h9
        by_cases h0 : xc = 0
        · subst h0
          clear hnil
          go_wp2_with fail
          refine (HDD.out (by simp) _).mono ?_
          rintro e w1 ⟨rfl, rfl⟩
          go_wp2_with fail
          go_ret
          refine ⟨HB.out.trans (HX.out.2.2.mono HB.out.size), .inr ⟨x, Z, A, B, HXX.out, ?_, HOX.out⟩⟩
          have := HKE.out
          subst this
          rfl
        · have e0 : (xc == 0) = false := by simpa using h0
          clear h0 hnil
          go_wp2_with fail
          go_ret
          refine ⟨HB.out.trans (HX.out.2.2.mono HB.out.size), .inr ⟨x, Z, A, B, HXX.out, ?_, HOX.out⟩⟩
          have := HKE.out
          subst this
          rfl
      · have hk : (k : Int) = 2 := by omega
        have HKE : Hid (k = 2) := by show k = 2; omega
        rw [hk] at o0 HDD
        clear hk h h9
        by_cases h0 : xc = 0
        · subst h0
          clear hnil
          go_wp2_with fail
          refine (HDD.out (by simp) _).mono ?_
          rintro e w1 ⟨rfl, rfl⟩
          go_wp2_with fail
          go_ret
          refine ⟨HB.out.trans (HX.out.2.2.mono HB.out.size), .inr ⟨x, Z, A, B, HXX.out, ?_, HOX.out⟩⟩
          have := HKE.out
          subst this
          rfl
        · have e0 : (xc == 0) = false := by simpa using h0
          clear h0 hnil
          go_wp2_with fail
          go_ret
          refine ⟨HB.out.trans (HX.out.2.2.mono HB.out.size), .inr ⟨x, Z, A, B, HXX.out, ?_, HOX.out⟩⟩
          have := HKE.out
          subst this
          rfl
      · have hk : (k : Int) = 3 := by omega
        have HKE : Hid (k = 3) := by show k = 3; omega
        rw [hk] at o0 HDD
        clear hk h h9
        by_cases h0 : xc = 0
        · subst h0
          clear hnil
          go_wp2_with fail
          refine (HDD.out (by simp) _).mono ?_
          rintro e w1 ⟨rfl, rfl⟩
          go_wp2_with fail
          go_ret
          refine ⟨HB.out.trans (HX.out.2.2.mono HB.out.size), .inr ⟨x, Z, A, B, HXX.out, ?_, HOX.out⟩⟩
          have := HKE.out
          subst this
          rfl
        · have e0 : (xc == 0) = false := by simpa using h0
          clear h0 hnil
          go_wp2_with fail
          go_ret
          refine ⟨HB.out.trans (HX.out.2.2.mono HB.out.size), .inr ⟨x, Z, A, B, HXX.out, ?_, HOX.out⟩⟩
          have := HKE.out
          subst this
          rfl
      · have hk : (k : Int) = 4 := by omega
        have HKE : Hid (k = 4) := by show k = 4; omega
        rw [hk] at o0 HDD
        clear hk h h9
        by_cases h0 : xc = 0
        · subst h0
          clear hnil
          go_wp2_with fail
          refine (HDD.out (by simp) _).mono ?_
          rintro e w1 ⟨rfl, rfl⟩
          go_wp2_with fail
          go_ret
          refine ⟨HB.out.trans (HX.out.2.2.mono HB.out.size), .inr ⟨x, Z, A, B, HXX.out, ?_, HOX.out⟩⟩
          have := HKE.out
          subst this
          rfl
        · have e0 : (xc == 0) = false := by simpa using h0
          clear h0 hnil
          go_wp2_with fail
          go_ret
          refine ⟨HB.out.trans (HX.out.2.2.mono HB.out.size), .inr ⟨x, Z, A, B, HXX.out, ?_, HOX.out⟩⟩
          have := HKE.out
          subst this
          rfl
      · have hk : (k : Int) = 5 := by omega
        have HKE : Hid (k = 5) := by show k = 5; omega
        rw [hk] at o0 HDD
        clear hk h h9
        by_cases h0 : xc = 0
        · subst h0
          clear hnil
          go_wp2_with fail
          refine (HDD.out (by simp) _).mono ?_
          rintro e w1 ⟨rfl, rfl⟩
          go_wp2_with fail
          go_ret
          refine ⟨HB.out.trans (HX.out.2.2.mono HB.out.size), .inr ⟨x, Z, A, B, HXX.out, ?_, HOX.out⟩⟩
          have := HKE.out
          subst this
          rfl
        · have e0 : (xc == 0) = false := by simpa using h0
          clear h0 hnil
          go_wp2_with fail
          go_ret
          refine ⟨HB.out.trans (HX.out.2.2.mono HB.out.size), .inr ⟨x, Z, A, B, HXX.out, ?_, HOX.out⟩⟩
          have := HKE.out
          subst this
          rfl
      · have hk : (k : Int) = 6 := by omega
        have HKE : Hid (k = 6) := by show k = 6; omega
        rw [hk] at o0 HDD
        clear hk h h9
        by_cases h0 : xc = 0
        · subst h0
          clear hnil
          go_wp2_with fail
          refine (HDD.out (by simp) _).mono ?_
          rintro e w1 ⟨rfl, rfl⟩
          go_wp2_with fail
          go_ret
          refine ⟨HB.out.trans (HX.out.2.2.mono HB.out.size), .inr ⟨x, Z, A, B, HXX.out, ?_, HOX.out⟩⟩
          have := HKE.out
          subst this
          rfl
        · have e0 : (xc == 0) = false := by simpa using h0
          clear h0 hnil
          go_wp2_with fail
          go_ret
          refine ⟨HB.out.trans (HX.out.2.2.mono HB.out.size), .inr ⟨x, Z, A, B, HXX.out, ?_, HOX.out⟩⟩
          have := HKE.out
          subst this
          rfl
      · have hk : (k : Int) = 7 := by omega
        have HKE : Hid (k = 7) := by show k = 7; omega
        rw [hk] at o0 HDD
        clear hk h h9
        by_cases h0 : xc = 0
        · subst h0
          clear hnil
          go_wp2_with fail
          refine (HDD.out (by simp) _).mono ?_
          rintro e w1 ⟨rfl, rfl⟩
          go_wp2_with fail
          go_ret
          refine ⟨HB.out.trans (HX.out.2.2.mono HB.out.size), .inr ⟨x, Z, A, B, HXX.out, ?_, HOX.out⟩⟩
          have := HKE.out
          subst this
          rfl
        · have e0 : (xc == 0) = false := by simpa using h0
          clear h0 hnil
          go_wp2_with fail
          go_ret
          refine ⟨HB.out.trans (HX.out.2.2.mono HB.out.size), .inr ⟨x, Z, A, B, HXX.out, ?_, HOX.out⟩⟩
          have := HKE.out
          subst this
          rfl
      · have hk : (k : Int) = 8 := by omega
        have HKE : Hid (k = 8) := by show k = 8; omega
        rw [hk] at o0 HDD
        clear hk h h9
        by_cases h0 : xc = 0
        · subst h0
          clear hnil
          go_wp2_with fail
          refine (HDD.out (by simp) _).mono ?_
          rintro e w1 ⟨rfl, rfl⟩
          go_wp2_with fail
          go_ret
          refine ⟨HB.out.trans (HX.out.2.2.mono HB.out.size), .inr ⟨x, Z, A, B, HXX.out, ?_, HOX.out⟩⟩
          have := HKE.out
          subst this
          rfl
        · have e0 : (xc == 0) = false := by simpa using h0
          clear h0 hnil
          go_wp2_with fail
          go_ret
          refine ⟨HB.out.trans (HX.out.2.2.mono HB.out.size), .inr ⟨x, Z, A, B, HXX.out, ?_, HOX.out⟩⟩
          have := HKE.out
          subst this
          rfl
      · have hk : (k : Int) = 9 := by omega
        have HKE : Hid (k = 9) := by show k = 9; omega
        rw [hk] at o0 HDD
        clear hk h h9
        by_cases h0 : xc = 0
        · subst h0
          clear hnil
          go_wp2_with fail
          refine (HDD.out (by simp) _).mono ?_
          rintro e w1 ⟨rfl, rfl⟩
          go_wp2_with fail
          go_ret
          refine ⟨HB.out.trans (HX.out.2.2.mono HB.out.size), .inr ⟨x, Z, A, B, HXX.out, ?_, HOX.out⟩⟩
          have := HKE.out
          subst this
          rfl
        · have e0 : (xc == 0) = false := by simpa using h0
          clear h0 hnil
          go_wp2_with fail
          go_ret
          refine ⟨HB.out.trans (HX.out.2.2.mono HB.out.size), .inr ⟨x, Z, A, B, HXX.out, ?_, HOX.out⟩⟩
          have := HKE.out
          subst this
          rfl
end Go.Proofs.YtnlhacgihmelhaaGreatDoor
