/-
  Layer 13: the law's known run.
  Layer 13: the contract of the law's alive.
-/
import Derived.Test.YtepnofklmdofmaaGreatDoorLowEvK
import Derived.Test.YtepnofklmdofmaaGreatDoorLowCdN
section
namespace Go.Proofs.YtepnofklmdofmaaGreatDoor
open Go.RowKit

namespace Ev
def sumsO : List Cd.OpV := [⟨11, 0, 0, 0, 2⟩, ⟨14, 0, 0, 0, 0⟩, ⟨1, 1, 0, 0, 1⟩, ⟨4, 2, 0, 1, 0⟩, ⟨12, 3, 2, 0, 0⟩, ⟨13, 0, 0, 0, 0⟩, ⟨3, 0, 0, 3, 0⟩, ⟨14, 0, 0, 0, 0⟩]
def sumsF (n : Nat) : Cd.Fm := ⟨⟨1, 4, sumsO⟩, some ⟨n, 0, none⟩, 8⟩
def sumsP : List Cd.FnV := [⟨1, 4, sumsO⟩]
theorem sums_fns (n : Nat) : Cd.fns [sumsF n] = sumsP := rfl
theorem sums_rng (n : Nat) : ∀ m ∈ [sumsF n], m.f.Rng := fun m hm => by
  rw [List.mem_singleton.1 hm]
  refine ⟨(by show (-9223372036854775808 : Int) ≤ 1 ∧ (1 : Int) ≤ 9223372036854775807; decide), (by show (-9223372036854775808 : Int) ≤ 4 ∧ (4 : Int) ≤ 9223372036854775807; decide), fun o ho => ?_, by show (8 : Nat) ≤ maxLen; unfold maxLen; omega⟩
  simp only [sumsF, sumsO, List.mem_cons, List.not_mem_nil, or_false] at ho
  rcases ho with rfl | rfl | rfl | rfl | rfl | rfl | rfl | rfl <;> exact ⟨by decide, by decide, by decide, by decide, by decide⟩
theorem s_root (f : Int) (h : f = 2000 ∨ f = 9 ∨ f = 7) : rootE sumsP 1 f = 0 := by rcases h with rfl | rfl | rfl <;> decide +kernel
theorem s_root0 : rootE sumsP 0 7 = 114 := by decide +kernel
theorem s_rootm : rootE sumsP 1 (-1) = 2 := by decide +kernel
theorem s_val : (evR sumsP [4] 2000).val = 10 := by decide +kernel
theorem s_err : (evR sumsP [4] 2000).err = 0 := by decide +kernel
theorem s_err9 : (evR sumsP [4] 9).err = 130 := by decide +kernel
theorem s_len : (doT sumsP (root [4] 2000)).2.length = 5 := by decide +kernel
theorem s_path : ((doT sumsP (root [4] 2000)).2.map fun d => d.t.path)[1]? = some ⟨#[1]⟩ := by decide +kernel
theorem s_kids : ((doT sumsP (root [4] 2000)).2.map fun d => d.kids)[0]? = some 1 := by decide +kernel
def SumsP (w : World) (e : Ending) (w' : World) : Prop := ∃ (A : Option Addr) (n : Nat), e = .returned (.agg #[.slice A 1 1]) ∧ Cd.Prog w' w'.heap.size A [sumsF n] ∧ Below w.heap.size w w'
/-- A program of one function as a law writes it down: the program, the ops, the function, one block behind the other. -/
theorem one_laid (w : World) (a r : Int) (os : List Cd.OpV) (n : Nat) (hn : os.length = n) :
    Cd.Prog (((w.alloc (.cells #[.slice (some ⟨w.heap.size + 1 + 1, 0, none⟩) 1 1] 24)).alloc (.cells (Cd.ocells os).toArray 72)).alloc (.cells #[.int .i64 a, .int .i64 r, .slice (some ⟨w.heap.size + 1, 0, none⟩) n n] 107))
      (((w.alloc (.cells #[.slice (some ⟨w.heap.size + 1 + 1, 0, none⟩) 1 1] 24)).alloc (.cells (Cd.ocells os).toArray 72)).alloc (.cells #[.int .i64 a, .int .i64 r, .slice (some ⟨w.heap.size + 1, 0, none⟩) n n] 107)).heap.size (some ⟨w.heap.size + 1 + 1, 0, none⟩) [⟨⟨a, r, os⟩, some ⟨w.heap.size + 1, 0, none⟩, n⟩] ∧
    (((w.alloc (.cells #[.slice (some ⟨w.heap.size + 1 + 1, 0, none⟩) 1 1] 24)).alloc (.cells (Cd.ocells os).toArray 72)).alloc (.cells #[.int .i64 a, .int .i64 r, .slice (some ⟨w.heap.size + 1, 0, none⟩) n n] 107)).heap[w.heap.size]? = some (.cells #[.slice (some ⟨w.heap.size + 1 + 1, 0, none⟩) 1 1] 24 (0, 0)) ∧
    Below w.heap.size w (((w.alloc (.cells #[.slice (some ⟨w.heap.size + 1 + 1, 0, none⟩) 1 1] 24)).alloc (.cells (Cd.ocells os).toArray 72)).alloc (.cells #[.int .i64 a, .int .i64 r, .slice (some ⟨w.heap.size + 1, 0, none⟩) n n] 107)) := by
  subst hn
  generalize hW0 : w.alloc (.cells #[.slice (some ⟨w.heap.size + 1 + 1, 0, none⟩) 1 1] 24) = W0
  generalize hW1 : W0.alloc (.cells (Cd.ocells os).toArray 72) = W1
  generalize hW : W1.alloc (.cells #[.int .i64 a, .int .i64 r, .slice (some ⟨w.heap.size + 1, 0, none⟩) os.length os.length] 107) = W
  have s0 : W0.heap.size = w.heap.size + 1 := by rw [← hW0]; simp
  have s1 : W1.heap.size = w.heap.size + 2 := by rw [← hW1]; simp [s0]
  have s2 : W.heap.size = w.heap.size + 3 := by rw [← hW]; simp [s1]
  have b0 : Below w.heap.size w W0 := by rw [← hW0]; exact Cd.fn1 _ _ _
  have b1 : Below W0.heap.size W0 W1 := by rw [← hW1]; exact Cd.fn1 _ _ _
  have b2 : Below W1.heap.size W1 W := by rw [← hW]; exact Cd.fn1 _ _ _
  have hF : W.heap[w.heap.size + 1 + 1]? = some (.cells #[.int .i64 a, .int .i64 r, .slice (some ⟨w.heap.size + 1, 0, none⟩) os.length os.length] 107 (0, 0)) := by
    rw [show w.heap.size + 1 + 1 = W1.heap.size by omega, ← hW]; exact heap_alloc_new W1 _
  have hO : W.heap[w.heap.size + 1]? = some (.cells (Cd.ocells os).toArray 72 (0, 0)) := by
    rw [b2.block (w.heap.size + 1) (by omega), show w.heap.size + 1 = W0.heap.size by omega, ← hW1]; exact heap_alloc_new W0 _
  have hP : W.heap[w.heap.size]? = some (.cells #[.slice (some ⟨w.heap.size + 1 + 1, 0, none⟩) 1 1] 24 (0, 0)) := by
    rw [b2.block w.heap.size (by omega), b1.block w.heap.size (by omega), ← hW0]; exact heap_alloc_new w _
  refine ⟨⟨fun _ => ⟨_, rfl, by show _ < _; dsimp only; omega, fun j u hu => World.news_of_block hF j u hu⟩, fun m hm => ?_⟩, hP, b0.trans ((b1.trans (b2.mono b1.size)).mono b0.size)⟩
  rw [List.mem_singleton.1 hm]
  exact fun _ => ⟨_, rfl, by show _ < _; dsimp only; omega, fun j u hu => World.news_of_block hO j u (by simpa using hu)⟩
end Ev

set_option maxHeartbeats 1000000 in
set_option maxRecDepth 20000 in
theorem sums13 (w : World) : Calls Tryz.prog 33 #[] w (Ev.SumsP w) := by
  go_enter Tryz.func33, Tryz.ntmps33
  go_wp2_with fail
  have h := Ev.one_laid w 1 4 Ev.sumsO 8 rfl
  refine bodyPost_ret (v := .agg #[.slice (some ⟨w.heap.size + 1 + 1, 0, none⟩) 1 1]) (results_cell_row Tryz.results33 _ _ w.heap.size 24 #[.slice (some ⟨w.heap.size + 1 + 1, 0, none⟩) 1 1] (0, 0) _ rfl h.2.1 Tryz.underlying24 rfl Cd.pgSize) rfl ⟨some ⟨w.heap.size + 1 + 1, 0, none⟩, w.heap.size + 1, rfl, h.1, h.2.2⟩

namespace Ev
/-- What the known run's calls come to: the program lies at w, then a row of one number. -/
theorem s_laid {w : World} {A : Option Addr} {n : Nat} (h : Cd.Prog w w.heap.size A [sumsF n]) : Cd.Prog (w.alloc (.cells #[.int .i64 4] 2)) (w.alloc (.cells #[.int .i64 4] 2)).heap.size A [sumsF n] ∧
    Lies (w.alloc (.cells #[.int .i64 4] 2)) (w.alloc (.cells #[.int .i64 4] 2)).heap.size (some ⟨w.heap.size, 0, none⟩) (icells [4]) := by
  refine ⟨(h.below (Cd.fn1 _ _ _)).mono (Cd.fn1 _ _ _).size, fun _ => ⟨_, rfl, by simp, fun j u hu => World.news_of_block (heap_alloc_new w _) j u hu⟩⟩
theorem s1 : [sumsF 0].length ≤ maxLen := by unfold maxLen; simp
end Ev
theorem sEval {w V : World} {A : Option Addr} {n : Nat} (h : Cd.Prog w w.heap.size A [Ev.sumsF n]) (hL : Ck.Laid w) (hV : Below V.heap.size V w) (f : Int) :
    Calls Tryz.prog 8 #[.agg #[.slice A 1 1], .slice (some ⟨w.heap.size, 0, none⟩) 1 1, .int .i64 f] (w.alloc (.cells #[.int .i64 4] 2)) fun e w' =>
      e = .returned (.tuple #[.agg #[.int .i64 (Ev.evR Ev.sumsP [4] f).val, .int .i64 (Ev.evR Ev.sumsP [4] f).err], .int .i64 (Ev.rootE Ev.sumsP 1 f)]) ∧ Below V.heap.size V w' := by
  have hb := Cd.fn1 w #[.int .i64 4] 2
  refine (eEval A 1 [Ev.sumsF n] _ (Ev.sums_rng n) Ev.s1 (Ev.s_laid h).1 (hL.later hb) (some ⟨w.heap.size, 0, none⟩) [4] 1 (Ev.s_laid h).2 (by simp) f).mono ?_
  rintro e w' ⟨he, hbw⟩
  exact ⟨he, hV.trans ((hb.trans (hbw.mono hb.size)).mono hV.size)⟩
theorem sEval0 {w V : World} {A : Option Addr} {n : Nat} (h : Cd.Prog w w.heap.size A [Ev.sumsF n]) (hL : Ck.Laid w) (hV : Below V.heap.size V w) (f : Int) :
    Calls Tryz.prog 8 #[.agg #[.slice A 1 1], .slice none 0 0, .int .i64 f] w fun e w' =>
      e = .returned (.tuple #[.agg #[.int .i64 (Ev.evR Ev.sumsP [] f).val, .int .i64 (Ev.evR Ev.sumsP [] f).err], .int .i64 (Ev.rootE Ev.sumsP 0 f)]) ∧ Below V.heap.size V w' := by
  refine (eEval A 1 [Ev.sumsF n] _ (Ev.sums_rng n) Ev.s1 h hL none [] 0 (fun h => absurd h (by simp [icells])) (by simp) f).mono ?_
  rintro e w' ⟨he, hbw⟩
  exact ⟨he, hV.trans (hbw.mono hV.size)⟩
theorem sRoot {w V : World} {A : Option Addr} {n : Nat} (h : Cd.Prog w w.heap.size A [Ev.sumsF n]) (hL : Ck.Laid w) (hV : Below V.heap.size V w) (f : Int) :
    Calls Tryz.prog 12 #[.agg #[.slice A 1 1], .slice (some ⟨w.heap.size, 0, none⟩) 1 1, .int .i64 f] (w.alloc (.cells #[.int .i64 4] 2)) fun e w' =>
      (Ev.rootE Ev.sumsP 1 f = 0 → ∃ A2 c2, e = .returned (.tuple #[.agg #[.string ⟨#[]⟩, .int .i64 0, .slice A2 1 c2, .int .i64 f], .int .i64 0])) ∧ Below V.heap.size V w' := by
  have hb := Cd.fn1 w #[.int .i64 4] 2
  refine (eRoot A 1 [Ev.sumsF n] _ (Ev.sums_rng n) Ev.s1 (Ev.s_laid h).1 (hL.later hb) (some ⟨w.heap.size, 0, none⟩) [4] 1 (Ev.s_laid h).2 (by simp) f).mono ?_
  rintro e w' ⟨hbw, hh⟩
  refine ⟨fun h0 => ?_, hV.trans ((hb.trans (hbw.mono hb.size)).mono hV.size)⟩
  rcases hh with ⟨h1, -⟩ | ⟨-, A2, c2, he, -⟩
  · exact absurd h0 h1
  · exact ⟨A2, c2, he⟩
theorem sTree {w V : World} {A : Option Addr} {n : Nat} (h : Cd.Prog w w.heap.size A [Ev.sumsF n]) (hL : Ck.Laid w) (hV : Below V.heap.size V w) (most : Int) :
    Calls Tryz.prog 10 #[.agg #[.slice A 1 1], .slice (some ⟨w.heap.size, 0, none⟩) 1 1, .int .i64 2000, .int .i64 most] (w.alloc (.cells #[.int .i64 4] 2)) fun e w' =>
      (most = 4 → e = .returned (.tuple #[.slice none 0 0, .int .i64 134])) ∧ (most = 5 → ∃ ad c2, e = .returned (.tuple #[.slice (some ad) 5 c2, .int .i64 0]) ∧ w'.cell? (ad.add 7) = some (.string ⟨#[1]⟩) ∧ w'.cell? ⟨ad.block, ad.off + 6, none⟩ = some (.int .i64 1)) ∧ Below V.heap.size V w' := by
  have hb := Cd.fn1 w #[.int .i64 4] 2
  refine (eTree A 1 [Ev.sumsF n] _ (Ev.sums_rng n) Ev.s1 (Ev.s_laid h).1 (hL.later hb) (some ⟨w.heap.size, 0, none⟩) [4] 1 (Ev.s_laid h).2 (by simp) 2000 most).mono ?_
  rintro e w' ⟨hbw, hh⟩
  have hr : Ev.rootE Ev.sumsP 1 2000 = 0 := Ev.s_root 2000 (.inl rfl)
  have ht : Ev.treeE Ev.sumsP [4] 2000 most = if most < 5 then 134 else 0 := by
    unfold Ev.treeE
    show (if Ev.rootE Ev.sumsP 1 2000 ≠ 0 then _ else _) = _
    rw [if_neg (by rw [hr]; simp), Ev.s_len]
    rfl
  refine ⟨fun h4 => ?_, fun h5 => ?_, hV.trans ((hb.trans (hbw.mono hb.size)).mono hV.size)⟩
  · subst h4
    rw [if_pos (by decide)] at ht
    rcases hh with ⟨-, he⟩ | ⟨h1, -⟩
    · rw [he, Ev.sums_fns, ht]
    · rw [Ev.sums_fns, ht] at h1
      cases (show (134 : Int) = 0 from h1)
  · subst h5
    rw [if_neg (by decide)] at ht
    rcases hh with ⟨h1, -⟩ | ⟨-, -, A3, c3, ms, he, hms, hdr⟩
    · rw [Ev.sums_fns] at h1
      exact absurd ht h1
    · rw [Ev.sums_fns] at hms
      have hl : ms.length = 5 := by rw [← Ev.s_len, ← hms, List.length_map]
      have h1 := Ev.s_path
      have h0 := Ev.s_kids
      rw [← hms, List.map_map] at h1 h0
      rw [List.getElem?_map, List.getElem?_eq_getElem (by omega)] at h1 h0
      obtain ⟨ad, hA, -, c1, -⟩ := Ev.d_at hdr.li (j := 1) (by omega)
      obtain ⟨ad2, hA2, -, -, c0⟩ := Ev.d_at hdr.li (j := 0) (by omega)
      rw [hA] at hA2
      cases hA2
      refine ⟨ad, c3, by rw [he, hl, hA], ?_, ?_⟩
      · rw [show (7 : Nat) = 1 * 7 from rfl, c1]
        exact congrArg (fun s => some (Value.string s)) (Option.some.inj h1)
      · have := c0 6 _ (by decide) rfl
        rw [Nat.zero_mul] at this
        have hk : ms[0].d.kids = 1 := Option.some.inj h0
        rw [hk] at this
        exact this
end Go.Proofs.YtepnofklmdofmaaGreatDoor
end

section
namespace Go.Proofs.YtepnofklmdofmaaGreatDoor
open Go.RowKit

namespace Ev
/-- What is there stays. -/
def Kp (w w' : World) : Prop := ∀ a v, w.cell? a = some v → w'.cell? a = some v
theorem Kp.trans {a b c : World} (h : Kp a b) (k : Kp b c) : Kp a c := fun x v hx => k x v (h x v hx)
theorem Kp.below {w w' : World} (hb : Below w.heap.size w w') : Kp w w' := fun _ _ h => cell_below hb h
theorem Kp.alloc (w : World) (o : Obj) : Kp w (w.alloc o) := fun _ _ h => cell_alloc o h
end Ev

set_option maxHeartbeats 4000000 in
set_option maxRecDepth 20000 in
theorem alive13 (w : World) (hL : Ck.Laid w) : Calls Tryz.prog 7 #[] w fun e w' => e = .returned (.bool true) ∧ Below w.heap.size w w' := by
  have HL := Lib.hid hL
  clear hL
  go_enter Tryz.func7, Tryz.ntmps7
  go_wp2_with fail
  refine (sums13 _).mono ?_
  rintro e w1 ⟨A1, n1, rfl, hp1, hb1⟩
  have H1 := Lib.hid hb1
  have HV := sEval hp1 (HL.out.later hb1) (Below.refl _ _) 2000
  rw [Ev.s_val, Ev.s_err, Ev.s_root 2000 (.inl rfl)] at HV
  have HV := Lib.hid HV
  clear hp1 hb1
  go_wp2_with fail
  refine HV.out.mono ?_
  rintro e w2 ⟨rfl, hb2⟩
  have H2 : Hid (Below w.heap.size w w2) := H1.out.trans (hb2.mono H1.out.size)
  clear hb2 HV H1
  go_wp2_with fail
  refine (sums13 _).mono ?_
  rintro e w3 ⟨A3, n3, rfl, hp3, hb3⟩
  have K3 := Lib.hid (Ev.Kp.below hb3)
  have H3 : Hid (Below w.heap.size w w3) := (H2.out.alloc H2.out.size _).trans (hb3.mono (H2.out.alloc H2.out.size _).size)
  have HV := sEval hp3 (HL.out.later H3.out) (Below.refl _ _) 9
  rw [Ev.s_err9, Ev.s_root 9 (.inr (.inl rfl))] at HV
  generalize (Ev.evR Ev.sumsP [4] 9).val = v9 at HV
  have HV := Lib.hid HV
  clear hp3 hb3
  go_wp2_with fail
  refine HV.out.mono ?_
  rintro e w4 ⟨rfl, hb4⟩
  have K4 := Lib.hid (Ev.Kp.below hb4)
  have H4 : Hid (Below w.heap.size w w4) := H3.out.trans (hb4.mono H3.out.size)
  clear hb4 HV H3
  go_wp2_with fail
  refine (sums13 _).mono ?_
  rintro e w5 ⟨A5, n5, rfl, hp5, hb5⟩
  have K5 := Lib.hid (Ev.Kp.below hb5)
  have H5 : Hid (Below w.heap.size w w5) := (H4.out.alloc H4.out.size _).trans (hb5.mono (H4.out.alloc H4.out.size _).size)
  have HV := Lib.hid (sTree hp5 (HL.out.later H5.out) (Below.refl _ _) 5)
  clear hp5 hb5
  go_wp2_with fail
  refine HV.out.mono ?_
  rintro e w6 ⟨-, h5, hb6⟩
  obtain ⟨ad, c6, rfl, l1, l0⟩ := h5 trivial
  have L1 := Lib.hid l1
  have L0 := Lib.hid l0
  have K6 := Lib.hid (Ev.Kp.below hb6)
  have H6 : Hid (Below w.heap.size w w6) := H5.out.trans (hb6.mono H5.out.size)
  clear hb6 HV H5 h5 l1 l0
  go_wp2_with fail
  refine (sums13 _).mono ?_
  rintro e w7 ⟨A7, n7, rfl, hp7, hb7⟩
  have K7 := Lib.hid (Ev.Kp.below hb7)
  have H7 : Hid (Below w.heap.size w w7) := H6.out.trans (hb7.mono H6.out.size)
  have HV := Lib.hid (sTree hp7 (HL.out.later H7.out) (Below.refl _ _) 4)
  clear hp7 hb7
  go_wp2_with fail
  refine HV.out.mono ?_
  rintro e w8 ⟨h4, -, hb8⟩
  obtain rfl := h4 trivial
  have K8 := Lib.hid (Ev.Kp.below hb8)
  have H8 : Hid (Below w.heap.size w w8) := H7.out.trans (hb8.mono H7.out.size)
  clear hb8 HV H7 h4
  go_wp2_with fail
  refine (sums13 _).mono ?_
  rintro e w9 ⟨A9, n9, rfl, hp9, hb9⟩
  have K9 := Lib.hid (Ev.Kp.below hb9)
  have H9 : Hid (Below w.heap.size w w9) := H8.out.trans (hb9.mono H8.out.size)
  have HV := Lib.hid (sRoot hp9 (HL.out.later H9.out) (Below.refl _ _) 7)
  clear hp9 hb9
  go_wp2_with fail
  refine HV.out.mono ?_
  rintro e w10 ⟨h10, hb10⟩
  obtain ⟨A10, c10, rfl⟩ := h10 (Ev.s_root 7 (.inr (.inr rfl)))
  have K10 := Lib.hid (Ev.Kp.below hb10)
  have H10 : Hid (Below w.heap.size w w10) := H9.out.trans (hb10.mono H9.out.size)
  clear hb10 HV H9 h10
  go_wp2_with fail
  refine (sums13 _).mono ?_
  rintro e w11 ⟨A11, n11, rfl, hp11, hb11⟩
  have K11 := Lib.hid (Ev.Kp.below hb11)
  have H11 : Hid (Below w.heap.size w w11) := (H10.out.alloc H10.out.size _).trans (hb11.mono (H10.out.alloc H10.out.size _).size)
  have HV := sEval0 hp11 (HL.out.later H11.out) (Below.refl _ _) 7
  rw [Ev.s_root0] at HV
  generalize (Ev.evR Ev.sumsP [] 7).val = va at HV
  generalize (Ev.evR Ev.sumsP [] 7).err = vb at HV
  have HV := Lib.hid HV
  clear hp11 hb11
  go_wp2_with fail
  refine HV.out.mono ?_
  rintro e w12 ⟨rfl, hb12⟩
  have K12 := Lib.hid (Ev.Kp.below hb12)
  have H12 : Hid (Below w.heap.size w w12) := H11.out.trans (hb12.mono H11.out.size)
  clear hb12 HV H11
  go_wp2_with fail
  refine (sums13 _).mono ?_
  rintro e w13 ⟨A13, n13, rfl, hp13, hb13⟩
  have K13 := Lib.hid (Ev.Kp.below hb13)
  have H13 : Hid (Below w.heap.size w w13) := (H12.out.alloc H12.out.size _).trans (hb13.mono (H12.out.alloc H12.out.size _).size)
  have HV := sEval hp13 (HL.out.later H13.out) (Below.refl _ _) (-1)
  rw [Ev.s_rootm] at HV
  generalize (Ev.evR Ev.sumsP [4] (-1)).val = vc at HV
  generalize (Ev.evR Ev.sumsP [4] (-1)).err = vd at HV
  have HV := Lib.hid HV
  clear hp13 hb13
  go_wp2_with fail
  refine HV.out.mono ?_
  rintro e w14 ⟨rfl, hb14⟩
  have H14 : Hid (Below w.heap.size w w14) := H13.out.trans (hb14.mono H13.out.size)
  have R13 : Hid (Ev.Kp w13 (w14.alloc (.cells #[.int .i64 vc, .int .i64 vd] 30))) := (Ev.Kp.below hb14).trans (Ev.Kp.alloc _ _)
  have R11 := Lib.hid (K12.out.trans ((Ev.Kp.alloc _ _).trans (K13.out.trans R13.out)))
  have R9 := Lib.hid (K10.out.trans ((Ev.Kp.alloc _ _).trans (K11.out.trans R11.out)))
  have R6 := Lib.hid (K7.out.trans (K8.out.trans (K9.out.trans R9.out)))
  have R4 := Lib.hid (K5.out.trans (K6.out.trans R6.out))
  have R2 := Lib.hid (K3.out.trans (K4.out.trans ((Ev.Kp.alloc _ _).trans R4.out)))
  have R10 := Lib.hid (K11.out.trans R11.out)
  have a0 : (w14.alloc (.cells #[.int .i64 vc, .int .i64 vd] 30)).cell? ⟨w2.heap.size, 0, none⟩ = some (.int .i64 10) := R2.out _ _ (cell_of_row _ _ 0 _ _ _ (heap_alloc_new w2 _))
  have a1 : (w14.alloc (.cells #[.int .i64 vc, .int .i64 vd] 30)).cell? ⟨w2.heap.size, 1, none⟩ = some (.int .i64 0) := R2.out _ _ (cell_of_row _ _ 1 _ _ _ (heap_alloc_new w2 _))
  have b1 : (w14.alloc (.cells #[.int .i64 vc, .int .i64 vd] 30)).cell? ⟨w4.heap.size, 1, none⟩ = some (.int .i64 130) := R4.out _ _ (cell_of_row _ _ 1 _ _ _ (heap_alloc_new w4 _))
  have l1 := R6.out _ _ L1.out
  have l1' := l1
  rw [Cd.off ad 7 (by decide)] at l1'
  have l0 := R6.out _ _ L0.out
  have t2 : (w14.alloc (.cells #[.int .i64 vc, .int .i64 vd] 30)).cell? ⟨w10.heap.size, 2, none⟩ = some (.slice A10 1 c10) := R10.out _ _ (cell_of_row _ _ 2 _ _ _ (heap_alloc_new w10 _))
  have t3 : (w14.alloc (.cells #[.int .i64 vc, .int .i64 vd] 30)).cell? ⟨w10.heap.size, 3, none⟩ = some (.int .i64 7) := R10.out _ _ (cell_of_row _ _ 3 _ _ _ (heap_alloc_new w10 _))
  clear hb14 HV H13 K3 K4 K5 K6 K7 K8 K9 K10 K11 K12 K13 R13 R11 R9 R6 R4 R2 R10 L1 L0
  generalize w2.heap.size = B2 at a0 a1 ⊢
  generalize w4.heap.size = B4 at b1 ⊢
  generalize w10.heap.size = B10 at t2 t3 ⊢
  go_wp2_with fail
  go_ret
  exact ⟨rfl, H14.out.alloc H14.out.size _⟩
end Go.Proofs.YtepnofklmdofmaaGreatDoor
end
