/-
  slices.AppendSeq and Collect of numbers, from whatever iterator.
-/
import Derived.Test.YtfhengihdlojmaaPkA
import Derived.RangeFuncBox
import Derived.Maps.AppendAt
namespace Go.Proofs.Ytfhengihdlojmaa
open Go.RowKit Go.Shelf

attribute [local go_sem] Oper.semAt_some

namespace Gm
theorem ucells_snoc (l : List Int) (x : Int) : ucells (l ++ [x]) = ucells l ++ [Value.int .u64 x] := by simp [ucells]
theorem ucells_len (l : List Int) : (ucells l).length = l.length := by simp [ucells]
theorem num_info : (Try.prog.info? 28).map (fun i => (i.zero, i.size, i.bytes)) = some (some (.int .u64 0), 1, 8) := by kernel_rfl
/-- What has come lies in a row of its own, in the box at b. -/
def Came (b : Nat) (w : World) (ss : List Int) (W : World) : Prop := (∃ v, Boxed W b 49 v ∧ W.ownsRow b 28 1 v ss.length (ucells ss) ∧ True) ∧ Below b w W
theorem came_own (b B : Nat) (w : World) (hb : b ≤ w.heap.size) (hB : b ≤ B) : OwnFrom B (Came b w) :=
  OwnFrom.and ((holdsRow_own b b 49 28 1 (fun ss : List Int => ss.length) (fun ss => ucells ss) (fun _ _ => True)).from B) (ownFrom_below hb hB)
theorem cell_one_u (W : World) (x : Int) (T : TypeId) : ∀ j u, [Value.int .u64 x][j]? = some u → (W.alloc (.cells #[.int .u64 x] T)).cell? ((⟨W.heap.size, 0, none⟩ : Addr).add j) = some u := fun j u hu => by
  rw [show (⟨W.heap.size, 0, none⟩ : Addr).add j = ⟨W.heap.size, j, none⟩ by rw [Addr.add_mid, Nat.zero_add], cell_of_row _ _ j _ _ _ (heap_alloc_new W _)]
  cases j with
  | zero => simpa using hu
  | succ j => simp at hu
end Gm

set_option maxRecDepth 100000 in
set_option maxHeartbeats 2000000 in
theorem gappendSeq (n : Nat) (hn : 2 ≤ n) (gf : Nat) (lb : Array Value) (eg : ∀ args w, (callFunc gf args).run Try.prog w = .ok (.enter gf args) w) (S Sp : List Int → Prop) (N : Nat) (hN : N ≤ 1000000) (w : World)
    (hseq : SeqStopsK Fence.wide (n - 1) Try.prog gf lb (fun x : Int => #[.int .u64 x]) KeepsWalks S Sp N w) :
    CallsIn Fence.wide n Try.prog 44 #[.slice none 0 0, .func (.func gf) #[] lb] w fun e w' => ∃ (v : Value) (ss : List Int), e = .returned v ∧ S ss ∧ w'.ownsRow w.heap.size 28 1 v ss.length (Gm.ucells ss) ∧ Below w.heap.size w w' := by
  refine callsIn_of_wp_marks Try.func44 rfl trivial ?_ rfl
  simp only [Try.ntmps44, List.size_toArray, List.length_cons, List.length_nil, Nat.reduceAdd, Nat.reduceSub, Array.replicate_succ, Array.replicate_zero, List.push_toArray, List.append_toArray, List.nil_append, List.cons_append]
  gi_wp2
  have hs0 : (w.alloc (.cells #[.slice none 0 0] 49)).heap.size = w.heap.size + 1 := by simp
  have hB0 : Below w.heap.size w (w.alloc (.cells #[.slice none 0 0] 49)) := (Below.refl _ _).alloc (Nat.le_refl _) _
  have hC0 : Gm.Came w.heap.size w [] (w.alloc (.cells #[.slice none 0 0] 49)) := ⟨⟨_, Boxed.new w _ _, World.ownsRow_nil _ _ _ _, trivial⟩, hB0⟩
  obtain ⟨W0, hW0⟩ : ∃ W0, w.alloc (.cells #[.slice none 0 0] 49) = W0 := ⟨_, rfl⟩
  rw [hW0] at hs0 hB0 hC0 ⊢
  clear hW0
  refine wpIn_rangeFunc_ownF rfl (by omega) (gf := gf) (lb := lb) rfl trivial eg hseq (fun h k => KeepsWalks.trans h k) (fun X l o o' hl h2 h3 h4 => KeepsWalks.putObj _ h2 h4) hB0 (fun _ => rfl)
    (Gm.Came w.heap.size w) (fun _ _ _ => False) (Gm.came_own _ _ _ (Nat.le_refl _) (by omega)) (fun c s W W' row h _ _ => h) hC0
    (fun x => { tmps := #[.slice none 0 0, .func (.func gf) #[] lb, .pointer (some ⟨w.heap.size, 0, none⟩), undef, .slice none 0 0, .int .u64 x, .func (.func gf) #[] lb, .int .u64 x, undef, undef, undef, undef, undef], defers := [] })
    ?assign ?body ?done ?stop
  case assign =>
    intro l x W K hK
    have HK := Lib.hid hK
    clear hK
    gi_wp2
    exact HK.out
  case body =>
    rintro l pre x W ⟨⟨v, bL, hrow, _⟩, hB⟩ hlt
    obtain ⟨A, c, rfl⟩ := Gm.own_form hrow
    have cL := bL.cell
    have fL := bL.frozen
    have lL := bL.lt
    have HB := Lib.hid hB
    have HBL := Lib.hid bL
    have HROW := Lib.hid hrow
    clear hB bL hrow hC0 hB0
    obtain ⟨i0, hi, hz0, hz1, hz2⟩ := info_parts Gm.num_info
    have hpl : pre.length ≤ 1000000 := by omega
    gi_wp2_with (gi_at_builtin; refine wpListIn_append_own _ rfl _ _ 49 rfl w.heap.size 28 i0 (.int .u64 0) 1 8 Try.underlying49 hi hz0 hz1 hz2 rfl (by decide) _ _ _ rfl (HROW.out.alloc _) ⟨W.heap.size, 0, none⟩ 1 1 [.int .u64 x] rfl rfl (Gm.cell_one_u _ _ _) (by simp [Value.oneCell']) (by unfold maxLen; omega) (by omega) (by have := HB.out.size; simp; omega) ?_
                 intro v' w3 hown' hg3 _
                 obtain ⟨A', c', rfl⟩ := Gm.own_form hown'
                 obtain ⟨hv1, hv2, hr2, hk2, hb2⟩ := HBL.out.appended (by decide) HROW.out (by have := HB.out.size; omega) (Nat.le_refl _) hown' hg3
                 have cL3 := hv1.cell
                 have fL3 := hv1.frozen
                 have HE := Lib.hid (And.intro hk2 (And.intro hv2 (And.intro hr2 hb2)))
                 clear cL fL hv1 hv2 hr2 hk2 hb2 hown' hg3)
    refine ⟨HE.out.1, HE.out.1.walks, ⟨_, HE.out.2.1, ?_, trivial⟩, HB.out.trans HE.out.2.2.2⟩
    rw [Gm.ucells_snoc, List.length_append]
    exact HE.out.2.2.1
  case done =>
    rintro D ss W hD hS ⟨⟨v, bL, hrow, _⟩, hB⟩ hK
    obtain ⟨A, c, rfl⟩ := Gm.own_form hrow
    have cL := bL.cell
    have HB := Lib.hid hB
    have HROW := Lib.hid hrow
    have HK := Lib.hid hK
    have HS := Lib.hid hS
    clear hB bL hrow hC0 hB0 hK hS
    gi_wp2
    refine ⟨by simp, .inl ⟨_, _, rfl, run_takeDeferred HK.out, ?_⟩⟩
    refine ⟨_, results_tmp rfl _ _ _, _, ss, rfl, HS.out, ?_, ?_⟩
    · exact ownsRow_putObj HROW.out _ HK.out rfl
    · exact HB.out.trans (belowK_b (w := w) (Nat.le_refl _) W D _ (.deferred none) (by omega) HK.out rfl rfl)
  case stop =>
    rintro D c pre W _ _ h _
    exact h.elim
end Go.Proofs.Ytfhengihdlojmaa
