/-
  The program's net: List: all messages, rising, each with a text of its own.
-/
import Derived.Test.YtfhengihdlojmaaPkF
import Derived.Test.YtfhengihdlojmaaUsK
namespace Go.Proofs.Ytfhengihdlojmaa
open Go.RowKit Go.Shelf

namespace Gm
theorem own_liesU {w : World} {base n c : Nat} {A : Option Addr} {l : List Int} (h : w.ownsRow base 28 1 (.slice A n c) n (ucells l)) : Lies w w.heap.size A (ucells l) := fun hp => by
  rcases h.2 with ⟨e, h0⟩ | ⟨g, cap, cur, e1, hg, hh, _⟩
  · have := h.1
    omega
  · obtain rfl : A = some ⟨g, 0, none⟩ := by injection e1
    exact ⟨⟨g, 0, none⟩, rfl, (h.lt g rfl).2, fun j u hu => h.cells (g := g) rfl j u hu⟩
theorem cell_four_new (w : World) (a b c d : Value) (T : TypeId) : ∀ j u, [a, b, c, d][j]? = some u → (w.alloc (.cells #[a, b, c, d] T)).cell? ((⟨w.heap.size, 0, none⟩ : Addr).add j) = some u := by
  intro j u h
  rw [Us.addB, cell_of_row _ _ j _ _ _ (heap_alloc_new w _)]
  rw [← h]
  rcases j with _ | _ | _ | _ | j <;> rfl
theorem ids_at {l : List Msg} {j : Nat} (h : j < l.length) : (ids l)[j]'(by rw [ids_len]; exact h) = l[j].id := by simp [ids]
end Gm

set_option maxRecDepth 20000 in
set_option maxHeartbeats 1000000 in
theorem glist {R B C : Nat} {last : Int} {l : List Gm.Msg} {cs : List Gm.Wy} {w : World} (h : Gm.PNet R B C last l cs w) (hg : Gm.Good last l) (hr : Gm.RiseM l) (hlast : last ≤ 1000000) (hl : l.length ≤ 100000) :
    Calls Try.prog 22 #[.pointer (some ⟨R, 0, none⟩)] w fun e w' => ∃ v : Value, e = .returned v ∧ w'.ownsRow w.heap.size 41 4 v l.length (Gm.msgs l) ∧ Below w.heap.size w w' := by
  have HIS := Lib.hid (gis h)
  have HRI := Lib.hid (grising h hg hr hlast (updq_ok _ (by omega)) hl)
  have H := Lib.hid h
  have HG := Lib.hid hg
  clear h hg hr
  go_enter Try.func22, Try.ntmps22
  go_wp2_with fail
  refine HIS.out.mono ?_
  rintro e w1 ⟨rfl, rfl⟩
  go_wp2_with fail
  refine HRI.out.mono ?_
  rintro e w2 ⟨v, rfl, hrow, hb⟩
  obtain ⟨A, c, rfl⟩ := Gm.own_form hrow
  have HL := Lib.hid (Gm.own_liesU hrow)
  have HB := Lib.hid hb
  clear hrow hb HIS HRI
  obtain ⟨i0, hi, hz0, hz1, hz2⟩ := info_parts Gm.msg_info
  go_wp2_with fail
  go_loopw [3, 12] (fun O t wr => ∃ (A2 : Option Addr) (c2 j : Nat), O = .slice A2 j c2 ∧ t = .int .i64 j ∧ j ≤ l.length ∧ Hid (wr.ownsRow w2.heap.size 41 4 (.slice A2 j c2) j (Gm.msgs (l.take j))) ∧ Hid (Below w.heap.size w wr) ∧ Hid (Below w2.heap.size w2 wr)) (fun _ t _ => l.length - (intOf t).toNat)
  case atStart => exact ⟨none, 0, 0, rfl, rfl, Nat.zero_le _, by show World.ownsRow _ _ _ _ _ _ _; simpa [Gm.msgs] using World.ownsRow_nil _ _ _ _, HB.out, Below.refl _ _⟩
  case round =>
    obtain ⟨A2, c2, j, rfl, rfl, hj, HROW, HB1, HB2⟩ := hrel
    by_cases hlt : j < l.length
    · have hj2 : j < (Gm.ids l).length := by rw [Gm.ids_len]; exact hlt
      obtain ⟨p, rfl, hpb, hp0⟩ := (HL.out.below HB2.out).at_ (Gm.ucells_at hj2)
      rw [Gm.ids_at hlt] at hp0
      have k0 : (0 : Int) ≤ (j : Int) := by omega
      have k1 : (j : Int) < l.length := by omega
      have hP := H.out.below HB1.out
      have hm := List.getElem_mem hlt
      have hf := Gm.findM_some HG.out.1 hm
      have hgx := HG.out.2.1 _ hm
      have hgt := HG.out.2.2 _ hm
      have hlk := hP.lookOn1 l[j].id (by omega) (by omega)
      rw [hf] at hlk
      have HTK : Hid (Gm.msgs (l.take (j + 1)) = Gm.msgs (l.take j) ++ l[j].cells) := by
        show _ = _
        rw [List.take_succ_eq_append_getElem hlt, Gm.msgs_snoc]
      have HTD := Lib.hid (fun w => gtold l[j] w (by have := hgt.2.2; omega))
      generalize l[j] = x at hp0 hlk HTK HTD hm hf hgx hgt
      obtain ⟨xi, xf, xt, xs⟩ := x
      have c1 := hP.c1
      have HLK : Hid ((Instr.lookup 53 (.map (some B)) (.int .u64 xi) false).run Try.prog wr = .ok (.agg #[.int .u64 xi, .int .i64 xf, .int .i64 xt, .string xs]) wr) := hlk
      clear hP hm hf hgx hgt hlk hj2 hlt
      go_wp2_with (at_lookup; refine Gm.gpl_look _ rfl _ _ _ _ rfl _ _ _ rfl rfl HLK.out ?_)
      refine (HTD.out _).mono ?_
      unfold Gm.Msg.val
      rintro e w1 ⟨rfl, hb⟩
      have h1 := hb.size
      have hws := HB1.out.size
      have hrow1 : w1.ownsRow w2.heap.size 41 4 (.slice A2 j c2) j (Gm.msgs (l.take j)) := Gm.ownsKeep HROW.out (fun i hi => hb.block i (HROW.out.lt i hi).2)
      have HROW1 := Lib.hid hrow1
      have HB3 := Lib.hid (HB1.out.trans (hb.mono hws))
      have HB4 := Lib.hid (HB2.out.trans (hb.mono HB2.out.size))
      clear hb hrow1
      go_wp2_with (at_builtin; refine wpList_append_own _ rfl _ _ 29 rfl w2.heap.size 41 i0 (.agg #[.int .u64 0, .int .i64 0, .int .i64 0, .string ⟨#[]⟩]) 4 40 Try.underlying29 hi hz0 hz1 hz2 rfl (by decide) _ _ _ rfl (HROW1.out.alloc _) ⟨w1.heap.size, 0, none⟩ 1 1 [.int .u64 xi, .int .i64 xf, .int .i64 xt, .string xs] rfl rfl ?c1 (by simp [Value.oneCell']) (by unfold maxLen; omega) (by omega) (by have := HB4.out.size; simp; omega) ?_)
      case c1 => exact Gm.cell_four_new w1 _ _ _ _ 41
      intro v' w3 hown' hgrow _
      obtain ⟨g', cap', rfl⟩ := ownsRow_succ hown'
      have hlt2 := fun k => (HROW1.out.lt k)
      have hb4 : Below w2.heap.size w2 w3 := (HB4.out.alloc (by have := HB4.out.size; omega) _).grown hgrow (by have := HB4.out.size; simp; omega) (fun k hk => (hlt2 k hk).1)
      have hb2 : Below w.heap.size w w3 := HB.out.trans (hb4.mono HB.out.size)
      have HB5 := Lib.hid hb2
      have HB6 := Lib.hid hb4
      have hr2 : w3.ownsRow w2.heap.size 41 4 (.slice (some ⟨g', 0, none⟩) (j + 1) cap') (j + 1) (Gm.msgs (l.take (j + 1))) := by
        rw [HTK.out]
        exact hown'
      have HR2 := Lib.hid hr2
      clear hown' hgrow hlt2 hb2 hr2 hb4
      go_wp2_with fail
      go_roundw
      case rel => exact ⟨some ⟨g', 0, none⟩, cap', j + 1, by simp, by go_num, by omega, HR2.out, HB5.out, HB6.out⟩
      case measure => simp [intOf]; omega
    · have k1 : ¬ ((j : Int) < l.length) := by omega
      obtain rfl : j = l.length := by omega
      have hrow := HROW.out
      rw [List.take_of_length_le (Nat.le_refl _)] at hrow
      have HROW2 := Lib.hid hrow
      clear hrow HROW
      go_wp2_with fail
      go_ret
      refine ⟨_, rfl, ?_, HB1.out⟩
      obtain ⟨hl, h0 | ⟨g, cap, cur, e1, hg, r⟩⟩ := HROW2.out
      · exact ⟨hl, .inl h0⟩
      · exact ⟨hl, .inr ⟨g, cap, cur, e1, Nat.le_trans HB.out.size hg, r⟩⟩
theorem glw_list {w0 w : World} {R B C : Nat} {last : Int} {l : List Gm.Msg} {cs : List Gm.Wy} (h : Gm.NetLw w0 R B C last l cs w) (hlast : last ≤ 1000000) :
    Calls Try.prog 22 #[.pointer (some ⟨R, 0, none⟩)] w fun e w' => ∃ v : Value, e = .returned v ∧ w'.ownsRow w.heap.size 41 4 v l.length (Gm.msgs l) ∧ Below w.heap.size w w' :=
  glist h.p h.g h.r hlast (by have := h.len; omega)
end Go.Proofs.Ytfhengihdlojmaa
