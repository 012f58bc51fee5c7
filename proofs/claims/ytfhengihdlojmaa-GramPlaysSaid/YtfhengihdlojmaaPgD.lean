/-
  The program's net: Send.
-/
import Derived.Test.YtfhengihdlojmaaPgC
namespace Go.Proofs.Ytfhengihdlojmaa
open Go.RowKit

namespace Gm
/-- The messages of one Send. -/
def sent (last : Int) (fr : Int) (text : ByteArray) : List Int → List Msg
  | [] => []
  | t :: ts => ⟨last + 1, fr, t, text⟩ :: sent (last + 1) fr text ts
theorem sent_len (last fr : Int) (text : ByteArray) (ts : List Int) : (sent last fr text ts).length = ts.length := by
  induction ts generalizing last with
  | nil => rfl
  | cons t ts ih => simp [sent, ih]
theorem sent_snoc (last fr : Int) (text : ByteArray) (ts : List Int) (t : Int) : sent last fr text (ts ++ [t]) = sent last fr text ts ++ [⟨last + ts.length + 1, fr, t, text⟩] := by
  induction ts generalizing last with
  | nil => simp [sent]
  | cons x ts ih =>
    rw [List.cons_append]
    unfold sent
    rw [ih, List.cons_append, List.length_cons, show last + 1 + (ts.length : Int) + 1 = last + ((ts.length + 1 : Nat) : Int) + 1 by omega]
theorem sent_ids {last fr : Int} {text : ByteArray} {ts : List Int} : ∀ y ∈ sent last fr text ts, last < y.id ∧ y.id ≤ last + ts.length := by
  induction ts generalizing last with
  | nil => intro y hy; simp [sent] at hy
  | cons t ts ih =>
    intro y hy
    unfold sent at hy
    rcases List.mem_cons.1 hy with rfl | hy
    · simp; omega
    · have := ih y hy
      simp; omega
/-- What Send answers. -/
def sendC (fr : Int) (text : ByteArray) (tos : List Int) (n : Nat) : Int :=
  if plc fr = false ∨ tos.all plc = false then 2 else if 16384 < text.size then 4 else if 4096 < n + tos.length then 6 else 0
def sendN (fr : Int) (text : ByteArray) (tos : List Int) (n : Nat) : Int := if sendC fr text tos n = 0 then tos.length else 0
def sendL (fr : Int) (text : ByteArray) (tos : List Int) (last : Int) (l : List Msg) : List Msg := if sendC fr text tos l.length = 0 then l ++ sent last fr text tos else l
def sendM (fr : Int) (text : ByteArray) (tos : List Int) (last : Int) (l : List Msg) : Int := if sendC fr text tos l.length = 0 then last + tos.length else last
theorem lies_mvg {off off' : Nat → Prop} {w w' : World} {A : Option Addr} {xs : List Value} (h : Lies w w.heap.size A xs) (ho : ∀ p, A = some p → off p.block) (mv : Mvg off off' w w') : Lies w' w'.heap.size A xs := fun hn => by
  obtain ⟨ad, e, hb, hc⟩ := h hn
  refine ⟨ad, e, Nat.lt_of_lt_of_le hb mv.size, fun j u hu => ?_⟩
  rw [World.cell?_of_block (a := ad.add j) (w := w) (by rw [Lies.add_block]; exact mv.block _ hb (ho ad e))]
  exact hc j u hu
/-- One number in a block of its own. -/
theorem lies_one (w : World) (a : Int) (T : TypeId) : Lies (w.alloc (.cells #[.int .i64 a] T)) (w.alloc (.cells #[.int .i64 a] T)).heap.size (some ⟨w.heap.size, 0, none⟩) (icells [a]) := fun _ => by
  refine ⟨_, rfl, by simp, fun j u hu => ?_⟩
  rw [show (⟨w.heap.size, 0, none⟩ : Addr).add j = ⟨w.heap.size, j, none⟩ by rw [Addr.add_mid, Nat.zero_add]]
  rw [cell_of_row _ _ j _ _ _ (heap_alloc_new w _)]
  unfold icells at hu
  cases j with
  | zero => simpa using hu
  | succ j => simp at hu
theorem lies_two (w : World) (a b : Int) (T : TypeId) : Lies (w.alloc (.cells #[.int .i64 a, .int .i64 b] T)) (w.alloc (.cells #[.int .i64 a, .int .i64 b] T)).heap.size (some ⟨w.heap.size, 0, none⟩) (icells [a, b]) := fun _ => by
  refine ⟨_, rfl, by simp, fun j u hu => ?_⟩
  rw [show (⟨w.heap.size, 0, none⟩ : Addr).add j = ⟨w.heap.size, j, none⟩ by rw [Addr.add_mid, Nat.zero_add]]
  rw [cell_of_row _ _ j _ _ _ (heap_alloc_new w _)]
  unfold icells at hu
  match j with
  | 0 => simpa using hu
  | 1 => simpa using hu
  | j + 2 => simp at hu
end Gm

set_option maxRecDepth 20000 in
set_option maxHeartbeats 4000000 in
theorem gsend {R B C : Nat} {last : Int} {l : List Gm.Msg} {cs : List Gm.Wy} {w : World} (h : Gm.PNet R B C last l cs w) (hl : l.length ≤ 4096) (l0 : 0 ≤ last) (l1 : last ≤ 900000) (hid : ∀ y ∈ l, y.id ≤ last) (fr : Int) (text : ByteArray)
    (tos : List Int) (A : Option Addr) (c : Nat) (hli : Lies w w.heap.size A (icells tos)) (hoff : ∀ p, A = some p → Gm.POff R B C p.block) (htn : tos.length ≤ 5000) :
    Calls Try.prog 7 #[.pointer (some ⟨R, 0, none⟩), .int .i64 fr, .string text, .slice A tos.length c] w fun e w' =>
      e = .returned (.tuple #[.int .i64 (Gm.sendN fr text tos l.length), .int .i64 (Gm.sendC fr text tos l.length)]) ∧
        Gm.PNet R B C (Gm.sendM fr text tos last l) (Gm.sendL fr text tos last l) cs w' ∧ Gm.Mvg (Gm.POff R B C) (Gm.POff R B C) w w' := by
  have HIS := Lib.hid (gis h)
  obtain ⟨W, hW⟩ : ∃ W, W = w.alloc (.cells #[.int .i64 fr] 3) := ⟨_, rfl⟩
  have hb : Below w.heap.size w W := by rw [hW]; exact (Below.refl _ _).alloc (Nat.le_refl _) _
  have h1 := h.below hb
  have hl1 : Lies W W.heap.size A (icells tos) := (hli.below hb).mono hb.size
  have HP1 : Hid (Calls Try.prog 24 #[.slice (some ⟨w.heap.size, 0, none⟩) 1 1] W fun e w' => e = .returned (.bool (Gm.plc fr)) ∧ W = w') := by
    have hlo : Lies W W.heap.size (some ⟨w.heap.size, 0, none⟩) (icells [fr]) := by rw [hW]; exact Gm.lies_one w fr _
    have := gplaces [fr] (some ⟨w.heap.size, 0, none⟩) 1 W hlo (by simp)
    have e : [fr].all Gm.plc = Gm.plc fr := by simp
    rw [e] at this
    exact this
  have HP2 := Lib.hid (gplaces tos A c W hl1 (by omega))
  have HRM := Lib.hid (groom h1 (by omega))
  have HM1 : Hid (Gm.Mvg (Gm.POff R B C) (Gm.POff R B C) w W) := .of_below hb
  have H := Lib.hid h1
  have HLI := Lib.hid hl1
  have HOFF := Lib.hid hoff
  have HID := Lib.hid hid
  have no : ∀ {k : Int}, k ≠ 0 → Gm.sendC fr text tos l.length = k → Hid (Gm.sendN fr text tos l.length = 0 ∧ Gm.sendC fr text tos l.length = k ∧ Gm.PNet R B C (Gm.sendM fr text tos last l) (Gm.sendL fr text tos last l) cs W ∧ Gm.Mvg (Gm.POff R B C) (Gm.POff R B C) w W) := fun {k} hk hc => by
    have hne : Gm.sendC fr text tos l.length ≠ 0 := by rw [hc]; exact hk
    refine ⟨by unfold Gm.sendN; rw [if_neg hne], hc, ?_, HM1.out⟩
    unfold Gm.sendM Gm.sendL
    rw [if_neg hne, if_neg hne]
    exact h1
  cases hp : Gm.plc fr with
  | false =>
    have HE := no (k := 2) (by decide) (by unfold Gm.sendC; rw [if_pos (.inl hp)])
    rw [hp] at HP1
    clear no h h1 hli hl1 hid hoff hb HP2 HRM hp
    go_enter Try.func7, Try.ntmps7
    go_wp2_with fail
    refine HIS.out.mono ?_
    rintro e w2 ⟨rfl, rfl⟩
    go_wp2_with fail
    rw [← hW]
    clear hW
    refine HP1.out.mono ?_
    rintro e w2 ⟨rfl, rfl⟩
    go_wp2_with fail
    refine bodyPost_ret (results_tmp2 rfl _ _ _) rfl ?_
    exact ⟨by rw [HE.out.1, HE.out.2.1]; rfl, HE.out.2.2⟩
  | true =>
    rw [hp] at HP1
    cases hq : tos.all Gm.plc with
    | false =>
      have HE := no (k := 2) (by decide) (by unfold Gm.sendC; rw [if_pos (.inr hq)])
      rw [hq] at HP2
      clear no h h1 hli hl1 hid hoff hb HRM hp hq
      go_enter Try.func7, Try.ntmps7
      go_wp2_with fail
      refine HIS.out.mono ?_
      rintro e w2 ⟨rfl, rfl⟩
      go_wp2_with fail
      rw [← hW]
      clear hW
      refine HP1.out.mono ?_
      rintro e w2 ⟨rfl, rfl⟩
      go_wp2_with fail
      refine HP2.out.mono ?_
      rintro e w2 ⟨rfl, rfl⟩
      go_wp2_with fail
      refine bodyPost_ret (results_tmp2 rfl _ _ _) rfl ?_
      exact ⟨by rw [HE.out.1, HE.out.2.1]; rfl, HE.out.2.2⟩
    | true =>
      have hnp : ¬ (Gm.plc fr = false ∨ tos.all Gm.plc = false) := by rw [hp, hq]; simp
      rw [hq] at HP2
      by_cases hx : 16384 < text.size
      · have HE := no (k := 4) (by decide) (by unfold Gm.sendC; rw [if_neg hnp, if_pos hx])
        have kx : (16384 : Int) < (text.size : Int) := by omega
        clear no h h1 hli hl1 hid hoff hb HRM hp hq hnp hx
        go_enter Try.func7, Try.ntmps7
        go_wp2_with fail
        refine HIS.out.mono ?_
        rintro e w2 ⟨rfl, rfl⟩
        go_wp2_with fail
        rw [← hW]
        clear hW
        refine HP1.out.mono ?_
        rintro e w2 ⟨rfl, rfl⟩
        go_wp2_with fail
        refine HP2.out.mono ?_
        rintro e w2 ⟨rfl, rfl⟩
        go_wp2_with fail
        refine bodyPost_ret (results_tmp2 rfl _ _ _) rfl ?_
        exact ⟨by rw [HE.out.1, HE.out.2.1]; rfl, HE.out.2.2⟩
      · have kx : ¬ ((16384 : Int) < (text.size : Int)) := by omega
        by_cases hy : 4096 < l.length + tos.length
        · have HE := no (k := 6) (by decide) (by unfold Gm.sendC; rw [if_neg hnp, if_neg hx, if_pos hy])
          have ky : 4096 - (l.length : Int) < (tos.length : Int) := by omega
          clear no h h1 hli hl1 hid hoff hb hp hq hnp hx hy
          go_enter Try.func7, Try.ntmps7
          go_wp2_with fail
          refine HIS.out.mono ?_
          rintro e w2 ⟨rfl, rfl⟩
          go_wp2_with fail
          rw [← hW]
          clear hW
          refine HP1.out.mono ?_
          rintro e w2 ⟨rfl, rfl⟩
          go_wp2_with fail
          refine HP2.out.mono ?_
          rintro e w2 ⟨rfl, rfl⟩
          go_wp2_with fail
          refine HRM.out.mono ?_
          rintro e w2 ⟨rfl, rfl⟩
          go_wp2_with fail
          refine bodyPost_ret (results_tmp2 rfl _ _ _) rfl ?_
          exact ⟨by rw [HE.out.1, HE.out.2.1]; rfl, HE.out.2.2⟩
        · have ky : ¬ (4096 - (l.length : Int) < (tos.length : Int)) := by omega
          have hc0 : Gm.sendC fr text tos l.length = 0 := by unfold Gm.sendC; rw [if_neg hnp, if_neg hx, if_neg hy]
          have HE : Hid (Gm.sendN fr text tos l.length = tos.length ∧ Gm.sendC fr text tos l.length = 0 ∧ Gm.sendM fr text tos last l = last + tos.length ∧ Gm.sendL fr text tos last l = l ++ Gm.sent last fr text tos) := by
            unfold Gm.sendN Gm.sendM Gm.sendL
            rw [if_pos hc0, if_pos hc0, if_pos hc0]
            exact ⟨rfl, hc0, rfl, rfl⟩
          have HCL : Hid (∀ w, Calls Try.prog 26 #[.string text] w fun e w' => e = .returned (.string text) ∧ Below w.heap.size w w') := fun w => gclone text w (by omega)
          have hyl : l.length + tos.length ≤ 4096 := by omega
          clear no h h1 hli hl1 hid hoff hb hp hq hnp hx hy hc0
          go_enter Try.func7, Try.ntmps7
          go_wp2_with fail
          refine HIS.out.mono ?_
          rintro e w2 ⟨rfl, rfl⟩
          go_wp2_with fail
          rw [← hW]
          clear hW
          refine HP1.out.mono ?_
          rintro e w2 ⟨rfl, rfl⟩
          go_wp2_with fail
          refine HP2.out.mono ?_
          rintro e w2 ⟨rfl, rfl⟩
          go_wp2_with fail
          refine HRM.out.mono ?_
          rintro e w2 ⟨rfl, rfl⟩
          go_wp2_with fail
          refine (HCL.out _).mono ?_
          rintro e w2 ⟨rfl, hb2⟩
          have HN0 : Hid (Gm.PNet R B C last l cs w2 ∧ Gm.Mvg (Gm.POff R B C) (Gm.POff R B C) w w2 ∧ Lies w2 w2.heap.size A (icells tos)) :=
            ⟨H.out.below hb2, HM1.out.trans (.of_below hb2), (HLI.out.below hb2).mono hb2.size⟩
          clear hb2 HP1 HP2 HRM HCL HLI H HM1 HIS
          go_wp2_with fail
          go_loopw [38] (fun i wr => ∃ j : Nat, j ≤ tos.length ∧ i = .int .i64 j ∧ Hid (Gm.PNet R B C (last + j) (l ++ Gm.sent last fr text (tos.take j)) cs wr ∧ Gm.Mvg (Gm.POff R B C) (Gm.POff R B C) w wr ∧ Lies wr wr.heap.size A (icells tos))) (fun i _ => tos.length - (intOf i).toNat)
          case atStart =>
            refine ⟨0, Nat.zero_le _, rfl, ?_⟩
            show _ ∧ _
            simpa [Gm.sent] using HN0.out
          case round =>
            obtain ⟨j, hj, rfl, HJ⟩ := hrel
            by_cases hlt : j < tos.length
            · obtain ⟨p, rfl, hpb, hp0⟩ := HJ.out.2.2.at_ (icells_at hlt)
              have k0 : (0 : Int) ≤ (j : Int) := by omega
              have k1 : (j : Int) < tos.length := by omega
              have hlen : (l ++ Gm.sent last fr text (tos.take j)).length = l.length + j := by rw [List.length_append, Gm.sent_len, List.length_take]; omega
              have HPT := Lib.hid (gput HJ.out.1 (by omega) (by omega) (by omega) (fun y hy => by
                rcases List.mem_append.1 hy with hy | hy
                · have := HID.out y hy; omega
                · have := (Gm.sent_ids y hy).2
                  rw [List.length_take] at this
                  omega) ⟨0, fr, tos[j], text⟩)
              have HS : Hid (l ++ Gm.sent last fr text (tos.take j) ++ [⟨last + j + 1, fr, tos[j], text⟩] = l ++ Gm.sent last fr text (tos.take (j + 1))) := by
                show _ = _
                rw [List.take_succ_eq_append_getElem hlt, Gm.sent_snoc, List.length_take, List.append_assoc, Nat.min_eq_left (by omega)]
              generalize tos[j] = t at hp0 HPT HS
              go_wp2_with fail
              refine HPT.out.mono ?_
              rintro e w3 ⟨rfl, hP3, mv3⟩
              have HJ3 : Hid (Gm.PNet R B C (last + (j + 1 : Nat)) (l ++ Gm.sent last fr text (tos.take (j + 1))) cs w3 ∧ Gm.Mvg (Gm.POff R B C) (Gm.POff R B C) w w3 ∧ Lies w3 w3.heap.size (some p) (icells tos)) := by
                refine ⟨?_, HJ.out.2.1.trans mv3, Gm.lies_mvg HJ.out.2.2 HOFF.out mv3⟩
                rw [← HS.out, show last + ((j + 1 : Nat) : Int) = last + j + 1 by omega]
                exact hP3
              clear hP3 mv3
              go_wp2_with fail
              go_roundw
              case rel => exact ⟨j + 1, by omega, by go_num, HJ3.out⟩
              case measure => simp [intOf]; omega
            · have k1 : ¬ ((j : Int) < tos.length) := by omega
              obtain rfl : j = tos.length := by omega
              have HJ2 := HJ.out
              rw [List.take_of_length_le (Nat.le_refl _)] at HJ2
              have HJ3 := Lib.hid HJ2
              clear HJ2 HJ
              go_wp2_with fail
              refine bodyPost_ret (results_tmp2 rfl _ _ _) rfl ?_
              exact ⟨by rw [HE.out.1, HE.out.2.1]; rfl, by rw [HE.out.2.2.1, HE.out.2.2.2]; exact HJ3.out.1, HJ3.out.2.1⟩
end Go.Proofs.Ytfhengihdlojmaa
