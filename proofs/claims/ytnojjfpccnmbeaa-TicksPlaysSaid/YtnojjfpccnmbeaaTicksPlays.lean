/-
  What each call answers, which timers are told, and all that are set, behind any calls (TicksPlays).
-/
import Derived.Test.YtnojjfpccnmbeaaRows
import Derived.Test.YtnojjfpccnmbeaaTpT
import Derived.Deep.DeepCutAuto
import Derived.Deep.CutBlock
import Derived.Deep.RegionHeld3
import Derived.ProofKit
import Derived.OpenShut
import Derived.ShutString
namespace Go.Proofs.Ytnojjfpccnmbeaa.ticksPlays
open Go.ChangeShapes Go.WideShapes Go.ChangeAt Go.RowKit
open Go.ChangeMaps (open_string shut_string)

set_option maxHeartbeats 16000000 in
set_option maxRecDepth 20000 in
theorem walk (w : World) (l : List StepT) (A : Option Addr) (c : Nat) (la : LiesT w w.heap.size A l) (nl : l.length ≤ maxLen) (ok : ∀ a ∈ l, a.Ok) :
    Calls Try.prog 3 #[.slice A l.length c] w fun e w' => e = .returned (.bool true) ∧ Below w.heap.size w w' := by
  have LA := Lib.hid la
  have OK := Lib.hid ok
  have HHV := Lib.hid (heavyt l A c w la nl)
  clear la ok
  go_enter Try.func3, Try.ntmps3
  go_wp2_with fail
  refine HHV.out.mono ?_
  rintro e w0 ⟨b, rfl, hsm, hb0⟩
  have HB0 := Lib.hid hb0
  clear hb0 HHV
  cases b with
  | true =>
    clear hsm
    go_wp2_with fail
    refine (alive8_any _).mono ?_
    rintro e w2 ⟨rfl, hb2⟩
    have HB2 := Lib.hid (HB0.out.trans (hb2.mono HB0.out.size))
    clear hb2
    go_wp2_with fail
    go_ret
    exact ⟨rfl, HB2.out⟩
  | false =>
    have hl300 := hsm rfl
    clear hsm nl
    go_wp2_with fail
    refine (tknew w0).mono ?_
    rintro e w1 ⟨T, Q, B, rfl, h1, hb1, hT, hQ, hB⟩
    have hbw1 : Below w.heap.size w w1 := HB0.out.trans (hb1.mono HB0.out.size)
    obtain ⟨W, hW⟩ : ∃ W, W = w1.alloc (.cells #[.int .i64 0, .slice none 0 0] 30) := ⟨_, rfl⟩
    have hbW : Below w1.heap.size w1 W := by rw [hW]; exact (Below.refl _ _).alloc (Nat.le_refl _) _
    have hrow : W.heap[w1.heap.size]? = some (.cells #[.int .i64 0, .slice none 0 0] 30 (0, 0)) := by rw [hW]; exact heap_alloc_new w1 _
    have HST : Hid (Tk.St2 w T Q B w1.heap.size W) := by
      have hs := HB0.out.size
      have hf := fun g (hg : w1.heap.size ≤ g) => h1.fresh hg
      refine ⟨_, .slice none 0 0, 0, [], [], ⟨h1.below hbW, ⟨hrow, World.ownsRow_nil _ _ _ _, by simp [Value.ownBlock]⟩, hf _ (Nat.le_refl _), fun g hg => by simp [Value.ownBlock] at hg, fun i hi => ⟨⟨by omega, by omega, by omega, by simp [Value.ownBlock]⟩, ⟨by have := Tk.ltHeap h1.obj; omega, by simp [Value.ownBlock]⟩⟩, hbw1.trans (hbW.mono hbw1.size)⟩, List.Perm.refl _, by simp, by omega, by omega⟩
    clear h1 hb1 hT hQ hB hbw1 hbW hrow
    go_wp2_with fail
    rw [← hW]
    clear hW
    generalize w1.heap.size = R at HST
    go_loopg [5] l.length (fun g i wr => ∃ k : Nat, k ≤ l.length ∧ g = l.length - k ∧ i = .int .i64 k ∧ Hid (Tk.St2 w T Q B R wr))
    case atStart => exact ⟨0, Nat.zero_le _, rfl, rfl, HST.out⟩
    case round =>
      clear HST
      obtain ⟨k, hk, rfl, rfl, HST⟩ := hrel
      by_cases hlt : k < l.length
      · obtain ⟨v, vr, c2, l2, m, hD, hp, hl, c0, c1⟩ := HST.out
        obtain ⟨ad, rfl, hadb, hc⟩ := (LA.out.below hD.bel) (by omega)
        obtain ⟨q0, q1, q2, q3⟩ := stt_at hlt (ad.add (k * 4)) (hc k hlt)
        have hok := OK.out l[k] (List.getElem_mem hlt)
        generalize l[k] = a at q0 q1 q2 q3 hok
        obtain ⟨act, key, oth, t⟩ := a
        simp only [] at q0 q1 q2 q3
        have HOK := Lib.hid hok
        have k0 : (0 : Int) ≤ (k : Int) := by omega
        have k1 : (k : Int) < l.length := by omega
        clear hc hok HST
        go_upto_region 11 with fail
        obtain ⟨W, hW⟩ : ∃ W, W = wr.alloc (.cells #[.int .i64 act, .string key, .string oth, .int .i64 t] 32) := ⟨_, rfl⟩
        have hbW : Below wr.heap.size wr W := by rw [hW]; exact (Below.refl _ _).alloc (Nat.le_refl _) _
        have hrow : W.heap[wr.heap.size]? = some (.cells #[.int .i64 act, .string key, .string oth, .int .i64 t] 32 (0, 0)) := by rw [hW]; exact heap_alloc_new wr _
        have hfr := hD.fresh (g := wr.heap.size) (Nat.le_refl _)
        have HD := Lib.hid (hD.below hbW)
        have HX : Hid (Tk.Ex T Q B R v vr wr.heap.size (.cells #[.int .i64 act, .string key, .string oth, .int .i64 t] 32 (0, 0)) W) := ⟨hrow, hfr.1, hfr.2⟩
        have s0 : W.cell? ⟨wr.heap.size, 0, none⟩ = some (.int .i64 act) := cell_of_row _ _ 0 _ _ _ hrow
        have s1 : W.cell? ⟨wr.heap.size, 1, none⟩ = some (.string key) := cell_of_row _ _ 1 _ _ _ hrow
        have s2 : W.cell? ⟨wr.heap.size, 2, none⟩ = some (.string oth) := cell_of_row _ _ 2 _ _ _ hrow
        have s3 : W.cell? ⟨wr.heap.size, 3, none⟩ = some (.int .i64 t) := cell_of_row _ _ 3 _ _ _ hrow
        have sr : W.cell? ⟨R, 0, none⟩ = some (.int .i64 c2) := HD.out.d.c0
        have HPL := Lib.hid (And.intro hp (And.intro hl (And.intro c0 c1)))
        rw [← hW]
        clear hW hbW hrow hfr hD q0 q1 q2 q3 hp hl hadb
        generalize wr.heap.size = S at *
        go_upto_block 2 with fail
        go_cut [7] (fun v wx => v = .bool true ∧ Tk.St2 w T Q B R wx)
        case first =>
          by_cases a0 : act = 0
          · subst a0
            obtain ⟨hp, hl, _, _⟩ := HPL.out
            have hbd : Below W.heap.size W W.drew := below_drewN (Below.refl _ _) 1
            have HS0 := Lib.hid (duo_set (HD.out.below hbd) hp hl c0 c1 key (nearT c2 t) (HX.out.below hbd))
            have CC0 : Hid (W.cell? ⟨S, 1, none⟩ = some (.string key) ∧ W.cell? ⟨S, 3, none⟩ = some (.int .i64 t) ∧ W.cell? ⟨R, 0, none⟩ = some (.int .i64 c2)) := ⟨s1, s3, sr⟩
            clear hp hl hbd
            go_wp2_with fail
            go_region_held3 (fun wx => wx.cell? ⟨S, 1, none⟩ = some (.string key) ∧ wx.cell? ⟨S, 3, none⟩ = some (.int .i64 t) ∧ wx.cell? ⟨R, 0, none⟩ = some (.int .i64 c2)) (first | with_reducible assumption | with_reducible exact CC0.out | with_reducible exact CC2.out | with_reducible exact CC3.out | exact CC0.out)
              (first
              | (go_at_call 12; refine (neart _ _ _).mono ?_; rintro e w' ⟨rfl, rfl⟩)
              | (go_at_call 11; refine HS0.out.mono ?_; rintro e w2 ⟨rfl, r2, cr2, HS2⟩; have CC2 : Hid (w2.cell? ⟨S, 1, none⟩ = some (.string key) ∧ w2.cell? ⟨S, 3, none⟩ = some (.int .i64 t) ∧ w2.cell? ⟨R, 0, none⟩ = some (.int .i64 c2)) := ⟨cell_of_row _ _ 1 _ _ _ r2, cell_of_row _ _ 3 _ _ _ r2, cr2⟩)
              | (go_at_call 13; refine HS2.out.mono ?_; rintro e w3 ⟨rfl, r3, cr3, HST3⟩; have CC3 : Hid (w3.cell? ⟨S, 1, none⟩ = some (.string key) ∧ w3.cell? ⟨S, 3, none⟩ = some (.int .i64 t) ∧ w3.cell? ⟨R, 0, none⟩ = some (.int .i64 c2)) := ⟨cell_of_row _ _ 1 _ _ _ r3, cell_of_row _ _ 3 _ _ _ r3, cr3⟩))
            go_wp2_with fail
            go_meet
            exact ⟨by simp, HST3.out⟩
          by_cases a3 : act = 3
          · subst a3
            obtain ⟨hp, hl, _, _⟩ := HPL.out
            have hbd : Below W.heap.size W W.drew := below_drewN (Below.refl _ _) 1
            have HS0 := Lib.hid (duo_set (HD.out.below hbd) hp hl c0 c1 key t (HX.out.below hbd))
            have CC0 : Hid (W.cell? ⟨S, 1, none⟩ = some (.string key) ∧ W.cell? ⟨S, 3, none⟩ = some (.int .i64 t) ∧ W.cell? ⟨R, 0, none⟩ = some (.int .i64 c2)) := ⟨s1, s3, sr⟩
            clear hp hl hbd
            go_wp2_with fail
            go_region_held3 (fun wx => wx.cell? ⟨S, 1, none⟩ = some (.string key) ∧ wx.cell? ⟨S, 3, none⟩ = some (.int .i64 t) ∧ wx.cell? ⟨R, 0, none⟩ = some (.int .i64 c2)) (first | with_reducible assumption | with_reducible exact CC0.out | with_reducible exact CC2.out | with_reducible exact CC3.out | exact CC0.out)
              (first
              | (go_at_call 11; refine HS0.out.mono ?_; rintro e w2 ⟨rfl, r2, cr2, HS2⟩; have CC2 : Hid (w2.cell? ⟨S, 1, none⟩ = some (.string key) ∧ w2.cell? ⟨S, 3, none⟩ = some (.int .i64 t) ∧ w2.cell? ⟨R, 0, none⟩ = some (.int .i64 c2)) := ⟨cell_of_row _ _ 1 _ _ _ r2, cell_of_row _ _ 3 _ _ _ r2, cr2⟩)
              | (go_at_call 13; refine HS2.out.mono ?_; rintro e w3 ⟨rfl, r3, cr3, HST3⟩; have CC3 : Hid (w3.cell? ⟨S, 1, none⟩ = some (.string key) ∧ w3.cell? ⟨S, 3, none⟩ = some (.int .i64 t) ∧ w3.cell? ⟨R, 0, none⟩ = some (.int .i64 c2)) := ⟨cell_of_row _ _ 1 _ _ _ r3, cell_of_row _ _ 3 _ _ _ r3, cr3⟩))
            go_wp2_with fail
            go_meet
            exact ⟨by simp, HST3.out⟩
          by_cases a1 : act = 1
          · subst a1
            obtain ⟨hp, hl, hc0, hc1⟩ := HPL.out
            have hkz := HOK.out.key
            have hoz := HOK.out.other
            obtain ⟨W1, hW1⟩ : ∃ W1, W1 = W.alloc (.cells #[.string key, .string oth] 9) := ⟨_, rfl⟩
            have hb1 : Below W.heap.size W W1 := by rw [hW1]; exact (Below.refl _ _).alloc (Nat.le_refl _) _
            have hr1 : W1.heap[W.heap.size]? = some (.cells #[.string key, .string oth] 9 (0, 0)) := by rw [hW1]; exact heap_alloc_new W _
            have hfr := HD.out.fresh (g := W.heap.size) (Nat.le_refl _)
            have HSP := Lib.hid (duo_stopP (n := 2) (HD.out.below hb1) hp hl key oth hkz hoz ⟨hr1, hfr.1, hfr.2⟩)
            have HX1 := Lib.hid (HX.out.below hb1)
            have HDM : Hid (Tk.Dist m) := HD.out.p.dist.perm hp
            have HSB : Hid (∀ (k : ByteArray) (n : List Tk.Tm), 0 ≤ Tk.stopC k n ∧ Tk.stopC k n ≤ 1) := fun k n => by unfold Tk.stopC; split <;> omega
            obtain ⟨n1, hn1⟩ : ∃ n1, n1 = Tk.stopC key m := ⟨_, rfl⟩
            obtain ⟨n2, hn2⟩ : ∃ n2, n2 = Tk.stopC oth (Tk.drop key m) := ⟨_, rfl⟩
            have b1 := HSB.out key m
            have b2 := HSB.out oth (Tk.drop key m)
            rw [← hn1] at b1
            rw [← hn2] at b2
            rw [← hn1, ← hn2] at HSP
            have HN1 := Lib.hid hn1
            have HN2 := Lib.hid hn2
            clear hb1 hr1 hfr hkz hoz hp hn1 hn2
            go_wp2_with fail
            rw [← hW1]
            clear hW1
            refine HSP.out.mono ?_
            rintro e w2 ⟨rfl, v2, l2', h2, pe2, mv2⟩
            have hx2 := HX1.out.stepP mv2
            have HSD1 := Lib.hid (duo_stopD h2 HDM.out hl key)
            rw [← HN1.out] at HSD1
            have HX2 := Lib.hid hx2
            have HPE2 := Lib.hid pe2
            have k1 : w2.cell? ⟨S, 1, none⟩ = some (.string key) := cell_of_row _ _ 1 _ _ _ hx2.row
            clear h2 pe2 mv2 hx2 s0 s1 s2 s3 sr
            go_wp2_with fail
            refine HSD1.out.mono ?_
            rintro e w3 ⟨rfl, vr3, h3, mv3⟩
            have hx3 := HX2.out.stepD mv3
            have hl3 : (Tk.drop key m).length ≤ 1024 := Nat.le_trans (Tk.drop_len _ _) hl
            have HSD2 := Lib.hid (duo_stopD h3 HDM.out.drop hl3 oth)
            rw [← HN2.out] at HSD2
            have k2 : w3.cell? ⟨S, 2, none⟩ = some (.string oth) := cell_of_row _ _ 2 _ _ _ hx3.row
            clear h3 mv3 hx3 k1
            go_wp2_with fail
            refine HSD2.out.mono ?_
            rintro e w4 ⟨rfl, vr4, h4, mv4⟩
            have HST4 : Hid (Tk.St2 w T Q B R w4) := ⟨_, _, _, _, _, h4, HPE2.out, Nat.le_trans (Tk.drop_len _ _) hl3, hc0, hc1⟩
            clear h4 mv4 k2
            go_wp2_with fail
            go_meet
            exact ⟨by simp, HST4.out⟩
          by_cases a2 : act = 2
          · subst a2
            obtain ⟨hp, hl, hc0, hc1⟩ := HPL.out
            by_cases hz : Tk.tickC c2 t = 0
            · have HZ := Lib.hid hz
              have HTP := Lib.hid (duo_tickP HD.out hp hl hc0 hc1 t hz)
              have HBD := Lib.hid (Tk.tick_bounds hc0 hc1 hz)
              have HP0 := Lib.hid hp
              clear hp hz
              go_wp2_with fail
              refine HTP.out.mono ?_
              rintro e w2 ⟨A2, n2, out, rest, v2, rfl, hd2, h2, mv2, lo2, la2⟩
              have HTD := Lib.hid (duo_tickD h2 hl hc0 hc1 t HZ.out)
              have hx2 := HX.out.stepP mv2
              have HX2 := Lib.hid hx2
              have k3 : w2.cell? ⟨S, 3, none⟩ = some (.int .i64 t) := cell_of_row _ _ 3 _ _ _ hx2.row
              have HD2 := Lib.hid hd2
              have HLO : Hid (Lies w2 w2.heap.size A2 (Tk.tks out) ∧ ∀ ad, A2 = some ad → Tk.DOff R vr ad.block) := ⟨lo2, fun ad had => (HD.out.fresh (la2 ad had)).2⟩
              clear h2 mv2 hx2 hd2 lo2 la2 s0 s1 s2 s3 sr
              go_wp2_with fail
              refine HTD.out.mono ?_
              rintro e w3 ⟨A3, n3, out3, rest3, vr3, rfl, hd3, h3, mv3, lo3⟩
              obtain ⟨e1, pe3⟩ := Tk.Due.one HP0.out HD2.out hd3
              subst e1
              have hlo : out.length ≤ maxLen := by
                have := hd3.perm.length_eq
                rw [List.length_append] at this
                unfold maxLen; omega
              have hlr : rest3.length ≤ 1024 := by
                have := hd3.perm.length_eq
                rw [List.length_append] at this
                omega
              have hli : Lies w3 w3.heap.size A2 (Tk.tks out) := fun h0 => by
                obtain ⟨ad, e, hb, _⟩ := HLO.out.1 h0
                exact Tk.lies_block HLO.out.1 (fun ad' had => by
                  obtain rfl : ad' = ad := by rw [e] at had; exact (Option.some.inj had).symm
                  exact mv3.block _ hb (HLO.out.2 _ e)) mv3.size h0
              have HSA := Lib.hid (tsame out out A2 A3 n2 n3 w3 hli lo3 hlo hlo)
              rw [decide_eq_true rfl] at HSA
              have HST3 : Hid (∀ W, Below w3.heap.size w3 W → Tk.St2 w T Q B R W) := fun W hb => ⟨_, _, _, _, _, h3.below hb, pe3, hlr, HBD.out⟩
              clear h3 mv3 hd3 lo3 hli hlo hlr pe3 k3
              go_wp2_with fail
              refine HSA.out.mono ?_
              rintro e w4 ⟨rfl, hb4⟩
              have HST4 := Lib.hid (HST3.out w4 hb4)
              clear hb4
              go_wp2_with fail
              go_meet
              exact ⟨by simp, HST4.out⟩
            · have HTP := Lib.hid (duo_tick_no HD.out hp hl hc0 hc1 t hz)
              have HTD := Lib.hid (duo_tickD_no HD.out hl hc0 hc1 t hz)
              have HSA := Lib.hid (tsame [] [] none none 0 0 W (fun h => by simp [Tk.tks] at h) (fun h => by simp [Tk.tks] at h) (by simp) (by simp))
              rw [decide_eq_true rfl] at HSA
              have HST3 : Hid (∀ W2, Below W.heap.size W W2 → Tk.St2 w T Q B R W2) := fun W2 hb => ⟨_, _, _, _, _, HD.out.below hb, hp, hl, hc0, hc1⟩
              clear hp hz
              generalize Tk.tickC c2 t = tc at HTP HTD
              go_wp2_with fail
              refine HTP.out.mono ?_
              rintro e w2 ⟨rfl, rfl⟩
              go_wp2_with fail
              refine HTD.out.mono ?_
              rintro e w2 ⟨rfl, rfl⟩
              go_wp2_with fail
              refine HSA.out.mono ?_
              rintro e w4 ⟨rfl, hb4⟩
              have HST4 := Lib.hid (HST3.out w4 hb4)
              clear hb4
              go_wp2_with fail
              go_meet
              exact ⟨by simp, HST4.out⟩
          · have e0 : (act == 0) = false := by rw [beq_eq_false_iff_ne]; exact a0
            have e1 : (act == 1) = false := by rw [beq_eq_false_iff_ne]; exact a1
            have e2 : (act == 2) = false := by rw [beq_eq_false_iff_ne]; exact a2
            have e3 : (act == 3) = false := by rw [beq_eq_false_iff_ne]; exact a3
            have HST4 : Hid (Tk.St2 w T Q B R W) := ⟨_, _, _, _, _, HD.out, HPL.out⟩
            clear a0 a1 a2 a3
            go_wp2_with fail
            go_meet
            exact ⟨rfl, HST4.out⟩
        case rest =>
          rename World => wx
          obtain ⟨rfl, v3, vr3, c3, l3, m3, hD3, hp3, hl3, hc30, hc31⟩ := hcut
          have HNX := Lib.hid (duo_next hD3 hp3 hl3)
          have HD3 := Lib.hid hD3
          have HPL3 := Lib.hid (And.intro hp3 (And.intro hl3 (And.intro hc30 hc31)))
          clear hD3 hp3 hl3 hc30 hc31 HD HX HPL s0 s1 s2 s3 sr
          go_wp2_with fail
          refine HNX.out.mono ?_
          rintro e w5 ⟨k5, a5, b5, rfl, hb5, HN2⟩
          obtain ⟨W6, hW6⟩ : ∃ W6, W6 = w5.alloc (.cells #[.string k5, .int .i64 a5] 42) := ⟨_, rfl⟩
          have hb6 : Below wx.heap.size wx W6 := by rw [hW6]; exact hb5.alloc hb5.size _
          have r6 : W6.heap[w5.heap.size]? = some (.cells #[.string k5, .int .i64 a5] 42 (0, 0)) := by rw [hW6]; exact heap_alloc_new w5 _
          have HN3 := Lib.hid (HN2.out W6 hb6)
          have HR6 := Lib.hid (And.intro r6 (And.intro hb6 hb5.size))
          clear hb5 hb6 r6 HN2
          go_wp2_with fail
          rw [← hW6]
          clear hW6
          refine HN3.out.mono ?_
          rintro e w7 ⟨rfl, hb7⟩
          obtain ⟨W8, hW8⟩ : ∃ W8, W8 = w7.alloc (.cells #[.string k5, .int .i64 a5] 42) := ⟨_, rfl⟩
          have hb68 : Below W6.heap.size W6 W8 := by rw [hW8]; exact hb7.alloc hb7.size _
          have hb8 : Below wx.heap.size wx W8 := HR6.out.2.1.trans (hb68.mono HR6.out.2.1.size)
          have r8 : W8.heap[w7.heap.size]? = some (.cells #[.string k5, .int .i64 a5] 42 (0, 0)) := by rw [hW8]; exact heap_alloc_new w7 _
          have r86 : W8.heap[w5.heap.size]? = some (.cells #[.string k5, .int .i64 a5] 42 (0, 0)) := (hb68.block _ (Tk.ltHeap HR6.out.1)).trans HR6.out.1
          have hbd : Below W8.heap.size W8 W8.drew := below_drewN (Below.refl _ _) 1
          have HD8 := Lib.hid (HD3.out.below (hb8.trans (hbd.mono hb8.size)))
          have HNOW := Lib.hid (tknow HD8.out.p)
          have HALL := Lib.hid (duo_all HD8.out HPL3.out.1 HPL3.out.2.1)
          have rr : W8.cell? ⟨R, 0, none⟩ = some (.int .i64 c3) := (HD3.out.below hb8).d.c0
          have hP : w5.heap.size < W8.heap.size := Tk.ltHeap r86
          have hP2 : w7.heap.size < W8.heap.size := Tk.ltHeap r8
          have hRl : R < W8.heap.size := Tk.ltHeap (HD3.out.below hb8).d.obj
          go_wp2_with fail
          rw [← hW8]
          clear hW8 hb7
          generalize w5.heap.size = P at *
          generalize w7.heap.size = P2 at *
          have CC0 : Hid (W8.cell? ⟨P, 0, none⟩ = some (.string k5) ∧ W8.cell? ⟨P, 1, none⟩ = some (.int .i64 a5) ∧ W8.cell? ⟨P2, 0, none⟩ = some (.string k5) ∧ W8.cell? ⟨P2, 1, none⟩ = some (.int .i64 a5) ∧ W8.cell? ⟨R, 0, none⟩ = some (.int .i64 c3)) := ⟨cell_of_row _ _ 0 _ _ _ r86, cell_of_row _ _ 1 _ _ _ r86, cell_of_row _ _ 0 _ _ _ r8, cell_of_row _ _ 1 _ _ _ r8, rr⟩
          have HCC : Hid (∀ W, Below W8.drew.heap.size W8.drew W → W.cell? ⟨P, 0, none⟩ = some (.string k5) ∧ W.cell? ⟨P, 1, none⟩ = some (.int .i64 a5) ∧ W.cell? ⟨P2, 0, none⟩ = some (.string k5) ∧ W.cell? ⟨P2, 1, none⟩ = some (.int .i64 a5) ∧ W.cell? ⟨R, 0, none⟩ = some (.int .i64 c3)) := fun W hb => ⟨((hbd.trans hb).cell (p := ⟨P, 0, none⟩) hP).trans CC0.out.1, ((hbd.trans hb).cell (p := ⟨P, 1, none⟩) hP).trans CC0.out.2.1, ((hbd.trans hb).cell (p := ⟨P2, 0, none⟩) hP2).trans CC0.out.2.2.1, ((hbd.trans hb).cell (p := ⟨P2, 1, none⟩) hP2).trans CC0.out.2.2.2.1, ((hbd.trans hb).cell (p := ⟨R, 0, none⟩) hRl).trans CC0.out.2.2.2.2⟩
          have HST9 : Hid (∀ W, Below W8.drew.heap.size W8.drew W → Tk.St2 w T Q B R W) := fun W hb => ⟨_, _, _, _, _, HD8.out.below hb, HPL3.out⟩
          obtain ⟨d0, d1, d2, d3, d4⟩ := CC0.out
          clear r8 r86 rr hP hP2 hRl hb68 hb8 hbd HR6 HN3
          go_wp2_with fail
          go_region_held3 (fun wx => wx.cell? ⟨P, 0, none⟩ = some (.string k5) ∧ wx.cell? ⟨P, 1, none⟩ = some (.int .i64 a5) ∧ wx.cell? ⟨P2, 0, none⟩ = some (.string k5) ∧ wx.cell? ⟨P2, 1, none⟩ = some (.int .i64 a5) ∧ wx.cell? ⟨R, 0, none⟩ = some (.int .i64 c3)) (first | with_reducible assumption | with_reducible exact CC0.out | with_reducible exact CC1.out | with_reducible exact CC2.out | with_reducible exact CC3.out | exact CC0.out)
            (first
            | (go_at_call 21; refine HNOW.out.mono ?_; rintro e w' ⟨rfl, rfl⟩)
            | (go_at_call 22; refine HALL.out.mono ?_; rintro e wa ⟨A9, n9, N9, rfl, hb9, HA2⟩; have CC1 : Hid (wa.cell? ⟨P, 0, none⟩ = some (.string k5) ∧ wa.cell? ⟨P, 1, none⟩ = some (.int .i64 a5) ∧ wa.cell? ⟨P2, 0, none⟩ = some (.string k5) ∧ wa.cell? ⟨P2, 1, none⟩ = some (.int .i64 a5) ∧ wa.cell? ⟨R, 0, none⟩ = some (.int .i64 c3)) := HCC.out wa hb9; clear hb9)
            | (go_at_call 23; refine HA2.out.mono ?_; rintro e wb ⟨A10, n10, N10, rfl, hb10, HA3⟩; have CC2 : Hid (wb.cell? ⟨P, 0, none⟩ = some (.string k5) ∧ wb.cell? ⟨P, 1, none⟩ = some (.int .i64 a5) ∧ wb.cell? ⟨P2, 0, none⟩ = some (.string k5) ∧ wb.cell? ⟨P2, 1, none⟩ = some (.int .i64 a5) ∧ wb.cell? ⟨R, 0, none⟩ = some (.int .i64 c3)) := HCC.out wb hb10; clear hb10)
            | (go_at_call 18; refine HA3.out.mono ?_; rintro e wc ⟨rfl, hb11⟩; have CC3 : Hid (wc.cell? ⟨P, 0, none⟩ = some (.string k5) ∧ wc.cell? ⟨P, 1, none⟩ = some (.int .i64 a5) ∧ wc.cell? ⟨P2, 0, none⟩ = some (.string k5) ∧ wc.cell? ⟨P2, 1, none⟩ = some (.int .i64 a5) ∧ wc.cell? ⟨R, 0, none⟩ = some (.int .i64 c3)) := HCC.out wc hb11; have HST11 : Hid (Tk.St2 w T Q B R wc) := HST9.out wc hb11; clear hb11))
          all_goals
            simp only [Exit.then]
            go_at_K
            go_wp2_with fail
            go_roundg (l.length - (k + 1))
            case measure => omega
            case rel => exact ⟨k + 1, by omega, rfl, by go_num, HST11.out⟩
      · have k1 : ¬ ((k : Int) < l.length) := by omega
        obtain ⟨v, vr, c2, l2, m, hD, hp, hl, c0, c1⟩ := HST.out
        have HS : Hid (Calls Try.prog 14 #[.pointer (some ⟨T, 0, none⟩), .slice none 0 0] wr fun e w' => e = .returned (.int .i64 0) ∧ Hid (Below w.heap.size w w')) := by
          refine (tkstop hD.p (by rw [hp.length_eq]; omega) [] none 0 (fun h => by simp at h) (fun ad had => by cases had) (fun k hk => by simp at hk) (by simp)).mono ?_
          rintro e w' ⟨he, v', l', p', mv, pe⟩
          exact ⟨by rw [he]; simp [Tk.stopL], (hD.stepP p' mv).bel⟩
        clear hD hp hl HST
        go_wp2_with fail
        refine HS.out.mono ?_
        rintro e w5 ⟨rfl, HB5⟩
        go_wp2_with fail
        refine (alive8_any _).mono ?_
        rintro e w6 ⟨rfl, hb6⟩
        have HB6 := Lib.hid (HB5.out.trans (hb6.mono HB5.out.size))
        clear hb6
        go_wp2_with fail
        go_ret
        exact ⟨rfl, HB6.out⟩

/-! ### From the walk to the statement -/
theorem own : ownKnob Try.prog.godebug = none := by kernel_rfl

set_option maxRecDepth 20000 in
theorem contract (H : Type) (enc : TypeId × Value → H) (W : World) (base : Nat) (args : Array Value) (ds gs : List (DataW H)) (before : List MemPlace)
    (hval : ∀ (j : Nat) t v, Try.f3.params[j]? = some t → args[j]? = some v → Value.okWide Try.prog W .any base t v)
    (hW : DataW.Whole enc Try.prog Try.f3.params.toList Rows.ticksPlaysSpec.vars false W args.toList ds gs before) :
    Calls Try.prog 3 args W fun e W' => ∃ v, e = .returned v ∧ Rows.ticksPlaysSpec.post enc Try.prog Try.f3 false true false false W args v W' := by
  have hW' := hW
  obtain ⟨p, q, hA0, hV, rfl, hfz, hnd⟩ := hW
  have hA : DataW.TrodAll enc Try.prog W 0 (fun _ => true) true Try.f3.params.toList args.toList ds p := hA0
  rw [Try.params3] at hA hval
  obtain ⟨v0, vs0, d0, ds0, p0, q0, hargs, rfl, rfl, h0, r0⟩ := trodAll_cons hA
  obtain ⟨rfl, rfl, rfl⟩ := trodAll_nil r0
  obtain rfl : args = #[v0] := by cases args; simp_all
  obtain ⟨rfl, rfl⟩ := trodVars_none hV
  have k0 := h0
  obtain ⟨fuel0, hf0⟩ := h0
  obtain ⟨xs0, A0, c0, hcs0, hn0, hl0, hb0⟩ := trod_stepst hf0
  obtain rfl := slice_of Try.underlying22 (hval 0 22 v0 rfl rfl) hcs0
  clear hA0
  simp only [List.append_nil] at hW'
  refine (walk W xs0 A0 c0 hl0 hn0 hb0).mono fun e W' ⟨he, bel⟩ => ?_
  subst he
  exact ⟨_, rfl, _, _, _, [], _, [], hW', trodAll_mk1 (shut_bool Try.underlying4 _), (trodAll_cons_mk (Below.trod laidOut (by kernel_rfl) (of_decide_eq_true (by kernel_rfl)) k0 bel (fun x hx => DataW.trod_lt _ _ _ _ hf0 x hx)) trodAll_mk0), rfl, bel.frame _, fun h => by cases h⟩

set_option maxRecDepth 100000 in
theorem lifted (os : Os) (started : os.Started) (H : Type) (enc : TypeId × Value → H) :
    ReturnsInHanded {} Try.checked os 3 .any (Rows.ticksPlaysSpec.pre6 enc Try.prog Try.f3 Rows.ticksPlaysRow.domain false) (Rows.ticksPlaysSpec.post enc Try.prog Try.f3 false true false false) := by
  refine returnsInHanded_of_change (C := Try.checked) own started (by kernel_rfl) Try.func3
    (ChangeSpec.witness6 (enc := enc) (C := Try.checked) false ⟨#[], #[.slice none 0 0], []⟩ 8 (by kernel_rfl) (by kernel_rfl) (by kernel_rfl) (by kernel_rfl)) ?_
  intro W base args ds gs before hval hW _ _
  exact contract H enc W base args ds gs before hval hW

theorem over : Rows.ticksPlaysRow.holds Try.pinned (OpenSpec.ofChange Rows.ticksPlaysSpec) :=
  OpenClaim.holds_of_wide 3 Try.f3 rfl rfl rfl rfl rfl rfl rfl ⟨rfl, rfl, rfl, rfl, rfl⟩ rfl rfl rfl rfl rfl (by kernel_rfl) Try.func3 (by kernel_rfl)
    (of_decide_eq_true (by kernel_rfl)) (by unfold Func.isWrapper; first | (rw [if_pos (by decide +kernel)]; kernel_rfl) | (rw [if_neg (by decide +kernel)]; exact ⟨rfl, rfl⟩))
    (fun os started H enc _ => lifted os started H enc)

/-- The statement. -/
theorem proved : Rows.TicksPlaysSaid :=
  over

end Go.Proofs.Ytnojjfpccnmbeaa.ticksPlays
