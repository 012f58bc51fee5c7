/-
  Contracts of code.program (a program's bytes), bound, Encode.
-/
import Derived.Test.YtndgafjnifkghaaCdJ
namespace Go.Proofs.Ytndgafjnifkghaa
open Go.RowKit

theorem uBytes_len10 (xs : List Nat) (h : ∀ x ∈ xs, x < 18446744073709551616) : (uBytes xs).length ≤ 10 * xs.length := by
  induction xs with
  | nil => simp [uBytes]
  | cons x xs ih =>
    have h1 := Lib.uvarint_length64 (h x (by simp))
    have h2 := ih (fun z hz => h z (by simp [hz]))
    have e : uBytes (x :: xs) = Lib.uvarint x ++ uBytes xs := by unfold uBytes; rw [List.flatMap_cons]
    rw [e, List.length_append, List.length_cons]
    omega

set_option maxHeartbeats 800000 in
set_option maxRecDepth 20000 in
theorem cprog (l : List Cd.Fm) (hR : ∀ m ∈ l, m.f.Rng) (hok : Cd.pok (Cd.fns l) = true) (A : Option Addr) (c B : Nat) (w : World) (hm : Cd.Tbl w B) (hP : Cd.Prog w w.heap.size A l) :
    Calls Try.prog 24 #[.map (some B), .agg #[.slice A l.length c]] w fun e w' => e = .returned (.string ⟨(Cd.pbs (Cd.fns l)).toArray⟩) ∧ Below w.heap.size w w' := by
  rw [Cd.pok_iff, Bool.and_eq_true, decide_eq_true_eq, List.all_eq_true] at hok
  have h16 := hok.1
  have HOK := Lib.hid hok.2
  have HR := Lib.hid hR
  have HM := Lib.hid hm
  have HP := Lib.hid hP
  obtain ⟨V, hV⟩ : ∃ V, V = w.alloc (.cells #[.slice A l.length c] 24) := ⟨_, rfl⟩
  have hVs : V.heap.size = w.heap.size + 1 := by rw [hV]; simp
  have hb1 : Below w.heap.size w V := by rw [hV]; exact Cd.fn1 _ _ _
  have hX : V.heap[w.heap.size]? = some (.cells #[.slice A l.length c] 24 (0, 0)) := by rw [hV]; exact heap_alloc_new w _
  have hF0 := Lib.fresh_isBuilder 75 5 V
  obtain ⟨W, hW⟩ : ∃ W, W = V.alloc (.cells #[.pointer none, .slice none 0 0] 75) := ⟨_, rfl⟩
  rw [show V.alloc _ = W from hW.symm] at hF0
  have hb2 : Below V.heap.size V W := by rw [hW]; exact Cd.fn1 _ _ _
  have hWs : W.heap.size = V.heap.size + 1 := by rw [hW]; simp
  have HB := Lib.hid (hb1.trans (hb2.mono hb1.size))
  have HX := Lib.hid ((hb2.block _ (Cd.ltH hX)).trans hX)
  have cX : W.cell? ⟨w.heap.size, 0, none⟩ = some (.slice A l.length c) := cell_of_row _ _ 0 _ _ _ HX.out
  clear hok hR hm hP hb1 hb2 hX
  go_enter Try.func24, Try.ntmps24
  go_upto_region 2 with fail
  rw [← hV, ← hVs, ← hW]
  clear hV hW
  obtain ⟨b, hb⟩ : ∃ b, b = V.heap.size := ⟨_, rfl⟩
  rw [← hb] at hF0 hVs hWs ⊢
  have HBD : Hid (w.heap.size < b ∧ b < W.heap.size) := ⟨by omega, by omega⟩
  have HF : Hid (Lib.IsBuilder 75 5 b b (Lib.byteCells []) W) := hF0
  clear hF0 hVs hWs hb
  have hwl : IntKind.u64.wrap (l.length : Int) = (l.length : Int) := by rw [IntKind.wrap_u64]; omega
  go_wp2_with fail
  refine (cuN [1, l.length] (by rfl) (by rfl) (by simp) (by intro x hx; simp at hx; omega) (by first | with_reducible rfl | simp)).mono ?_
  rintro e w2 ⟨rfl, hb2⟩
  obtain ⟨pre, hpre⟩ : ∃ pre, pre = uBytes [1, l.length] := ⟨_, rfl⟩
  have HPRE := Lib.hid hpre
  have hpl : pre.length ≤ 20 := by rw [hpre]; have := uBytes_len10 [1, l.length] (by intro x hx; simp at hx; omega); simpa using this
  rw [← hpre]
  have HBW2 := Lib.hid (HB.out.trans (hb2.mono HB.out.size))
  have HX2 := Lib.hid ((hb2.block _ (Cd.ltH HX.out)).trans HX.out)
  have HBL2 := Lib.hid (bld_keep HF.out hb2)
  have HS2 : Hid (b < w2.heap.size) := Nat.lt_of_lt_of_le HBD.out.2 hb2.size
  clear hpre hb2 HF HX cX HB
  go_wp2_with fail
  refine (write_bytes b b [] pre w2 HBL2.out (by simp; omega) (Nat.le_of_lt HS2.out)).mono ?_
  rintro e w3 ⟨v, rfl, hB3, hb3, _⟩
  have cX : w3.cell? ⟨w.heap.size, 0, none⟩ = some (.slice A l.length c) := cell_of_row _ _ 0 _ _ _ ((hb3.block _ HBD.out.1).trans HX2.out)
  have HST : Hid (Lib.IsBuilder 75 5 b b (Lib.byteCells pre) w3 ∧ Below w.heap.size w w3 ∧ b < w3.heap.size) :=
    ⟨hB3, HBW2.out.trans (hb3.mono (Nat.le_of_lt HBD.out.1)), Nat.lt_of_lt_of_le HS2.out hb3.size⟩
  clear hB3 hb3 HX2 HBL2 HS2 HBW2
  go_wp2_with fail
  go_loopw [20] (fun s20 wr => ∃ (k : Nat) (acc : List UInt8), k ≤ l.length ∧ s20 = .int .i64 k ∧ acc.length ≤ 100 + 4000 * k ∧ Hid (acc = pre ++ Cd.fbs (Cd.fns (l.take k))) ∧ Hid (Lib.IsBuilder 75 5 b b (Lib.byteCells acc) wr ∧ Below w.heap.size w wr ∧ b < wr.heap.size)) (fun s20 _ => l.length - (intOf s20).toNat)
  case atStart => exact ⟨0, pre, Nat.zero_le _, rfl, by omega, by show _ = _; simp [Cd.fns, Cd.fbs], HST.out⟩
  case round =>
    clear HST cX
    rename World => wr
    obtain ⟨k, acc, hk, rfl, hacc, HACC, HS⟩ := hrel
    by_cases hlt : k < l.length
    · have hPB := HP.out.below HS.out.2.1
      obtain ⟨ad, rfl, hadb, c0, c1, c2⟩ := Cd.fn_at hPB.fs hlt
      have k0 : (0 : Int) ≤ (k : Int) := by omega
      have k1 : (k : Int) < l.length := by omega
      have HME := Lib.hid (List.getElem_mem hlt)
      have HT : Hid (Cd.fbs (Cd.fns (l.take (k + 1))) = Cd.fbs (Cd.fns (l.take k)) ++ l[k].f.bytes) := by
        show _ = _
        rw [List.take_succ_eq_append_getElem hlt]
        unfold Cd.fns
        rw [List.map_append]
        exact Cd.fbs_snoc _ _
      have HRM := Lib.hid (HR.out _ HME.out)
      have HLI := Lib.hid (HP.out.os _ HME.out)
      obtain ⟨⟨y1, e1, hy1⟩, ⟨y2, e2, hy2⟩, h64, hops⟩ := Cd.FnV.ok_parts (HOK.out _ HME.out)
      generalize l[k] = m at c0 c1 c2 HME HT HRM HLI e1 e2 h64 hops
      rw [e1] at c0
      rw [e2] at c1
      have HOPS := Lib.hid hops
      have HHD : Hid (uBytes [y1, y2, m.f.ops.length] = m.f.head) := by
        show _ = _
        unfold uBytes Cd.FnV.head Cd.uv
        rw [e1, e2]
        simp
      clear hadb hlt hPB e1 e2 hops
      obtain ⟨F, hF⟩ : ∃ F, F = wr.alloc (.cells #[.int .i64 (y1 : Int), .int .i64 (y2 : Int), .slice m.A m.f.ops.length m.c] 41) := ⟨_, rfl⟩
      go_upto_region 6 with fail
      rw [← hF]
      have hFr : F.heap[wr.heap.size]? = some (.cells #[.int .i64 (y1 : Int), .int .i64 (y2 : Int), .slice m.A m.f.ops.length m.c] 41 (0, 0)) := by rw [hF]; exact heap_alloc_new wr _
      have hbF : Below wr.heap.size wr F := by rw [hF]; exact Cd.fn1 _ _ _
      have f0 : F.cell? ⟨wr.heap.size, 0, none⟩ = some (.int .i64 (y1 : Int)) := cell_of_row _ _ 0 _ _ _ hFr
      have f1 : F.cell? ⟨wr.heap.size, 1, none⟩ = some (.int .i64 (y2 : Int)) := cell_of_row _ _ 1 _ _ _ hFr
      have f2 : F.cell? ⟨wr.heap.size, 2, none⟩ = some (.slice m.A m.f.ops.length m.c) := cell_of_row _ _ 2 _ _ _ hFr
      have HFR := Lib.hid hFr
      have HBF := Lib.hid (HS.out.2.1.trans (hbF.mono HS.out.2.1.size))
      have HBLF := Lib.hid (bld_keep HS.out.1 hbF)
      have HbF : Hid (b < wr.heap.size ∧ b < F.heap.size) := ⟨HS.out.2.2, Nat.lt_of_lt_of_le HS.out.2.2 hbF.size⟩
      clear hF hFr hbF c0 c1 c2 HS
      obtain ⟨X, hX⟩ : ∃ X, X = wr.heap.size := ⟨_, rfl⟩
      rw [← hX] at f0 f1 f2 HFR HbF ⊢
      clear hX
      have hw1 : IntKind.u64.wrap (y1 : Int) = (y1 : Int) := by rw [IntKind.wrap_u64]; omega
      have hw2 : IntKind.u64.wrap (y2 : Int) = (y2 : Int) := by rw [IntKind.wrap_u64]; omega
      have hw3 : IntKind.u64.wrap (m.f.ops.length : Int) = (m.f.ops.length : Int) := by rw [IntKind.wrap_u64]; omega
      go_wp2_with fail
      refine (cuN [y1, y2, m.f.ops.length] (by rfl) (by rfl) (by simp) (by intro x hx; simp at hx; omega) (by first | with_reducible rfl | simp)).mono ?_
      rintro e w4 ⟨rfl, hb4⟩
      have hhl : m.f.head.length ≤ 30 := by rw [← HHD.out]; have := uBytes_len10 [y1, y2, m.f.ops.length] (by intro x hx; simp at hx; omega); simpa using this
      rw [HHD.out]
      have HB4 := Lib.hid (HBF.out.trans (hb4.mono HBF.out.size))
      have HBL4 := Lib.hid (bld_keep HBLF.out hb4)
      have HR4 := Lib.hid ((hb4.block _ (Cd.ltH HFR.out)).trans HFR.out)
      have Hb4 : Hid (b < w4.heap.size) := Nat.lt_of_lt_of_le HbF.out.2 hb4.size
      clear hb4 HBF HBLF HFR f0 f1 f2
      go_wp2_with fail
      refine (write_bytes b b acc m.f.head w4 HBL4.out (by omega) (Nat.le_of_lt Hb4.out)).mono ?_
      rintro e w5 ⟨v5, rfl, hB5, hb5, hk5⟩
      have g2 : w5.cell? ⟨X, 2, none⟩ = some (.slice m.A m.f.ops.length m.c) := cell_of_row _ _ 2 _ _ _ ((hk5 X _ _ _ (Nat.ne_of_gt HbF.out.1) (by decide) HR4.out).trans HR4.out)
      have HST : Hid (Lib.IsBuilder 75 5 b b (Lib.byteCells (acc ++ m.f.head)) w5 ∧ Below w.heap.size w w5 ∧ b < w5.heap.size) :=
        ⟨hB5, HB4.out.trans (hb5.mono (Nat.le_of_lt HBD.out.1)), Nat.lt_of_lt_of_le Hb4.out hb5.size⟩
      clear hB5 hb5 hk5 HR4 HBL4 Hb4 HB4 hw1 hw2
      go_wp2_with fail
      clear g2
      rename World => wo
      generalize m.A = AO at HLI ⊢
      go_loopw [40] (fun s40 wk => ∃ (j : Nat) (acc2 : List UInt8), j ≤ m.f.ops.length ∧ s40 = .int .i64 j ∧ acc2.length ≤ 140 + 4000 * k + 50 * j ∧ Hid (acc2 = acc ++ m.f.head ++ Cd.obs (m.f.ops.take j)) ∧ Hid (Lib.IsBuilder 75 5 b b (Lib.byteCells acc2) wk ∧ Below w.heap.size w wk ∧ b < wk.heap.size)) (fun s40 _ => m.f.ops.length - (intOf s40).toNat)
      case atStart => exact ⟨0, acc ++ m.f.head, Nat.zero_le _, rfl, by rw [List.length_append]; omega, by show _ = _; simp [Cd.obs], HST.out⟩
      case round =>
        clear HST
        rename World => wk
        obtain ⟨j, acc2, hj, rfl, hacc2, HACC2, HS2⟩ := hrel
        by_cases hjt : j < m.f.ops.length
        · obtain ⟨ad2, rfl, hadb2, c0, c1, c2, c3, c4⟩ := Cd.op_at (HLI.out.below HS2.out.2.1) hjt
          have j0 : (0 : Int) ≤ (j : Int) := by omega
          have j1 : (j : Int) < m.f.ops.length := by omega
          have HOB : Hid (Cd.obs (m.f.ops.take (j + 1)) = Cd.obs (m.f.ops.take j) ++ m.f.ops[j].bytes) := by
            show _ = _
            rw [List.take_succ_eq_append_getElem hjt, Cd.obs_snoc]
          have HRO := Lib.hid (HRM.out.ops _ (List.getElem_mem hjt))
          have HOO := Lib.hid (HOPS.out _ (List.getElem_mem hjt))
          generalize m.f.ops[j] = o at c0 c1 c2 c3 c4 HOB HRO HOO
          have hol := Cd.OpV.bytes_len HRO.out
          obtain ⟨G, hG⟩ : ∃ G, G = wk.alloc (.cells #[.int .u8 (o.k : Int), .int .i64 o.d, .int .i64 o.a, .int .i64 o.b, .int .i64 o.n] 43) := ⟨_, rfl⟩
          have hbG : Below wk.heap.size wk G := by rw [hG]; exact Cd.fn1 _ _ _
          have hGo : Cd.OB G wk.heap.size o := by show G.heap[wk.heap.size]? = _; rw [hG]; exact heap_alloc_new wk _
          have HBG := Lib.hid (HS2.out.2.1.trans (hbG.mono HS2.out.2.1.size))
          have HBLG := Lib.hid (bld_keep HS2.out.1 hbG)
          have HbG : Hid (b < G.heap.size) := Nat.lt_of_lt_of_le HS2.out.2.2 hbG.size
          have HCO := Lib.hid (cop o HRO.out HOO.out B G (Gm.MapF.below HM.out HBG.out))
          obtain ⟨g0, g1, g2, g3, g4⟩ := hGo.cells
          clear hbG hGo hadb2 hjt
          go_upto_region 10 with fail
          rw [← hG]
          clear hG c0 c1 c2 c3 c4
          go_wp2_with fail
          refine HCO.out.mono ?_
          rintro e w6 ⟨rfl, hb6⟩
          have HB6 := Lib.hid (HBG.out.trans (hb6.mono HBG.out.size))
          have HBL6 := Lib.hid (bld_keep HBLG.out hb6)
          have Hb6 : Hid (b < w6.heap.size) := Nat.lt_of_lt_of_le HbG.out hb6.size
          clear hb6 HBG HBLG HbG HCO g0 g1 g2 g3 g4
          go_wp2_with fail
          refine (write_bytes b b acc2 o.bytes w6 HBL6.out (by omega) (Nat.le_of_lt Hb6.out)).mono ?_
          rintro e w7 ⟨v7, rfl, hB7, hb7, _⟩
          have HST7 : Hid (Lib.IsBuilder 75 5 b b (Lib.byteCells (acc2 ++ o.bytes)) w7 ∧ Below w.heap.size w w7 ∧ b < w7.heap.size) :=
            ⟨hB7, HB6.out.trans (hb7.mono (Nat.le_of_lt HBD.out.1)), Nat.lt_of_lt_of_le Hb6.out hb7.size⟩
          clear hB7 hb7 HB6 HBL6 Hb6
          go_wp2_with fail
          go_roundw
          case rel => exact ⟨j + 1, acc2 ++ o.bytes, by omega, by go_num, by rw [List.length_append]; omega, by show _ = _; rw [HOB.out, HACC2.out, List.append_assoc], HST7.out⟩
          case measure => simp [intOf]; omega
        · have j1 : ¬ ((j : Int) < m.f.ops.length) := by omega
          have HEND : Hid (acc2 = pre ++ Cd.fbs (Cd.fns (l.take (k + 1)))) := by
            show _ = _
            rw [HACC2.out, List.take_of_length_le (by omega), HT.out, HACC.out, Cd.FnV.bytes_head]
            simp [List.append_assoc]
          go_wp2_with fail
          go_roundw
          case rel => exact ⟨k + 1, acc2, by omega, by go_num, by omega, HEND.out, HS2.out⟩
          case measure => simp [intOf]; omega
    · have k1 : ¬ ((k : Int) < l.length) := by omega
      have HEND : Hid (acc = Cd.pbs (Cd.fns l)) := by
        show _ = _
        rw [HACC.out, List.take_of_length_le (by omega), HPRE.out]
        unfold Cd.pbs uBytes
        rw [Cd.fns_len]
        simp
      go_wp2_with fail
      refine (Sh.Builder_String_any b b _ _ HS.out.1 (Nat.le_of_lt HS.out.2.2)).mono ?_
      rintro e w8 ⟨rfl, hb8⟩
      have HB8 : Hid (Below w.heap.size w w8) := HS.out.2.1.trans (hb8.mono (Nat.le_of_lt HBD.out.1))
      clear hb8
      go_wp2_with fail
      go_ret
      exact ⟨by rw [← HEND.out]; rfl, HB8.out⟩
end Go.Proofs.Ytndgafjnifkghaa
