/-
  The document's Bytes, Encode (layer 10): a program's bytes.
-/
import Derived.Test.YtndgafjnifkghaaCrD
import Derived.Test.YtndgafjnifkghaaCrE
namespace Go.Proofs.Ytndgafjnifkghaa
open Go.RowKit

set_option maxHeartbeats 2000000 in
set_option maxRecDepth 20000 in
theorem rBytes10 (l : List Cd.Fm) (hR : ∀ m ∈ l, m.f.Rng) (hok : Cd.pok (Cd.fns l) = true) (A : Option Addr) (c : Nat) (w : World) (hP : Cd.Prog w w.heap.size A l) :
    Calls Try.prog 25 #[.agg #[.slice A l.length c]] w fun e w' => e = .returned (.string ⟨(Cd.pbs (Cd.fns l)).toArray⟩) ∧ Below w.heap.size w w' := by
  rw [Cd.pok_iff, Bool.and_eq_true, decide_eq_true_eq, List.all_eq_true] at hok
  have h16 := hok.1
  have HOK := Lib.hid hok.2
  have HR := Lib.hid hR
  have HP := Lib.hid hP
  obtain ⟨W, hW⟩ : ∃ W, W = w.alloc (.cells #[.slice A l.length c] 24) := ⟨_, rfl⟩
  have hb : Below w.heap.size w W := by rw [hW]; exact Cd.fn1 _ _ _
  have HF : Hid (W.heap[w.heap.size]? = some (.cells #[.slice A l.length c] 24 (0, 0))) := by show _ = _; rw [hW]; exact heap_alloc_new w _
  have HB := Lib.hid hb
  have hpl := Lib.uvarint_length64 (x := l.length) (by omega)
  have HNL := Lib.hid (rNum10 l.length (by omega) W)
  obtain ⟨pre, hpre⟩ : ∃ pre, pre = [1] ++ Lib.uvarint l.length := ⟨_, rfl⟩
  have hprl : pre.length ≤ 11 := by rw [hpre, List.length_append]; simp; omega
  have HPRE : Hid (Cd.pbs (Cd.fns l) = pre ++ Cd.fbs (Cd.fns l)) := by
    show _ = _
    rw [hpre]
    unfold Cd.pbs
    rw [Cd.fns_len, Lib.uvarint_small (by omega : (1 : Nat) < 128)]
    rfl
  clear hok hR hP hb
  go_enter Try.func25, Try.ntmps25
  go_upto_region 1 with fail
  rw [← hW]
  clear hW
  obtain ⟨X, hX⟩ : ∃ X, X = w.heap.size := ⟨_, rfl⟩
  rw [← hX] at HF ⊢
  clear hX
  have c0 : W.cell? ⟨X, 0, none⟩ = some (.slice A l.length c) := cell_of_row _ _ 0 _ _ _ HF.out
  go_wp2_with fail
  refine HNL.out.mono ?_
  rintro e w2 ⟨rfl, hb2⟩
  have HW2 := Lib.hid hb2
  clear hb2 c0 HNL
  go_upto_region 2 with fail
  rw [show (⟨#[1]⟩ : ByteArray) ++ ⟨(Lib.uvarint l.length).toArray⟩ = ⟨pre.toArray⟩ by rw [hpre]; exact mk_append [1] _]
  clear hpre hpl
  go_wp2_with fail
  go_loopw [3, 4] (fun s3 s4 wr => ∃ (k : Nat) (acc : List UInt8), k ≤ l.length ∧ s3 = .string ⟨acc.toArray⟩ ∧ s4 = .int .i64 k ∧ acc.length ≤ 100 + 4000 * k ∧ Hid (acc = pre ++ Cd.fbs (Cd.fns (l.take k))) ∧ Hid (Below W.heap.size W wr)) (fun _ s4 _ => l.length - (intOf s4).toNat)
  case atStart => exact ⟨0, pre, Nat.zero_le _, rfl, rfl, by omega, by show _ = _; simp [Cd.fns, Cd.fbs], HW2.out⟩
  case round =>
    clear HW2
    obtain ⟨k, acc, hk, rfl, rfl, hacc, HACC, HBW⟩ := hrel
    have c0 : wr.cell? ⟨X, 0, none⟩ = some (.slice A l.length c) := cell_of_row _ _ 0 _ _ _ ((HBW.out.block _ (Cd.ltH HF.out)).trans HF.out)
    have hbw : Below w.heap.size w wr := HB.out.trans (HBW.out.mono HB.out.size)
    by_cases hlt : k < l.length
    · obtain ⟨ad, rfl, hadb, d0, d1, d2⟩ := Cd.fn_at (HP.out.below hbw).fs hlt
      have k0 : (0 : Int) ≤ (k : Int) := by omega
      have k1 : (k : Int) < l.length := by omega
      have HME := Lib.hid (List.getElem_mem hlt)
      have HT : Hid (Cd.fbs (Cd.fns (l.take (k + 1))) = Cd.fbs (Cd.fns (l.take k)) ++ l[k].f.bytes) := by
        show _ = _
        rw [List.take_succ_eq_append_getElem hlt]
        unfold Cd.fns
        rw [List.map_append]
        exact Cd.fbs_snoc _ _
      have HRM := Lib.hid (HR.out _ HME.out)
      have HLI := Lib.hid (HP.out.os _ HME.out)
      obtain ⟨⟨y1, e1, hy1⟩, ⟨y2, e2, hy2⟩, h64, hops⟩ := Cd.FnV.ok_parts (HOK.out _ HME.out)
      generalize l[k] = m at d0 d1 d2 HME HT HRM HLI e1 e2 h64 hops
      rw [e1] at d0
      rw [e2] at d1
      have HOPS := Lib.hid hops
      have HHD : Hid (m.f.bytes = Lib.uvarint y1 ++ Lib.uvarint y2 ++ Lib.uvarint m.f.ops.length ++ Cd.obs m.f.ops) := by
        show _ = _
        unfold Cd.FnV.bytes
        rw [e1, e2, Cd.uv_nat, Cd.uv_nat]
      have HN1 := Lib.hid (fun U => rNum10 y1 (by omega) U)
      have HN2 := Lib.hid (fun U => rNum10 y2 (by omega) U)
      have HN3 := Lib.hid (fun U => rNum10 m.f.ops.length (by omega) U)
      have l1 := Lib.uvarint_length64 (x := y1) (by omega)
      have l2 := Lib.uvarint_length64 (x := y2) (by omega)
      have l3 := Lib.uvarint_length64 (x := m.f.ops.length) (by omega)
      generalize Lib.uvarint y1 = L1 at HN1 l1 HHD
      generalize Lib.uvarint y2 = L2 at HN2 l2 HHD
      generalize Lib.uvarint m.f.ops.length = L3 at HN3 l3 HHD
      clear hadb hlt e1 e2 hops
      obtain ⟨V, hV⟩ : ∃ V, V = wr.alloc (.cells #[.int .i64 (y1 : Int), .int .i64 (y2 : Int), .slice m.A m.f.ops.length m.c] 41) := ⟨_, rfl⟩
      have hbV : Below wr.heap.size wr V := by rw [hV]; exact Cd.fn1 _ _ _
      have HFB : Hid (Cd.FB V wr.heap.size (y1 : Int) (y2 : Int) (.slice m.A m.f.ops.length m.c)) := by show V.heap[_]? = _; rw [hV]; exact heap_alloc_new wr _
      have HBV := Lib.hid (HBW.out.trans (hbV.mono HBW.out.size))
      have HBVw := Lib.hid (hbw.trans (hbV.mono hbw.size))
      clear hbV hbw HBW
      go_upto_region 6 with fail
      rw [← hV]
      clear hV c0 d0 d1 d2
      generalize wr.heap.size = F at HFB ⊢
      have x0 := HFB.out.c0
      have x1 := HFB.out.c1
      have x2 := HFB.out.c2
      have bb := (Below.refl V.heap.size V).drew
      have hFl := HFB.out.lt
      have HX : Hid (V.cell? ⟨F, 0, none⟩ = some (.int .i64 (y1 : Int)) ∧ V.cell? ⟨F, 1, none⟩ = some (.int .i64 (y2 : Int)) ∧ V.cell? ⟨F, 2, none⟩ = some (.slice m.A m.f.ops.length m.c)) := ⟨x0, x1, x2⟩
      have HKEEP : Hid (∀ {U : World}, Below V.heap.size V U → U.cell? ⟨F, 0, none⟩ = some (.int .i64 (y1 : Int)) ∧ U.cell? ⟨F, 1, none⟩ = some (.int .i64 (y2 : Int)) ∧ U.cell? ⟨F, 2, none⟩ = some (.slice m.A m.f.ops.length m.c) ∧ Below V.heap.size V U) := fun h => by
        have hf := HFB.out.of_block (h.block F HFB.out.lt)
        exact ⟨hf.c0, hf.c1, hf.c2, h⟩
      have HD1 : Hid (∀ {U : World}, Below V.heap.size V U → Calls Try.prog 48 #[.int .i64 (y1 : Int)] U fun e w' => e = .returned (.string ⟨L1.toArray⟩) ∧ Below V.heap.size V w') := fun {U} h => by
        refine (HN1.out U).mono ?_
        rintro e w' ⟨he, hb⟩
        exact ⟨he, h.trans (hb.mono h.size)⟩
      have HD2 : Hid (∀ {U : World}, Below V.heap.size V U → Calls Try.prog 48 #[.int .i64 (y2 : Int)] U fun e w' => e = .returned (.string ⟨L2.toArray⟩) ∧ Below V.heap.size V w') := fun {U} h => by
        refine (HN2.out U).mono ?_
        rintro e w' ⟨he, hb⟩
        exact ⟨he, h.trans (hb.mono h.size)⟩
      have HD3 : Hid (∀ {U : World}, Below V.heap.size V U → Calls Try.prog 48 #[.int .i64 (m.f.ops.length : Int)] U fun e w' => e = .returned (.string ⟨L3.toArray⟩) ∧ Below V.heap.size V w') := fun {U} h => by
        refine (HN3.out U).mono ?_
        rintro e w' ⟨he, hb⟩
        exact ⟨he, h.trans (hb.mono h.size)⟩
      clear x0 x1 x2 HN1 HN2 HN3
      have z1 : ¬ 9223372036854775807 < acc.length + L1.length := by omega
      have z2 : ¬ 9223372036854775807 < acc.length + L1.length + L2.length := by omega
      have z3 : ¬ 9223372036854775807 < acc.length + L1.length + L2.length + L3.length := by omega
      go_region_held3 (fun wx => wx.cell? ⟨F, 0, none⟩ = some (.int .i64 (y1 : Int)) ∧ wx.cell? ⟨F, 1, none⟩ = some (.int .i64 (y2 : Int)) ∧ wx.cell? ⟨F, 2, none⟩ = some (.slice m.A m.f.ops.length m.c) ∧ Below V.heap.size V wx)
        (first | with_reducible assumption | with_reducible exact HKEEP.out (by with_reducible assumption))
        (first
          | (with_reducible refine (HD1.out (by with_reducible assumption)).mono ?_; rintro e y1 ⟨rfl, hq1⟩)
          | (with_reducible refine (HD2.out (by with_reducible assumption)).mono ?_; rintro e y2 ⟨rfl, hq2⟩)
          | (with_reducible refine (HD3.out (by with_reducible assumption)).mono ?_; rintro e y3 ⟨rfl, hq3⟩))
      simp only [Exit.then]
      go_at_K
      rw [mk_append, mk_append, mk_append]
      obtain ⟨Q, hQ⟩ : ∃ Q, Q = acc ++ L1 ++ L2 ++ L3 := ⟨_, rfl⟩
      have hql : Q.length ≤ 130 + 4000 * k := by rw [hQ]; simp only [List.length_append]; omega
      rw [← hQ]
      generalize acc ++ L1 ++ L2 = qb
      generalize acc ++ L1 = qa
      have HQ := Lib.hid hQ
      have HV4 := Lib.hid hq3
      clear hq1 hq2 hq3 z1 z2 z3 bb HX hQ HD1 HD2 HD3 l1 l2 l3
      go_wp2_with fail
      generalize m.A = AO at HFB HKEEP HLI ⊢
      go_loopw [3, 6] (fun s3 s6 wy => ∃ (j : Nat) (acc2 : List UInt8), j ≤ m.f.ops.length ∧ s3 = .string ⟨acc2.toArray⟩ ∧ s6 = .int .i64 j ∧ acc2.length ≤ 130 + 4000 * k + 50 * j ∧ Hid (acc2 = Q ++ Cd.obs (m.f.ops.take j)) ∧ Hid (Below V.heap.size V wy)) (fun _ s6 _ => m.f.ops.length - (intOf s6).toNat)
      case atStart => exact ⟨0, Q, Nat.zero_le _, rfl, rfl, by omega, by show _ = _; simp [Cd.obs], HV4.out⟩
      case round =>
        clear HV4
        rename World => wy
        obtain ⟨j, acc2, hj, rfl, rfl, hacc2, HACC2, HBY⟩ := hrel
        have x2 := (HKEEP.out HBY.out).2.2.1
        have hby : Below w.heap.size w wy := HBVw.out.trans (HBY.out.mono HBVw.out.size)
        by_cases hjt : j < m.f.ops.length
        · obtain ⟨adm, rfl, hadm, e0, e1, e2, e3, e4⟩ := Cd.op_at (HLI.out.below hby) hjt
          have j0 : (0 : Int) ≤ (j : Int) := by omega
          have j1 : (j : Int) < m.f.ops.length := by omega
          have HO := Lib.hid (rOpBytes10 m.f.ops[j] (HOPS.out _ (List.getElem_mem hjt)) (HRM.out.ops _ (List.getElem_mem hjt)) wy)
          have hol := Cd.OpV.bytes_len (HRM.out.ops _ (List.getElem_mem hjt))
          have HJ2 : Hid (Cd.obs (m.f.ops.take (j + 1)) = Cd.obs (m.f.ops.take j) ++ m.f.ops[j].bytes) := by
            show _ = _
            rw [List.take_succ_eq_append_getElem hjt]
            rw [Cd.obs_snoc]
          generalize m.f.ops[j].bytes = OB at HO HJ2 hol
          generalize m.f.ops[j] = o at e0 e1 e2 e3 e4 HO
          clear hadm hjt hby
          go_wp2_with fail
          refine HO.out.mono ?_
          rintro e wz ⟨rfl, hbz⟩
          have HZ := Lib.hid (HBY.out.trans (hbz.mono HBY.out.size))
          clear hbz
          have z1 : ¬ 9223372036854775807 < acc2.length + OB.length := by omega
          go_wp2_with fail
          go_roundw
          case rel => exact ⟨j + 1, acc2 ++ OB, by omega, by rw [mk_append], by go_num, by rw [List.length_append]; omega, by show _ = _; rw [HJ2.out, HACC2.out, List.append_assoc], HZ.out⟩
          case measure => simp [intOf]; omega
        · have j1 : ¬ ((j : Int) < m.f.ops.length) := by omega
          have HACC3 : Hid (acc2 = pre ++ Cd.fbs (Cd.fns (l.take (k + 1)))) := by
            have := HACC2.out
            rw [List.take_of_length_le (by omega), HQ.out, HACC.out] at this
            show _ = _
            rw [this, HT.out, HHD.out]
            simp only [List.append_assoc]
          have HBZ := Lib.hid (HBV.out.trans (HBY.out.mono HBV.out.size))
          clear hby
          go_wp2_with fail
          go_roundw
          case rel => exact ⟨k + 1, acc2, by omega, rfl, by go_num, by omega, HACC3.out, HBZ.out⟩
          case measure => simp [intOf]; omega
    · have k1 : ¬ ((k : Int) < l.length) := by omega
      have HE : Hid (acc = Cd.pbs (Cd.fns l)) := by
        have := HACC.out
        rw [List.take_of_length_le (by omega)] at this
        exact this.trans HPRE.out.symm
      have HBZ := Lib.hid hbw
      clear hbw
      go_wp2_with fail
      go_ret
      exact ⟨by rw [HE.out]; rfl, HBZ.out⟩

set_option maxHeartbeats 1000000 in
set_option maxRecDepth 20000 in
theorem rEncode10 (l : List Cd.Fm) (hR : ∀ m ∈ l, m.f.Rng) (hn : l.length ≤ maxLen) (A : Option Addr) (c : Nat) (w : World) (hP : Cd.Prog w w.heap.size A l) :
    Calls Try.prog 12 #[.agg #[.slice A l.length c]] w fun e w' => e = .returned (.tuple #[.string ⟨(Cd.enc (Cd.fns l)).1.toArray⟩, .int .i64 (Cd.enc (Cd.fns l)).2]) ∧ Below w.heap.size w w' := by
  obtain ⟨W, hW⟩ : ∃ W, W = w.alloc (.cells #[.slice A l.length c] 24) := ⟨_, rfl⟩
  have hb : Below w.heap.size w W := by rw [hW]; exact Cd.fn1 _ _ _
  have HF : Hid (W.heap[w.heap.size]? = some (.cells #[.slice A l.length c] 24 (0, 0))) := by show _ = _; rw [hW]; exact heap_alloc_new w _
  have HB := Lib.hid hb
  have HM := Lib.hid (rMay10 l hR hn A c W ((hP.below hb).mono hb.size))
  have HBY : Hid (∀ U, Below W.heap.size W U → Cd.pok (Cd.fns l) = true → Calls Try.prog 25 #[.agg #[.slice A l.length c]] U fun e w' => e = .returned (.string ⟨(Cd.pbs (Cd.fns l)).toArray⟩) ∧ Below W.heap.size W w') := fun U hU hk => by
    have h2 := hb.trans (hU.mono hb.size)
    refine (rBytes10 l hR hk A c U ((hP.below h2).mono h2.size)).mono ?_
    rintro e w' ⟨he, hb3⟩
    exact ⟨he, hU.trans (hb3.mono hU.size)⟩
  have HLN : Hid (Cd.pok (Cd.fns l) = true → (Cd.pbs (Cd.fns l)).length ≤ 100000) := fun hk => Cd.pbs_len (Cd.fns_rng hR) hk
  have HEN : Hid (Cd.enc (Cd.fns l) = if Cd.pok (Cd.fns l) then (if 16384 < (Cd.pbs (Cd.fns l)).length then ([], 4) else (Cd.pbs (Cd.fns l), 0)) else ([], 2)) := rfl
  have c0 : W.cell? ⟨w.heap.size, 0, none⟩ = some (.slice A l.length c) := cell_of_row _ _ 0 _ _ _ HF.out
  generalize Cd.enc (Cd.fns l) = R at HEN ⊢
  generalize Cd.pok (Cd.fns l) = q at HM HBY HLN HEN
  generalize Cd.pbs (Cd.fns l) = P at HBY HLN HEN
  clear hb hR hP
  go_enter Try.func12, Try.ntmps12
  go_upto_region 1 with fail
  rw [← hW]
  clear hW
  go_wp2_with fail
  refine HM.out.mono ?_
  rintro e w2 ⟨rfl, hb2⟩
  have H2 := Lib.hid hb2
  have c0 := Cd.belCell hb2 HF.out
  clear hb2
  cases q with
  | false =>
    have HE : Hid (R = ([], 2)) := by show _ = _; rw [HEN.out]; rfl
    clear HBY HLN HEN
    go_wp2_with fail
    go_ret2
    exact ⟨by rw [HE.out]; rfl, HB.out.trans (H2.out.mono HB.out.size)⟩
  | true =>
    have hpl := HLN.out rfl
    have HE : Hid (R = if 16384 < P.length then ([], 4) else (P, 0)) := by show _ = _; rw [HEN.out]; rfl
    clear HLN HEN
    go_wp2_with fail
    refine (HBY.out _ H2.out trivial).mono ?_
    rintro e w3 ⟨rfl, hb3⟩
    have H3 := Lib.hid (HB.out.trans (hb3.mono HB.out.size))
    clear hb3
    by_cases hl : 16384 < P.length
    · have hli : (16384 : Int) < (P.length : Int) := by omega
      have HE2 := Lib.hid (HE.out.trans (if_pos hl))
      clear hl HE HBY
      go_wp2_with fail
      go_ret2
      exact ⟨by rw [HE2.out]; rfl, H3.out⟩
    · have hli : ¬ (16384 : Int) < (P.length : Int) := by omega
      have HE2 := Lib.hid (HE.out.trans (if_neg hl))
      clear hl HE HBY
      go_wp2_with fail
      go_ret2
      exact ⟨by rw [HE2.out]; rfl, H3.out⟩
end Go.Proofs.Ytndgafjnifkghaa
