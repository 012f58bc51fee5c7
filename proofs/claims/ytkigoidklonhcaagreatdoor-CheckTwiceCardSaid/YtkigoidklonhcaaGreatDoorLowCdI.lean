/-
  The contract of code.op: an op's bytes.
  strings.Builder.WriteString, with what it lets alone; plain facts of a program's bytes.
  Contracts of code.program (a program's bytes), bound, Encode.
  Contracts of code.bound, Encode.
-/
import Derived.Test.YtkigoidklonhcaaGreatDoorCdH
section
namespace Go.Proofs.YtkigoidklonhcaaGreatDoor
open Go.RowKit

namespace Cd
theorem OpV.ok_reg {o : OpV} (h : o.ok = true) : reg o.d = true ∧ reg o.a = true ∧ reg o.b = true := by
  unfold OpV.ok at h
  simp only [Bool.and_eq_true] at h
  exact ⟨h.1.2.1.1, h.1.2.1.2, h.1.2.2⟩
theorem regs_ids (o : OpV) : o.regs = (ids (hD o.k) (hA o.k) (hB o.k)).map o.getI := by
  unfold OpV.regs ids
  cases hD o.k <;> cases hA o.k <;> cases hB o.k <;> rfl
theorem getI_reg {o : OpV} (h : o.ok = true) {i : Nat} (hi : i = 1 ∨ i = 2 ∨ i = 3) : ∃ y : Nat, o.getI i = (y : Int) ∧ y ≤ 16 := by
  obtain ⟨h1, h2, h3⟩ := OpV.ok_reg h
  rw [reg_iff] at h1 h2 h3
  have key : ∀ x : Int, 0 ≤ x ∧ x ≤ 16 → ∃ y : Nat, x = (y : Int) ∧ y ≤ 16 := fun x hx => ⟨x.toNat, by omega, by omega⟩
  rcases hi with rfl | rfl | rfl
  · exact key _ h1
  · exact key _ h2
  · exact key _ h3
/-- An op's bytes, as far as register j. -/
def OpV.front (o : OpV) (j : Nat) : List UInt8 := Lib.uvarint o.k ++ ((ids (hD o.k) (hA o.k) (hB o.k)).take j).flatMap fun i => uv (o.getI i)
theorem front_succ (o : OpV) (j : Nat) (h : j < (ids (hD o.k) (hA o.k) (hB o.k)).length) : o.front (j + 1) = o.front j ++ uv (o.getI (ids (hD o.k) (hA o.k) (hB o.k))[j]) := by
  unfold OpV.front
  rw [List.take_succ_eq_append_getElem h, List.flatMap_append, List.append_assoc]
  simp
theorem front_all (o : OpV) : o.bytes = o.front (ids (hD o.k) (hA o.k) (hB o.k)).length ++ (if hN o.k then Lib.uvarint (Lib.zigzag o.n) else []) := by
  unfold OpV.bytes OpV.front
  rw [List.take_of_length_le (Nat.le_refl _), regs_ids, List.flatMap_map]
theorem uv_len (x : Int) (hx : x ≤ 9223372036854775807) : (uv x).length ≤ 10 := Lib.uvarint_length64 (by omega)
theorem getI_max {o : OpV} (h : o.Rng) (i : Nat) : o.getI i ≤ 9223372036854775807 := by
  unfold OpV.getI
  have h1 := h.d.2
  have h2 := h.a.2
  have h3 := h.b.2
  split
  · exact h1
  · split
    · exact h2
    · exact h3
theorem regs_len {o : OpV} (h : o.Rng) (l : List Nat) : (l.flatMap fun i => uv (o.getI i)).length ≤ 10 * l.length := by
  induction l with
  | nil => simp
  | cons i l ih =>
    have := uv_len _ (getI_max h i)
    rw [List.flatMap_cons, List.length_append, List.length_cons]
    omega
theorem ids_len (d a b : Bool) : (ids d a b).length ≤ 3 := by cases d <;> cases a <;> cases b <;> decide
end Cd

theorem cuN {w : World} {cs : Array Value} {T : TypeId} {n b : Nat} (xs : List Nat) (hc : cs.toList = u64s xs) (hln : xs.length = n) (hn : xs.length ≤ 300) (hx : ∀ x ∈ xs, x < 18446744073709551616) (hb : w.heap.size = b) :
    Calls Tryz.prog 39 #[.slice (some ⟨b, 0, none⟩) n n] (w.alloc (.cells cs T)) fun e w' => e = .returned (.string ⟨(uBytes xs).toArray⟩) ∧ Below w.heap.size w w' := by
  subst hln hb
  refine (uints_any xs _ _ _ (lies_new _ _ _ _ hc) hn hx).mono ?_
  rintro e w' ⟨he, hb⟩
  exact ⟨he, (Cd.fn1 w cs T).trans (hb.mono (Cd.fn1 w cs T).size)⟩
theorem ciN {w : World} {cs : Array Value} {T : TypeId} {n b : Nat} (xs : List Int) (hc : cs.toList = icells xs) (hln : xs.length = n) (hn : xs.length ≤ 300) (hx : ∀ x ∈ xs, -9223372036854775808 ≤ x ∧ x ≤ 9223372036854775807) (hb : w.heap.size = b) :
    Calls Tryz.prog 67 #[.slice (some ⟨b, 0, none⟩) n n] (w.alloc (.cells cs T)) fun e w' => e = .returned (.string ⟨(iBytes xs).toArray⟩) ∧ Below w.heap.size w w' := by
  subst hln hb
  refine (ints_any xs _ _ _ (lies_new _ _ _ _ hc) hn hx).mono ?_
  rintro e w' ⟨he, hb⟩
  exact ⟨he, (Cd.fn1 w cs T).trans (hb.mono (Cd.fn1 w cs T).size)⟩

set_option maxHeartbeats 1000000 in
set_option maxRecDepth 20000 in
theorem cop (o : Cd.OpV) (hR : o.Rng) (ho : o.ok = true) (B : Nat) (w : World) (hm : Cd.Tbl w B) :
    Calls Tryz.prog 40 #[.map (some B), .agg #[.int .u8 (o.k : Int), .int .i64 o.d, .int .i64 o.a, .int .i64 o.b, .int .i64 o.n]] w fun e w' => e = .returned (.string ⟨o.bytes.toArray⟩) ∧ Below w.heap.size w w' := by
  obtain ⟨W, hW⟩ : ∃ W, W = w.alloc (.cells #[.int .u8 (o.k : Int), .int .i64 o.d, .int .i64 o.a, .int .i64 o.b, .int .i64 o.n] 44) := ⟨_, rfl⟩
  have hb : Below w.heap.size w W := by rw [hW]; exact Cd.fn1 _ _ _
  have HO : Hid (Cd.OB W w.heap.size o) := by show W.heap[w.heap.size]? = _; rw [hW]; exact heap_alloc_new w _
  have HB := Lib.hid hb
  have HLK := Lib.hid (Cd.Tbl.look1 (w := W) (Gm.MapF.below hm hb) hR.k)
  have c0 := HO.out.c0
  have HREG : Hid (∀ i, i = 1 ∨ i = 2 ∨ i = 3 → ∃ y : Nat, o.getI i = (y : Int) ∧ y ≤ 16) := fun i hi => Cd.getI_reg ho hi
  have HSUC := Lib.hid (Cd.front_succ o)
  have HALL := Lib.hid (Cd.front_all o)
  have HF0 : Hid (uBytes [o.k] = o.front 0) := by show _ = _; unfold uBytes Cd.OpV.front; simp
  have HRN := Lib.hid hR.n
  have HK := Lib.hid hR.k
  have HIM : Hid (∀ i, i ∈ Cd.ids (Cd.hD o.k) (Cd.hA o.k) (Cd.hB o.k) → i = 1 ∨ i = 2 ∨ i = 3) := fun i h => Cd.ids_mem h
  have hI3 := Cd.ids_len (Cd.hD o.k) (Cd.hA o.k) (Cd.hB o.k)
  have HRG := Lib.hid (fun V => cregs (Cd.hD o.k) (Cd.hA o.k) (Cd.hB o.k) (Cd.hN o.k) w.heap.size V)
  have HHN := Lib.hid (fun V => chasN (Cd.hD o.k) (Cd.hA o.k) (Cd.hB o.k) (Cd.hN o.k) V)
  have HFL : Hid (∀ j, j ≤ 3 → (o.front j).length ≤ 40) := fun j hj => by
    unfold Cd.OpV.front
    have h1 := Lib.uvarint_length64 (x := o.k) (by have := HK.out; omega)
    have h3 := Cd.regs_len hR ((Cd.ids (Cd.hD o.k) (Cd.hA o.k) (Cd.hB o.k)).take j)
    rw [List.length_append]
    rw [List.length_take] at h3
    omega
  clear hb hm hR ho
  generalize hPB : Cd.pb (Cd.hD o.k) (Cd.hA o.k) (Cd.hB o.k) (Cd.hN o.k) = P at HLK HRG HHN
  generalize Cd.ids (Cd.hD o.k) (Cd.hA o.k) (Cd.hB o.k) = I at HSUC HALL HIM hI3 HRG
  clear hPB
  go_enter Tryz.func40, Tryz.ntmps40
  go_upto_region 1 with fail
  rw [← hW]
  clear hW
  obtain ⟨X, hX⟩ : ∃ X, X = w.heap.size := ⟨_, rfl⟩
  rw [← hX] at HO c0 HRG ⊢
  have HX := Lib.hid hX
  clear hX
  have hwk : IntKind.u64.wrap (o.k : Int) = (o.k : Int) := by have := HK.out; rw [IntKind.wrap_u64]; omega
  go_wp2_with (at_lookup; refine Gm.gpl_look _ rfl _ _ _ _ rfl _ _ _ rfl rfl HLK.out ?_)
  refine (cuN [o.k] (by rfl) (by rfl) (by simp) (by intro x hx; have := HK.out; simp at hx; omega) (by first | with_reducible rfl | simp)).mono ?_
  rintro e w2 ⟨rfl, hb2⟩
  rw [HF0.out]
  have HB2 : Hid (Below w.heap.size w w2) := HB.out.trans (hb2.mono HB.out.size)
  have HO2 := Lib.hid (HO.out.below hb2)
  clear hb2
  go_wp2_with fail
  refine (HRG.out _).mono ?_
  rintro e w3 ⟨v, rfl, hs⟩
  obtain ⟨A, c, rfl⟩ := Cd.rowForm hs.row
  have HB3 : Hid (Below w.heap.size w w3) := HB2.out.trans (hs.bel.mono HB2.out.size)
  have HO3 := Lib.hid (HO2.out.below hs.bel)
  have HROW := Lib.hid (Cd.rowLies hs.row)
  clear hs HB2 HO2
  go_wp2_with fail
  go_loopw [6, 21] (fun s6 s21 wr => ∃ k : Nat, k ≤ I.length ∧ s21 = .int .i64 k ∧ s6 = .string ⟨(o.front k).toArray⟩ ∧ Hid (Below w3.heap.size w3 wr)) (fun _ s21 _ => I.length - (intOf s21).toNat)
  case atStart => exact ⟨0, Nat.zero_le _, rfl, rfl, Below.refl _ _⟩
  case round =>
    obtain ⟨k, hk, rfl, rfl, HBW⟩ := hrel
    have HBA : Hid (Below w.heap.size w wr) := HB3.out.trans (HBW.out.mono HB3.out.size)
    have HOW := Lib.hid (HO3.out.below HBW.out)
    have hfl := HFL.out k (by omega)
    have hsz : (⟨(o.front k).toArray⟩ : ByteArray).size = (o.front k).length := rfl
    by_cases hlt : k < I.length
    · obtain ⟨ad, rfl, hadb, hc⟩ := (HROW.out.below HBW.out).at_ (Cd.ptrs_at hlt)
      have hi := HIM.out _ (List.getElem_mem hlt)
      have HS := Lib.hid (HSUC.out k hlt)
      generalize I[k] = i at hc hi HS
      obtain ⟨y, hy, hy16⟩ := HREG.out i hi
      have hci := HOW.out.cI hi
      rw [hy] at hci HS
      have hwy : IntKind.u64.wrap (y : Int) = (y : Int) := by rw [IntKind.wrap_u64]; omega
      have k0 : (0 : Int) ≤ (k : Int) := by omega
      have k1 : (k : Int) < I.length := by omega
      have hul : (uBytes [y]).length ≤ 10 := by unfold uBytes; simpa using Lib.uvarint_length64 (x := y) (by omega)
      have hus : (⟨(uBytes [y]).toArray⟩ : ByteArray).size = (uBytes [y]).length := rfl
      have HS2 : Hid ((⟨(o.front k).toArray⟩ : ByteArray) ++ ⟨(uBytes [y]).toArray⟩ = ⟨(o.front (k + 1)).toArray⟩) := by
        show _ = _
        rw [HS.out, cat_mk]
        unfold uBytes Cd.uv
        simp
      clear hadb hlt hi hy HS
      go_wp2_with fail
      refine (cuN [y] (by rfl) (by rfl) (by simp) (by intro x hx; simp at hx; omega) (by first | with_reducible rfl | simp)).mono ?_
      rintro e w4 ⟨rfl, hb4⟩
      have HB4 : Hid (Below w3.heap.size w3 w4) := HBW.out.trans (hb4.mono HBW.out.size)
      clear hb4 hci
      go_wp2_with fail
      go_roundw
      case rel => exact ⟨k + 1, by omega, by go_num, by rw [HS2.out], HB4.out⟩
      case measure => simp [intOf]; omega
    · obtain rfl : k = I.length := by omega
      have k1 : ¬ ((I.length : Int) < I.length) := by omega
      clear hlt
      go_wp2_with fail
      refine (HHN.out _).mono ?_
      rintro e w4 ⟨rfl, rfl⟩
      cases hN : Cd.hN o.k with
      | false =>
        have HE : Hid (o.bytes = o.front I.length) := by show _ = _; rw [HALL.out, hN]; simp
        clear hN
        go_wp2_with fail
        go_ret
        exact ⟨by rw [HE.out]; rfl, HBA.out⟩
      | true =>
        have HE : Hid ((⟨(o.front I.length).toArray⟩ : ByteArray) ++ ⟨(iBytes [o.n]).toArray⟩ = ⟨o.bytes.toArray⟩) := by
          show _ = _
          rw [HALL.out, hN, cat_mk]
          unfold iBytes
          simp
        have hil : (iBytes [o.n]).length ≤ 10 := by unfold iBytes; simpa using Lib.uvarint_length64 (Lib.zigzag_lt HRN.out.1 HRN.out.2)
        have his : (⟨(iBytes [o.n]).toArray⟩ : ByteArray).size = (iBytes [o.n]).length := rfl
        have c4 := HOW.out.c4
        clear hN
        go_wp2_with fail
        refine (ciN [o.n] (by rfl) (by rfl) (by simp) (by intro x hx; simp at hx; subst hx; exact HRN.out) (by first | with_reducible rfl | simp)).mono ?_
        rintro e w5 ⟨rfl, hb5⟩
        have HB5 : Hid (Below w.heap.size w w5) := HBA.out.trans (hb5.mono HBA.out.size)
        clear hb5 c4
        go_wp2_with fail
        go_ret
        exact ⟨by rw [HE.out]; rfl, HB5.out⟩
end Go.Proofs.YtkigoidklonhcaaGreatDoor
end

section
namespace Go.Proofs.YtkigoidklonhcaaGreatDoor
open Go.RowKit

namespace Cd
theorem OpV.bytes_len {o : OpV} (h : o.Rng) : o.bytes.length ≤ 50 := by
  rw [front_all]
  unfold OpV.front
  have h1 := Lib.uvarint_length64 (x := o.k) (by have := h.k; omega)
  have h2 := regs_len h ((ids (hD o.k) (hA o.k) (hB o.k)).take (ids (hD o.k) (hA o.k) (hB o.k)).length)
  have h3 := ids_len (hD o.k) (hA o.k) (hB o.k)
  have h4 := Lib.uvarint_length64 (Lib.zigzag_lt h.n.1 h.n.2)
  rw [List.length_append, List.length_append]
  rw [List.length_take] at h2
  have h5 : (if hN o.k = true then Lib.uvarint (Lib.zigzag o.n) else []).length ≤ 10 := by
    split
    · exact h4
    · simp
  omega
theorem obs_snoc (l : List OpV) (o : OpV) : obs (l ++ [o]) = obs l ++ o.bytes := by unfold obs; simp
theorem fbs_snoc (l : List FnV) (f : FnV) : fbs (l ++ [f]) = fbs l ++ f.bytes := by unfold fbs; simp
/-- A function's bytes ahead of its ops. -/
def FnV.head (f : FnV) : List UInt8 := uv f.args ++ uv f.regs ++ Lib.uvarint f.ops.length
theorem FnV.bytes_head (f : FnV) : f.bytes = f.head ++ obs f.ops := rfl
theorem FnV.ok_parts {f : FnV} (h : f.ok = true) : (∃ y : Nat, f.args = (y : Int) ∧ y ≤ 16) ∧ (∃ y : Nat, f.regs = (y : Int) ∧ y ≤ 16) ∧ f.ops.length ≤ 64 ∧ ∀ o ∈ f.ops, o.ok = true := by
  unfold FnV.ok at h
  simp only [Bool.and_eq_true, decide_eq_true_eq, List.all_eq_true] at h
  obtain ⟨⟨⟨h1, h2⟩, h3⟩, h4⟩ := h
  rw [reg_iff] at h1 h2
  exact ⟨⟨f.args.toNat, by omega, by omega⟩, ⟨f.regs.toNat, by omega, by omega⟩, h3, h4⟩
end Cd


/-! ### WriteString, and what it lets alone -/
theorem copy_keep (B b : Nat) (bs : List Value) (w : World) (h : Lib.IsBuilder 88 5 B b bs w) :
    Calls Tryz.prog 62 #[.pointer (some ⟨b, 0, none⟩)] w fun e w' => e = .returned (.tuple #[]) ∧ Lib.BuilderAt 88 5 B b (.pointer (some ⟨b, 0, none⟩)) bs w' ∧ Below B w w' ∧ ∀ F, F ≠ b → w'.heap[F]? = w.heap[F]? := by
  rcases h with h | h
  · refine (copy_fresh b w h.cell0 h.shape h.frozen0).mono ?_
    rintro e w' ⟨rfl, rfl⟩
    exact ⟨rfl, h.used _, (Below.refl B w).setCell (p := ⟨b, 0, none⟩) h.1 _, fun F hF => Below.heap_setCell _ _ _ _ (by intro h; exact hF h)⟩
  · refine (copy_used b w h.cell0).mono ?_
    rintro e w' ⟨rfl, rfl⟩
    exact ⟨rfl, h, Below.refl B _, fun F hF => rfl⟩

set_option maxHeartbeats 2000000 in
set_option maxRecDepth 100000 in
theorem write_keep (B b : Nat) (bs : List Value) (s : ByteArray) (w : World) (h : Lib.IsBuilder 88 5 B b bs w) (hlen : bs.length + s.size ≤ 140737488355328) (hBw : B ≤ w.heap.size) :
    Calls Tryz.prog 38 #[.pointer (some ⟨b, 0, none⟩), .string s] w fun e w' => e = .returned (.tuple #[.int .i64 s.size, .nilIface]) ∧
      Lib.IsBuilder 88 5 B b (bs ++ Lib.strCells s) w' ∧ Below B w w' ∧ ∀ F cs T fr, F ≠ b → T ≠ 5 → w.heap[F]? = some (.cells cs T fr) → w'.heap[F]? = w.heap[F]? := by
  obtain ⟨i0, hi, hz0, hz1, hz2⟩ := info_parts byte_info
  go_enter Tryz.func38, Tryz.ntmps38
  go_wp2_with fail
  refine (copy_keep B b bs _ h).mono ?_
  rintro e w1 ⟨rfl, h1, hb1, hkeep⟩
  have HKP := Lib.hid hkeep
  clear hkeep
  obtain ⟨hB, v, hbk, hown, hne⟩ := h1
  have c0 : w1.cell? ⟨b, 0, none⟩ = some (.pointer (some ⟨b, 0, none⟩)) := by rw [Lib.cell_of_heap hbk]; rfl
  have c1 : w1.cell? ⟨b, 1, none⟩ = some v := by rw [Lib.cell_of_heap hbk]; rfl
  go_wp2_with (at_builtin; refine Lib.wpList_append_own_string _ rfl _ _ 86 9 rfl B 5 i0 Tryz.underlying86 Tryz.underlying9 hi hz0 hz1 hz2 _ _ _ rfl hown s rfl ?c3 ?c4 ?c5 ?_)
  case c3 => unfold maxLen; omega
  case c4 => omega
  case c5 => have := hb1.size; omega
  intro v' w2 hown' hgrow _
  have hlt : b < w1.heap.size := Lib.BuilderAt.lt ⟨hB, v, hbk, hown, hne⟩
  have hb2 : w2.heap[b]? = some (.cells #[.pointer (some ⟨b, 0, none⟩), v] 88 (0, 0)) := by
    rw [hgrow.block b hlt (fun e => hne e.symm)]
    exact hbk
  have d0 : w2.cell? ⟨b, 0, none⟩ = some (.pointer (some ⟨b, 0, none⟩)) := by rw [Lib.cell_of_heap hb2]; rfl
  have d1 : w2.cell? ⟨b, 1, none⟩ = some v := by rw [Lib.cell_of_heap hb2]; rfl
  have f1 : w2.frozen? ⟨b, 1, none⟩ = false := Lib.frozen_of_heap hb2 1
  have HALL : Hid (∀ F cs T fr, F ≠ b → T ≠ 5 → w.heap[F]? = some (.cells cs T fr) → (w2.setCell ⟨b, 1, none⟩ v').heap[F]? = w.heap[F]?) := fun F cs T fr hF hT hw => by
    have e1 := HKP.out F hF
    have e2 := hgrow.block F (Cd.ltH (e1.trans hw)) (fun e => Lib.ownBlock_ne hown (e1.trans hw) hT e.symm)
    exact ((Below.heap_setCell _ _ _ _ (by intro h; exact hF h)).trans e2).trans e1
  obtain ⟨ao, n', cap, rfl⟩ : ∃ ao n' cap, v' = .slice ao n' cap := by
    rcases hown'.2 with ⟨hv, _⟩ | ⟨g, cap, cur, hv, _⟩
    · exact ⟨_, _, _, hv⟩
    · exact ⟨_, _, _, hv⟩
  go_wp2
  go_ret2
  refine ⟨rfl, .inr ?_, ?_, HALL.out⟩
  · exact Lib.BuilderAt.put (T := 88) (e := 5) hB hb2 (bs' := bs ++ Lib.strCells s) (by simpa [Lib.strCells_length] using hown') (by decide)
  · exact (hb1.grown hgrow (by have := hb1.size; omega) (fun k hk => (hown.lt k hk).1)).setCell (p := ⟨b, 1, none⟩) hB _

/-- The same, what is written as a list of bytes. -/
theorem write_bytes (B b : Nat) (acc x : List UInt8) (w : World) (h : Lib.IsBuilder 88 5 B b (Lib.byteCells acc) w) (hlen : acc.length + x.length ≤ 100000000) (hBw : B ≤ w.heap.size) :
    Calls Tryz.prog 38 #[.pointer (some ⟨b, 0, none⟩), .string ⟨x.toArray⟩] w fun e w' => ∃ v, e = .returned v ∧
      Lib.IsBuilder 88 5 B b (Lib.byteCells (acc ++ x)) w' ∧ Below B w w' ∧ ∀ F cs T fr, F ≠ b → T ≠ 5 → w.heap[F]? = some (.cells cs T fr) → w'.heap[F]? = w.heap[F]? := by
  have hs : (⟨x.toArray⟩ : ByteArray).size = x.length := rfl
  refine (write_keep B b _ ⟨x.toArray⟩ w h (by rw [Lib.byteCells_length, hs]; omega) hBw).mono ?_
  rintro e w' ⟨rfl, h1, h2, h3⟩
  rw [Lib.strCells_eq] at h1
  refine ⟨_, rfl, ?_, h2, h3⟩
  rw [Lib.byteCells_append]
  exact h1
end Go.Proofs.YtkigoidklonhcaaGreatDoor
end

section
namespace Go.Proofs.YtkigoidklonhcaaGreatDoor
open Go.RowKit

theorem uBytes_len10 (xs : List Nat) (h : ∀ x ∈ xs, x < 18446744073709551616) : (uBytes xs).length ≤ 10 * xs.length := by
  induction xs with
  | nil => simp [uBytes]
  | cons x xs ih =>
    have h1 := Lib.uvarint_length64 (h x (by simp))
    have h2 := ih (fun z hz => h z (by simp [hz]))
    have e : uBytes (x :: xs) = Lib.uvarint x ++ uBytes xs := by unfold uBytes; rw [List.flatMap_cons]
    rw [e, List.length_append, List.length_cons]
    omega

set_option maxHeartbeats 800000 in
set_option maxRecDepth 20000 in
theorem cprog (l : List Cd.Fm) (hR : ∀ m ∈ l, m.f.Rng) (hok : Cd.pok (Cd.fns l) = true) (A : Option Addr) (c B : Nat) (w : World) (hm : Cd.Tbl w B) (hP : Cd.Prog w w.heap.size A l) :
    Calls Tryz.prog 19 #[.map (some B), .agg #[.slice A l.length c]] w fun e w' => e = .returned (.string ⟨(Cd.pbs (Cd.fns l)).toArray⟩) ∧ Below w.heap.size w w' := by
  rw [Cd.pok_iff, Bool.and_eq_true, decide_eq_true_eq, List.all_eq_true] at hok
  have h16 := hok.1
  have HOK := Lib.hid hok.2
  have HR := Lib.hid hR
  have HM := Lib.hid hm
  have HP := Lib.hid hP
  obtain ⟨V, hV⟩ : ∃ V, V = w.alloc (.cells #[.slice A l.length c] 24) := ⟨_, rfl⟩
  have hVs : V.heap.size = w.heap.size + 1 := by rw [hV]; simp
  have hb1 : Below w.heap.size w V := by rw [hV]; exact Cd.fn1 _ _ _
  have hX : V.heap[w.heap.size]? = some (.cells #[.slice A l.length c] 24 (0, 0)) := by rw [hV]; exact heap_alloc_new w _
  have hF0 := Lib.fresh_isBuilder 88 5 V
  obtain ⟨W, hW⟩ : ∃ W, W = V.alloc (.cells #[.pointer none, .slice none 0 0] 88) := ⟨_, rfl⟩
  rw [show V.alloc _ = W from hW.symm] at hF0
  have hb2 : Below V.heap.size V W := by rw [hW]; exact Cd.fn1 _ _ _
  have hWs : W.heap.size = V.heap.size + 1 := by rw [hW]; simp
  have HB := Lib.hid (hb1.trans (hb2.mono hb1.size))
  have HX := Lib.hid ((hb2.block _ (Cd.ltH hX)).trans hX)
  have cX : W.cell? ⟨w.heap.size, 0, none⟩ = some (.slice A l.length c) := cell_of_row _ _ 0 _ _ _ HX.out
  clear hok hR hm hP hb1 hb2 hX
  go_enter Tryz.func19, Tryz.ntmps19
  go_upto_region 2 with fail
  rw [← hV, ← hVs, ← hW]
  clear hV hW
  obtain ⟨b, hb⟩ : ∃ b, b = V.heap.size := ⟨_, rfl⟩
  rw [← hb] at hF0 hVs hWs ⊢
  have HBD : Hid (w.heap.size < b ∧ b < W.heap.size) := ⟨by omega, by omega⟩
  have HF : Hid (Lib.IsBuilder 88 5 b b (Lib.byteCells []) W) := hF0
  clear hF0 hVs hWs hb
  have hwl : IntKind.u64.wrap (l.length : Int) = (l.length : Int) := by rw [IntKind.wrap_u64]; omega
  go_wp2_with fail
  refine (cuN [1, l.length] (by rfl) (by rfl) (by simp) (by intro x hx; simp at hx; omega) (by first | with_reducible rfl | simp)).mono ?_
  rintro e w2 ⟨rfl, hb2⟩
  obtain ⟨pre, hpre⟩ : ∃ pre, pre = uBytes [1, l.length] := ⟨_, rfl⟩
  have HPRE := Lib.hid hpre
  have hpl : pre.length ≤ 20 := by rw [hpre]; have := uBytes_len10 [1, l.length] (by intro x hx; simp at hx; omega); simpa using this
  rw [← hpre]
  have HBW2 := Lib.hid (HB.out.trans (hb2.mono HB.out.size))
  have HX2 := Lib.hid ((hb2.block _ (Cd.ltH HX.out)).trans HX.out)
  have HBL2 := Lib.hid (bld_keep HF.out hb2)
  have HS2 : Hid (b < w2.heap.size) := Nat.lt_of_lt_of_le HBD.out.2 hb2.size
  clear hpre hb2 HF HX cX HB
  go_wp2_with fail
  refine (write_bytes b b [] pre w2 HBL2.out (by simp; omega) (Nat.le_of_lt HS2.out)).mono ?_
  rintro e w3 ⟨v, rfl, hB3, hb3, _⟩
  have cX : w3.cell? ⟨w.heap.size, 0, none⟩ = some (.slice A l.length c) := cell_of_row _ _ 0 _ _ _ ((hb3.block _ HBD.out.1).trans HX2.out)
  have HST : Hid (Lib.IsBuilder 88 5 b b (Lib.byteCells pre) w3 ∧ Below w.heap.size w w3 ∧ b < w3.heap.size) :=
    ⟨hB3, HBW2.out.trans (hb3.mono (Nat.le_of_lt HBD.out.1)), Nat.lt_of_lt_of_le HS2.out hb3.size⟩
  clear hB3 hb3 HX2 HBL2 HS2 HBW2
  go_wp2_with fail
  go_loopw [20] (fun s20 wr => ∃ (k : Nat) (acc : List UInt8), k ≤ l.length ∧ s20 = .int .i64 k ∧ acc.length ≤ 100 + 4000 * k ∧ Hid (acc = pre ++ Cd.fbs (Cd.fns (l.take k))) ∧ Hid (Lib.IsBuilder 88 5 b b (Lib.byteCells acc) wr ∧ Below w.heap.size w wr ∧ b < wr.heap.size)) (fun s20 _ => l.length - (intOf s20).toNat)
  case atStart => exact ⟨0, pre, Nat.zero_le _, rfl, by omega, by show _ = _; simp [Cd.fns, Cd.fbs], HST.out⟩
  case round =>
    clear HST cX
    rename World => wr
    obtain ⟨k, acc, hk, rfl, hacc, HACC, HS⟩ := hrel
    by_cases hlt : k < l.length
    · have hPB := HP.out.below HS.out.2.1
      obtain ⟨ad, rfl, hadb, c0, c1, c2⟩ := Cd.fn_at hPB.fs hlt
      have k0 : (0 : Int) ≤ (k : Int) := by omega
      have k1 : (k : Int) < l.length := by omega
      have HME := Lib.hid (List.getElem_mem hlt)
      have HT : Hid (Cd.fbs (Cd.fns (l.take (k + 1))) = Cd.fbs (Cd.fns (l.take k)) ++ l[k].f.bytes) := by
        show _ = _
        rw [List.take_succ_eq_append_getElem hlt]
        unfold Cd.fns
        rw [List.map_append]
        exact Cd.fbs_snoc _ _
      have HRM := Lib.hid (HR.out _ HME.out)
      have HLI := Lib.hid (HP.out.os _ HME.out)
      obtain ⟨⟨y1, e1, hy1⟩, ⟨y2, e2, hy2⟩, h64, hops⟩ := Cd.FnV.ok_parts (HOK.out _ HME.out)
      generalize l[k] = m at c0 c1 c2 HME HT HRM HLI e1 e2 h64 hops
      rw [e1] at c0
      rw [e2] at c1
      have HOPS := Lib.hid hops
      have HHD : Hid (uBytes [y1, y2, m.f.ops.length] = m.f.head) := by
        show _ = _
        unfold uBytes Cd.FnV.head Cd.uv
        rw [e1, e2]
        simp
      clear hadb hlt hPB e1 e2 hops
      obtain ⟨F, hF⟩ : ∃ F, F = wr.alloc (.cells #[.int .i64 (y1 : Int), .int .i64 (y2 : Int), .slice m.A m.f.ops.length m.c] 41) := ⟨_, rfl⟩
      go_upto_region 6 with fail
      rw [← hF]
      have hFr : F.heap[wr.heap.size]? = some (.cells #[.int .i64 (y1 : Int), .int .i64 (y2 : Int), .slice m.A m.f.ops.length m.c] 41 (0, 0)) := by rw [hF]; exact heap_alloc_new wr _
      have hbF : Below wr.heap.size wr F := by rw [hF]; exact Cd.fn1 _ _ _
      have f0 : F.cell? ⟨wr.heap.size, 0, none⟩ = some (.int .i64 (y1 : Int)) := cell_of_row _ _ 0 _ _ _ hFr
      have f1 : F.cell? ⟨wr.heap.size, 1, none⟩ = some (.int .i64 (y2 : Int)) := cell_of_row _ _ 1 _ _ _ hFr
      have f2 : F.cell? ⟨wr.heap.size, 2, none⟩ = some (.slice m.A m.f.ops.length m.c) := cell_of_row _ _ 2 _ _ _ hFr
      have HFR := Lib.hid hFr
      have HBF := Lib.hid (HS.out.2.1.trans (hbF.mono HS.out.2.1.size))
      have HBLF := Lib.hid (bld_keep HS.out.1 hbF)
      have HbF : Hid (b < wr.heap.size ∧ b < F.heap.size) := ⟨HS.out.2.2, Nat.lt_of_lt_of_le HS.out.2.2 hbF.size⟩
      clear hF hFr hbF c0 c1 c2 HS
      obtain ⟨X, hX⟩ : ∃ X, X = wr.heap.size := ⟨_, rfl⟩
      rw [← hX] at f0 f1 f2 HFR HbF ⊢
      clear hX
      have hw1 : IntKind.u64.wrap (y1 : Int) = (y1 : Int) := by rw [IntKind.wrap_u64]; omega
      have hw2 : IntKind.u64.wrap (y2 : Int) = (y2 : Int) := by rw [IntKind.wrap_u64]; omega
      have hw3 : IntKind.u64.wrap (m.f.ops.length : Int) = (m.f.ops.length : Int) := by rw [IntKind.wrap_u64]; omega
      go_wp2_with fail
      refine (cuN [y1, y2, m.f.ops.length] (by rfl) (by rfl) (by simp) (by intro x hx; simp at hx; omega) (by first | with_reducible rfl | simp)).mono ?_
      rintro e w4 ⟨rfl, hb4⟩
      have hhl : m.f.head.length ≤ 30 := by rw [← HHD.out]; have := uBytes_len10 [y1, y2, m.f.ops.length] (by intro x hx; simp at hx; omega); simpa using this
      rw [HHD.out]
      have HB4 := Lib.hid (HBF.out.trans (hb4.mono HBF.out.size))
      have HBL4 := Lib.hid (bld_keep HBLF.out hb4)
      have HR4 := Lib.hid ((hb4.block _ (Cd.ltH HFR.out)).trans HFR.out)
      have Hb4 : Hid (b < w4.heap.size) := Nat.lt_of_lt_of_le HbF.out.2 hb4.size
      clear hb4 HBF HBLF HFR f0 f1 f2
      go_wp2_with fail
      refine (write_bytes b b acc m.f.head w4 HBL4.out (by omega) (Nat.le_of_lt Hb4.out)).mono ?_
      rintro e w5 ⟨v5, rfl, hB5, hb5, hk5⟩
      have g2 : w5.cell? ⟨X, 2, none⟩ = some (.slice m.A m.f.ops.length m.c) := cell_of_row _ _ 2 _ _ _ ((hk5 X _ _ _ (Nat.ne_of_gt HbF.out.1) (by decide) HR4.out).trans HR4.out)
      have HST : Hid (Lib.IsBuilder 88 5 b b (Lib.byteCells (acc ++ m.f.head)) w5 ∧ Below w.heap.size w w5 ∧ b < w5.heap.size) :=
        ⟨hB5, HB4.out.trans (hb5.mono (Nat.le_of_lt HBD.out.1)), Nat.lt_of_lt_of_le Hb4.out hb5.size⟩
      clear hB5 hb5 hk5 HR4 HBL4 Hb4 HB4 hw1 hw2
      go_wp2_with fail
      clear g2
      rename World => wo
      generalize m.A = AO at HLI ⊢
      go_loopw [40] (fun s40 wk => ∃ (j : Nat) (acc2 : List UInt8), j ≤ m.f.ops.length ∧ s40 = .int .i64 j ∧ acc2.length ≤ 140 + 4000 * k + 50 * j ∧ Hid (acc2 = acc ++ m.f.head ++ Cd.obs (m.f.ops.take j)) ∧ Hid (Lib.IsBuilder 88 5 b b (Lib.byteCells acc2) wk ∧ Below w.heap.size w wk ∧ b < wk.heap.size)) (fun s40 _ => m.f.ops.length - (intOf s40).toNat)
      case atStart => exact ⟨0, acc ++ m.f.head, Nat.zero_le _, rfl, by rw [List.length_append]; omega, by show _ = _; simp [Cd.obs], HST.out⟩
      case round =>
        clear HST
        rename World => wk
        obtain ⟨j, acc2, hj, rfl, hacc2, HACC2, HS2⟩ := hrel
        by_cases hjt : j < m.f.ops.length
        · obtain ⟨ad2, rfl, hadb2, c0, c1, c2, c3, c4⟩ := Cd.op_at (HLI.out.below HS2.out.2.1) hjt
          have j0 : (0 : Int) ≤ (j : Int) := by omega
          have j1 : (j : Int) < m.f.ops.length := by omega
          have HOB : Hid (Cd.obs (m.f.ops.take (j + 1)) = Cd.obs (m.f.ops.take j) ++ m.f.ops[j].bytes) := by
            show _ = _
            rw [List.take_succ_eq_append_getElem hjt, Cd.obs_snoc]
          have HRO := Lib.hid (HRM.out.ops _ (List.getElem_mem hjt))
          have HOO := Lib.hid (HOPS.out _ (List.getElem_mem hjt))
          generalize m.f.ops[j] = o at c0 c1 c2 c3 c4 HOB HRO HOO
          have hol := Cd.OpV.bytes_len HRO.out
          obtain ⟨G, hG⟩ : ∃ G, G = wk.alloc (.cells #[.int .u8 (o.k : Int), .int .i64 o.d, .int .i64 o.a, .int .i64 o.b, .int .i64 o.n] 44) := ⟨_, rfl⟩
          have hbG : Below wk.heap.size wk G := by rw [hG]; exact Cd.fn1 _ _ _
          have hGo : Cd.OB G wk.heap.size o := by show G.heap[wk.heap.size]? = _; rw [hG]; exact heap_alloc_new wk _
          have HBG := Lib.hid (HS2.out.2.1.trans (hbG.mono HS2.out.2.1.size))
          have HBLG := Lib.hid (bld_keep HS2.out.1 hbG)
          have HbG : Hid (b < G.heap.size) := Nat.lt_of_lt_of_le HS2.out.2.2 hbG.size
          have HCO := Lib.hid (cop o HRO.out HOO.out B G (Gm.MapF.below HM.out HBG.out))
          obtain ⟨g0, g1, g2, g3, g4⟩ := hGo.cells
          clear hbG hGo hadb2 hjt
          go_upto_region 10 with fail
          rw [← hG]
          clear hG c0 c1 c2 c3 c4
          go_wp2_with fail
          refine HCO.out.mono ?_
          rintro e w6 ⟨rfl, hb6⟩
          have HB6 := Lib.hid (HBG.out.trans (hb6.mono HBG.out.size))
          have HBL6 := Lib.hid (bld_keep HBLG.out hb6)
          have Hb6 : Hid (b < w6.heap.size) := Nat.lt_of_lt_of_le HbG.out hb6.size
          clear hb6 HBG HBLG HbG HCO g0 g1 g2 g3 g4
          go_wp2_with fail
          refine (write_bytes b b acc2 o.bytes w6 HBL6.out (by omega) (Nat.le_of_lt Hb6.out)).mono ?_
          rintro e w7 ⟨v7, rfl, hB7, hb7, _⟩
          have HST7 : Hid (Lib.IsBuilder 88 5 b b (Lib.byteCells (acc2 ++ o.bytes)) w7 ∧ Below w.heap.size w w7 ∧ b < w7.heap.size) :=
            ⟨hB7, HB6.out.trans (hb7.mono (Nat.le_of_lt HBD.out.1)), Nat.lt_of_lt_of_le Hb6.out hb7.size⟩
          clear hB7 hb7 HB6 HBL6 Hb6
          go_wp2_with fail
          go_roundw
          case rel => exact ⟨j + 1, acc2 ++ o.bytes, by omega, by go_num, by rw [List.length_append]; omega, by show _ = _; rw [HOB.out, HACC2.out, List.append_assoc], HST7.out⟩
          case measure => simp [intOf]; omega
        · have j1 : ¬ ((j : Int) < m.f.ops.length) := by omega
          have HEND : Hid (acc2 = pre ++ Cd.fbs (Cd.fns (l.take (k + 1)))) := by
            show _ = _
            rw [HACC2.out, List.take_of_length_le (by omega), HT.out, HACC.out, Cd.FnV.bytes_head]
            simp [List.append_assoc]
          go_wp2_with fail
          go_roundw
          case rel => exact ⟨k + 1, acc2, by omega, by go_num, by omega, HEND.out, HS2.out⟩
          case measure => simp [intOf]; omega
    · have k1 : ¬ ((k : Int) < l.length) := by omega
      have HEND : Hid (acc = Cd.pbs (Cd.fns l)) := by
        show _ = _
        rw [HACC.out, List.take_of_length_le (by omega), HPRE.out]
        unfold Cd.pbs uBytes
        rw [Cd.fns_len]
        simp
      go_wp2_with fail
      refine (Sh.Builder_String_any b b _ _ HS.out.1 (Nat.le_of_lt HS.out.2.2)).mono ?_
      rintro e w8 ⟨rfl, hb8⟩
      have HB8 : Hid (Below w.heap.size w w8) := HS.out.2.1.trans (hb8.mono (Nat.le_of_lt HBD.out.1))
      clear hb8
      go_wp2_with fail
      go_ret
      exact ⟨by rw [← HEND.out]; rfl, HB8.out⟩
end Go.Proofs.YtkigoidklonhcaaGreatDoor
end

section
namespace Go.Proofs.YtkigoidklonhcaaGreatDoor
open Go.RowKit

namespace Cd
/-- What Encode tells: the bytes, the code. -/
def enc (p : List FnV) : List UInt8 × Int := if pok p then (if 16384 < (pbs p).length then ([], 4) else (pbs p, 0)) else ([], 2)
theorem obs_len {l : List OpV} (h : ∀ o ∈ l, o.Rng) : (obs l).length ≤ 50 * l.length := by
  induction l with
  | nil => simp [obs]
  | cons o l ih =>
    have h1 := OpV.bytes_len (h o (by simp))
    have h2 := ih (fun z hz => h z (by simp [hz]))
    have e : obs (o :: l) = o.bytes ++ obs l := by unfold obs; rw [List.flatMap_cons]
    rw [e, List.length_append, List.length_cons]
    omega
theorem FnV.bytes_len {f : FnV} (h : f.Rng) (hl : f.ops.length ≤ 64) : f.bytes.length ≤ 3230 := by
  rw [FnV.bytes_head, List.length_append]
  have h1 := obs_len h.ops
  unfold FnV.head
  rw [List.length_append, List.length_append]
  have h2 := uv_len f.args h.args.2
  have h3 := uv_len f.regs h.regs.2
  have h4 := Lib.uvarint_length64 (x := f.ops.length) (by omega)
  omega
theorem fbs_len {l : List FnV} (h : ∀ f ∈ l, f.Rng ∧ f.ops.length ≤ 64) : (fbs l).length ≤ 3230 * l.length := by
  induction l with
  | nil => simp [fbs]
  | cons f l ih =>
    have h1 := FnV.bytes_len (h f (by simp)).1 (h f (by simp)).2
    have h2 := ih (fun z hz => h z (by simp [hz]))
    have e : fbs (f :: l) = f.bytes ++ fbs l := by unfold fbs; rw [List.flatMap_cons]
    rw [e, List.length_append, List.length_cons]
    omega
theorem pbs_len {p : List FnV} (hR : ∀ f ∈ p, f.Rng) (hk : pok p = true) : (pbs p).length ≤ 100000 := by
  unfold pok at hk
  simp only [Bool.and_eq_true, decide_eq_true_eq, List.all_eq_true] at hk
  have h1 := fbs_len (l := p) (fun f hf => ⟨hR f hf, (FnV.ok_parts (hk.2 f hf)).2.2.1⟩)
  unfold pbs
  rw [List.length_append, List.length_append]
  have h2 := Lib.uvarint_length64 (x := p.length) (by omega)
  have h3 := Lib.uvarint_length64 (x := 1) (by omega)
  omega
theorem fns_rng {l : List Fm} (h : ∀ m ∈ l, m.f.Rng) : ∀ f ∈ fns l, f.Rng := fun f hf => by
  obtain ⟨m, hm, rfl⟩ := List.mem_map.1 hf
  exact h m hm
end Cd

set_option maxHeartbeats 400000 in
theorem cbound (s : ByteArray) (hs : s.size ≤ maxLen) (w : World) :
    Calls Tryz.prog 18 #[.string s] w fun e w' => e = .returned (.tuple #[.string (if 16384 < s.size then ⟨#[]⟩ else s), .int .i64 (if 16384 < s.size then 4 else 0)]) ∧ w = w' := by
  unfold maxLen at hs
  by_cases h : 16384 < s.size
  · have h1 : (16384 : Int) < s.size := by omega
    have HH := Lib.hid h
    clear h
    go_enter Tryz.func18, Tryz.ntmps18
    go_wp2_with fail
    go_ret2
    exact ⟨rfl, rfl⟩
  · have h1 : ¬ (16384 : Int) < s.size := by omega
    have HH := Lib.hid h
    clear h
    go_enter Tryz.func18, Tryz.ntmps18
    go_wp2_with fail
    go_ret2
    exact ⟨rfl, rfl⟩

set_option maxHeartbeats 600000 in
set_option maxRecDepth 20000 in
theorem cEncode (l : List Cd.Fm) (hR : ∀ m ∈ l, m.f.Rng) (hn : l.length ≤ maxLen) (A : Option Addr) (c : Nat) (w : World) (hP : Cd.Prog w w.heap.size A l) :
    Calls Tryz.prog 7 #[.agg #[.slice A l.length c]] w fun e w' => e = .returned (.tuple #[.string ⟨(Cd.enc (Cd.fns l)).1.toArray⟩, .int .i64 (Cd.enc (Cd.fns l)).2]) ∧ Below w.heap.size w w' := by
  obtain ⟨W, hW⟩ : ∃ W, W = w.alloc (.cells #[.slice A l.length c] 24) := ⟨_, rfl⟩
  have hb : Below w.heap.size w W := by rw [hW]; exact Cd.fn1 _ _ _
  have HF : Hid (W.heap[w.heap.size]? = some (.cells #[.slice A l.length c] 24 (0, 0))) := by show _ = _; rw [hW]; exact heap_alloc_new w _
  have HB := Lib.hid hb
  have HP := Lib.hid hP
  have HR := Lib.hid hR
  clear hb hP hR
  go_enter Tryz.func7, Tryz.ntmps7
  go_upto_region 1 with fail
  rw [← hW]
  clear hW
  go_wp2_with fail
  refine (ckinds _).mono ?_
  rintro e w2 ⟨B, rfl, hk⟩
  have HT : Hid (Cd.Tbl w2 B) := hk.m
  have HB2 : Hid (Below w.heap.size w w2) := HB.out.trans (hk.bel.mono HB.out.size)
  have HF2 := Lib.hid ((hk.bel.block _ (Cd.ltH HF.out)).trans HF.out)
  have c0 : w2.cell? ⟨w.heap.size, 0, none⟩ = some (.slice A l.length c) := cell_of_row _ _ 0 _ _ _ HF2.out
  have HP2 := Lib.hid ((HP.out.below HB2.out).mono HB2.out.size)
  clear hk HF HB
  go_wp2_with fail
  refine (cmay l HR.out hn A c B w2 HT.out HP2.out).mono ?_
  rintro e w3 ⟨rfl, hb3⟩
  have HB3 : Hid (Below w.heap.size w w3) := HB2.out.trans (hb3.mono HB2.out.size)
  have HT3 : Hid (Cd.Tbl w3 B) := Gm.MapF.below HT.out hb3
  have HF3 := Lib.hid ((hb3.block _ (Cd.ltH HF2.out)).trans HF2.out)
  have d0 : w3.cell? ⟨w.heap.size, 0, none⟩ = some (.slice A l.length c) := cell_of_row _ _ 0 _ _ _ HF3.out
  have HP3 := Lib.hid ((HP.out.below HB3.out).mono HB3.out.size)
  clear hb3 HT HF2 c0 HP2 HB2
  cases hp : Cd.pok (Cd.fns l) with
  | false =>
    have HE : Hid (Cd.enc (Cd.fns l) = ([], 2)) := by show _ = _; unfold Cd.enc; rw [hp]; rfl
    clear hp
    go_wp2_with fail
    go_ret2
    exact ⟨by rw [HE.out]; rfl, HB3.out⟩
  | true =>
    have HE : Hid (Cd.enc (Cd.fns l) = if 16384 < (Cd.pbs (Cd.fns l)).length then ([], 4) else (Cd.pbs (Cd.fns l), 0)) := by show _ = _; unfold Cd.enc; rw [hp]; rfl
    have HC := Lib.hid (cprog l HR.out hp A c B w3 HT3.out HP3.out)
    have HPL := Lib.hid (Cd.pbs_len (Cd.fns_rng HR.out) hp)
    clear hp
    go_wp2_with fail
    refine HC.out.mono ?_
    rintro e w4 ⟨rfl, hb4⟩
    have HB4 : Hid (Below w.heap.size w w4) := HB3.out.trans (hb4.mono HB3.out.size)
    clear hb4
    have hsz : (⟨(Cd.pbs (Cd.fns l)).toArray⟩ : ByteArray).size = (Cd.pbs (Cd.fns l)).length := rfl
    have HBD := Lib.hid (cbound ⟨(Cd.pbs (Cd.fns l)).toArray⟩ (by rw [hsz]; have := HPL.out; unfold maxLen; omega) w4)
    rw [hsz] at HBD
    clear hsz
    by_cases h : 16384 < (Cd.pbs (Cd.fns l)).length
    · rw [if_pos h] at HE
      rw [if_pos h, if_pos h] at HBD
      clear h
      go_wp2_with fail
      refine HBD.out.mono ?_
      rintro e w5 ⟨rfl, rfl⟩
      go_wp2_with fail
      go_ret2
      exact ⟨by rw [HE.out]; rfl, HB4.out⟩
    · rw [if_neg h] at HE
      rw [if_neg h, if_neg h] at HBD
      clear h
      go_wp2_with fail
      refine HBD.out.mono ?_
      rintro e w5 ⟨rfl, rfl⟩
      go_wp2_with fail
      go_ret2
      exact ⟨by rw [HE.out]; rfl, HB4.out⟩
end Go.Proofs.YtkigoidklonhcaaGreatDoor
end
