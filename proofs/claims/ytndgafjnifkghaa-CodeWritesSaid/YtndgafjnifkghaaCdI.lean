/-
  The contract of code.op: an op's bytes.
-/
import Derived.Test.YtndgafjnifkghaaCdH
namespace Go.Proofs.Ytndgafjnifkghaa
open Go.RowKit

namespace Cd
theorem OpV.ok_reg {o : OpV} (h : o.ok = true) : reg o.d = true ∧ reg o.a = true ∧ reg o.b = true := by
  unfold OpV.ok at h
  simp only [Bool.and_eq_true] at h
  exact ⟨h.1.2.1.1, h.1.2.1.2, h.1.2.2⟩
theorem regs_ids (o : OpV) : o.regs = (ids (hD o.k) (hA o.k) (hB o.k)).map o.getI := by
  unfold OpV.regs ids
  cases hD o.k <;> cases hA o.k <;> cases hB o.k <;> rfl
theorem getI_reg {o : OpV} (h : o.ok = true) {i : Nat} (hi : i = 1 ∨ i = 2 ∨ i = 3) : ∃ y : Nat, o.getI i = (y : Int) ∧ y ≤ 16 := by
  obtain ⟨h1, h2, h3⟩ := OpV.ok_reg h
  rw [reg_iff] at h1 h2 h3
  have key : ∀ x : Int, 0 ≤ x ∧ x ≤ 16 → ∃ y : Nat, x = (y : Int) ∧ y ≤ 16 := fun x hx => ⟨x.toNat, by omega, by omega⟩
  rcases hi with rfl | rfl | rfl
  · exact key _ h1
  · exact key _ h2
  · exact key _ h3
/-- An op's bytes, as far as register j. -/
def OpV.front (o : OpV) (j : Nat) : List UInt8 := Lib.uvarint o.k ++ ((ids (hD o.k) (hA o.k) (hB o.k)).take j).flatMap fun i => uv (o.getI i)
theorem front_succ (o : OpV) (j : Nat) (h : j < (ids (hD o.k) (hA o.k) (hB o.k)).length) : o.front (j + 1) = o.front j ++ uv (o.getI (ids (hD o.k) (hA o.k) (hB o.k))[j]) := by
  unfold OpV.front
  rw [List.take_succ_eq_append_getElem h, List.flatMap_append, List.append_assoc]
  simp
theorem front_all (o : OpV) : o.bytes = o.front (ids (hD o.k) (hA o.k) (hB o.k)).length ++ (if hN o.k then Lib.uvarint (Lib.zigzag o.n) else []) := by
  unfold OpV.bytes OpV.front
  rw [List.take_of_length_le (Nat.le_refl _), regs_ids, List.flatMap_map]
theorem uv_len (x : Int) (hx : x ≤ 9223372036854775807) : (uv x).length ≤ 10 := Lib.uvarint_length64 (by omega)
theorem getI_max {o : OpV} (h : o.Rng) (i : Nat) : o.getI i ≤ 9223372036854775807 := by
  unfold OpV.getI
  have h1 := h.d.2
  have h2 := h.a.2
  have h3 := h.b.2
  split
  · exact h1
  · split
    · exact h2
    · exact h3
theorem regs_len {o : OpV} (h : o.Rng) (l : List Nat) : (l.flatMap fun i => uv (o.getI i)).length ≤ 10 * l.length := by
  induction l with
  | nil => simp
  | cons i l ih =>
    have := uv_len _ (getI_max h i)
    rw [List.flatMap_cons, List.length_append, List.length_cons]
    omega
theorem ids_len (d a b : Bool) : (ids d a b).length ≤ 3 := by cases d <;> cases a <;> cases b <;> decide
end Cd

theorem cuN {w : World} {cs : Array Value} {T : TypeId} {n b : Nat} (xs : List Nat) (hc : cs.toList = u64s xs) (hln : xs.length = n) (hn : xs.length ≤ 300) (hx : ∀ x ∈ xs, x < 18446744073709551616) (hb : w.heap.size = b) :
    Calls Try.prog 45 #[.slice (some ⟨b, 0, none⟩) n n] (w.alloc (.cells cs T)) fun e w' => e = .returned (.string ⟨(uBytes xs).toArray⟩) ∧ Below w.heap.size w w' := by
  subst hln hb
  refine (uints_any xs _ _ _ (lies_new _ _ _ _ hc) hn hx).mono ?_
  rintro e w' ⟨he, hb⟩
  exact ⟨he, (Cd.fn1 w cs T).trans (hb.mono (Cd.fn1 w cs T).size)⟩
theorem ciN {w : World} {cs : Array Value} {T : TypeId} {n b : Nat} (xs : List Int) (hc : cs.toList = icells xs) (hln : xs.length = n) (hn : xs.length ≤ 300) (hx : ∀ x ∈ xs, -9223372036854775808 ≤ x ∧ x ≤ 9223372036854775807) (hb : w.heap.size = b) :
    Calls Try.prog 74 #[.slice (some ⟨b, 0, none⟩) n n] (w.alloc (.cells cs T)) fun e w' => e = .returned (.string ⟨(iBytes xs).toArray⟩) ∧ Below w.heap.size w w' := by
  subst hln hb
  refine (ints_any xs _ _ _ (lies_new _ _ _ _ hc) hn hx).mono ?_
  rintro e w' ⟨he, hb⟩
  exact ⟨he, (Cd.fn1 w cs T).trans (hb.mono (Cd.fn1 w cs T).size)⟩

set_option maxHeartbeats 1000000 in
set_option maxRecDepth 20000 in
theorem cop (o : Cd.OpV) (hR : o.Rng) (ho : o.ok = true) (B : Nat) (w : World) (hm : Cd.Tbl w B) :
    Calls Try.prog 46 #[.map (some B), .agg #[.int .u8 (o.k : Int), .int .i64 o.d, .int .i64 o.a, .int .i64 o.b, .int .i64 o.n]] w fun e w' => e = .returned (.string ⟨o.bytes.toArray⟩) ∧ Below w.heap.size w w' := by
  obtain ⟨W, hW⟩ : ∃ W, W = w.alloc (.cells #[.int .u8 (o.k : Int), .int .i64 o.d, .int .i64 o.a, .int .i64 o.b, .int .i64 o.n] 43) := ⟨_, rfl⟩
  have hb : Below w.heap.size w W := by rw [hW]; exact Cd.fn1 _ _ _
  have HO : Hid (Cd.OB W w.heap.size o) := by show W.heap[w.heap.size]? = _; rw [hW]; exact heap_alloc_new w _
  have HB := Lib.hid hb
  have HLK := Lib.hid (Cd.Tbl.look1 (w := W) (Gm.MapF.below hm hb) hR.k)
  have c0 := HO.out.c0
  have HREG : Hid (∀ i, i = 1 ∨ i = 2 ∨ i = 3 → ∃ y : Nat, o.getI i = (y : Int) ∧ y ≤ 16) := fun i hi => Cd.getI_reg ho hi
  have HSUC := Lib.hid (Cd.front_succ o)
  have HALL := Lib.hid (Cd.front_all o)
  have HF0 : Hid (uBytes [o.k] = o.front 0) := by show _ = _; unfold uBytes Cd.OpV.front; simp
  have HRN := Lib.hid hR.n
  have HK := Lib.hid hR.k
  have HIM : Hid (∀ i, i ∈ Cd.ids (Cd.hD o.k) (Cd.hA o.k) (Cd.hB o.k) → i = 1 ∨ i = 2 ∨ i = 3) := fun i h => Cd.ids_mem h
  have hI3 := Cd.ids_len (Cd.hD o.k) (Cd.hA o.k) (Cd.hB o.k)
  have HRG := Lib.hid (fun V => cregs (Cd.hD o.k) (Cd.hA o.k) (Cd.hB o.k) (Cd.hN o.k) w.heap.size V)
  have HHN := Lib.hid (fun V => chasN (Cd.hD o.k) (Cd.hA o.k) (Cd.hB o.k) (Cd.hN o.k) V)
  have HFL : Hid (∀ j, j ≤ 3 → (o.front j).length ≤ 40) := fun j hj => by
    unfold Cd.OpV.front
    have h1 := Lib.uvarint_length64 (x := o.k) (by have := HK.out; omega)
    have h3 := Cd.regs_len hR ((Cd.ids (Cd.hD o.k) (Cd.hA o.k) (Cd.hB o.k)).take j)
    rw [List.length_append]
    rw [List.length_take] at h3
    omega
  clear hb hm hR ho
  generalize hPB : Cd.pb (Cd.hD o.k) (Cd.hA o.k) (Cd.hB o.k) (Cd.hN o.k) = P at HLK HRG HHN
  generalize Cd.ids (Cd.hD o.k) (Cd.hA o.k) (Cd.hB o.k) = I at HSUC HALL HIM hI3 HRG
  clear hPB
  go_enter Try.func46, Try.ntmps46
  go_upto_region 1 with fail
  rw [← hW]
  clear hW
  obtain ⟨X, hX⟩ : ∃ X, X = w.heap.size := ⟨_, rfl⟩
  rw [← hX] at HO c0 HRG ⊢
  have HX := Lib.hid hX
  clear hX
  have hwk : IntKind.u64.wrap (o.k : Int) = (o.k : Int) := by have := HK.out; rw [IntKind.wrap_u64]; omega
  go_wp2_with (at_lookup; refine Gm.gpl_look _ rfl _ _ _ _ rfl _ _ _ rfl rfl HLK.out ?_)
  refine (cuN [o.k] (by rfl) (by rfl) (by simp) (by intro x hx; have := HK.out; simp at hx; omega) (by first | with_reducible rfl | simp)).mono ?_
  rintro e w2 ⟨rfl, hb2⟩
  rw [HF0.out]
  have HB2 : Hid (Below w.heap.size w w2) := HB.out.trans (hb2.mono HB.out.size)
  have HO2 := Lib.hid (HO.out.below hb2)
  clear hb2
  go_wp2_with fail
  refine (HRG.out _).mono ?_
  rintro e w3 ⟨v, rfl, hs⟩
  obtain ⟨A, c, rfl⟩ := Cd.rowForm hs.row
  have HB3 : Hid (Below w.heap.size w w3) := HB2.out.trans (hs.bel.mono HB2.out.size)
  have HO3 := Lib.hid (HO2.out.below hs.bel)
  have HROW := Lib.hid (Cd.rowLies hs.row)
  clear hs HB2 HO2
  go_wp2_with fail
  go_loopw [6, 21] (fun s6 s21 wr => ∃ k : Nat, k ≤ I.length ∧ s21 = .int .i64 k ∧ s6 = .string ⟨(o.front k).toArray⟩ ∧ Hid (Below w3.heap.size w3 wr)) (fun _ s21 _ => I.length - (intOf s21).toNat)
  case atStart => exact ⟨0, Nat.zero_le _, rfl, rfl, Below.refl _ _⟩
  case round =>
    obtain ⟨k, hk, rfl, rfl, HBW⟩ := hrel
    have HBA : Hid (Below w.heap.size w wr) := HB3.out.trans (HBW.out.mono HB3.out.size)
    have HOW := Lib.hid (HO3.out.below HBW.out)
    have hfl := HFL.out k (by omega)
    have hsz : (⟨(o.front k).toArray⟩ : ByteArray).size = (o.front k).length := rfl
    by_cases hlt : k < I.length
    · obtain ⟨ad, rfl, hadb, hc⟩ := (HROW.out.below HBW.out).at_ (Cd.ptrs_at hlt)
      have hi := HIM.out _ (List.getElem_mem hlt)
      have HS := Lib.hid (HSUC.out k hlt)
      generalize I[k] = i at hc hi HS
      obtain ⟨y, hy, hy16⟩ := HREG.out i hi
      have hci := HOW.out.cI hi
      rw [hy] at hci HS
      have hwy : IntKind.u64.wrap (y : Int) = (y : Int) := by rw [IntKind.wrap_u64]; omega
      have k0 : (0 : Int) ≤ (k : Int) := by omega
      have k1 : (k : Int) < I.length := by omega
      have hul : (uBytes [y]).length ≤ 10 := by unfold uBytes; simpa using Lib.uvarint_length64 (x := y) (by omega)
      have hus : (⟨(uBytes [y]).toArray⟩ : ByteArray).size = (uBytes [y]).length := rfl
      have HS2 : Hid ((⟨(o.front k).toArray⟩ : ByteArray) ++ ⟨(uBytes [y]).toArray⟩ = ⟨(o.front (k + 1)).toArray⟩) := by
        show _ = _
        rw [HS.out, cat_mk]
        unfold uBytes Cd.uv
        simp
      clear hadb hlt hi hy HS
      go_wp2_with fail
      refine (cuN [y] (by rfl) (by rfl) (by simp) (by intro x hx; simp at hx; omega) (by first | with_reducible rfl | simp)).mono ?_
      rintro e w4 ⟨rfl, hb4⟩
      have HB4 : Hid (Below w3.heap.size w3 w4) := HBW.out.trans (hb4.mono HBW.out.size)
      clear hb4 hci
      go_wp2_with fail
      go_roundw
      case rel => exact ⟨k + 1, by omega, by go_num, by rw [HS2.out], HB4.out⟩
      case measure => simp [intOf]; omega
    · obtain rfl : k = I.length := by omega
      have k1 : ¬ ((I.length : Int) < I.length) := by omega
      clear hlt
      go_wp2_with fail
      refine (HHN.out _).mono ?_
      rintro e w4 ⟨rfl, rfl⟩
      cases hN : Cd.hN o.k with
      | false =>
        have HE : Hid (o.bytes = o.front I.length) := by show _ = _; rw [HALL.out, hN]; simp
        clear hN
        go_wp2_with fail
        go_ret
        exact ⟨by rw [HE.out]; rfl, HBA.out⟩
      | true =>
        have HE : Hid ((⟨(o.front I.length).toArray⟩ : ByteArray) ++ ⟨(iBytes [o.n]).toArray⟩ = ⟨o.bytes.toArray⟩) := by
          show _ = _
          rw [HALL.out, hN, cat_mk]
          unfold iBytes
          simp
        have hil : (iBytes [o.n]).length ≤ 10 := by unfold iBytes; simpa using Lib.uvarint_length64 (Lib.zigzag_lt HRN.out.1 HRN.out.2)
        have his : (⟨(iBytes [o.n]).toArray⟩ : ByteArray).size = (iBytes [o.n]).length := rfl
        have c4 := HOW.out.c4
        clear hN
        go_wp2_with fail
        refine (ciN [o.n] (by rfl) (by rfl) (by simp) (by intro x hx; simp at hx; subst hx; exact HRN.out) (by first | with_reducible rfl | simp)).mono ?_
        rintro e w5 ⟨rfl, hb5⟩
        have HB5 : Hid (Below w.heap.size w w5) := HBA.out.trans (hb5.mono HBA.out.size)
        clear hb5 c4
        go_wp2_with fail
        go_ret
        exact ⟨by rw [HE.out]; rfl, HB5.out⟩
end Go.Proofs.Ytndgafjnifkghaa
