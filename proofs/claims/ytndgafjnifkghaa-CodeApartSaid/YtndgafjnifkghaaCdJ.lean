/-
  strings.Builder.WriteString, with what it lets alone; plain facts of a program's bytes.
-/
import Derived.Test.YtndgafjnifkghaaCdI
namespace Go.Proofs.Ytndgafjnifkghaa
open Go.RowKit

namespace Cd
theorem OpV.bytes_len {o : OpV} (h : o.Rng) : o.bytes.length ≤ 50 := by
  rw [front_all]
  unfold OpV.front
  have h1 := Lib.uvarint_length64 (x := o.k) (by have := h.k; omega)
  have h2 := regs_len h ((ids (hD o.k) (hA o.k) (hB o.k)).take (ids (hD o.k) (hA o.k) (hB o.k)).length)
  have h3 := ids_len (hD o.k) (hA o.k) (hB o.k)
  have h4 := Lib.uvarint_length64 (Lib.zigzag_lt h.n.1 h.n.2)
  rw [List.length_append, List.length_append]
  rw [List.length_take] at h2
  have h5 : (if hN o.k = true then Lib.uvarint (Lib.zigzag o.n) else []).length ≤ 10 := by
    split
    · exact h4
    · simp
  omega
theorem obs_snoc (l : List OpV) (o : OpV) : obs (l ++ [o]) = obs l ++ o.bytes := by unfold obs; simp
theorem fbs_snoc (l : List FnV) (f : FnV) : fbs (l ++ [f]) = fbs l ++ f.bytes := by unfold fbs; simp
/-- A function's bytes ahead of its ops. -/
def FnV.head (f : FnV) : List UInt8 := uv f.args ++ uv f.regs ++ Lib.uvarint f.ops.length
theorem FnV.bytes_head (f : FnV) : f.bytes = f.head ++ obs f.ops := rfl
theorem FnV.ok_parts {f : FnV} (h : f.ok = true) : (∃ y : Nat, f.args = (y : Int) ∧ y ≤ 16) ∧ (∃ y : Nat, f.regs = (y : Int) ∧ y ≤ 16) ∧ f.ops.length ≤ 64 ∧ ∀ o ∈ f.ops, o.ok = true := by
  unfold FnV.ok at h
  simp only [Bool.and_eq_true, decide_eq_true_eq, List.all_eq_true] at h
  obtain ⟨⟨⟨h1, h2⟩, h3⟩, h4⟩ := h
  rw [reg_iff] at h1 h2
  exact ⟨⟨f.args.toNat, by omega, by omega⟩, ⟨f.regs.toNat, by omega, by omega⟩, h3, h4⟩
end Cd


/-! ### WriteString, and what it lets alone -/
theorem copy_keep (B b : Nat) (bs : List Value) (w : World) (h : Lib.IsBuilder 75 5 B b bs w) :
    Calls Try.prog 69 #[.pointer (some ⟨b, 0, none⟩)] w fun e w' => e = .returned (.tuple #[]) ∧ Lib.BuilderAt 75 5 B b (.pointer (some ⟨b, 0, none⟩)) bs w' ∧ Below B w w' ∧ ∀ F, F ≠ b → w'.heap[F]? = w.heap[F]? := by
  rcases h with h | h
  · refine (copy_fresh b w h.cell0 h.shape h.frozen0).mono ?_
    rintro e w' ⟨rfl, rfl⟩
    exact ⟨rfl, h.used _, (Below.refl B w).setCell (p := ⟨b, 0, none⟩) h.1 _, fun F hF => Below.heap_setCell _ _ _ _ (by intro h; exact hF h)⟩
  · refine (copy_used b w h.cell0).mono ?_
    rintro e w' ⟨rfl, rfl⟩
    exact ⟨rfl, h, Below.refl B _, fun F hF => rfl⟩

set_option maxHeartbeats 2000000 in
set_option maxRecDepth 100000 in
theorem write_keep (B b : Nat) (bs : List Value) (s : ByteArray) (w : World) (h : Lib.IsBuilder 75 5 B b bs w) (hlen : bs.length + s.size ≤ 140737488355328) (hBw : B ≤ w.heap.size) :
    Calls Try.prog 44 #[.pointer (some ⟨b, 0, none⟩), .string s] w fun e w' => e = .returned (.tuple #[.int .i64 s.size, .nilIface]) ∧
      Lib.IsBuilder 75 5 B b (bs ++ Lib.strCells s) w' ∧ Below B w w' ∧ ∀ F cs T fr, F ≠ b → T ≠ 5 → w.heap[F]? = some (.cells cs T fr) → w'.heap[F]? = w.heap[F]? := by
  obtain ⟨i0, hi, hz0, hz1, hz2⟩ := info_parts byte_info
  go_enter Try.func44, Try.ntmps44
  go_wp2_with fail
  refine (copy_keep B b bs _ h).mono ?_
  rintro e w1 ⟨rfl, h1, hb1, hkeep⟩
  have HKP := Lib.hid hkeep
  clear hkeep
  obtain ⟨hB, v, hbk, hown, hne⟩ := h1
  have c0 : w1.cell? ⟨b, 0, none⟩ = some (.pointer (some ⟨b, 0, none⟩)) := by rw [Lib.cell_of_heap hbk]; rfl
  have c1 : w1.cell? ⟨b, 1, none⟩ = some v := by rw [Lib.cell_of_heap hbk]; rfl
  go_wp2_with (at_builtin; refine Lib.wpList_append_own_string _ rfl _ _ 45 9 rfl B 5 i0 Try.underlying45 Try.underlying9 hi hz0 hz1 hz2 _ _ _ rfl hown s rfl ?c3 ?c4 ?c5 ?_)
  case c3 => unfold maxLen; omega
  case c4 => omega
  case c5 => have := hb1.size; omega
  intro v' w2 hown' hgrow _
  have hlt : b < w1.heap.size := Lib.BuilderAt.lt ⟨hB, v, hbk, hown, hne⟩
  have hb2 : w2.heap[b]? = some (.cells #[.pointer (some ⟨b, 0, none⟩), v] 75 (0, 0)) := by
    rw [hgrow.block b hlt (fun e => hne e.symm)]
    exact hbk
  have d0 : w2.cell? ⟨b, 0, none⟩ = some (.pointer (some ⟨b, 0, none⟩)) := by rw [Lib.cell_of_heap hb2]; rfl
  have d1 : w2.cell? ⟨b, 1, none⟩ = some v := by rw [Lib.cell_of_heap hb2]; rfl
  have f1 : w2.frozen? ⟨b, 1, none⟩ = false := Lib.frozen_of_heap hb2 1
  have HALL : Hid (∀ F cs T fr, F ≠ b → T ≠ 5 → w.heap[F]? = some (.cells cs T fr) → (w2.setCell ⟨b, 1, none⟩ v').heap[F]? = w.heap[F]?) := fun F cs T fr hF hT hw => by
    have e1 := HKP.out F hF
    have e2 := hgrow.block F (Cd.ltH (e1.trans hw)) (fun e => Lib.ownBlock_ne hown (e1.trans hw) hT e.symm)
    exact ((Below.heap_setCell _ _ _ _ (by intro h; exact hF h)).trans e2).trans e1
  obtain ⟨ao, n', cap, rfl⟩ : ∃ ao n' cap, v' = .slice ao n' cap := by
    rcases hown'.2 with ⟨hv, _⟩ | ⟨g, cap, cur, hv, _⟩
    · exact ⟨_, _, _, hv⟩
    · exact ⟨_, _, _, hv⟩
  go_wp2
  go_ret2
  refine ⟨rfl, .inr ?_, ?_, HALL.out⟩
  · exact Lib.BuilderAt.put (T := 75) (e := 5) hB hb2 (bs' := bs ++ Lib.strCells s) (by simpa [Lib.strCells_length] using hown') (by decide)
  · exact (hb1.grown hgrow (by have := hb1.size; omega) (fun k hk => (hown.lt k hk).1)).setCell (p := ⟨b, 1, none⟩) hB _

/-- The same, what is written as a list of bytes. -/
theorem write_bytes (B b : Nat) (acc x : List UInt8) (w : World) (h : Lib.IsBuilder 75 5 B b (Lib.byteCells acc) w) (hlen : acc.length + x.length ≤ 100000000) (hBw : B ≤ w.heap.size) :
    Calls Try.prog 44 #[.pointer (some ⟨b, 0, none⟩), .string ⟨x.toArray⟩] w fun e w' => ∃ v, e = .returned v ∧
      Lib.IsBuilder 75 5 B b (Lib.byteCells (acc ++ x)) w' ∧ Below B w w' ∧ ∀ F cs T fr, F ≠ b → T ≠ 5 → w.heap[F]? = some (.cells cs T fr) → w'.heap[F]? = w.heap[F]? := by
  have hs : (⟨x.toArray⟩ : ByteArray).size = x.length := rfl
  refine (write_keep B b _ ⟨x.toArray⟩ w h (by rw [Lib.byteCells_length, hs]; omega) hBw).mono ?_
  rintro e w' ⟨rfl, h1, h2, h3⟩
  rw [Lib.strCells_eq] at h1
  refine ⟨_, rfl, ?_, h2, h3⟩
  rw [Lib.byteCells_append]
  exact h1
end Go.Proofs.Ytndgafjnifkghaa
