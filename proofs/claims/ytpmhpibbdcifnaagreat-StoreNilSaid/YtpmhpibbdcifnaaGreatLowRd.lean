/-
  What the document's disk is in memory, what a call leaves as it was; burn, keep.
  The contract of the document's keep.
  Contracts of the document's disk: Sync, Crash, Sure, Read.
  Contracts of the document's disk: burn, Sync, Sure, Read.
  Contracts of the document's disk: Write, New.
  Contracts of the document's disk: Write and Read of a sector that is not there, of a text that is too long, of a disk that stands still.
  Contract of the document's disk: New.
-/
import Derived.Test.YtpmhpibbdcifnaaGreatLowBkP
import Derived.Test.YtpmhpibbdcifnaaGreatLowSecG
import Derived.BigRegion
import Derived.Deep.RegionLaw
import Derived.Deep.OwnRows
import Derived.Deep.AppendLies
section
namespace Go.Proofs.YtpmhpibbdcifnaaGreat
open Go.RowKit
attribute [local go_sem ↓] Go.wp_at_zero Go.wp_at_succ

namespace Sec
/-- A call that turns nothing of what is off (but makes memory): behind it off' is what is off. -/
structure Mv (off off' : Nat → Prop) (w w' : World) : Prop where
  os : w'.os = w.os
  tape : w'.tape = w.tape
  output : w'.output = w.output
  size : w.heap.size ≤ w'.heap.size
  block : ∀ i, i < w.heap.size → off i → w'.heap[i]? = w.heap[i]?
  keep : ∀ i, i < w.heap.size → off i → off' i
theorem Mv.refl (off : Nat → Prop) (w : World) : Mv off off w w := ⟨rfl, rfl, rfl, Nat.le_refl _, fun _ _ _ => rfl, fun _ _ h => h⟩
theorem Mv.trans {o1 o2 o3 : Nat → Prop} {a b c : World} (h : Mv o1 o2 a b) (k : Mv o2 o3 b c) : Mv o1 o3 a c :=
  ⟨k.os.trans h.os, k.tape.trans h.tape, k.output.trans h.output, Nat.le_trans h.size k.size,
    fun i hi ho => (k.block i (Nat.lt_of_lt_of_le hi h.size) (h.keep i hi ho)).trans (h.block i hi ho), fun i hi ho => k.keep i (Nat.lt_of_lt_of_le hi h.size) (h.keep i hi ho)⟩
theorem Mv.of_below {off : Nat → Prop} {w w' : World} (hb : Below w.heap.size w w') : Mv off off w w' := ⟨hb.os, hb.tape, hb.output, hb.size, fun i hi _ => hb.block i hi, fun _ _ h => h⟩
theorem Mv.of_grown {off off' : Nat → Prop} {w w' : World} {row : Option Nat} (hg : w.grownBy w' row) (hr : ∀ i, off i → some i ≠ row) (hk : ∀ i, i < w.heap.size → off i → off' i) : Mv off off' w w' :=
  ⟨hg.os, hg.tape, hg.output, hg.size, fun i hi ho => hg.block i hi (hr i ho), hk⟩
theorem Mv.below {off off' : Nat → Prop} {w w' : World} {B : Nat} (h : Mv off off' w w') (hB : B ≤ w.heap.size) (hlow : ∀ i, i < B → off i) : Below B w w' :=
  ⟨h.os, h.tape, h.output, h.size, fun i hi => h.block i (by omega) (hlow i hi)⟩
theorem Moves.mv {D D' : Bl} {w w' : World} (h : Moves D D' w w') : Mv D.off D'.off w w' :=
  ⟨h.os, h.tape, h.output, h.size, h.block, fun i hi ho => ⟨by rw [h.b]; exact ho.1, by rw [h.s]; exact ho.2.1, by rw [h.m]; exact ho.2.2.1, h.v i hi ho.2.2.2⟩⟩

/-- Where the document's disk lies: its block, its two slices. -/
structure Rl where
  b : Nat
  g : Value
  v : Value
def Rl.off (R : Rl) (i : Nat) : Prop := i ≠ R.b ∧ some i ≠ R.g.ownBlock ∧ some i ≠ R.v.ownBlock
def rcels : List (Nat × List UInt8) → List Value
  | [] => []
  | x :: r => [.int .i64 (x.1 : Int), .string ⟨x.2.toArray⟩] ++ rcels r
theorem rcels_app (a b : List (Nat × List UInt8)) : rcels (a ++ b) = rcels a ++ rcels b := by
  induction a with
  | nil => rfl
  | cons x r ih => simp [rcels, ih]
theorem rcels_len (l : List (Nat × List UInt8)) : (rcels l).length = l.length * 2 := by
  induction l with
  | nil => rfl
  | cons x r ih => simp [rcels, ih]; omega
theorem rcels_at (l : List (Nat × List UInt8)) (i : Nat) (hi : i < l.length) : (rcels l)[i * 2]? = some (.int .i64 (l[i].1 : Int)) ∧ (rcels l)[i * 2 + 1]? = some (.string ⟨l[i].2.toArray⟩) := by
  induction l generalizing i with
  | nil => simp at hi
  | cons x r ih =>
    cases i with
    | zero => exact ⟨rfl, rfl⟩
    | succ i =>
      have := ih i (by simpa using hi)
      simpa [rcels, Nat.add_mul] using this
def scels (gs : List ByteArray) : List Value := gs.map Value.string

section
variable {R : Rl} {gs : List ByteArray} {ls : List (Nat × List UInt8)} {fz : Int} {w w' : World}
theorem owns_keep {base : Nat} {e : TypeId} {size n : Nat} {v : Value} {xs : List Value} (h : w.ownsRow base e size v n xs) (hk : ∀ i, v.ownBlock = some i → w'.heap[i]? = w.heap[i]?) : w'.ownsRow base e size v n xs := by
  refine ⟨h.1, ?_⟩
  rcases h.2 with hn | ⟨g, cap, cur, rfl, hb, hg, rest⟩
  · exact .inl hn
  · exact .inr ⟨g, cap, cur, rfl, hb, (hk g rfl).trans hg, rest⟩
theorem own_eq {base : Nat} {e : TypeId} {size n : Nat} {v : Value} {xs : List Value} (h : w.ownsRow base e size v n xs) : ∃ A c, v = .slice A n c := by
  rcases h.2 with ⟨e, h0⟩ | ⟨g, cap, _, e, _⟩
  · exact ⟨none, 0, by rw [e, h0]⟩
  · exact ⟨_, cap, e⟩
end
end Sec

end Go.Proofs.YtpmhpibbdcifnaaGreat
end

section
namespace Go.Proofs.YtpmhpibbdcifnaaGreat
open Go.RowKit

namespace Sec
/-- A sector of which m bytes turn. -/
def kept (t old : ByteArray) (m : Nat) : ByteArray := t.extract 0 m ++ old.extract m 128
variable {R : Rl} {gs : List ByteArray} {ls : List (Nat × List UInt8)} {fz : Int} {w : World}
end Sec

end Go.Proofs.YtpmhpibbdcifnaaGreat
end

section
namespace Go.Proofs.YtpmhpibbdcifnaaGreat
open Go.RowKit

namespace Sec
theorem kept_eq {x xs : List UInt8} {k m : Nat} (hx : x.length = 128) (hm : m ≤ 128) : kept ⟨x.toArray⟩ (chunk xs k) m = ⟨(x.take m ++ ((xs.drop (k * 128)).take 128).drop (x.take m).length).toArray⟩ := by
  unfold kept chunk
  apply ByteArray.ext
  rw [ByteArray.data_append, ByteArray.data_extract, ByteArray.data_extract]
  apply Array.ext'
  simp only [Array.toList_append, Array.toList_extract, List.toList_toArray, List.extract_eq_take_drop, List.drop_zero, Nat.sub_zero]
  rw [List.length_take, hx, Nat.min_eq_left hm]
  congr 1
  rw [List.take_of_length_le]
  rw [List.length_drop, List.length_take]
  omega
/-- One loose write more is settled. -/
theorem chunks_upto {s : St} (hs : s.Ok) (m : Nat → Nat) (hm : ∀ i, m i ≤ 128) (i : Nat) (hi : i < s.loose.length) :
    chunks (s.upto m (i + 1)).1 s.n = (chunks (s.upto m i).1 s.n).set s.loose[i].1 (kept ⟨s.loose[i].2.toArray⟩ (chunk (s.upto m i).1 s.loose[i].1) (m i)) := by
  have hmem := St.getD_mem (l := s.loose) (i := i) hi
  obtain ⟨h1, _⟩ := St.upto_len hs m i (by omega)
  have hk := hs.at_ _ hmem.2
  have hx := hs.len _ hmem.2
  rw [hmem.1] at hk hx
  show chunks (spl (s.upto m i).1 ((s.loose.getD i (0, [])).1 * 128) ((s.loose.getD i (0, [])).2.take (m i))) s.n = _
  rw [hmem.1, chunks_spl h1 hk (by rw [List.length_take]; omega), kept_eq hx (hm i)]
theorem stay_128 : stay 128 = 128 := by decide

variable {R : Rl} {gs : List ByteArray} {ls : List (Nat × List UInt8)} {fz : Int} {w : World}
end Sec

end Go.Proofs.YtpmhpibbdcifnaaGreat
end

section
namespace Go.Proofs.YtpmhpibbdcifnaaGreat
open Go.RowKit

namespace Sec
theorem fz_still {s : St} (h : s.still = true) : s.fz = 0 := by
  unfold St.still at h
  simp at h
  unfold St.fz
  rw [if_pos h.1, h.2]
  rfl
theorem cat_snoc (l : List ByteArray) (x : ByteArray) : cat (l ++ [x]) = cat l ++ x := by unfold cat; rw [List.foldl_append]; rfl
theorem fold_size (l : List ByteArray) (a : ByteArray) (h : ∀ x ∈ l, x.size ≤ 128) : (l.foldl (· ++ ·) a).size ≤ a.size + l.length * 128 := by
  induction l generalizing a with
  | nil => simp
  | cons x l ih =>
    rw [List.foldl_cons, List.length_cons]
    have h1 := ih (a ++ x) (fun y hy => h y (List.mem_cons_of_mem _ hy))
    have h2 := h x (List.mem_cons_self ..)
    rw [ByteArray.size_append] at h1
    omega
theorem cat_size (l : List ByteArray) (h : ∀ x ∈ l, x.size ≤ 128) : (cat l).size ≤ l.length * 128 := by
  have := fold_size l ByteArray.empty h
  have e : ByteArray.empty.size = 0 := rfl
  unfold cat
  omega
end Sec

/-- What the first i loose writes leave to be read. -/
theorem Sec.look_step {l : List (Nat × List UInt8)} {i : Nat} (h : i < l.length) (k : Nat) (g : ByteArray) : Sec.look (l.take (i + 1)) k g = if l[i].1 = k then ⟨l[i].2.toArray⟩ else Sec.look (l.take i) k g := by
  rw [List.take_succ_eq_append_getElem h, Sec.look_snoc]

end Go.Proofs.YtpmhpibbdcifnaaGreat
end

section
namespace Go.Proofs.YtpmhpibbdcifnaaGreat
open Go.RowKit
attribute [local go_sem ↓] Go.wp_at_zero Go.wp_at_succ

theorem str_info : (Tryz.prog.info? 9).map (fun i => (i.zero, i.size, i.bytes)) = some (some (.string ByteArray.empty), 1, 16) := by kernel_rfl
theorem byte_info1 : (Tryz.prog.info? 5).map (fun i => (i.zero, i.size, i.bytes)) = some (some (.int .u8 0), 1, 1) := by kernel_rfl
def Sec.zB (n : Nat) : ByteArray := ⟨(List.replicate n 0).toArray⟩
theorem Sec.zB_size (n : Nat) : (Sec.zB n).size = n := by
  show (List.replicate n (0 : UInt8)).toArray.size = n
  simp
theorem rd_conv0 (n B : Nat) (w' : World) (h : w'.heap[B]? = some (.cells (madeCells #[.int .u8 0] n) 5 (0, 0))) :
    (convert 94 9 (.slice (some ⟨B, 0, none⟩) n n)).run Tryz.prog w' = .ok (.string (Sec.zB n)) w' := by
  have hr := run_convert_bytes_back (P := Tryz.prog) w' 94 9 5 ⟨B, 0, none⟩ n (List.replicate n 0) Tryz.underlying94 Tryz.underlying5 Tryz.underlying9 (fun j hj => by
    rw [Addr.add_mid, cell_of_row w' _ _ _ _ _ h]
    have hj' : j < n := by simpa using hj
    rw [Array.getElem?_eq_getElem (by simpa [size_madeCells] using hj')]
    simp [madeCells, Nat.mod_one])
  rw [List.length_replicate] at hr
  exact hr

namespace Sec
theorem grown_behind2 {w w2 : World} {o p : Obj} {row : Option Nat} (h : ((w.alloc o).drew.alloc p).grownBy w2 row) : w.grownBy w2 row := by
  have e : ((w.alloc o).drew.alloc p).heap.size = w.heap.size + 2 := by simp
  have hs := h.size
  exact ⟨h.os, h.tape, h.output, by omega, fun i hi hne => (h.block i (by omega) hne).trans ((Below.heap_alloc (w.alloc o).drew _ _ (by simp; omega)).trans (Below.heap_alloc w _ _ hi))⟩
theorem new_block2 {w : World} {r : Option Nat} {g n cap : Nat} (h : r = some g ∨ g = w.heap.size + 1 + 1) : (Value.slice (some ⟨g, 0, none⟩) n cap).ownBlock = r ∨ ∀ i, (Value.slice (some ⟨g, 0, none⟩) n cap).ownBlock = some i → w.heap.size ≤ i := by
  rcases h with h | h
  · exact .inl h.symm
  · refine .inr fun i hi => ?_
    have e : g = i := by simpa [Value.ownBlock] using hi
    omega
theorem pad_cat (t : ByteArray) : t ++ zB (128 - t.size) = ⟨(pad t.data.toList).toArray⟩ := by
  apply ByteArray.ext
  rw [ByteArray.data_append]
  apply Array.ext'
  have hl : t.data.toList.length = t.size := rfl
  simp [pad, zB, hl]
variable {R : Rl} {gs : List ByteArray} {ls : List (Nat × List UInt8)} {fz : Int} {w : World}
end Sec

end Go.Proofs.YtpmhpibbdcifnaaGreat
end

section
namespace Go.Proofs.YtpmhpibbdcifnaaGreat
open Go.RowKit
attribute [local go_sem ↓] Go.wp_at_zero Go.wp_at_succ

/-- What a Write answers where the disk stands still. -/
def Sec.St.dc (s : Sec.St) (k : Int) (t : ByteArray) : Int := if 0 ≤ k ∧ k < (s.n : Int) then (if t.size ≤ 128 then 51 else 4) else 50

end Go.Proofs.YtpmhpibbdcifnaaGreat
end

section
namespace Go.Proofs.YtpmhpibbdcifnaaGreat
open Go.RowKit
attribute [local go_sem ↓] Go.wp_at_zero Go.wp_at_succ

namespace Sec
theorem chunk_zero (n k : Nat) (h : k < n) : chunk (List.replicate (n * 128) 0) k = zB 128 := by
  unfold chunk zB
  rw [List.drop_replicate, List.take_replicate, show min 128 (n * 128 - k * 128) = 128 by omega]
theorem chunks_zero (n m : Nat) (h : m ≤ n) : chunks (List.replicate (n * 128) 0) m = List.replicate m (zB 128) := by
  induction m with
  | zero => rfl
  | succ m ih => rw [chunks_succ, ih (by omega), chunk_zero n m (by omega), List.replicate_succ']
theorem nil_own (j : Nat) : (Value.slice none 0 0).ownBlock ≠ some j := by
  intro e
  cases e
theorem scels_app (a b : List ByteArray) : scels (a ++ b) = scels a ++ scels b := List.map_append
variable {R : Rl} {gs : List ByteArray} {fz : Int} {w : World}
end Sec

end Go.Proofs.YtpmhpibbdcifnaaGreat
end
