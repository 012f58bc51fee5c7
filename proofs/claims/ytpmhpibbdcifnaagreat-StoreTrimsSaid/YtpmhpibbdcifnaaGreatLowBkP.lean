/-
  Plain facts of the document's disk: sectors as texts, and what its calls make of them. No program.
  Plain facts of a book: a sector as a stream makes it. No program.
  Plain facts of a book: its sectors made anew. No program.
  Plain facts of a book: its records. No program.
  Plain facts of a book: its sectors as lists, what Open finds; records as frames; what an Append writes. No program.
  Plain facts of a book: which sectors an Append writes. No program.
  Plain facts of a book on a disk that is let alone: its sectors lie as its stream makes them. No program.
-/
import Derived.Test.YtpmhpibbdcifnaaGreatLowSecA
import Derived.Test.YtpmhpibbdcifnaaGreatLowSecG
import Derived.Test.YtpmhpibbdcifnaaGreatLowFrameP
section
namespace Go.Proofs.YtpmhpibbdcifnaaGreat.Sec
open Go

/-- Sector k of some bytes, as a text; the first n of them. -/
def chunk (xs : List UInt8) (k : Nat) : ByteArray := ⟨((xs.drop (k * 128)).take 128).toArray⟩
def chunks (xs : List UInt8) (n : Nat) : List ByteArray := (List.range n).map (chunk xs)
theorem chunks_len (xs : List UInt8) (n : Nat) : (chunks xs n).length = n := by simp [chunks]
theorem chunks_at {xs : List UInt8} {n k : Nat} (h : k < n) : (chunks xs n)[k]? = some (chunk xs k) := by
  unfold chunks
  rw [List.getElem?_map, List.getElem?_range h]
  rfl
theorem chunk_size {xs : List UInt8} {n k : Nat} (hl : xs.length = n * 128) (h : k < n) : (chunk xs k).size = 128 := by
  show ((xs.drop (k * 128)).take 128).toArray.size = 128
  rw [List.size_toArray, List.length_take, List.length_drop]
  omega
theorem chunks_succ (xs : List UInt8) (n : Nat) : chunks xs (n + 1) = chunks xs n ++ [chunk xs n] := by
  unfold chunks
  rw [List.range_succ, List.map_append]
  rfl
/-- All of them, one behind the other. -/
def cat : List ByteArray → ByteArray := fun l => l.foldl (· ++ ·) ByteArray.empty
theorem cat_chunks (xs : List UInt8) (n : Nat) : cat (chunks xs n) = ⟨(xs.take (n * 128)).toArray⟩ := by
  induction n with
  | zero => simp [chunks, cat]; rfl
  | succ n ih =>
    unfold cat at ih ⊢
    rw [chunks_succ, List.foldl_append, ih]
    show (⟨(xs.take (n * 128)).toArray⟩ : ByteArray) ++ chunk xs n = _
    apply ByteArray.ext
    rw [ByteArray.data_append]
    show (xs.take (n * 128)).toArray ++ ((xs.drop (n * 128)).take 128).toArray = (xs.take ((n + 1) * 128)).toArray
    rw [show (n + 1) * 128 = n * 128 + 128 by omega, List.take_add]
    simp
/-- One sector turns. -/
theorem chunk_spl {xs ys : List UInt8} {n k j : Nat} (hl : xs.length = n * 128) (hk : k < n) (hy : ys.length ≤ 128) : chunk (spl xs (k * 128) ys) j = if j = k then ⟨(ys ++ ((xs.drop (k * 128)).take 128).drop ys.length).toArray⟩ else chunk xs j := by
  have hfit : k * 128 + ys.length ≤ xs.length := by omega
  have key : ∀ i, i < 128 → ((spl xs (k * 128) ys))[j * 128 + i]? = if j = k ∧ i < ys.length then ys[i]? else xs[j * 128 + i]? := fun i hi => by
    rw [spl_get hfit]
    by_cases h : j = k ∧ i < ys.length
    · obtain ⟨rfl, h2⟩ := h
      rw [if_pos (by omega), if_pos ⟨rfl, h2⟩, Nat.add_sub_cancel_left]
    · rw [if_neg h, if_neg (by omega)]
  unfold chunk
  split
  · rename_i e
    subst e
    congr 2
    apply List.ext_getElem?
    intro i
    rw [List.getElem?_take]
    by_cases hi : i < 128
    · rw [if_pos hi, List.getElem?_drop, key i hi]
      by_cases h2 : i < ys.length
      · rw [if_pos ⟨rfl, h2⟩, List.getElem?_append_left h2]
      · rw [if_neg (fun h => h2 h.2), List.getElem?_append_right (by omega), List.getElem?_drop, List.getElem?_take, if_pos (by omega), List.getElem?_drop]
        congr 1
        omega
    · rw [if_neg hi, List.getElem?_eq_none]
      rw [List.length_append, List.length_drop, List.length_take, List.length_drop]
      omega
  · rename_i e
    congr 2
    apply List.ext_getElem?
    intro i
    rw [List.getElem?_take, List.getElem?_take]
    by_cases hi : i < 128
    · rw [if_pos hi, if_pos hi, List.getElem?_drop, List.getElem?_drop, key i hi, if_neg (fun h => e h.1)]
    · rw [if_neg hi, if_neg hi]
theorem chunks_spl {xs ys : List UInt8} {n k : Nat} (hl : xs.length = n * 128) (hk : k < n) (hy : ys.length ≤ 128) :
    chunks (spl xs (k * 128) ys) n = (chunks xs n).set k ⟨(ys ++ ((xs.drop (k * 128)).take 128).drop ys.length).toArray⟩ := by
  apply List.ext_getElem?
  intro j
  rw [List.getElem?_set]
  by_cases hj : j < n
  · rw [chunks_at hj, chunk_spl hl hk hy]
    by_cases e : j = k
    · subst e
      rw [if_pos rfl, if_pos rfl, if_pos (by rw [chunks_len]; exact hj)]
    · rw [if_neg e, if_neg (fun h => e h.symm), chunks_at hj]
  · rw [List.getElem?_eq_none (by rw [chunks_len]; omega)]
    by_cases e : k = j
    · omega
    · rw [if_neg e, List.getElem?_eq_none (by rw [chunks_len]; omega)]

/-- What is read of a sector: what the last loose write of it wrote, else what it has for good. -/
def look (l : List (Nat × List UInt8)) (k : Nat) (g : ByteArray) : ByteArray := l.foldl (fun a x => if x.1 = k then ⟨x.2.toArray⟩ else a) g
theorem look_snoc (l : List (Nat × List UInt8)) (x : Nat × List UInt8) (k : Nat) (g : ByteArray) : look (l ++ [x]) k g = if x.1 = k then ⟨x.2.toArray⟩ else look l k g := by
  unfold look
  rw [List.foldl_append]
  rfl
/-- Each sector is read so. -/
def St.Seen (s : St) : Prop := ∀ k, k < s.n → chunk s.now k = look s.loose k (chunk s.good k)
theorem St.Seen.fresh (n : Nat) : (St.fresh n).Seen := fun _ _ => rfl
theorem St.Seen.put {s : St} (h : s.Seen) (hs : s.Ok) {k : Nat} (hk : k < s.n) {x : List UInt8} (hx : x.length = 128) : (s.put k x).Seen := fun j hj => by
  show chunk (spl s.now (k * 128) x) j = look (s.loose ++ [(k, x)]) j (chunk s.good j)
  rw [look_snoc, chunk_spl hs.now hk (by omega)]
  by_cases e : j = k
  · subst e
    rw [if_pos rfl, if_pos rfl, List.drop_of_length_le (by rw [List.length_take]; omega), List.append_nil]
  · rw [if_neg e, if_neg (fun h => e h.symm)]
    exact h j hj
theorem St.Seen.settle {s : St} (hs : s.Ok) (m : Nat → Nat) : (s.settle m).Seen := fun k _ => by
  show chunk (s.settle m).now k = chunk (s.settle m).good k
  rw [(hs.settle m).read rfl]
theorem St.Seen.fuse {s : St} (h : s.Seen) (b : Bool) (n : Nat) : ({ s with lit := b, left := n } : St).Seen := h
theorem St.Seen.burn {s : St} (h : s.Seen) : s.burn.Seen := h
/-- The document's fuse. -/
def St.fz (s : St) : Int := if s.lit then (s.left : Int) else -1
end Go.Proofs.YtpmhpibbdcifnaaGreat.Sec
end

section
namespace Go.Proofs.YtpmhpibbdcifnaaGreat.Book
open Go

/-- What of a stream lies in sector k. -/
def part (xs : List UInt8) (k : Nat) : List UInt8 := (xs.drop (k * 127)).take 127
/-- Sector k, as the stream makes it. -/
def made (xs : List UInt8) (k : Nat) : List UInt8 := part xs k ++ List.replicate (127 - (part xs k).length) 0 ++ [UInt8.ofNat (part xs k).length]
theorem part_le (xs : List UInt8) (k : Nat) : (part xs k).length ≤ 127 := by
  unfold part
  rw [List.length_take]
  omega
theorem made_len (xs : List UInt8) (k : Nat) : (made xs k).length = 128 := by
  have := part_le xs k
  simp [made]
  omega
theorem part_ends (xs : List UInt8) (k : Nat) : (xs.drop (min xs.length (k * 127))).take (min xs.length ((k + 1) * 127) - min xs.length (k * 127)) = part xs k := by
  unfold part
  by_cases h : k * 127 ≤ xs.length
  · rw [show min xs.length (k * 127) = k * 127 by omega]
    by_cases h2 : (k + 1) * 127 ≤ xs.length
    · rw [show min xs.length ((k + 1) * 127) - k * 127 = 127 by omega]
    · rw [List.take_of_length_le (by rw [List.length_drop]; omega), List.take_of_length_le (by rw [List.length_drop]; omega)]
  · rw [List.drop_of_length_le (by omega), List.drop_of_length_le (by omega)]
    simp
/-- How much of a sector is the stream's; none where its last byte is no such number. -/
def fill (x : List UInt8) : Nat := if (x.getD 127 0).toNat ≤ 127 then (x.getD 127 0).toNat else 0
theorem fill_le (x : List UInt8) : fill x ≤ 127 := by
  unfold fill
  split <;> omega
/-- The stream of some sectors: up to the first that is not full. -/
def stream : List (List UInt8) → List UInt8
  | [] => []
  | x :: l => if fill x < 127 then x.take (fill x) else x.take (fill x) ++ stream l
theorem stream_len (l : List (List UInt8)) : (stream l).length ≤ l.length * 127 := by
  induction l with
  | nil => exact Nat.zero_le _
  | cons x l ih =>
    have := fill_le x
    rw [stream, List.length_cons]
    split
    · rw [List.length_take]
      omega
    · rw [List.length_append, List.length_take]
      omega
end Go.Proofs.YtpmhpibbdcifnaaGreat.Book
end

section
namespace Go.Proofs.YtpmhpibbdcifnaaGreat.Book
open Go

/-- What sector i shall be: in step 0 its last byte turns alone. -/
def want (step : Nat) (xs x : List UInt8) (i : Nat) : List UInt8 := if step = 0 then x.take 127 ++ (made xs i).drop 127 else made xs i
theorem want_len {step : Nat} {xs x : List UInt8} {i : Nat} (hx : x.length = 128) : (want step xs x i).length = 128 := by
  unfold want
  split
  · rw [List.length_append, List.length_take, List.length_drop, hx, made_len]
    rfl
  · exact made_len xs i
structure An where
  bad : Bool
  l : List (List UInt8)
  s : Sec.St
  some : Bool
/-- From sector i on, so many rounds. -/
def inner (step : Nat) (xs : List UInt8) (a : Nat) : Nat → Nat → An → An
  | 0, _, r => r
  | f + 1, i, r =>
    if r.l.getD i [] = want step xs (r.l.getD i []) i then inner step xs a f (i + 1) r
    else if r.s.still then { r with bad := true }
    else inner step xs a f (i + 1) ⟨r.bad, r.l.set i (want step xs (r.l.getD i []) i), r.s.burn.put (a + i) (want step xs (r.l.getD i []) i), true⟩
/-- One step over all sectors. -/
def stepA (step : Nat) (xs : List UInt8) (a : Nat) (l : List (List UInt8)) (s : Sec.St) : Int × List (List UInt8) × Sec.St :=
  let r := inner step xs a l.length 0 ⟨false, l, s, false⟩
  if r.bad then (51, r.l, r.s)
  else if r.some then (if r.s.still then (51, r.l, r.s) else (0, r.l, r.s.burn.settle fun _ => 128))
  else (0, r.l, r.s)
/-- So many steps. -/
def steps (xs : List UInt8) (a : Nat) (l : List (List UInt8)) (s : Sec.St) : Nat → Int × List (List UInt8) × Sec.St
  | 0 => (0, l, s)
  | k + 1 => if (steps xs a l s k).1 = 0 then stepA k xs a (steps xs a l s k).2.1 (steps xs a l s k).2.2 else steps xs a l s k
def anew (xs : List UInt8) (a : Nat) (l : List (List UInt8)) (s : Sec.St) : Int × List (List UInt8) × Sec.St := steps xs a l s 2
theorem inner_same {step : Nat} {xs : List UInt8} {a f i : Nat} {r : An} (h : r.l.getD i [] = want step xs (r.l.getD i []) i) : inner step xs a (f + 1) i r = inner step xs a f (i + 1) r := by
  rw [inner, if_pos h]
theorem inner_bad {step : Nat} {xs : List UInt8} {a f i : Nat} {r : An} (h : r.l.getD i [] ≠ want step xs (r.l.getD i []) i) (hd : r.s.still = true) : inner step xs a (f + 1) i r = { r with bad := true } := by
  rw [inner, if_neg h, if_pos hd]
theorem inner_put {step : Nat} {xs : List UInt8} {a f i : Nat} {r : An} (h : r.l.getD i [] ≠ want step xs (r.l.getD i []) i) (hd : r.s.still = false) :
    inner step xs a (f + 1) i r = inner step xs a f (i + 1) ⟨r.bad, r.l.set i (want step xs (r.l.getD i []) i), r.s.burn.put (a + i) (want step xs (r.l.getD i []) i), true⟩ := by
  rw [inner, if_neg h, if_neg (by rw [hd]; simp)]
section
variable {step a : Nat} {xs : List UInt8} {l li : List (List UInt8)} {s si : Sec.St} {b : Bool}
theorem stepA_bad (h : inner step xs a l.length 0 ⟨false, l, s, false⟩ = ⟨true, li, si, b⟩) : stepA step xs a l s = (51, li, si) := by
  unfold stepA
  rw [h]
  rfl
theorem stepA_none (h : inner step xs a l.length 0 ⟨false, l, s, false⟩ = ⟨false, li, si, false⟩) : stepA step xs a l s = (0, li, si) := by
  unfold stepA
  rw [h]
  rfl
theorem stepA_down (h : inner step xs a l.length 0 ⟨false, l, s, false⟩ = ⟨false, li, si, true⟩) (hd : si.still = true) : stepA step xs a l s = (51, li, si) := by
  unfold stepA
  rw [h]
  simp [hd]
theorem stepA_sync (h : inner step xs a l.length 0 ⟨false, l, s, false⟩ = ⟨false, li, si, true⟩) (hd : si.still = false) : stepA step xs a l s = (0, li, si.burn.settle fun _ => 128) := by
  unfold stepA
  rw [h]
  simp [hd]
theorem steps_next {k : Nat} {l' : List (List UInt8)} {s' : Sec.St} (h : steps xs a l s k = (0, l', s')) : steps xs a l s (k + 1) = stepA k xs a l' s' := by
  rw [steps, h]
  rfl
theorem anew_bad {k : Nat} (hk : k < 2) (h : steps xs a l s (k + 1) = (51, li, si)) : anew xs a l s = (51, li, si) := by
  unfold anew
  rcases (by omega : k = 0 ∨ k = 1) with rfl | rfl
  · rw [steps, h]
    rfl
  · exact h
end
end Go.Proofs.YtpmhpibbdcifnaaGreat.Book
end

section
namespace Go.Proofs.YtpmhpibbdcifnaaGreat.Book
open Go Frame

/-- The records at the front of frames, how many bytes they have. -/
def recs : List (UInt8 × List UInt8) → List (List UInt8) × Nat
  | [] => ([], 0)
  | f :: r => if f.1 = 1 then (f.2 :: (recs r).1, (raw 1 f.2).length + (recs r).2) else ([], 0)
theorem rd_text (s : List UInt8) (most : Int) : (rd s most).2.1.length ≤ 131072 := by
  match s with
  | [] => rw [rd_none]; exact Nat.zero_le _
  | [v] =>
    by_cases h : v = 1
    · subst h; rw [rd_one]; exact Nat.zero_le _
    · rw [rd_foreign _ _ h]; exact Nat.zero_le _
  | v :: tag :: q =>
    by_cases h : v = 1
    · subst h
      rw [rd_two]
      split
      · exact Nat.zero_le _
      · split
        · exact Nat.zero_le _
        · split
          · exact Nat.zero_le _
          · split
            · exact Nat.zero_le _
            · split
              · exact Nat.zero_le _
              · simp only [List.length_take]
                omega
    · rw [rd_foreign _ _ h]; exact Nat.zero_le _
theorem scan_text (most : Int) : ∀ (k : Nat) (s : List UInt8), ∀ f ∈ (scan k s most).1, f.2.length ≤ 131072 := by
  intro k
  induction k with
  | zero => intro s f hf; cases hf
  | succ k ih =>
    intro s f hf
    rw [scan_succ] at hf
    split at hf
    · cases hf
    · split at hf
      · cases hf
      · rcases List.mem_cons.1 hf with rfl | hf
        · exact rd_text s most
        · exact ih _ f hf
theorem sc_text (s : List UInt8) (most : Int) : ∀ f ∈ (sc s most).1, f.2.length ≤ 131072 := scan_text most _ s
theorem raw_le {t : List UInt8} (h : t.length ≤ 131072) : (raw 1 t).length ≤ 131088 := by
  rw [raw_length]
  have := Lib.uvarint_length64 (x := t.length) (by omega)
  omega
/-- A frame that stands has as many bytes as its text makes. -/
theorem rd_raw_len {s : List UInt8} {most : Int} (h : (rd s most).2.2.2 = 0) : (raw 1 (rd s most).2.1).length = (rd s most).2.2.1 := by
  match s, h with
  | [], h => rw [rd_none] at h; simp [bad] at h
  | [v], h =>
    by_cases e : v = 1
    · subst e; rw [rd_one] at h; simp [bad] at h
    · rw [rd_foreign _ _ e] at h; simp [bad] at h
  | v :: tag :: q, h =>
    by_cases e : v = 1
    · subst e
      rw [rd_two] at h ⊢
      split at h
      · simp [bad] at h
      · split at h
        · simp [bad] at h
        · split at h
          · simp [bad] at h
          · split at h
            · simp [bad] at h
            · split at h
              · simp [bad] at h
              · rename_i n1 n2 n3 n4 n5
                rw [if_neg n1, if_neg n2, if_neg n3, if_neg n4, if_neg n5]
                have hu := Num.uv_rd (l := q) (by omega)
                have hb := (Num.rd_bound q).1
                have hl : (Lib.uvarint (Num.rd q).1).length = (Num.rd q).2.1 := by rw [hu, List.length_take]; omega
                have ht : (List.take (Num.rd q).1 (List.drop (2 + (Num.rd q).2.1) (1 :: tag :: q))).length = (Num.rd q).1 := by
                  rw [List.length_take, List.length_drop]
                  omega
                show (raw 1 (List.take (Num.rd q).1 (List.drop (2 + (Num.rd q).2.1) (1 :: tag :: q)))).length = _
                rw [raw_length, ht, hl]
    · rw [rd_foreign _ _ e] at h; simp [bad] at h
theorem scan_recs (most : Int) : ∀ (k : Nat) (s : List UInt8), (recs (scan k s most).1).2 ≤ s.length := by
  intro k
  induction k with
  | zero => intro s; exact Nat.zero_le _
  | succ k ih =>
    intro s
    rw [scan_succ]
    split
    · exact Nat.zero_le _
    · split
      · exact Nat.zero_le _
      · rename_i h1 h2
        have h0 : (rd s most).2.2.2 = 0 := by omega
        have hle := rd_le s most h0
        have hih := ih (s.drop (rd s most).2.2.1)
        rw [List.length_drop] at hih
        rw [recs]
        split
        · show (raw 1 (rd s most).2.1).length + _ ≤ _
          rw [rd_raw_len h0]
          omega
        · exact Nat.zero_le _
theorem sc_recs (s : List UInt8) (most : Int) : (recs (sc s most).1).2 ≤ s.length := scan_recs most _ s
end Go.Proofs.YtpmhpibbdcifnaaGreat.Book
end

section
namespace Go.Proofs.YtpmhpibbdcifnaaGreat.Book
open Go

/-- The sectors from a, n of them, as lists. -/
def secsL (xs : List UInt8) (a n : Nat) : List (List UInt8) := (List.range n).map fun i => (xs.drop ((a + i) * 128)).take 128
theorem secsL_len (xs : List UInt8) (a n : Nat) : (secsL xs a n).length = n := by simp [secsL]
theorem secsL_sz {xs : List UInt8} {a n N : Nat} (hl : xs.length = N * 128) (h : a + n ≤ N) : ∀ x ∈ secsL xs a n, x.length = 128 := fun x hx => by
  obtain ⟨i, hi, rfl⟩ := List.mem_map.1 hx
  have := List.mem_range.1 hi
  rw [List.length_take, List.length_drop]
  omega
/-- What Open finds: the sectors, their stream, its records, what stands of it. -/
def found (xs : List UInt8) (a n : Nat) : List (List UInt8) := (recs (Frame.sc (stream (secsL xs a n)) 131072).1).1
def good (xs : List UInt8) (a n : Nat) : List UInt8 := (stream (secsL xs a n)).take (recs (Frame.sc (stream (secsL xs a n)) 131072).1).2

/-- A text as a sector of a book. -/
def sect (t : List UInt8) : List UInt8 := t ++ List.replicate (127 - t.length) 0 ++ [UInt8.ofNat t.length]
theorem made_sect (xs : List UInt8) (k : Nat) : made xs k = sect (part xs k) := rfl
theorem sect_len {t : List UInt8} (h : t.length ≤ 127) : (sect t).length = 128 := by simp [sect]; omega
/-- Records as frames, one behind the other. -/
def frs (l : List (List UInt8)) : List UInt8 := l.flatMap (Frame.raw 1)
theorem frs_snoc (l : List (List UInt8)) (x : List UInt8) : frs (l ++ [x]) = frs l ++ Frame.raw 1 x := by simp [frs]
theorem frs_app (l m : List (List UInt8)) : frs (l ++ m) = frs l ++ frs m := by simp [frs]
theorem frs_cons (x : List UInt8) (l : List (List UInt8)) : frs (x :: l) = Frame.raw 1 x ++ frs l := by simp [frs]
theorem frs_pos {l : List (List UInt8)} : l.length ≤ (frs l).length := by
  induction l with
  | nil => exact Nat.le_refl _
  | cons x l ih =>
    rw [frs_cons, List.length_append, Frame.raw_length, List.length_cons]
    omega
theorem frs_nil {l : List (List UInt8)} : frs l = [] ↔ l = [] := by
  constructor
  · intro h
    have := frs_pos (l := l)
    rw [h] at this
    exact List.length_eq_zero_iff.1 (by simpa using this)
  · intro h
    rw [h]
    rfl
/-- Pieces of a text. -/
theorem ex_take (y : List UInt8) (m : Nat) : (⟨y.toArray⟩ : ByteArray).extract 0 m = ⟨(y.take m).toArray⟩ := by
  apply ByteArray.ext
  rw [ByteArray.data_extract]
  apply Array.ext'
  simp
theorem ex_drop (y : List UInt8) (m : Nat) : (⟨y.toArray⟩ : ByteArray).extract m y.length = ⟨(y.drop m).toArray⟩ := by
  apply ByteArray.ext
  rw [ByteArray.data_extract]
  apply Array.ext'
  simp
  rw [List.take_of_length_le (by simp)]
theorem take_min (y : List UInt8) (m : Nat) : y.take (min y.length m) = y.take m := by
  rw [List.take_eq_take_iff]
  omega
theorem drop_min (y : List UInt8) (m : Nat) : y.drop (min y.length m) = y.drop m := by
  rcases Nat.le_total y.length m with h | h
  · rw [Nat.min_eq_left h, List.drop_of_length_le (Nat.le_refl _), List.drop_of_length_le h]
  · rw [Nat.min_eq_right h]

/-! ### Writes of a disk, one behind the other -/
/-- A write of a sector that is there; a sync. -/
def wput (s : Sec.St) (k : Nat) (y : List UInt8) : Int × Sec.St := if s.still then (51, s) else (0, s.burn.put k y)
def wsync (s : Sec.St) : Int × Sec.St := if s.still then (51, s) else (0, s.burn.settle fun _ => 128)
def puts : List (Nat × List UInt8) → Sec.St → Int × Sec.St
  | [], s => (0, s)
  | x :: l, s => if (wput s x.1 x.2).1 = 0 then puts l (wput s x.1 x.2).2 else wput s x.1 x.2
/-- These sectors, from b on. -/
def from_ (b : Nat) : List (List UInt8) → List (Nat × List UInt8)
  | [] => []
  | y :: l => (b, y) :: from_ (b + 1) l
section
variable {s : Sec.St}
theorem wput_code (s : Sec.St) (k : Nat) (y : List UInt8) : (wput s k y).1 = 0 ∨ (wput s k y).1 = 51 := by
  unfold wput
  split
  · exact .inr rfl
  · exact .inl rfl
theorem wsync_code (s : Sec.St) : (wsync s).1 = 0 ∨ (wsync s).1 = 51 := by
  unfold wsync
  split
  · exact .inr rfl
  · exact .inl rfl
theorem wput_ok (h : s.Ok) {k : Nat} (hk : k < s.n) {y : List UInt8} (hy : y.length = 128) : (wput s k y).2.Ok := by
  unfold wput
  split
  · exact h
  · exact (h.burn).put hk hy
theorem wput_n (s : Sec.St) (k : Nat) (y : List UInt8) : (wput s k y).2.n = s.n := by
  unfold wput
  split <;> rfl
theorem wput_len (s : Sec.St) (k : Nat) (y : List UInt8) : (wput s k y).2.loose.length ≤ s.loose.length + 1 := by
  unfold wput
  split
  · exact Nat.le_succ _
  · show (s.loose ++ [_]).length ≤ _
    simp
theorem wput_seen (h : s.Ok) (hs : s.Seen) {k : Nat} (hk : k < s.n) {y : List UInt8} (hy : y.length = 128) : (wput s k y).2.Seen := by
  unfold wput
  split
  · exact hs
  · exact (hs.burn).put h.burn hk hy
theorem wsync_ok (h : s.Ok) : (wsync s).2.Ok := by
  unfold wsync
  split
  · exact h
  · exact (h.burn).settle _
theorem wsync_n (s : Sec.St) : (wsync s).2.n = s.n := by
  unfold wsync
  split <;> rfl
theorem wsync_len (s : Sec.St) : (wsync s).2.loose.length ≤ s.loose.length := by
  unfold wsync
  split
  · exact Nat.le_refl _
  · exact Nat.zero_le _
theorem wsync_seen (h : s.Ok) (hs : s.Seen) : (wsync s).2.Seen := by
  unfold wsync
  split
  · exact hs
  · exact Sec.St.Seen.settle h.burn _
theorem puts_go {x : Nat × List UInt8} {l : List (Nat × List UInt8)} (h : (wput s x.1 x.2).1 = 0) : puts (x :: l) s = puts l (wput s x.1 x.2).2 := by rw [puts, if_pos h]
theorem puts_stop {x : Nat × List UInt8} {l : List (Nat × List UInt8)} (h : (wput s x.1 x.2).1 ≠ 0) : puts (x :: l) s = wput s x.1 x.2 := by rw [puts, if_neg h]
theorem puts_code : ∀ (l : List (Nat × List UInt8)) (s : Sec.St), (puts l s).1 = 0 ∨ (puts l s).1 = 51 := by
  intro l
  induction l with
  | nil => exact fun _ => .inl rfl
  | cons x l ih =>
    intro s
    rw [puts]
    split
    · exact ih _
    · exact wput_code _ _ _
theorem puts_ok : ∀ (l : List (Nat × List UInt8)) (s : Sec.St), s.Ok → (∀ x ∈ l, x.1 < s.n ∧ x.2.length = 128) → (puts l s).2.Ok ∧ (puts l s).2.n = s.n ∧ (puts l s).2.loose.length ≤ s.loose.length + l.length ∧ (s.Seen → (puts l s).2.Seen) := by
  intro l
  induction l with
  | nil => exact fun s h _ => ⟨h, rfl, Nat.le_refl _, fun h => h⟩
  | cons x l ih =>
    intro s h hx
    obtain ⟨h1, h2⟩ := hx x (List.mem_cons_self ..)
    have a := wput_ok h h1 h2
    have b := wput_n s x.1 x.2
    have c := wput_len s x.1 x.2
    have d := fun hs => wput_seen h hs h1 h2
    rw [puts, List.length_cons]
    split
    · obtain ⟨i1, i2, i3, i4⟩ := ih _ a (fun y hy => by rw [b]; exact hx y (List.mem_cons_of_mem _ hy))
      exact ⟨i1, i2.trans b, by omega, fun hs => i4 (d hs)⟩
    · exact ⟨a, b, by omega, d⟩
theorem from_at (l : List (List UInt8)) (b i : Nat) (h : i < l.length) : from_ (b + i) (l.drop i) = (b + i, l.getD i []) :: from_ (b + (i + 1)) (l.drop (i + 1)) := by
  rw [List.drop_eq_getElem_cons h, from_]
  simp [List.getD, List.getElem?_eq_getElem h, Nat.add_assoc]
theorem from_len (l : List (List UInt8)) (b : Nat) : (from_ b l).length = l.length := by
  induction l generalizing b with
  | nil => rfl
  | cons y l ih => rw [from_, List.length_cons, List.length_cons, ih]
theorem from_mem (l : List (List UInt8)) (b : Nat) : ∀ x ∈ from_ b l, b ≤ x.1 ∧ x.1 < b + l.length ∧ x.2 ∈ l := by
  induction l generalizing b with
  | nil => intro x hx; cases hx
  | cons y l ih =>
    intro x hx
    rw [from_] at hx
    rw [List.length_cons]
    rcases List.mem_cons.1 hx with rfl | hx
    · exact ⟨Nat.le_refl _, by simp only []; omega, List.mem_cons_self ..⟩
    · obtain ⟨a, b, c⟩ := ih (b + 1) x hx
      exact ⟨by omega, by omega, List.mem_cons_of_mem _ c⟩
end
theorem go_from {P : Int × Sec.St} {l rest : List (Nat × List UInt8)} {si : Sec.St} {k : Nat} {y : List UInt8} (hP : P = puts l si) (hF : l = (k, y) :: rest) (e : (wput si k y).1 = 0) : P = puts rest (wput si k y).2 := by
  subst hF
  rw [hP]
  exact puts_go (x := (k, y)) e
theorem stop_from {P : Int × Sec.St} {l rest : List (Nat × List UInt8)} {si : Sec.St} {k : Nat} {y : List UInt8} (hP : P = puts l si) (hF : l = (k, y) :: rest) (e : (wput si k y).1 ≠ 0) : P = wput si k y := by
  subst hF
  rw [hP]
  exact puts_stop (x := (k, y)) e
/-- inner, by wput. -/
theorem inner_go {step : Nat} {xs : List UInt8} {a f i : Nat} {r : An} (h : r.l.getD i [] ≠ want step xs (r.l.getD i []) i) (hc : (wput r.s (a + i) (want step xs (r.l.getD i []) i)).1 = 0) :
    inner step xs a (f + 1) i r = inner step xs a f (i + 1) ⟨r.bad, r.l.set i (want step xs (r.l.getD i []) i), (wput r.s (a + i) (want step xs (r.l.getD i []) i)).2, true⟩ := by
  unfold wput at hc ⊢
  split at hc
  · cases hc
  · rename_i hd
    rw [if_neg hd, inner_put h (by simpa using hd)]
theorem inner_stop {step : Nat} {xs : List UInt8} {a f i : Nat} {r : An} (h : r.l.getD i [] ≠ want step xs (r.l.getD i []) i) (hc : (wput r.s (a + i) (want step xs (r.l.getD i []) i)).1 ≠ 0) :
    inner step xs a (f + 1) i r = { r with bad := true } ∧ wput r.s (a + i) (want step xs (r.l.getD i []) i) = (51, r.s) := by
  unfold wput at hc ⊢
  split at hc
  · rename_i hd
    exact ⟨inner_bad h hd, by rw [if_pos hd]⟩
  · exact absurd rfl hc
theorem stepA_end {step a : Nat} {xs : List UInt8} {l li : List (List UInt8)} {s si : Sec.St} (h : inner step xs a l.length 0 ⟨false, l, s, false⟩ = ⟨false, li, si, true⟩) : stepA step xs a l s = ((wsync si).1, li, (wsync si).2) := by
  unfold wsync
  split
  · rename_i hd
    exact stepA_down h hd
  · rename_i hd
    exact stepA_sync h (by simpa using hd)
/-- The first i turned. -/
def mix (lb lw : List (List UInt8)) (i : Nat) : List (List UInt8) := lb.take i ++ lw.drop i
section
variable {lb lw : List (List UInt8)} {i : Nat}
theorem mix_zero : mix lb lw 0 = lw := by simp [mix]
theorem mix_all (h : lb.length = lw.length) : mix lb lw lw.length = lb := by
  unfold mix
  rw [← h, List.take_length, h, List.drop_length, List.append_nil]
theorem mix_get (h : lb.length = lw.length) (hi : i < lw.length) : (mix lb lw i).getD i [] = lw.getD i [] := by
  unfold mix
  simp only [List.getD_eq_getElem?_getD]
  rw [List.getElem?_append_right (by rw [List.length_take]; omega), List.length_take, List.getElem?_drop]
  congr 2
  omega
theorem mix_set (h : lb.length = lw.length) (hi : i < lw.length) : (mix lb lw i).set i (lb.getD i []) = mix lb lw (i + 1) := by
  unfold mix
  rw [List.set_append_right _ _ (by rw [List.length_take]; omega), List.length_take, show i - min i lb.length = 0 by omega, List.drop_eq_getElem_cons hi, List.set_cons_zero]
  have hb : i < lb.length := by omega
  have e : lb.getD i [] = lb[i] := by simp [List.getD, List.getElem?_eq_getElem hb]
  rw [e, List.take_succ_eq_append_getElem hb, List.append_assoc]
  rfl
theorem mix_same (h : lb.length = lw.length) (hi : i < lw.length) (e : lb.getD i [] = lw.getD i []) : mix lb lw (i + 1) = mix lb lw i := by
  rw [← mix_set h hi, e]
  unfold mix
  rw [List.set_append_right _ _ (by rw [List.length_take]; omega), List.length_take, show i - min i lb.length = 0 by omega, List.drop_eq_getElem_cons hi, List.set_cons_zero]
  simp [List.getD, List.getElem?_eq_getElem hi]
end
theorem inner_none {step : Nat} {xs : List UInt8} {a : Nat} {l : List (List UInt8)} {s : Sec.St} (h : ∀ i, i < l.length → want step xs (l.getD i []) i = l.getD i []) : ∀ (f i : Nat), i + f = l.length → inner step xs a f i ⟨false, l, s, false⟩ = ⟨false, l, s, false⟩ := by
  intro f
  induction f with
  | zero => exact fun _ _ => rfl
  | succ f ih =>
    intro i hi
    rw [inner_same (by exact (h i (by omega)).symm)]
    exact ih (i + 1) (by omega)
end Go.Proofs.YtpmhpibbdcifnaaGreat.Book
end

section
namespace Go.Proofs.YtpmhpibbdcifnaaGreat.Book
open Go

/-- The sectors that the new stream makes otherwise. -/
def todo (a n : Nat) (S T : List UInt8) : List (Nat × List UInt8) := ((List.range n).filter fun i => decide (made T i ≠ made S i)).map fun i => (a + i, made T i)
theorem part_len (xs : List UInt8) (k : Nat) : (part xs k).length = min 127 (xs.length - k * 127) := by
  unfold part
  rw [List.length_take, List.length_drop]
theorem made_last (xs : List UInt8) (k : Nat) : (made xs k)[127]? = some (UInt8.ofNat (part xs k).length) := by
  have h := part_le xs k
  unfold made
  rw [List.getElem?_append_right (by simp; omega)]
  simp
  rw [show 127 - ((part xs k).length + (127 - (part xs k).length)) = 0 by omega]
  rfl
theorem made_len_eq {xs ys : List UInt8} {k : Nat} (h : made xs k = made ys k) : (part xs k).length = (part ys k).length := by
  have h1 := made_last xs k
  rw [h, made_last] at h1
  have h2 := congrArg UInt8.toNat (Option.some.inj h1)
  have h3 := part_le xs k
  have h4 := part_le ys k
  rw [UInt8.toNat_ofNat', UInt8.toNat_ofNat'] at h2
  omega
theorem part_app {S m : List UInt8} {k : Nat} (h : (k + 1) * 127 ≤ S.length) : part (S ++ m) k = part S k := by
  unfold part
  rw [List.drop_append_of_le_length (by omega), List.take_append_of_le_length (by rw [List.length_drop]; omega)]
theorem part_none {xs : List UInt8} {k : Nat} (h : xs.length ≤ k * 127) : part xs k = [] := by
  unfold part
  rw [List.drop_of_length_le h, List.take_nil]
theorem part_tail {S m : List UInt8} {f j : Nat} (h : f * 127 ≤ S.length) : part (S ++ m) (f + j) = part (S.drop (f * 127) ++ m) j := by
  unfold part
  have e : S.drop (f * 127) ++ m = (S ++ m).drop (f * 127) := (List.drop_append_of_le_length h).symm
  rw [e, List.drop_drop, show f * 127 + j * 127 = (f + j) * 127 by omega]
theorem made_of_part {xs ys : List UInt8} {j k : Nat} (h : part xs j = part ys k) : made xs j = made ys k := by rw [made_sect, made_sect, h]
theorem from_eq (l : List (List UInt8)) (b : Nat) : from_ b l = (List.range l.length).map fun j => (b + j, l.getD j []) := by
  induction l generalizing b with
  | nil => rfl
  | cons y l ih =>
    rw [from_, ih, List.length_cons, List.range_succ_eq_map, List.map_cons, List.map_map]
    congr 1
    apply List.map_congr_left
    intro j _
    simp only [Function.comp]
    rw [show b + 1 + j = b + Nat.succ j by omega]
    simp
theorem filter_none {p : Nat → Bool} {l : List Nat} (h : ∀ i ∈ l, p i = false) : l.filter p = [] := by
  rw [List.filter_eq_nil_iff]
  intro i hi
  rw [h i hi]
  simp
theorem todo_eq {a n : Nat} {S m : List UInt8} (hm : m ≠ []) (hfit : S.length + m.length ≤ n * 127) :
    from_ (a + S.length / 127) ((List.range (((S.drop (S.length / 127 * 127) ++ m).length + 126) / 127)).map (made (S.drop (S.length / 127 * 127) ++ m))) = todo a n S (S ++ m) := by
  obtain ⟨f, hf⟩ : ∃ f, f = S.length / 127 := ⟨_, rfl⟩
  obtain ⟨t, ht⟩ : ∃ t, t = S.drop (f * 127) ++ m := ⟨_, rfl⟩
  rw [← hf, ← ht]
  have hfl : f * 127 ≤ S.length := by omega
  have hml : 0 < m.length := List.length_pos_iff.2 hm
  have htl : t.length = S.length - f * 127 + m.length := by rw [ht, List.length_append, List.length_drop]
  obtain ⟨c, hc⟩ : ∃ c, c = (t.length + 126) / 127 := ⟨_, rfl⟩
  rw [← hc]
  obtain ⟨r, hr⟩ : ∃ r, n = f + (c + r) := ⟨n - f - c, by omega⟩
  unfold todo
  have hrange : List.range n = List.range f ++ (List.map (fun x => f + x) (List.range c) ++ List.map (fun x => f + x) (List.map (fun x => c + x) (List.range r))) := by
    rw [hr, List.range_add, List.range_add, List.map_append]
  have h1 : (List.range f).filter (fun i => decide (made (S ++ m) i ≠ made S i)) = [] := filter_none fun i hi => by
    have := List.mem_range.1 hi
    have h : (i + 1) * 127 ≤ f * 127 := Nat.mul_le_mul_right _ (by omega)
    rw [made_of_part (part_app (m := m) (by omega : (i + 1) * 127 ≤ S.length))]
    simp
  have h3 : (List.map (fun x => f + x) (List.map (fun x => c + x) (List.range r))).filter (fun i => decide (made (S ++ m) i ≠ made S i)) = [] := filter_none fun i hi => by
    obtain ⟨j, hj, rfl⟩ := List.mem_map.1 hi
    obtain ⟨k, _, rfl⟩ := List.mem_map.1 hj
    have e1 : part (S ++ m) (f + (c + k)) = [] := part_none (by rw [List.length_append]; omega)
    have e2 : part S (f + (c + k)) = [] := part_none (by omega)
    rw [made_of_part (e1.trans e2.symm)]
    simp
  have h2 : (List.map (fun x => f + x) (List.range c)).filter (fun i => decide (made (S ++ m) i ≠ made S i)) = List.map (fun x => f + x) (List.range c) := by
    rw [List.filter_eq_self]
    intro i hi
    obtain ⟨j, hj, rfl⟩ := List.mem_map.1 hi
    have hj := List.mem_range.1 hj
    rw [decide_eq_true_iff]
    intro h
    have := made_len_eq h
    rw [part_len, part_len, List.length_append] at this
    omega
  rw [hrange, List.filter_append, List.filter_append, h1, h2, h3, List.nil_append, List.append_nil, List.map_map, from_eq]
  rw [List.length_map, List.length_range]
  apply List.map_congr_left
  intro j hj
  have hj := List.mem_range.1 hj
  simp only [Function.comp]
  have e : made t j = made (S ++ m) (f + j) := made_of_part (by rw [ht]; exact (part_tail hfl).symm)
  rw [← e]
  simp [List.getD, hj, Nat.add_assoc]
theorem todo_nil {a n : Nat} {S : List UInt8} : todo a n S S = [] := by
  unfold todo
  rw [filter_none (fun i _ => by simp)]
  rfl
theorem todo_mem {a n : Nat} {S T : List UInt8} : ∀ x ∈ todo a n S T, x.1 < a + n ∧ x.2.length = 128 := fun x hx => by
  unfold todo at hx
  obtain ⟨i, hi, rfl⟩ := List.mem_map.1 hx
  have := List.mem_range.1 (List.mem_filter.1 hi).1
  exact ⟨by simp only []; omega, made_len T i⟩
theorem todo_len {a n : Nat} {S T : List UInt8} : (todo a n S T).length ≤ n := by
  unfold todo
  rw [List.length_map]
  exact Nat.le_trans (List.length_filter_le _ _) (by simp)
/-- The new end. -/
theorem end_full {S m : List UInt8} : S.length / 127 + (S.drop (S.length / 127 * 127) ++ m).length / 127 = (S ++ m).length / 127 := by
  rw [List.length_append, List.length_append, List.length_drop]
  omega
theorem end_tail {S m : List UInt8} : (S.drop (S.length / 127 * 127) ++ m).drop ((S.drop (S.length / 127 * 127) ++ m).length / 127 * 127) = (S ++ m).drop ((S ++ m).length / 127 * 127) := by
  have e : S.drop (S.length / 127 * 127) ++ m = (S ++ m).drop (S.length / 127 * 127) := (List.drop_append_of_le_length (by omega)).symm
  have h := end_full (S := S) (m := m)
  rw [e] at h ⊢
  rw [List.drop_drop, ← h, Nat.add_mul]
end Go.Proofs.YtpmhpibbdcifnaaGreat.Book
end

section
namespace Go.Proofs.YtpmhpibbdcifnaaGreat.Book
open Go

/-! ### Stream and records of sectors as a stream makes them -/
theorem made_fill (xs : List UInt8) (k : Nat) : fill (made xs k) = (part xs k).length := by
  have h := part_le xs k
  unfold fill
  rw [List.getD_eq_getElem?_getD, made_last]
  show (if (UInt8.ofNat (part xs k).length).toNat ≤ 127 then (UInt8.ofNat (part xs k).length).toNat else 0) = _
  rw [UInt8.toNat_ofNat', if_pos (by omega)]
  omega
theorem made_take (xs : List UInt8) (k : Nat) : (made xs k).take (part xs k).length = part xs k := by
  unfold made
  rw [List.append_assoc, List.take_append_of_le_length (Nat.le_refl _), List.take_length]
theorem stream_made (xs : List UInt8) : ∀ (r k : Nat), xs.length ≤ (k + r) * 127 → stream ((List.range r).map fun j => made xs (k + j)) = xs.drop (k * 127) := by
  intro r
  induction r with
  | zero =>
    intro k h
    rw [List.drop_of_length_le (by omega)]
    rfl
  | succ r ih =>
    intro k h
    rw [List.range_succ_eq_map, List.map_cons, List.map_map]
    have e : ((fun j => made xs (k + j)) ∘ Nat.succ) = fun j => made xs (k + 1 + j) := by
      funext j
      show made xs (k + (j + 1)) = _
      rw [show k + (j + 1) = k + 1 + j by omega]
    rw [e, Nat.add_zero, stream, made_fill, made_take]
    have hp := part_len xs k
    split
    · rename_i hlt
      unfold part
      rw [List.take_of_length_le (by rw [List.length_drop]; omega)]
    · rename_i hge
      rw [ih (k + 1) (by omega)]
      unfold part
      rw [show (k + 1) * 127 = k * 127 + 127 by omega, ← List.drop_drop, List.take_append_drop]
theorem stream_all {xs : List UInt8} {n : Nat} (h : xs.length ≤ n * 127) : stream ((List.range n).map (made xs)) = xs := by
  have := stream_made xs n 0 (by omega)
  simpa using this
theorem flat_one (l : List (List UInt8)) : Frame.flat (l.map fun x => (1, x)) = frs l := by
  induction l with
  | nil => rfl
  | cons x l ih =>
    rw [List.map_cons, frs_cons, ← ih]
    unfold Frame.flat
    rw [List.flatMap_cons]
theorem sc_frs {l : List (List UInt8)} (h : ∀ x ∈ l, x.length ≤ 131072) : (Frame.sc (frs l) 131072).1 = l.map fun x => (1, x) := by
  have := Frame.sc_flat 131072 (l.map fun x => ((1 : UInt8), x)) [] (fun f hf => by
    obtain ⟨x, hx, rfl⟩ := List.mem_map.1 hf
    have := h x hx
    exact ⟨this, by simp only []; omega⟩) (.inl rfl)
  rw [List.append_nil, flat_one] at this
  rw [this]
theorem recs_one (l : List (List UInt8)) : recs (l.map fun x => ((1 : UInt8), x)) = (l, (frs l).length) := by
  induction l with
  | nil => rfl
  | cons x l ih =>
    rw [List.map_cons, recs, if_pos rfl, ih, frs_cons, List.length_append]
theorem found_good {xs : List UInt8} {a n : Nat} {l : List (List UInt8)} (hl : ∀ x ∈ l, x.length ≤ 131072) (hn : (frs l).length ≤ n * 127) (h : secsL xs a n = (List.range n).map (made (frs l))) : found xs a n = l ∧ good xs a n = frs l := by
  unfold found good
  rw [h, stream_all hn, sc_frs hl, recs_one]
  exact ⟨rfl, List.take_length⟩
/-- Sectors that lie so are not written. -/
theorem anew_laid {xs : List UInt8} {a n : Nat} {s : Sec.St} : anew xs a ((List.range n).map (made xs)) s = (0, (List.range n).map (made xs), s) := by
  have key : ∀ step, stepA step xs a ((List.range n).map (made xs)) s = (0, (List.range n).map (made xs), s) := fun step => by
    refine stepA_none (inner_none (fun i hi => ?_) _ 0 (by simp))
    have hi : i < n := by simpa using hi
    have e : ((List.range n).map (made xs)).getD i [] = made xs i := by simp [List.getD, hi]
    rw [e]
    unfold want
    split
    · rw [List.take_append_drop]
    · rfl
  unfold anew
  rw [steps, steps, steps, if_pos rfl, key 0, if_pos rfl, key 1]

/-! ### A disk that is let alone -/
def sec (xs : List UInt8) (k : Nat) : List UInt8 := (xs.drop (k * 128)).take 128
theorem chunk_sec {xs ys : List UInt8} {k : Nat} (h : Sec.chunk xs k = Sec.chunk ys k) : sec xs k = sec ys k := by
  unfold Sec.chunk at h
  have := congrArg (fun b : ByteArray => b.data.toList) h
  simpa [sec] using this
theorem secsL_sec (xs : List UInt8) (a n : Nat) : secsL xs a n = (List.range n).map fun i => sec xs (a + i) := rfl
theorem secs_all {xs : List UInt8} {n : Nat} (h : xs.length = n * 128) : xs = (secsL xs 0 n).flatten := by
  have key : ∀ m, xs.take (m * 128) = (secsL xs 0 m).flatten := by
    intro m
    induction m with
    | zero => simp [secsL]
    | succ m ih =>
      rw [show (m + 1) * 128 = m * 128 + 128 by omega, List.take_add, ih]
      unfold secsL
      rw [List.range_succ, List.map_append, List.flatten_append]
      simp
  rw [← key n, ← h, List.take_length]
/-- One write. -/
theorem sec_put {s : Sec.St} (hs : s.Ok) {k : Nat} (hk : k < s.n) {y : List UInt8} (hy : y.length = 128) (j : Nat) : sec (s.put k y).now j = if j = k then y else sec s.now j := by
  have h := Sec.chunk_spl (ys := y) (j := j) hs.now hk (by omega)
  show sec (Sec.spl s.now (k * 128) y) j = _
  unfold Sec.chunk at h
  by_cases hj : j = k
  · subst hj
    rw [if_pos rfl] at h ⊢
    have h2 : y ++ ((s.now.drop (j * 128)).take 128).drop y.length = y := by rw [List.drop_of_length_le (by rw [List.length_take]; omega), List.append_nil]
    rw [h2] at h
    exact congrArg (fun b : ByteArray => b.data.toList) h
  · rw [if_neg hj] at h ⊢
    exact congrArg (fun b : ByteArray => b.data.toList) h
/-- What becomes of sector k by writes. -/
def look2 (l : List (Nat × List UInt8)) (k : Nat) (g : List UInt8) : List UInt8 := l.foldl (fun a x => if x.1 = k then x.2 else a) g
theorem puts_free : ∀ (l : List (Nat × List UInt8)) (s : Sec.St), s.Ok → s.lit = false → (∀ x ∈ l, x.1 < s.n ∧ x.2.length = 128) →
    (puts l s).1 = 0 ∧ (puts l s).2.lit = false ∧ (puts l s).2.good = s.good ∧ ∀ k, sec (puts l s).2.now k = look2 l k (sec s.now k) := by
  intro l
  induction l with
  | nil => exact fun s _ hl _ => ⟨rfl, hl, rfl, fun _ => rfl⟩
  | cons x l ih =>
    intro s hs hl hx
    obtain ⟨h1, h2⟩ := hx x (List.mem_cons_self ..)
    have hw : wput s x.1 x.2 = (0, s.burn.put x.1 x.2) := by
      unfold wput
      rw [if_neg (by rw [Sec.St.runs hl]; simp)]
    have hb : s.burn = s := by
      cases s
      simp only at hl
      subst hl
      rfl
    rw [puts, hw, if_pos rfl, hb]
    obtain ⟨a1, a2, a3, a4⟩ := ih (s.put x.1 x.2) (hs.put h1 h2) hl (fun y hy => hx y (List.mem_cons_of_mem _ hy))
    refine ⟨a1, a2, a3, fun k => ?_⟩
    rw [a4, sec_put hs h1 h2]
    show look2 l k _ = look2 l k (if x.1 = k then x.2 else sec s.now k)
    congr 1
    by_cases hk : k = x.1
    · rw [if_pos hk, if_pos hk.symm]
    · rw [if_neg hk, if_neg (fun h => hk h.symm)]
theorem look2_map (f : Nat → List UInt8) (a j : Nat) : ∀ (l : List Nat) (g : List UInt8), look2 (l.map fun i => (a + i, f i)) (a + j) g = if j ∈ l then f j else g := by
  intro l
  induction l with
  | nil => intro g; simp [look2]
  | cons i l ih =>
    intro g
    rw [List.map_cons]
    show look2 (l.map fun i => (a + i, f i)) (a + j) (if a + i = a + j then f i else g) = _
    rw [ih]
    by_cases hij : i = j
    · subst hij
      by_cases hm : i ∈ l <;> simp [hm]
    · rw [if_neg (by omega : ¬ a + i = a + j)]
      by_cases hm : j ∈ l
      · rw [if_pos hm, if_pos (List.mem_cons_of_mem _ hm)]
      · rw [if_neg hm, if_neg (fun h => by rcases List.mem_cons.1 h with h | h; exact hij h.symm; exact hm h)]
theorem look2_todo {a n : Nat} {S T : List UInt8} {j : Nat} (hj : j < n) : look2 (todo a n S T) (a + j) (made S j) = made T j := by
  unfold todo
  rw [look2_map]
  split
  · rfl
  · rename_i h
    by_cases e : made T j = made S j
    · exact e.symm
    · exact absurd (List.mem_filter.2 ⟨List.mem_range.2 hj, by simpa using e⟩) h

/-- A book's stream lies on the sectors from a on, n of them, of a disk that nothing stands still. -/
structure Laid (a n N : Nat) (S : List UInt8) (s : Sec.St) : Prop where
  ok : s.Ok
  seen : s.Seen
  lit : s.lit = false
  nn : s.n = N
  han : a + n ≤ N
  fit : S.length ≤ n * 127
  now : secsL s.now a n = (List.range n).map (made S)
section
variable {a n N : Nat} {S : List UInt8} {s : Sec.St}
theorem made_zero (k : Nat) : made [] k = List.replicate 128 0 := by
  have : part [] k = [] := by simp [part]
  unfold made
  rw [this]
  rfl
theorem Laid.fresh (h1 : 1 ≤ N) (h2 : N ≤ 4096) (h : a + n ≤ N) : Laid a n N [] (Sec.St.fresh N) :=
  ⟨Sec.St.fresh_ok h1 h2, Sec.St.Seen.fresh N, rfl, rfl, h, Nat.zero_le _, by
    rw [secsL_sec]
    apply List.map_congr_left
    intro i hi
    have hi := List.mem_range.1 hi
    rw [made_zero]
    show List.take 128 (List.drop ((a + i) * 128) (List.replicate (N * 128) 0)) = _
    rw [List.drop_replicate, List.take_replicate]
    congr 1
    omega⟩
theorem Laid.sector (h : Laid a n N S s) {i : Nat} (hi : i < n) : sec s.now (a + i) = made S i := by
  have h1 := h.now
  rw [secsL_sec] at h1
  have h2 := congrArg (fun l => l[i]?) h1
  simp only [List.getElem?_map, List.getElem?_range hi, Option.map_some] at h2
  exact Option.some.inj h2
theorem Laid.of_sector (ok : s.Ok) (seen : s.Seen) (lit : s.lit = false) (nn : s.n = N) (han : a + n ≤ N) (fit : S.length ≤ n * 127) (h : ∀ i, i < n → sec s.now (a + i) = made S i) : Laid a n N S s :=
  ⟨ok, seen, lit, nn, han, fit, by
    rw [secsL_sec]
    exact List.map_congr_left fun i hi => h i (List.mem_range.1 hi)⟩
/-- An Append. -/
theorem Laid.append (h : Laid a n N S s) {m : List UInt8} (hfit : S.length + m.length ≤ n * 127) :
    (puts (todo a n S (S ++ m)) s).1 = 0 ∧ Laid a n N (S ++ m) (puts (todo a n S (S ++ m)) s).2 ∧ (puts (todo a n S (S ++ m)) s).2.good = s.good ∧ (puts (todo a n S (S ++ m)) s).2.loose.length ≤ s.loose.length + n := by
  have hmem : ∀ x ∈ todo a n S (S ++ m), x.1 < s.n ∧ x.2.length = 128 := fun x hx => by
    have := todo_mem x hx
    have := h.han
    have := h.nn
    exact ⟨by omega, by omega⟩
  obtain ⟨k1, k2, k3, k4⟩ := puts_ok (todo a n S (S ++ m)) s h.ok hmem
  obtain ⟨f1, f2, f3, f4⟩ := puts_free (todo a n S (S ++ m)) s h.ok h.lit hmem
  have hl := todo_len (a := a) (n := n) (S := S) (T := S ++ m)
  refine ⟨f1, .of_sector k1 (k4 h.seen) f2 (k2.trans h.nn) h.han (by rw [List.length_append]; exact hfit) (fun i hi => ?_), f3, by omega⟩
  rw [f4, h.sector hi, look2_todo hi]
theorem burn_free (h : s.lit = false) : s.burn = s := by
  cases s
  simp only at h
  subst h
  rfl
/-- Behind all writes made good: a sector has what the last of them wrote. -/
theorem upto_look (hs : s.Ok) : ∀ i, i ≤ s.loose.length → ∀ k, Sec.chunk (s.upto (fun _ => 128) i).1 k = Sec.look (s.loose.take i) k (Sec.chunk s.good k) := by
  intro i
  induction i with
  | zero => exact fun _ _ => rfl
  | succ i ih =>
    intro hi k
    have hm := Sec.St.getD_mem (l := s.loose) (i := i) (by omega)
    have hk := hs.at_ _ hm.2
    have hx := hs.len _ hm.2
    obtain ⟨h1, _⟩ := Sec.St.upto_len hs (fun _ => 128) i (by omega)
    show Sec.chunk (Sec.spl (s.upto (fun _ => 128) i).1 ((s.loose.getD i (0, [])).1 * 128) ((s.loose.getD i (0, [])).2.take 128)) k = _
    rw [List.take_of_length_le (by omega), Sec.chunk_spl h1 hk (by omega), ih (by omega), List.take_succ_eq_append_getElem (show i < s.loose.length by omega), Sec.look_snoc, ← hm.1]
    generalize s.loose.getD i (0, []) = x at hk hx ⊢
    by_cases e : k = x.1
    · rw [if_pos e, if_pos e.symm, List.drop_of_length_le (by rw [List.length_take]; omega), List.append_nil]
    · rw [if_neg e, if_neg (fun h => e h.symm)]
/-- A Sync. -/
theorem Laid.sync (h : Laid a n N S s) : (wsync s).1 = 0 ∧ Laid a n N S (wsync s).2 ∧ (wsync s).2.loose = [] := by
  have hw : wsync s = (0, s.settle fun _ => 128) := by
    unfold wsync
    rw [if_neg (by rw [Sec.St.runs h.lit]; simp), burn_free h.lit]
  rw [hw]
  have hok := h.ok.settle (fun _ => 128)
  refine ⟨rfl, .of_sector hok (Sec.St.Seen.settle h.ok _) h.lit h.nn h.han h.fit (fun i hi => ?_), rfl⟩
  rw [← h.sector hi]
  apply chunk_sec
  rw [hok.read rfl]
  have hn := h.nn
  have ha := h.han
  have h1 := upto_look h.ok s.loose.length (Nat.le_refl _) (a + i)
  rw [List.take_length] at h1
  rw [h.seen (a + i) (by omega)]
  exact h1
/-- A crash in which nothing stays: what was good lies there. -/
theorem Laid.crash (h : s.Ok) (hn : s.n = N) {g : Sec.St} (hg : Laid a n N S g) (hl : g.loose = []) (he : s.good = g.good) : Laid a n N S (s.crash []) := by
  have hok := Sec.St.crash_ok h []
  have hpk : ∀ i, i < s.loose.length → Sec.pk [] i = 0 := fun i _ => by simp [Sec.pk]
  have hgood : (s.crash []).good = s.good := Sec.St.upto_zero (Sec.pk []) hpk s.loose.length (Nat.le_refl _)
  have hnow : (s.crash []).now = (s.crash []).good := hok.read rfl
  refine ⟨hok, fun k _ => by rw [hnow]; rfl, rfl, hn, hg.han, hg.fit, ?_⟩
  rw [hnow, hgood, he, ← hg.ok.read hl]
  exact hg.now
/-- What is there for good, of a disk that is the book's alone. -/
theorem Laid.sure (h : Laid 0 n n S s) (hl : s.loose = []) : s.good = ((List.range n).map (made S)).flatten := by
  rw [← h.ok.read hl, ← h.now]
  exact secs_all (by rw [h.ok.now, h.nn])
end
end Go.Proofs.YtpmhpibbdcifnaaGreat.Book
end
