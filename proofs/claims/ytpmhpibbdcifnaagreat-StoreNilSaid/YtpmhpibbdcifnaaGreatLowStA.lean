/-
  Plain facts of a disk that is let alone and has two streams side by side: what an Append, a Clear, a Sync of the one leave of the other. No program.
  Plain facts of a store's head: its bytes, how many, and what is read of them. No program.
  slices.Delete of the first text of a row that is nobody else's, as the shelf says of it.
  The program's store: fault, halves, other, text, refuse, clear.
  The program's store: what moves, and what stays; Append and Sync of a book at the level of its disk's blocks.
-/
import Derived.Test.YtpmhpibbdcifnaaGreatLowBkP
import Derived.Test.YtpmhpibbdcifnaaGreatWireQ
import Derived.Shelf.Slices.Delete
import Derived.Lib.OwnBridge
import Derived.Test.YtpmhpibbdcifnaaGreatLowPbE
section
namespace Go.Proofs.YtpmhpibbdcifnaaGreat.Book
open Go

section
variable {a n N : Nat} {s : Sec.St}
/-- The sectors from a on are l, on a disk that nothing stands still. -/
structure Lain (a n N : Nat) (l : List (List UInt8)) (s : Sec.St) : Prop where
  ok : s.Ok
  seen : s.Seen
  lit : s.lit = false
  nn : s.n = N
  han : a + n ≤ N
  len : l.length = n
  now : ∀ j, j < n → sec s.now (a + j) = l.getD j []
theorem sec_len (h : s.Ok) {k : Nat} (hk : k < s.n) : (sec s.now k).length = 128 := by
  have := h.now
  unfold sec
  rw [List.length_take, List.length_drop]
  omega
theorem settle_sec (ok : s.Ok) (seen : s.Seen) {k : Nat} (hk : k < s.n) : sec (s.settle fun _ => 128).now k = sec s.now k := by
  apply chunk_sec
  rw [(ok.settle _).read rfl, seen k hk]
  have h1 := upto_look ok s.loose.length (Nat.le_refl _) k
  rw [List.take_length] at h1
  exact h1
theorem inner_lain {step : Nat} {xs : List UInt8} : ∀ (f i : Nat) (r : An), i + f = n → r.bad = false → Lain a n N r.l r.s →
    (inner step xs a f i r).bad = false ∧ Lain a n N (inner step xs a f i r).l (inner step xs a f i r).s ∧ (∀ k, k < a ∨ a + n ≤ k → sec (inner step xs a f i r).s.now k = sec r.s.now k) ∧
      (∀ j, j < n → (inner step xs a f i r).l.getD j [] = if i ≤ j then want step xs (r.l.getD j []) j else r.l.getD j []) ∧ (inner step xs a f i r).s.loose.length ≤ r.s.loose.length + f := by
  intro f
  induction f with
  | zero =>
    intro i r hi hb hL
    refine ⟨hb, hL, fun _ _ => rfl, fun j hj => ?_, Nat.le_refl _⟩
    rw [if_neg (by omega)]
    rfl
  | succ f ih =>
    intro i r hi hb hL
    by_cases h : r.l.getD i [] = want step xs (r.l.getD i []) i
    · rw [inner_same h]
      obtain ⟨k1, k2, k3, k4, k5⟩ := ih (i + 1) r (by omega) hb hL
      refine ⟨k1, k2, k3, fun j hj => ?_, by omega⟩
      rw [k4 j hj]
      by_cases hij : i = j
      · subst hij
        rw [if_neg (by omega), if_pos (Nat.le_refl _)]
        exact h
      · by_cases h2 : i ≤ j
        · rw [if_pos h2, if_pos (by omega)]
        · rw [if_neg h2, if_neg (by omega)]
    · have hn := hL.nn
      have ha := hL.han
      have hin : i < n := by omega
      have hx : (r.l.getD i []).length = 128 := by rw [← hL.now i hin]; exact sec_len hL.ok (by omega)
      obtain ⟨y, hy⟩ : ∃ y, y = want step xs (r.l.getD i []) i := ⟨_, rfl⟩
      have hyl : y.length = 128 := by rw [hy]; exact want_len hx
      rw [inner_put h (Sec.St.runs hL.lit), burn_free hL.lit, ← hy]
      have hk : a + i < r.s.n := by omega
      have hset : ∀ j, (r.l.set i y).getD j [] = if j = i then y else r.l.getD j [] := fun j => by
        rw [List.getD_eq_getElem?_getD, List.getElem?_set]
        by_cases e : i = j
        · subst e
          rw [if_pos rfl, if_pos (by rw [hL.len]; exact hin), if_pos rfl]
          rfl
        · rw [if_neg e, if_neg (fun h => e h.symm), List.getD_eq_getElem?_getD]
      have hL2 : Lain a n N (r.l.set i y) (r.s.put (a + i) y) :=
        ⟨hL.ok.put hk hyl, hL.seen.put hL.ok hk hyl, hL.lit, hn, ha, by rw [List.length_set, hL.len], fun j hj => by
          rw [sec_put hL.ok hk hyl, hset]
          by_cases e : j = i
          · rw [if_pos (by omega), if_pos e]
          · rw [if_neg (by omega), if_neg e, hL.now j hj]⟩
      obtain ⟨k1, k2, k3, k4, k5⟩ := ih (i + 1) ⟨r.bad, r.l.set i y, r.s.put (a + i) y, true⟩ (by omega) hb hL2
      refine ⟨k1, k2, fun k hk2 => ?_, fun j hj => ?_, ?_⟩
      · rw [k3 k hk2]
        show sec (r.s.put (a + i) y).now k = _
        rw [sec_put hL.ok hk hyl, if_neg (by omega)]
      · rw [k4 j hj]
        show (if i + 1 ≤ j then want step xs ((r.l.set i y).getD j []) j else (r.l.set i y).getD j []) = _
        rw [hset]
        by_cases e : j = i
        · subst e
          rw [if_neg (by omega), if_pos rfl, if_pos (Nat.le_refl _)]
          exact hy
        · rw [if_neg e]
          by_cases h2 : i ≤ j
          · rw [if_pos h2, if_pos (by omega)]
          · rw [if_neg h2, if_neg (by omega)]
      · have : (r.s.put (a + i) y).loose.length = r.s.loose.length + 1 := by
          show (r.s.loose ++ [_]).length = _
          simp
        have k5 : _ ≤ (r.s.put (a + i) y).loose.length + f := k5
        omega
theorem stepA_lain {step : Nat} {xs : List UInt8} {l : List (List UInt8)} (h : Lain a n N l s) : ∃ (l' : List (List UInt8)) (s' : Sec.St), stepA step xs a l s = (0, l', s') ∧ Lain a n N l' s' ∧ (∀ k, k < N → k < a ∨ a + n ≤ k → sec s'.now k = sec s.now k) ∧
    (∀ j, j < n → l'.getD j [] = want step xs (l.getD j []) j) ∧ s'.loose.length ≤ s.loose.length + n := by
  obtain rfl := h.len
  have key := inner_lain (step := step) (xs := xs) l.length 0 ⟨false, l, s, false⟩ (by omega) rfl h
  generalize hr : inner step xs a l.length 0 ⟨false, l, s, false⟩ = r at key
  obtain ⟨b, l', s', m⟩ := r
  obtain ⟨k1, k2, k3, k4, k5⟩ : b = false ∧ Lain a l.length N l' s' ∧ (∀ k, k < a ∨ a + l.length ≤ k → sec s'.now k = sec s.now k) ∧
      (∀ j, j < l.length → l'.getD j [] = if 0 ≤ j then want step xs (l.getD j []) j else l.getD j []) ∧ s'.loose.length ≤ s.loose.length + l.length := key
  subst k1
  have k4 : ∀ j, j < l.length → l'.getD j [] = want step xs (l.getD j []) j := fun j hj => by rw [k4 j hj, if_pos (Nat.zero_le _)]
  cases m with
  | false => exact ⟨l', s', stepA_none hr, k2, fun k _ hk => k3 k hk, k4, k5⟩
  | true =>
    refine ⟨l', s'.settle fun _ => 128, by rw [stepA_sync hr (Sec.St.runs k2.lit), burn_free k2.lit], ⟨k2.ok.settle _, Sec.St.Seen.settle k2.ok _, k2.lit, k2.nn, k2.han, k2.len, fun j hj => ?_⟩, fun k hk hk2 => ?_, k4, by show 0 ≤ _; omega⟩
    · have := k2.nn
      have := k2.han
      rw [settle_sec k2.ok k2.seen (by omega), k2.now j hj]
    · have := k2.nn
      rw [settle_sec k2.ok k2.seen (by omega), k3 k hk2]
theorem Laid.lain {S : List UInt8} (h : Laid a n N S s) : Lain a n N ((List.range n).map (made S)) s :=
  ⟨h.ok, h.seen, h.lit, h.nn, h.han, by simp, fun j hj => by rw [h.sector hj]; simp [List.getD, hj]⟩
/-- A stream, beside what was written on other sectors. -/
theorem Laid.beside {b m : Nat} {T : List UInt8} {s' : Sec.St} (h : Laid b m N T s) (ok : s'.Ok) (seen : s'.Seen) (lit : s'.lit = false) (nn : s'.n = N) (hs : ∀ k, b ≤ k → k < b + m → sec s'.now k = sec s.now k) : Laid b m N T s' :=
  .of_sector ok seen lit nn h.han h.fit fun i hi => by rw [hs _ (by omega) (by omega), h.sector hi]
/-- A Clear. -/
theorem Laid.clear {S T : List UInt8} {b m : Nat} (h : Laid a n N S s) (h2 : Laid b m N T s) (hd : a + n ≤ b ∨ b + m ≤ a) :
    ∃ s', (anew [] a (secsL s.now a n) s).1 = 0 ∧ (anew [] a (secsL s.now a n) s).2.2 = s' ∧ Laid a n N [] s' ∧ Laid b m N T s' ∧ s'.loose.length ≤ s.loose.length + 2 * n := by
  obtain ⟨l1, s1, e1, k1, k2, k3, k4⟩ := stepA_lain (step := 0) (xs := []) h.lain
  obtain ⟨l2, s2, e2, m1, m2, m3, m4⟩ := stepA_lain (step := 1) (xs := []) k1
  have hst : steps [] a ((List.range n).map (made S)) s 1 = (0, l1, s1) := by
    rw [steps, steps, if_pos rfl]
    exact e1
  have hfin : anew [] a (secsL s.now a n) s = (0, l2, s2) := by
    unfold anew
    rw [h.now, steps_next hst]
    exact e2
  have hb := h2.han
  have ha := h.han
  refine ⟨s2, by rw [hfin], by rw [hfin], .of_sector m1.ok m1.seen m1.lit m1.nn ha (Nat.zero_le _) (fun i hi => ?_), h2.beside m1.ok m1.seen m1.lit m1.nn (fun k hk hk2 => ?_), by omega⟩
  · rw [m1.now i hi, m3 i hi]
    unfold want
    rw [if_neg (by omega)]
  · rw [m2 k (by omega) (by omega), k2 k (by omega) (by omega)]
theorem look2_none {l : List (Nat × List UInt8)} {k : Nat} {g : List UInt8} (h : ∀ x ∈ l, x.1 ≠ k) : look2 l k g = g := by
  unfold look2
  induction l generalizing g with
  | nil => rfl
  | cons x l ih =>
    rw [List.foldl_cons, if_neg (h x (List.mem_cons_self ..))]
    exact ih fun y hy => h y (List.mem_cons_of_mem _ hy)
/-- An Append beside. -/
theorem Laid.append2 {S T m : List UInt8} {b q : Nat} (h : Laid a n N S s) (h2 : Laid b q N T s) (hd : a + n ≤ b ∨ b + q ≤ a) (hfit : S.length + m.length ≤ n * 127) : Laid b q N T (puts (todo a n S (S ++ m)) s).2 := by
  obtain ⟨_, l2, _, _⟩ := h.append hfit
  have hmem : ∀ x ∈ todo a n S (S ++ m), x.1 < s.n ∧ x.2.length = 128 := fun x hx => by
    have := todo_mem x hx
    have := h.han
    have := h.nn
    exact ⟨by omega, by omega⟩
  have hge : ∀ x ∈ todo a n S (S ++ m), a ≤ x.1 ∧ x.1 < a + n := fun x hx => by
    refine ⟨?_, (todo_mem x hx).1⟩
    unfold todo at hx
    obtain ⟨i, hi, rfl⟩ := List.mem_map.1 hx
    exact Nat.le_add_right _ _
  obtain ⟨_, _, _, f4⟩ := puts_free (todo a n S (S ++ m)) s h.ok h.lit hmem
  refine h2.beside l2.ok l2.seen l2.lit l2.nn fun k hk hk2 => ?_
  rw [f4, look2_none]
  intro x hx
  have := hge x hx
  omega
theorem Laid.sync2 {T : List UInt8} {b q : Nat} (h2 : Laid b q N T s) : Laid b q N T (wsync s).2 := h2.sync.2.1
theorem wsync_loose {S : List UInt8} (h : Laid a n N S s) : (wsync s).2.loose = [] := h.sync.2.2
end
end Go.Proofs.YtpmhpibbdcifnaaGreat.Book
end

section
namespace Go.Proofs.YtpmhpibbdcifnaaGreat.Store
open Go

/-- A head's bytes: its generation, its snapshot. -/
def hd (g : Nat) (t : ByteArray) : List UInt8 := Lib.uvarint g ++ (Lib.uvarint t.size ++ t.data.toList)
theorem hd_eq (g : Nat) (t : ByteArray) : uBytes [g] ++ tBytes [t] = hd g t := by
  unfold hd uBytes tBytes
  simp
theorem hd_cat (g : Nat) (t : ByteArray) : (⟨(uBytes [g]).toArray⟩ : ByteArray) ++ ⟨(tBytes [t]).toArray⟩ = ⟨(hd g t).toArray⟩ := by
  rw [← hd_eq]
  apply ByteArray.ext
  rw [ByteArray.data_append]
  apply Array.ext'
  simp
theorem hd_len {g : Nat} {t : ByteArray} (hg : g < 18446744073709551616) (ht : t.size < 18446744073709551616) : (hd g t).length ≤ 20 + t.size := by
  have h1 := Lib.uvarint_length64 hg
  have h2 := Lib.uvarint_length64 ht
  have lt : t.data.toList.length = t.size := by simp
  unfold hd
  rw [List.length_append, List.length_append, lt]
  omega
theorem hd_raw {g : Nat} {t : ByteArray} (hg : g < 18446744073709551616) (ht : t.size < 1048576) : (Frame.raw 1 (hd g t)).length ≤ 36 + t.size := by
  have h1 := hd_len hg (by omega : t.size < 18446744073709551616)
  have h2 := Lib.uvarint_length64 (x := (hd g t).length) (by omega)
  rw [Frame.raw_length]
  omega
theorem mk_sz (l : List UInt8) : (⟨l.toArray⟩ : ByteArray).size = l.length := by show l.toArray.size = _; simp
/-- What is read of it: the generation, then the snapshot, then its end. -/
theorem hd_read {g : Nat} {t : ByteArray} (hg : g ≤ 4611686018427387904) (ht : t.size ≤ 65536) : ∃ s1 s2, Wire.step (Wire.wU 4611686018427387904) ⟨(hd g t).toArray⟩ 0 = (g, s1, 0) ∧ Wire.text 65536 s1 0 = (t, s2, 0) ∧ Wire.fin s2 0 = 0 ∧ s1.size ≤ 70000 ∧ s2.size ≤ 70000 := by
  have lt : t.data.toList.length = t.size := by simp
  have hlen := hd_len (g := g) (t := t) (by omega) (by omega)
  have hs : (⟨(hd g t).toArray⟩ : ByteArray).data.toList = Lib.uvarint g ++ (Lib.uvarint t.size ++ t.data.toList) := by show (hd g t).toArray.toList = _; simp [hd]
  have hsz : (⟨(hd g t).toArray⟩ : ByteArray).size = (hd g t).length := by show (hd g t).toArray.size = _; simp
  generalize (⟨(hd g t).toArray⟩ : ByteArray) = s at hs hsz
  have hr := Num.rd_uv g (by omega) (Lib.uvarint t.size ++ t.data.toList)
  rw [← hs] at hr
  have e1 := Wire.step_ok (wrong := Wire.wU 4611686018427387904) hr (Wire.wU_no (by omega))
  obtain ⟨s1, hs1⟩ : ∃ s1, s1 = s.extract (Lib.uvarint g).length s.size := ⟨_, rfl⟩
  rw [← hs1] at e1
  have hd1 : s1.data.toList = Lib.uvarint t.size ++ t.data.toList := by rw [hs1, Wire.rest_data, hs, List.drop_left]
  have hz1 : s1.size = (Lib.uvarint t.size).length + t.size := by rw [Wire.size_of, hd1, List.length_append, lt]
  have hle1 : s1.size ≤ s.size := by rw [hs1, ByteArray.size_extract]; omega
  have hr2 := Num.rd_uv t.size (by omega) t.data.toList
  rw [← hd1] at hr2
  have e2 := Wire.step_ok (wrong := Wire.wC 65536) hr2 (Wire.wC_ok (by omega) (by omega))
  have hd2 : (s1.extract (Lib.uvarint t.size).length s1.size).data.toList = t.data.toList := by rw [Wire.rest_data, hd1, List.drop_left]
  have e3 : Wire.text 65536 s1 0 = (t, (s1.extract (Lib.uvarint t.size).length s1.size).extract t.size (s1.extract (Lib.uvarint t.size).length s1.size).size, 0) := by
    unfold Wire.text
    rw [e2]
    simp only []
    congr 1
    apply ByteArray.ext
    apply Array.ext'
    rw [Lib.extract_data, Nat.sub_zero, List.drop_zero, hd2, ← lt, List.take_length]
  refine ⟨s1, _, e1, e3, ?_, by omega, by simp only [ByteArray.size_extract]; omega⟩
  unfold Wire.fin
  rw [if_neg (by simp), if_pos]
  rw [Wire.size_of, Wire.rest_data, hd2, ← lt, List.drop_length]
  rfl

/-- Half i has the stream S, the other one T. -/
structure Halves (i h N : Nat) (S T : List UInt8) (s : Sec.St) : Prop where
  i2 : i ≤ 1
  h1 : 1 ≤ h
  hn : N / 2 = h
  here : Book.Laid (i * h) h N S s
  there : Book.Laid ((1 - i) * h) h N T s
section
variable {i h N : Nat} {S T : List UInt8} {s : Sec.St}
theorem Halves.sep (H : Halves i h N S T s) : i * h + h ≤ (1 - i) * h ∨ (1 - i) * h + h ≤ i * h := by
  have := H.i2
  rcases (by omega : i = 0 ∨ i = 1) with rfl | rfl
  · exact .inl (by simp)
  · exact .inr (by simp)
theorem Halves.swap (H : Halves i h N S T s) : Halves (1 - i) h N T S s :=
  ⟨by omega, H.h1, H.hn, H.there, by have := H.i2; rw [show 1 - (1 - i) = i by omega]; exact H.here⟩
theorem Halves.fresh (h1 : 1 ≤ h) (hN : N / 2 = h) (h2 : N ≤ 4096) : Halves 0 h N [] [] (Sec.St.fresh N) :=
  ⟨by omega, h1, hN, .fresh (by omega) h2 (by omega), .fresh (by omega) h2 (by omega)⟩
theorem Halves.append {m : List UInt8} (H : Halves i h N S T s) (hfit : S.length + m.length ≤ h * 127) :
    (Book.puts (Book.todo (i * h) h S (S ++ m)) s).1 = 0 ∧ Halves i h N (S ++ m) T (Book.puts (Book.todo (i * h) h S (S ++ m)) s).2 ∧ (Book.puts (Book.todo (i * h) h S (S ++ m)) s).2.good = s.good ∧ (Book.puts (Book.todo (i * h) h S (S ++ m)) s).2.loose.length ≤ s.loose.length + h := by
  obtain ⟨k1, k2, k3, k4⟩ := H.here.append hfit
  exact ⟨k1, ⟨H.i2, H.h1, H.hn, k2, H.here.append2 H.there H.sep hfit⟩, k3, k4⟩
theorem Halves.sync (H : Halves i h N S T s) : (Book.wsync s).1 = 0 ∧ Halves i h N S T (Book.wsync s).2 ∧ (Book.wsync s).2.loose = [] :=
  ⟨H.here.sync.1, ⟨H.i2, H.h1, H.hn, H.here.sync.2.1, H.there.sync.2.1⟩, H.here.sync.2.2⟩
theorem Halves.crash {g : Sec.St} (ok : s.Ok) (nn : s.n = N) (H : Halves i h N S T g) (hl : g.loose = []) (he : s.good = g.good) : Halves i h N S T (s.crash []) :=
  ⟨H.i2, H.h1, H.hn, .crash ok nn H.here hl he, .crash ok nn H.there hl he⟩
theorem Halves.clear (H : Halves i h N S T s) : ∃ s', (Book.anew [] (i * h) (Book.secsL s.now (i * h) h) s).1 = 0 ∧ (Book.anew [] (i * h) (Book.secsL s.now (i * h) h) s).2.2 = s' ∧ Halves i h N [] T s' ∧ s'.loose.length ≤ s.loose.length + 2 * h := by
  obtain ⟨s', k1, k2, k3, k4, k5⟩ := H.here.clear H.there H.sep
  exact ⟨s', k1, k2, ⟨H.i2, H.h1, H.hn, k3, k4⟩, k5⟩
end
end Go.Proofs.YtpmhpibbdcifnaaGreat.Store
end

section
namespace Go.Proofs.YtpmhpibbdcifnaaGreat
open Go.Shelf Go.RowKit
def Sh.laysDel_ren : Go.Shelf.Ren := ⟨fun | 24 => 33 | n => n, fun | 0 => 0 | 3 => 3 | 4 => 4 | 9 => 9 | 24 => 25 | n => n, fun | n => n⟩
theorem Sh.laysDel : Go.Proofs.Lays2.n24 Tryz.prog Sh.laysDel_ren := {
  mixed := by kernel_rfl
  f24 := Tryz.func33.trans (congrArg some (by kernel_rfl))
  t0 := Tryz.underlying0
  a0 := Tryz.isAgg0
  z0 := Tryz.sizeOf0
  v0 := Tryz.zeroValue0
  t3 := Tryz.underlying3
  a3 := Tryz.isAgg3
  z3 := Tryz.sizeOf3
  v3 := Tryz.zeroValue3
  t4 := Tryz.underlying4
  a4 := Tryz.isAgg4
  z4 := Tryz.sizeOf4
  v4 := Tryz.zeroValue4
  t9 := Tryz.underlying9
  a9 := Tryz.isAgg9
  z9 := Tryz.sizeOf9
  v9 := Tryz.zeroValue9
  t24 := Tryz.underlying25
  a24 := Tryz.isAgg25
  z24 := Tryz.sizeOf25
  v24 := Tryz.zeroValue25
  i9 := by kernel_rfl }

theorem tcells_enc (l : List (List UInt8)) : tcells (l.map fun x => ⟨x.toArray⟩) = l.map encStr := by
  unfold tcells
  rw [List.map_map]
  rfl

theorem sdelete (x : List UInt8) (r : List (List UInt8)) (base : Nat) (A : Option Addr) (c : Nat) (w : World) (h : w.ownsRow base 9 1 (.slice A (r.length + 1) c) (r.length + 1) (tcells ((x :: r).map fun x => ⟨x.toArray⟩))) :
    Calls Tryz.prog 33 #[.slice A (r.length + 1) c, .int .i64 0, .int .i64 1] w fun e w' => ∃ g, A = some ⟨g, 0, none⟩ ∧ base ≤ g ∧ g < w.heap.size ∧ e = .returned (.slice A r.length c) ∧
      w'.ownsRow base 9 1 (.slice A r.length c) r.length (tcells (r.map fun x => ⟨x.toArray⟩)) ∧ w.grownBy w' (some g) := by
  rw [tcells_enc] at h
  obtain ⟨g, cap, e1, hg, hlt, hnc, hcm, hl, hH⟩ := Lib.holds_of_ownsRow h (by intro e; injection e with _ e2; omega)
  injection e1 with e1 _ e3
  subst e1
  subst e3
  have key := Any.slices_Delete_string Sh.laysDel g 0 c 0 1 (x :: r) w hH (by simpa using hnc) (by unfold maxLen at hcm; omega) (by omega) (by simp)
  refine Calls.mono key ?_
  rintro e w' ⟨he, q, hw⟩
  have hown := Lib.ownsRow_putRow (q := q) (k := r.length) (ys := r ++ [[]]) h (by simp) (by omega)
  have ey : (List.take 0 (x :: r) ++ List.drop 1 (x :: r) ++ List.replicate (1 - 0) ([] : List UInt8)) = r ++ [[]] := by simp
  rw [ey] at hw
  rw [← hw] at hown
  refine ⟨g, rfl, hg, hlt, ?_, ?_, ?_⟩
  · rw [he]; rfl
  · rw [tcells_enc]
    rwa [List.take_left] at hown
  · rw [hw]
    exact ⟨rfl, rfl, rfl, by simp [Sort.putRow, Sort.mapBlock, Sort.ahead], fun k _ hne => by
      have hk : k ≠ g := fun e => hne (by rw [e])
      show ((w.heap).modify g _)[k]? = _
      rw [Array.getElem?_modify, if_neg (fun e => hk e.symm)]⟩
end Go.Proofs.YtpmhpibbdcifnaaGreat
end

section
namespace Go.Proofs.YtpmhpibbdcifnaaGreat
open Go.RowKit
attribute [local go_sem ↓] Go.wp_at_zero Go.wp_at_succ

set_option maxHeartbeats 1000000 in
theorem sfault (D : Sec.Bl) (s : Sec.St) (w : World) (h : Sec.At D s w) (hs : s.Ok) (h2 : 2 ≤ s.n) :
    Calls Tryz.prog 16 #[.pointer (some ⟨D.b, 0, none⟩)] w fun e w' => e = .returned (.int .i64 0) ∧ w = w' := by
  have hn2 := hs.n2
  have h0 : ((s.n : Int) == 0) = false := by rw [beq_eq_false_iff_ne]; omega
  have h3 : decide ((s.n : Int) < 2) = false := by simp; omega
  have HL : Hid (∀ wx, Sec.At D s wx → Calls Tryz.prog 30 #[.pointer (some ⟨D.b, 0, none⟩)] wx fun e w' => e = .returned (.int .i64 (s.n : Int)) ∧ wx = w') := fun wx hx => sec_len D s wx hx hs
  have H := Lib.hid h
  clear h hs h2
  go_enter Tryz.func16, Tryz.ntmps16
  go_wp2_with fail
  refine (HL.out _ H.out).mono ?_
  rintro e w' ⟨rfl, rfl⟩
  go_wp2_with fail
  go_ret
  exact ⟨rfl, rfl⟩
set_option maxHeartbeats 1000000 in
theorem sfault_nil (w : World) :
    Calls Tryz.prog 16 #[.pointer none] w fun e w' => e = .returned (.int .i64 1) ∧ w = w' := by
  go_enter Tryz.func16, Tryz.ntmps16
  go_wp2_with fail
  refine (sec_len_nil _).mono ?_
  rintro e w' ⟨rfl, rfl⟩
  go_wp2_with fail
  go_ret
  exact ⟨rfl, rfl⟩
set_option maxHeartbeats 1000000 in
theorem shalves (D : Sec.Bl) (s : Sec.St) (w : World) (h : Sec.At D s w) (hs : s.Ok) (m : Nat) (hm : s.n / 2 = m) :
    Calls Tryz.prog 17 #[.pointer (some ⟨D.b, 0, none⟩)] w fun e w' => e = .returned (.agg #[.pointer (some ⟨D.b, 0, none⟩), .int .i64 0, .int .i64 (m : Int), .pointer (some ⟨D.b, 0, none⟩), .int .i64 (m : Int), .int .i64 (m : Int)]) ∧ Below w.heap.size w w' := by
  have hn2 := hs.n2
  have hdiv : Int.tdiv (s.n : Int) 2 = (m : Int) := by
    rw [Int.tdiv_eq_ediv_of_nonneg (by omega)]
    omega
  have hw3 : IntKind.i64.wrap (m : Int) = (m : Int) := by rw [IntKind.wrap_i64]; omega
  have HL : Hid (∀ wx, Sec.At D s wx → Calls Tryz.prog 30 #[.pointer (some ⟨D.b, 0, none⟩)] wx fun e w' => e = .returned (.int .i64 (s.n : Int)) ∧ wx = w') := fun wx hx => sec_len D s wx hx hs
  have H := Lib.hid h
  clear h hs hm
  go_enter Tryz.func17, Tryz.ntmps17
  go_wp2_with fail
  refine (HL.out _ (H.out.below ((Below.refl _ _).alloc (Nat.le_refl _) _))).mono ?_
  rintro e w' ⟨rfl, rfl⟩
  go_wp2_with fail
  refine bodyPost_ret (v := .agg #[.pointer (some ⟨D.b, 0, none⟩), .int .i64 0, .int .i64 (m : Int), .pointer (some ⟨D.b, 0, none⟩), .int .i64 (m : Int), .int .i64 (m : Int)]) (by simp [results, Tryz.results17, go_sem]) rfl ⟨rfl, ?_⟩
  repeat (first | with_reducible exact Below.refl _ _ | with_reducible refine Below.setCell ?_ ?_ _ | with_reducible refine Below.alloc ?_ ?_ _)
  all_goals (first | exact Nat.le_refl _ | (simp; done) | (simp; omega))
set_option maxHeartbeats 1000000 in
theorem sother (b a n a' : Nat) (ha : a ≤ 4096) (hn : n ≤ 4096) (h' : (n : Int) - (a : Int) = (a' : Int)) (w : World) :
    Calls Tryz.prog 25 #[.agg #[.pointer (some ⟨b, 0, none⟩), .int .i64 (a : Int), .int .i64 (n : Int)]] w fun e w' => e = .returned (.agg #[.pointer (some ⟨b, 0, none⟩), .int .i64 (a' : Int), .int .i64 (n : Int)]) ∧ Below w.heap.size w w' := by
  have hw3 : IntKind.i64.wrap (a' : Int) = (a' : Int) := by rw [IntKind.wrap_i64]; omega
  go_enter Tryz.func25, Tryz.ntmps25
  go_wp2_with fail
  refine bodyPost_ret (v := .agg #[.pointer (some ⟨b, 0, none⟩), .int .i64 (a' : Int), .int .i64 (n : Int)]) (by simp [results, Tryz.results25, go_sem]) rfl ⟨rfl, ?_⟩
  repeat (first | with_reducible exact Below.refl _ _ | with_reducible refine Below.setCell ?_ ?_ _ | with_reducible refine Below.alloc ?_ ?_ _)
  all_goals (first | exact Nat.le_refl _ | (simp; done) | (simp; omega))
theorem hd_parts (g : Nat) (t : ByteArray) (hg : g < 18446744073709551616) (ht : t.size ≤ 1000000) : (⟨(uBytes [g]).toArray⟩ : ByteArray).size ≤ 10 ∧ (⟨(tBytes [t]).toArray⟩ : ByteArray).size ≤ 1000010 := by
  have h1 := Lib.uvarint_length64 hg
  have h2 := Lib.uvarint_length64 (x := t.size) (by omega)
  have lt : t.data.toList.length = t.size := by simp
  rw [Store.mk_sz, Store.mk_sz]
  unfold uBytes tBytes
  simp only [List.flatMap_cons, List.flatMap_nil, List.append_nil, List.length_append]
  omega
set_option maxHeartbeats 2000000 in
theorem htext (g : Nat) (t : ByteArray) (hg : g < 18446744073709551616) (ht : t.size ≤ 1000000) (w : World) :
    Calls Tryz.prog 35 #[.agg #[.int .u64 (g : Int), .string t]] w fun e w' => e = .returned (.string ⟨(Store.hd g t).toArray⟩) ∧ Below w.heap.size w w' := by
  have hU : ∀ (W : World) (B : Nat), W.cell? ⟨B, 0, none⟩ = some (.int .u64 (g : Int)) → B < W.heap.size → Calls Tryz.prog 59 #[.slice (some ⟨B, 0, none⟩) 1 1] W fun e w' => e = .returned (.string ⟨(uBytes [g]).toArray⟩) ∧ Below W.heap.size W w' := fun W B h hB => by
    refine uints_any [g] (some ⟨B, 0, none⟩) 1 W (fun _ => ⟨_, rfl, hB, fun j u hu => ?_⟩) (by simp) (by simpa using hg)
    have : j = 0 := by have := (List.getElem?_eq_some_iff.1 hu).1; simp [u64s] at this; exact this
    subst this
    rw [show u64s [g] = [.int .u64 (g : Int)] from rfl] at hu
    cases hu
    exact h
  have hT : ∀ (W : World) (B : Nat), W.cell? ⟨B, 0, none⟩ = some (.string t) → B < W.heap.size → Calls Tryz.prog 60 #[.slice (some ⟨B, 0, none⟩) 1 1] W fun e w' => e = .returned (.string ⟨(tBytes [t]).toArray⟩) ∧ Below W.heap.size W w' := fun W B h hB =>
    texts_big [t] (some ⟨B, 0, none⟩) 1 W (lies_one W B _ h hB) (by simp) (by intro x hx; simp at hx; subst hx; omega)
  have hcat := Store.hd_cat g t
  have hl1 := hd_parts g t hg (by omega)
  obtain ⟨U, hUe⟩ : ∃ U, U = (⟨(uBytes [g]).toArray⟩ : ByteArray) := ⟨_, rfl⟩
  obtain ⟨V, hVe⟩ : ∃ V, V = (⟨(tBytes [t]).toArray⟩ : ByteArray) := ⟨_, rfl⟩
  rw [← hUe] at hU hcat hl1
  rw [← hVe] at hT hcat hl1
  have HU := Lib.hid hU
  have HT := Lib.hid hT
  have HC := Lib.hid hcat
  obtain ⟨l1, l2⟩ := hl1
  have hL2 : ∀ a : Nat, a < a + 1 + 1 := fun a => by omega
  clear hU hT hcat hUe hVe hg ht
  go_enter Tryz.func35, Tryz.ntmps35
  go_wp2_with fail
  go_region_with (first
    | (go_at_call 59; refine (HU.out _ _ (by simp [go_sem, *]) (by first | omega | (simp; done) | (simp; omega))).mono ?_; rintro e w1 ⟨rfl, hb⟩; obtain ⟨hcl, hfr⟩ := kept_cells hb; have hz := hb.size; (try simp at hz))
    | (go_at_call 60; refine (HT.out _ _ (by simp [go_sem, *]) (by first | omega | (simp; done) | (simp; omega))).mono ?_; rintro e w2 ⟨rfl, hb2⟩; obtain ⟨hcl2, hfr2⟩ := kept_cells hb2; have hz2 := hb2.size; (try simp at hz2)))
  all_goals
    simp only [Exit.then]
    go_at_K
    go_wp2_with fail
    go_ret
    refine ⟨congrArg (fun x => Ending.returned (Value.string x)) HC.out, ?_⟩
    first
    | (have hU : Below w.heap.size w w1 := by
        refine Below.trans ?_ (hb.mono ?_)
        · repeat (first | with_reducible exact Below.refl _ _ | with_reducible refine Below.drew ?_ | with_reducible refine Below.alloc ?_ ?_ _)
          all_goals (first | exact Nat.le_refl _ | (simp; done) | (simp; omega))
        · first | exact Nat.le_refl _ | (simp; done) | (simp; omega)
       have hs1 := hU.size
       have hV : Below w.heap.size w w2 := by
        refine Below.trans ?_ (hb2.mono ?_)
        · repeat (first | with_reducible exact hU | with_reducible refine Below.drew ?_ | with_reducible refine Below.alloc ?_ ?_ _)
          all_goals (first | exact hs1 | (simp; done) | (simp; omega))
        · first | exact hs1 | (simp; done) | (simp; omega)
       have hs2 := hV.size
       repeat (first | with_reducible exact hV | with_reducible refine Below.drew ?_ | with_reducible refine Below.alloc ?_ ?_ _)
       all_goals (first | exact hs2 | (simp; done) | (simp; omega)))
    | (have hU : Below w.heap.size w w2 := by
        refine Below.trans ?_ (hb2.mono ?_)
        · repeat (first | with_reducible exact Below.refl _ _ | with_reducible refine Below.drew ?_ | with_reducible refine Below.alloc ?_ ?_ _)
          all_goals (first | exact Nat.le_refl _ | (simp; done) | (simp; omega))
        · first | exact Nat.le_refl _ | (simp; done) | (simp; omega)
       have hs1 := hU.size
       have hV : Below w.heap.size w w1 := by
        refine Below.trans ?_ (hb.mono ?_)
        · repeat (first | with_reducible exact hU | with_reducible refine Below.drew ?_ | with_reducible refine Below.alloc ?_ ?_ _)
          all_goals (first | exact hs1 | (simp; done) | (simp; omega))
        · first | exact hs1 | (simp; done) | (simp; omega)
       have hs2 := hV.size
       repeat (first | with_reducible exact hV | with_reducible refine Below.drew ?_ | with_reducible refine Below.alloc ?_ ?_ _)
       all_goals (first | exact hs2 | (simp; done) | (simp; omega)))
set_option maxHeartbeats 2000000 in
theorem srefuse (b a n : Nat) (g : Nat) (t : ByteArray) (hg : g ≤ 4611686018427387904) (ht : t.size ≤ 65536) (hn : n ≤ 4096) (hfit : (Frame.raw 1 (Store.hd g t)).length ≤ n * 127) (w : World) :
    Calls Tryz.prog 19 #[.agg #[.pointer (some ⟨b, 0, none⟩), .int .i64 (a : Int), .int .i64 (n : Int)], .agg #[.int .u64 (g : Int), .string t]] w fun e w' => e = .returned (.int .i64 0) ∧ Below w.heap.size w w' := by
  have hlen := Store.hd_len (g := g) (t := t) (by omega) (by omega)
  obtain ⟨L, hL⟩ : ∃ L, L = (Frame.raw 1 (Store.hd g t)).length := ⟨_, rfl⟩
  rw [← hL] at hfit
  obtain ⟨X, hX⟩ : ∃ X, X = (⟨(Store.hd g t).toArray⟩ : ByteArray) := ⟨_, rfl⟩
  have hXs : X.size = (Store.hd g t).length := by rw [hX]; exact Store.mk_sz _
  have hf : Frame.fsz (X.size : Int) = (L : Int) := by
    rw [hXs, hL, Frame.raw_length]
    unfold Frame.fsz
    rw [if_neg (by omega)]
    simp
  have HTXT : Hid (∀ wx : World, Calls Tryz.prog 35 #[.agg #[.int .u64 (g : Int), .string t]] wx fun e w' => e = .returned (.string X) ∧ Below wx.heap.size wx w') := fun wx => by
    rw [hX]; exact htext g t (by omega) (by omega) wx
  have HSZ : Hid (∀ wx : World, Calls Tryz.prog 34 #[.int .i64 (X.size : Int)] wx fun e w' => e = .returned (.int .i64 (L : Int)) ∧ wx = w') := fun wx => by
    have := fsize_any (X.size : Int) wx (by omega) (by omega)
    rw [hf] at this
    exact this
  have h1 : decide ((65536 : Int) < (t.size : Int)) = false := by simp; omega
  have h2 : decide ((4611686018427387904 : Int) < (g : Int)) = false := by simp; omega
  have h3 : decide ((n : Int) * 127 < (L : Int)) = false := by simp; omega
  have hw : IntKind.i64.wrap ((n : Int) * 127) = (n : Int) * 127 := by rw [IntKind.wrap_i64]; omega
  clear hL hX hXs hf hlen
  go_enter Tryz.func19, Tryz.ntmps19
  go_wp2_with fail
  obtain ⟨W, hW⟩ : ∃ W, W = (w.alloc (.cells #[.pointer (some ⟨b, 0, none⟩), .int .i64 (a : Int), .int .i64 (n : Int)] 44)).alloc (.cells #[.int .u64 (g : Int), .string t] 56) := ⟨_, rfl⟩
  have hcs : W.cell? ⟨w.heap.size, 2, none⟩ = some (.int .i64 (n : Int)) ∧ W.cell? ⟨w.heap.size + 1, 0, none⟩ = some (.int .u64 (g : Int)) ∧ W.cell? ⟨w.heap.size + 1, 1, none⟩ = some (.string t) := by
    rw [hW]
    simp [go_sem]
  have hbW : Below w.heap.size w W := by rw [hW]; exact ((Below.refl _ _).alloc (Nat.le_refl _) _).alloc (by simp) _
  have hsz : w.heap.size + 2 ≤ W.heap.size := by rw [hW]; simp
  rw [← hW]
  have HBW := Lib.hid hbW
  clear hW hbW
  have HC2 : Hid (∀ wx, Below W.heap.size W wx → wx.cell? ⟨w.heap.size, 2, none⟩ = some (.int .i64 (n : Int)) ∧ wx.cell? ⟨w.heap.size + 1, 0, none⟩ = some (.int .u64 (g : Int)) ∧ wx.cell? ⟨w.heap.size + 1, 1, none⟩ = some (.string t)) := fun wx hb =>
    ⟨(hb.cell (by show w.heap.size < _; omega)).trans hcs.1, (hb.cell (by show w.heap.size + 1 < _; omega)).trans hcs.2.1, (hb.cell (by show w.heap.size + 1 < _; omega)).trans hcs.2.2⟩
  go_region_held3 (fun w' => w'.cell? ⟨w.heap.size, 2, none⟩ = some (.int .i64 (n : Int)) ∧ w'.cell? ⟨w.heap.size + 1, 0, none⟩ = some (.int .u64 (g : Int)) ∧ w'.cell? ⟨w.heap.size + 1, 1, none⟩ = some (.string t))
    (first | assumption | exact hcs | exact HC2.out _ (Below.refl _ _).drew | exact HC2.out _ ((Below.refl _ _).drew.trans hb1)) (first
    | (go_at_call 35; refine (HTXT.out _).mono ?_; rintro e w1 ⟨rfl, hb1⟩)
    | (go_at_call 34; refine (HSZ.out _).mono ?_; rintro e w2 ⟨rfl, rfl⟩))
  all_goals
    simp only [Exit.then]
    go_at_K
    go_wp2_with fail
    go_ret
    exact ⟨rfl, HBW.out.trans (((Below.refl _ _).drew.trans hb1).mono HBW.out.size)⟩
end Go.Proofs.YtpmhpibbdcifnaaGreat
end

section
namespace Go.Proofs.YtpmhpibbdcifnaaGreat
open Go.RowKit
attribute [local go_sem ↓] Go.wp_at_zero Go.wp_at_succ

namespace Store
/-- A call that works on a disk and on blocks X beside: what is off the disk, and none of X, stays. -/
structure Mx (X : Nat → Prop) (D D' : Sec.Bl) (w w' : World) : Prop where
  os : w'.os = w.os
  tape : w'.tape = w.tape
  output : w'.output = w.output
  size : w.heap.size ≤ w'.heap.size
  block : ∀ i, i < w.heap.size → D.off i → ¬ X i → w'.heap[i]? = w.heap[i]?
  keep : ∀ i, i < w.heap.size → D.off i → D'.off i
  b : D'.b = D.b
  lo : D'.lo = D.lo
def no : Nat → Prop := fun _ => False
section
variable {X Y : Nat → Prop} {D D' D'' : Sec.Bl} {w w1 w2 : World} {s : Sec.St}
theorem Mx.of_moves (h : Sec.Moves D D' w w1) : Mx X D D' w w1 := ⟨h.os, h.tape, h.output, h.size, fun i hi ho _ => h.block i hi ho, fun _ hi ho => h.off hi ho, h.b, h.lo⟩
theorem Mx.of_below (h : Below w.heap.size w w1) : Mx X D D w w1 := .of_moves (.of_below h)
theorem Mx.of_mvb {B : Nat} (h : Book.Mvb D D' B w w1) : Mx (fun i => i = B) D D' w w1 := ⟨h.os, h.tape, h.output, h.size, fun i hi ho hx => h.block i hi ho hx, h.keep, h.b, h.lo⟩
theorem Mx.of_grown {B : Nat} (h : w.grownBy w1 (some B)) : Mx (fun i => i = B) D D w w1 := ⟨h.os, h.tape, h.output, h.size, fun i hi _ hx => h.block i hi (fun e => hx (Option.some.inj e)), fun _ _ h => h, rfl, rfl⟩
theorem Mx.trans (h : Mx X D D' w w1) (k : Mx X D' D'' w1 w2) : Mx X D D'' w w2 :=
  ⟨k.os.trans h.os, k.tape.trans h.tape, k.output.trans h.output, Nat.le_trans h.size k.size,
    fun i hi ho hx => (k.block i (Nat.lt_of_lt_of_le hi h.size) (h.keep i hi ho) hx).trans (h.block i hi ho hx),
    fun i hi ho => k.keep i (Nat.lt_of_lt_of_le hi h.size) (h.keep i hi ho), k.b.trans h.b, k.lo.trans h.lo⟩
theorem Mx.mono (h : Mx X D D' w w1) (hxy : ∀ i, i < w.heap.size → X i → Y i) : Mx Y D D' w w1 := ⟨h.os, h.tape, h.output, h.size, fun i hi ho hy => h.block i hi ho (fun hx => hy (hxy i hi hx)), h.keep, h.b, h.lo⟩
/-- What was made since may turn. -/
theorem Mx.trans_new (h : Mx X D D' w w1) (k : Mx Y D' D'' w1 w2) (hy : ∀ i, Y i → i < w.heap.size → X i) : Mx X D D'' w w2 :=
  ⟨k.os.trans h.os, k.tape.trans h.tape, k.output.trans h.output, Nat.le_trans h.size k.size,
    fun i hi ho hx => (k.block i (Nat.lt_of_lt_of_le hi h.size) (h.keep i hi ho) (fun hyi => hx (hy i hyi hi))).trans (h.block i hi ho hx),
    fun i hi ho => k.keep i (Nat.lt_of_lt_of_le hi h.size) (h.keep i hi ho), k.b.trans h.b, k.lo.trans h.lo⟩
theorem Mx.below {lo : Nat} (h : Mx X D D' w w1) (hA : Sec.At D s w) (h1 : lo ≤ D.lo) (hx : ∀ i, X i → lo ≤ i) : Below lo w w1 :=
  ⟨h.os, h.tape, h.output, h.size, fun i hi => h.block i (by have := hA.ltb; have := hA.lo1; omega) (hA.low (by omega)) (fun hxi => by have := hx i hxi; omega)⟩
theorem Mx.keeps {i : Nat} {o : Obj} (h : Mx X D D' w w1) (hi : w.heap[i]? = some o) (ho : D.off i) (hx : ¬ X i) : w1.heap[i]? = some o := (h.block i (Sec.lt_of_heap hi) ho hx).trans hi
theorem below_grown {base B : Nat} {a b : World} (h : a.grownBy b (some B)) (hB : base ≤ B) (hs : base ≤ a.heap.size) : Below base a b :=
  ⟨h.os, h.tape, h.output, h.size, fun i hi => h.block i (by omega) (fun e => by have := Option.some.inj e; omega)⟩

/-- Rows of five and of seven cells, written whole. -/
theorem row2 {B : Nat} {T : TypeId} {v0 v1 : Value} (h : w.heap[B]? = some (.cells #[v0, v1] T (0, 0))) (x0 x1 : Value) :
    ((w.setCell ⟨B, 0, none⟩ x0).setCell ⟨B, 1, none⟩ x1).heap[B]? = some (.cells #[x0, x1] T (0, 0)) := by
  rw [heap_setCell_same _ _ _ _ _ _ (heap_setCell_same _ _ _ _ _ _ h)]
  rfl
theorem row5 {B : Nat} {T : TypeId} {v0 v1 v2 v3 v4 : Value} (h : w.heap[B]? = some (.cells #[v0, v1, v2, v3, v4] T (0, 0))) (x0 x1 x2 x3 x4 : Value) :
    (((((w.setCell ⟨B, 0, none⟩ x0).setCell ⟨B, 1, none⟩ x1).setCell ⟨B, 2, none⟩ x2).setCell ⟨B, 3, none⟩ x3).setCell ⟨B, 4, none⟩ x4).heap[B]? = some (.cells #[x0, x1, x2, x3, x4] T (0, 0)) := by
  rw [heap_setCell_same _ _ _ _ _ _ (heap_setCell_same _ _ _ _ _ _ (heap_setCell_same _ _ _ _ _ _ (heap_setCell_same _ _ _ _ _ _ (heap_setCell_same _ _ _ _ _ _ h))))]
  rfl
theorem row6 {B : Nat} {T : TypeId} {v0 v1 v2 v3 v4 v5 : Value} (h : w.heap[B]? = some (.cells #[v0, v1, v2, v3, v4, v5] T (0, 0))) (x0 x1 x2 x3 x4 : Value) :
    (((((w.setCell ⟨B, 0, none⟩ x0).setCell ⟨B, 1, none⟩ x1).setCell ⟨B, 2, none⟩ x2).setCell ⟨B, 3, none⟩ x3).setCell ⟨B, 4, none⟩ x4).heap[B]? = some (.cells #[x0, x1, x2, x3, x4, v5] T (0, 0)) := by
  rw [heap_setCell_same _ _ _ _ _ _ (heap_setCell_same _ _ _ _ _ _ (heap_setCell_same _ _ _ _ _ _ (heap_setCell_same _ _ _ _ _ _ (heap_setCell_same _ _ _ _ _ _ h))))]
  rfl
theorem row7 {B : Nat} {T : TypeId} {v0 v1 v2 v3 v4 v5 v6 : Value} (h : w.heap[B]? = some (.cells #[v0, v1, v2, v3, v4, v5, v6] T (0, 0))) (x0 x1 x2 x3 x4 x5 x6 : Value) :
    (((((((w.setCell ⟨B, 0, none⟩ x0).setCell ⟨B, 1, none⟩ x1).setCell ⟨B, 2, none⟩ x2).setCell ⟨B, 3, none⟩ x3).setCell ⟨B, 4, none⟩ x4).setCell ⟨B, 5, none⟩ x5).setCell ⟨B, 6, none⟩ x6).heap[B]? = some (.cells #[x0, x1, x2, x3, x4, x5, x6] T (0, 0)) := by
  rw [heap_setCell_same _ _ _ _ _ _ (heap_setCell_same _ _ _ _ _ _ (heap_setCell_same _ _ _ _ _ _ (heap_setCell_same _ _ _ _ _ _ (heap_setCell_same _ _ _ _ _ _ (heap_setCell_same _ _ _ _ _ _ (heap_setCell_same _ _ _ _ _ _ h))))))]
  rfl
theorem row3 {B : Nat} {T : TypeId} {v0 v1 v2 : Value} (h : w.heap[B]? = some (.cells #[v0, v1, v2] T (0, 0))) (x0 x1 x2 : Value) :
    (((w.setCell ⟨B, 0, none⟩ x0).setCell ⟨B, 1, none⟩ x1).setCell ⟨B, 2, none⟩ x2).heap[B]? = some (.cells #[x0, x1, x2] T (0, 0)) := by
  rw [heap_setCell_same _ _ _ _ _ _ (heap_setCell_same _ _ _ _ _ _ (heap_setCell_same _ _ _ _ _ _ h))]
  rfl
theorem keep1 {C i j : Nat} {o : Obj} (h : w.heap[i]? = some o) (hne : C ≠ i) (x : Value) : (w.setCell ⟨C, j, none⟩ x).heap[i]? = some o :=
  ((Sec.grown_set w C j x).block i (Sec.lt_of_heap h) (fun e => hne (Option.some.inj e).symm)).trans h
theorem keep2 {C i : Nat} {o : Obj} (h : w.heap[i]? = some o) (hne : C ≠ i) (x0 x1 : Value) : ((w.setCell ⟨C, 0, none⟩ x0).setCell ⟨C, 1, none⟩ x1).heap[i]? = some o := keep1 (keep1 h hne _) hne _
theorem keep3 {C i : Nat} {o : Obj} (h : w.heap[i]? = some o) (hne : C ≠ i) (x0 x1 x2 : Value) : (((w.setCell ⟨C, 0, none⟩ x0).setCell ⟨C, 1, none⟩ x1).setCell ⟨C, 2, none⟩ x2).heap[i]? = some o := keep1 (keep1 (keep1 h hne _) hne _) hne _
theorem alloc_keep {i : Nat} {o : Obj} (h : w.heap[i]? = some o) (o' : Obj) : (w.alloc o').heap[i]? = some o := (Below.heap_alloc _ _ _ (Sec.lt_of_heap h)).trans h
theorem alloc2_fst (w : World) (o o' : Obj) : ((w.alloc o).alloc o').heap[w.heap.size]? = some o := alloc_keep (heap_alloc_new w o) o'
theorem alloc_at (w : World) (o : Obj) {k : Nat} (hk : k = w.heap.size) : (w.alloc o).heap[k]? = some o := by rw [hk]; exact heap_alloc_new w o
theorem alloc2_snd (w : World) (o o' : Obj) : ((w.alloc o).alloc o').heap[w.heap.size + 1]? = some o' := alloc_at _ _ (by simp)
theorem alloc_at2 (w : World) (C : Nat) (x0 x1 : Value) (o : Obj) : (((w.setCell ⟨C, 0, none⟩ x0).setCell ⟨C, 1, none⟩ x1).alloc o).heap[w.heap.size]? = some o := alloc_at _ _ (by simp [World.setCell])
theorem alloc_at3 (w : World) (C : Nat) (x0 x1 x2 : Value) (o : Obj) : ((((w.setCell ⟨C, 0, none⟩ x0).setCell ⟨C, 1, none⟩ x1).setCell ⟨C, 2, none⟩ x2).alloc o).heap[w.heap.size]? = some o := alloc_at _ _ (by simp [World.setCell])
theorem grow5 (w : World) (B : Nat) (x0 x1 x2 x3 x4 : Value) : w.grownBy (((((w.setCell ⟨B, 0, none⟩ x0).setCell ⟨B, 1, none⟩ x1).setCell ⟨B, 2, none⟩ x2).setCell ⟨B, 3, none⟩ x3).setCell ⟨B, 4, none⟩ x4) (some B) :=
  Sec.grown_trans (Sec.grown_trans (Sec.grown_trans (Sec.grown_trans (Sec.grown_set _ _ _ _) (Sec.grown_set _ _ _ _)) (Sec.grown_set _ _ _ _)) (Sec.grown_set _ _ _ _)) (Sec.grown_set _ _ _ _)
theorem grow2 (w : World) (B : Nat) (x0 x1 : Value) : w.grownBy ((w.setCell ⟨B, 0, none⟩ x0).setCell ⟨B, 1, none⟩ x1) (some B) := Sec.grown_trans (Sec.grown_set _ _ _ _) (Sec.grown_set _ _ _ _)
theorem grow7 (w : World) (B : Nat) (x0 x1 x2 x3 x4 x5 x6 : Value) : w.grownBy (((((((w.setCell ⟨B, 0, none⟩ x0).setCell ⟨B, 1, none⟩ x1).setCell ⟨B, 2, none⟩ x2).setCell ⟨B, 3, none⟩ x3).setCell ⟨B, 4, none⟩ x4).setCell ⟨B, 5, none⟩ x5).setCell ⟨B, 6, none⟩ x6) (some B) :=
  Sec.grown_trans (Sec.grown_trans (grow5 _ _ _ _ _ _ _) (Sec.grown_set _ _ _ _)) (Sec.grown_set _ _ _ _)
end
end Store

section
variable {D : Sec.Bl} {B a n N : Nat} {S : List UInt8} {s : Sec.St} {w : World}
theorem at_append_ok (h : Sec.At D s w) (hB : Book.PB B D.b a n S false w) (ho : D.off B) (hL : Book.Laid a n N S s) (hlim : s.loose.length + n ≤ 1000000000) (xs : List ByteArray) (A : Option Addr) (c : Nat) (hl : xs.length ≤ maxLen) (hx : ∀ x ∈ xs, x.size ≤ maxLen) (hli : Lies w w.heap.size A (tcells xs))
    (hlong : Book.long xs = false) (hfit : S.length + (Book.frb xs).length ≤ n * 127) :
    Calls Tryz.prog 23 #[.pointer (some ⟨B, 0, none⟩), .slice A xs.length c] w fun e w' => e = .returned (.int .i64 0) ∧ ∃ D', Sec.At D' (Book.puts (Book.todo a n S (S ++ Book.frb xs)) s).2 w' ∧ Book.PB B D.b a n (S ++ Book.frb xs) false w' ∧ D'.off B ∧ Book.Mvb D D' B w w' := by
  obtain ⟨l1, l2, l3, l4⟩ := hL.append (m := Book.frb xs) hfit
  refine (pappend D s w h hL.ok B a n S false hB ho hL.fit (by have := hL.nn; have := hL.han; omega) hlim xs A c hl hx hli _ rfl).mono ?_
  intro e w' hA
  rw [Book.app_fits hlong hfit, l1] at hA
  exact hA
theorem at_append_no (h : Sec.At D s w) (hB : Book.PB B D.b a n S false w) (ho : D.off B) (hL : Book.Laid a n N S s) (hlim : s.loose.length + n ≤ 1000000000) (xs : List ByteArray) (A : Option Addr) (c : Nat) (hl : xs.length ≤ maxLen) (hx : ∀ x ∈ xs, x.size ≤ maxLen) (hli : Lies w w.heap.size A (tcells xs))
    (hlong : Book.long xs = false) (hno : ¬ S.length + (Book.frb xs).length ≤ n * 127) :
    Calls Tryz.prog 23 #[.pointer (some ⟨B, 0, none⟩), .slice A xs.length c] w fun e w' => e = .returned (.int .i64 6) ∧ ∃ D', Sec.At D' s w' ∧ Book.PB B D.b a n S false w' ∧ D'.off B ∧ Book.Mvb D D' B w w' := by
  refine (pappend D s w h hL.ok B a n S false hB ho hL.fit (by have := hL.nn; have := hL.han; omega) hlim xs A c hl hx hli _ rfl).mono ?_
  intro e w' hA
  rw [Book.app_full hlong hno] at hA
  exact hA
theorem at_sync (h : Sec.At D s w) (hB : Book.PB B D.b a n S false w) (ho : D.off B) (hL : Book.Laid a n N S s) (hlim : s.loose.length ≤ 1000000000) :
    Calls Tryz.prog 24 #[.pointer (some ⟨B, 0, none⟩)] w fun e w' => e = .returned (.int .i64 0) ∧ ∃ D', Sec.At D' (Book.wsync s).2 w' ∧ Book.PB B D.b a n S false w' ∧ D'.off B ∧ Book.Mvb D D' B w w' := by
  obtain ⟨l1, l2, l3⟩ := hL.sync
  refine (psync D s w h hL.ok B a n S false hB ho hlim _ rfl).mono ?_
  intro e w' hA
  rw [if_neg (by simp), l1] at hA
  exact hA
end

set_option maxHeartbeats 1000000 in
set_option maxRecDepth 20000 in
theorem sclear (D : Sec.Bl) (s : Sec.St) (w : World) (h : Sec.At D s w) (a i m N : Nat) (ha : a = i * m) (S T : List UInt8) (H : Store.Halves i m N S T s) (hlim : s.loose.length ≤ 900000000) :
    Calls Tryz.prog 20 #[.agg #[.pointer (some ⟨D.b, 0, none⟩), .int .i64 (a : Int), .int .i64 (m : Int)]] w fun e w' => e = .returned (.int .i64 0) ∧ ∃ D' s', Sec.At D' s' w' ∧ Sec.Moves D D' w w' ∧ Store.Halves i m N [] T s' ∧ s'.loose.length ≤ s.loose.length + 2 * m := by
  have hn2 := H.here.ok.n2
  have hnn := H.here.nn
  have hhan := H.here.han
  obtain ⟨s', e1, e2, H', hl⟩ := H.clear
  rw [← ha] at e1 e2 hhan
  have hb0 : Below w.heap.size w (w.alloc (.cells #[.pointer (some ⟨D.b, 0, none⟩), .int .i64 (a : Int), .int .i64 (m : Int)] 44)) := (Below.refl _ _).alloc (Nat.le_refl _) _
  have HCL : Hid (Calls Tryz.prog 36 #[.pointer (some ⟨D.b, 0, none⟩), .int .i64 (a : Int), .int .i64 (m : Int)] (w.alloc (.cells #[.pointer (some ⟨D.b, 0, none⟩), .int .i64 (a : Int), .int .i64 (m : Int)] 44)) fun e w' => e = .returned (.int .i64 0) ∧ Sec.Behind D s' (w.alloc (.cells #[.pointer (some ⟨D.b, 0, none⟩), .int .i64 (a : Int), .int .i64 (m : Int)] 44)) w') := by
    have := pclear D s _ (h.below hb0) H.here.ok (Sec.St.runs H.here.lit) a m H.h1 (by omega) (by omega)
    rw [e1, e2] at this
    exact this
  have HB0 := Lib.hid hb0
  have HH := Lib.hid (And.intro H' hl)
  clear h H e1 e2 H' hl hb0 hn2 hnn hhan hlim ha
  go_enter Tryz.func20, Tryz.ntmps20
  go_wp2_with fail
  refine HCL.out.mono ?_
  rintro e w1 ⟨rfl, D1, hA1, hM1⟩
  go_wp2_with fail
  go_ret
  exact ⟨rfl, D1, s', hA1, (Sec.Moves.of_below HB0.out).trans hM1, HH.out.1, HH.out.2⟩
end Go.Proofs.YtpmhpibbdcifnaaGreat
end
