/-
  A store on a disk of twenty sectors that is let alone, as StoreTrims sees it: its calls.
-/
import Derived.Test.YtpmhpibbdcifnaaGreatL07A
namespace Go.Proofs.YtpmhpibbdcifnaaGreat
open Go.RowKit
attribute [local go_sem ↓] Go.wp_at_zero Go.wp_at_succ

namespace Store
/-- A store at T over the disk at p, its book at B; nothing of all lies below w0's end. -/
def Lw (w0 : World) (p T B g : Nat) (t : ByteArray) (r : List (List UInt8)) (nl : Nat) (w : World) : Prop :=
  ∃ (D : Sec.Bl) (a i : Nat) (Y : Option Rec) (s : Sec.St), Sv D T B a i 10 20 g (strm (some (g, t, r))) (strm Y) s w ∧ gn Y < g ∧ may (some (g, t, r)) ∧ may Y ∧ s.loose.length ≤ nl ∧ D.b = p ∧ (Below w0.heap.size w0 w ∧ w0.heap.size ≤ D.lo) ∧ w0.heap.size ≤ T ∧ w0.heap.size ≤ B
theorem Lw.size {w0 w : World} {p T B g nl : Nat} {t : ByteArray} {r : List (List UInt8)} (h : Lw w0 p T B g t r nl w) : Below w0.heap.size w0 w := by
  obtain ⟨D, a, i, Y, s, h1, h2, h3, h4, h5, h6, h7, h8, h9⟩ := h
  exact h7.1
theorem Lw.below {w0 w w' : World} {p T B g nl : Nat} {t : ByteArray} {r : List (List UInt8)} (h : Lw w0 p T B g t r nl w) (hb : Below w.heap.size w w') : Lw w0 p T B g t r nl w' := by
  obtain ⟨D, a, i, Y, s, h1, h2, h3, h4, h5, h6, h7, h8, h9⟩ := h
  exact ⟨D, a, i, Y, s, h1.below hb, h2, h3, h4, h5, h6, ⟨h7.1.trans (hb.mono h7.1.size), h7.2⟩, h8, h9⟩
theorem Lw.pos {w0 w : World} {p T B g nl : Nat} {t : ByteArray} {r : List (List UInt8)} (h : Lw w0 p T B g t r nl w) : 1 ≤ g := by
  obtain ⟨D, a, i, Y, s, h1, h2, h3, h4, h5, h6, h7, h8, h9⟩ := h
  exact h3.1
end Store

section
variable {w0 w : World} {p T B g nl : Nat} {t : ByteArray} {r : List (List UInt8)}
theorem lw_append (h : Store.Lw w0 p T B g t r nl w) (hnl : nl ≤ 1000) (z : ByteArray) (hz : z.size ≤ 1024) (A : Option Addr) (c : Nat) (hli : Lies w w.heap.size A (tcells [z])) :
    Calls Tryz.prog 8 #[.pointer (some ⟨T, 0, none⟩), .slice A 1 c] w fun e w' => ∃ (f : Int) (r' : List (List UInt8)), e = .returned (.int .i64 f) ∧ (f = 0 ∨ f = 6) ∧ Store.Lw w0 p T B g t r' (nl + 10) w' := by
  obtain ⟨D, a, i, Y, s, h1, h2, h3, h4, h5, h6, h7, h8, h9⟩ := h
  have hlong : Book.long [z] = false := by unfold Book.long; simp; omega
  have hmax : ∀ x ∈ [z], x.size ≤ maxLen := fun y hy => by rw [List.mem_singleton.1 hy]; unfold maxLen; omega
  by_cases hfit : (Store.strm (some (g, t, r))).length + (Book.frb [z]).length ≤ 10 * 127
  · refine (sappend_ok h1 (by omega) [z] A c (by simp [maxLen]) hmax hli hlong hfit).mono ?_
    rintro e w' ⟨he, D', s', k1, k2, _, k4⟩
    rw [strm_snoc] at k1
    refine ⟨0, r ++ [z.data.toList], he, .inl rfl, D', a, i, Y, s', k1, h2, ⟨h3.1, h3.2.1, h3.2.2.1, fun x hx => ?_⟩, h4, by omega, k2.b.trans h6, Store.step h7.1 h1.hA h7.2 k2 (fun j hj => by rw [show j = B from hj]; exact h9), h8, h9⟩
    rcases List.mem_append.1 hx with hx | hx
    · exact h3.2.2.2 x hx
    · rw [List.mem_singleton.1 hx]
      have : z.data.toList.length = z.size := by simp
      omega
  · refine (sappend_no h1 (by omega) [z] A c (by simp [maxLen]) hmax hli hlong hfit).mono ?_
    rintro e w' ⟨he, D', k1, k2⟩
    exact ⟨6, r, he, .inr rfl, D', a, i, Y, s, k1, h2, h3, h4, by omega, k2.b.trans h6, Store.step h7.1 h1.hA h7.2 k2 (fun j hj => by rw [show j = B from hj]; exact h9), h8, h9⟩
theorem lw_gen (h : Store.Lw w0 p T B g t r nl w) :
    Calls Tryz.prog 11 #[.pointer (some ⟨T, 0, none⟩)] w fun e w' => e = .returned (.int .u64 (g : Int)) ∧ Below w.heap.size w w' := by
  obtain ⟨D, a, i, Y, s, h1, h2, h3, h4, h5, h6, h7, h8, h9⟩ := h
  exact sgen_ok h1
theorem lw_room (h : Store.Lw w0 p T B g t r nl w) :
    Calls Tryz.prog 12 #[.pointer (some ⟨T, 0, none⟩)] w fun e w' => e = .returned (.int .i64 ((10 * 127 - (Store.strm (some (g, t, r))).length : Nat) : Int)) ∧ Below w.heap.size w w' := by
  obtain ⟨D, a, i, Y, s, h1, h2, h3, h4, h5, h6, h7, h8, h9⟩ := h
  exact sroom_ok h1
theorem lw_trim (h : Store.Lw w0 p T B g t r nl w) (hnl : nl ≤ 1000) (x : ByteArray) (hx : x.size ≤ 1024) (hg : g ≤ 1000) :
    Calls Tryz.prog 10 #[.pointer (some ⟨T, 0, none⟩), .string x] w fun e w' => e = .returned (.int .i64 0) ∧ ∃ B', Store.Lw w0 p T B' (g + 1) x [] 0 w' := by
  obtain ⟨D, a, i, Y, s, h1, h2, h3, h4, h5, h6, h7, h8, h9⟩ := h
  have hraw := Store.hd_raw (g := g + 1) (t := x) (by omega) (by omega)
  refine (strim h1 (by omega) x (by omega) (by omega) (by omega)).mono ?_
  rintro e w' ⟨he, D', B', a', s', k1, k2, k3, k4⟩
  refine ⟨he, B', D', a', 1 - i, some (g, t, r), s', k1, by show g < g + 1; omega, ⟨by omega, by omega, by omega, by simp⟩, h3, by rw [k3]; simp, k2.b.trans h6, Store.step h7.1 h1.hA h7.2 k2 (fun j hj => ?_), h8, Nat.le_trans h7.1.size k4⟩
  rcases hj with hj | hj
  · rw [hj]; exact h9
  · rw [hj]; exact h8
theorem lw_open (h : Store.Lw w0 p T B g t r nl w) (hnl : nl ≤ 1000) :
    Calls Tryz.prog 6 #[.pointer (some ⟨p, 0, none⟩)] w fun e w' => ∃ (T' B' : Nat) (A : Option Addr) (c : Nat), e = .returned (.tuple #[.pointer (some ⟨T', 0, none⟩), .string t, .slice A r.length c, .int .i64 0]) ∧ Store.Lw w0 p T B g t r nl w' ∧ Store.Lw w0 p T' B' g t r nl w' := by
  obtain ⟨D, a, i, Y, s, h1, h2, h3, h4, h5, h6, h7, h8, h9⟩ := h
  rw [← h6]
  refine (sopen_at D s w h1.hA i 10 20 g t r Y h1.hh h2 h3 h4 (by omega)).mono ?_
  rintro e w' ⟨D', T', B', A, c, he, k1, k2, k3, k4, _⟩
  have hst := Store.step h7.1 h1.hA h7.2 k2 (fun _ hj => hj.elim)
  have hw := h7.1.size
  exact ⟨T', B', A, c, he, ⟨D', a, i, Y, s, h1.mx k2 k1.hA k1.hh id id, h2, h3, h4, h5, k2.b, hst, h8, h9⟩, ⟨D', _, i, Y, s, k1, h2, h3, h4, h5, k2.b, hst, Nat.le_trans hw k3, Nat.le_trans hw k4⟩⟩
end

/-- A disk of twenty sectors, made a store's without a snapshot. -/
theorem lw_make (w0 w : World) (D : Sec.Bl) (p : Nat) (hp : D.b = p) (h : Sec.At D (Sec.St.fresh 20) w) (hb : Below w0.heap.size w0 w) (hl : w0.heap.size ≤ D.lo) :
    Calls Tryz.prog 7 #[.pointer (some ⟨p, 0, none⟩), .string ⟨#[]⟩] w fun e w' => e = .returned (.int .i64 0) ∧ ∃ D' s', D'.b = p ∧ Sec.At D' s' w' ∧ (Below w0.heap.size w0 w' ∧ w0.heap.size ≤ D'.lo) ∧ Store.Halves 0 10 20 (Store.strm (some (1, ⟨#[]⟩, []))) (Store.strm none) s' ∧ s'.loose = [] := by
  subst hp
  have hraw := Store.hd_raw (g := 1) (t := ⟨#[]⟩) (by omega) (by decide)
  have hz : (⟨#[]⟩ : ByteArray).size = 0 := rfl
  refine (smake D (Sec.St.fresh 20) w h 10 20 [] [] (Store.Halves.fresh (by omega) (by omega) (by omega)) (by show 0 ≤ _; omega) ⟨#[]⟩ (by decide) (by omega)).mono ?_
  rintro e w' ⟨he, D', s', k1, k2, k3, k4⟩
  exact ⟨he, D', s', k2.b, k1, Store.step hb h hl k2 (fun _ hj => hj.elim), k3, k4⟩
theorem lw_first (w0 w : World) (D : Sec.Bl) (p : Nat) (hp : D.b = p) (s : Sec.St) (h : Sec.At D s w) (hb : Below w0.heap.size w0 w ∧ w0.heap.size ≤ D.lo) (hH : Store.Halves 0 10 20 (Store.strm (some (1, ⟨#[]⟩, []))) (Store.strm none) s) (hl : s.loose = []) :
    Calls Tryz.prog 6 #[.pointer (some ⟨p, 0, none⟩)] w fun e w' => ∃ (T B : Nat) (A : Option Addr) (c : Nat), e = .returned (.tuple #[.pointer (some ⟨T, 0, none⟩), .string ⟨#[]⟩, .slice A 0 c, .int .i64 0]) ∧ Store.Lw w0 p T B 1 ⟨#[]⟩ [] 0 w' := by
  subst hp
  have hm : Store.may (some (1, (⟨#[]⟩ : ByteArray), ([] : List (List UInt8)))) := ⟨by omega, by omega, by decide, by simp⟩
  refine (sopen_at D s w h 0 10 20 1 ⟨#[]⟩ [] none hH (by show 0 < 1; omega) hm trivial (by rw [hl]; simp)).mono ?_
  rintro e w' ⟨D', T, B, A, c, he, k1, k2, k3, k4, _⟩
  have hw := hb.1.size
  exact ⟨T, B, A, c, he, D', _, 0, none, s, k1, by show 0 < 1; omega, hm, trivial, by rw [hl]; simp, k2.b, Store.step hb.1 h hb.2 k2 (fun _ hj => hj.elim), Nat.le_trans hw k3, Nat.le_trans hw k4⟩
end Go.Proofs.YtpmhpibbdcifnaaGreat
