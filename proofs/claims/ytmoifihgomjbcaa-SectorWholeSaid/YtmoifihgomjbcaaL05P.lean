/-
  Plain facts for SectorWhole: a disk behind several writes; a crash in which all stays, one in which nothing stays; picks that are filled one by one.
-/
import Derived.Test.YtmoifihgomjbcaaL05W
import Derived.Maps.AppendAt
import Derived.Laws.OwnMore
namespace Go.Proofs.Ytmoifihgomjbcaa
open Go.RowKit

namespace Sec
/-- Behind the first m steps' writes. -/
def St.wrs (s : St) (l : List StepV) : Nat → St
  | 0 => s
  | m + 1 => (St.wrs s l m).wr (l.getD m default).k (l.getD m default).t
theorem St.wrs_step {s : St} {l : List StepV} {m : Nat} (h : m < l.length) : s.wrs l (m + 1) = (s.wrs l m).wr l[m].k l[m].t := by
  show (St.wrs s l m).wr (l.getD m default).k (l.getD m default).t = _
  rw [List.getD_eq_getElem?_getD, List.getElem?_eq_getElem h]
  rfl
theorem St.wrs_facts {s : St} (h : s.Ok) (l : List StepV) (m : Nat) : (s.wrs l m).Ok ∧ (s.wrs l m).n = s.n ∧ (s.wrs l m).lit = s.lit ∧ (s.wrs l m).good = s.good ∧ (s.wrs l m).loose.length ≤ s.loose.length + m := by
  induction m with
  | zero => exact ⟨h, rfl, rfl, rfl, Nat.le_refl _⟩
  | succ m ih =>
    obtain ⟨h1, h2, h3, h4, h5⟩ := ih
    refine ⟨h1.wr _ _, (St.wr_n _ _).trans h2, (St.wr_lit _ _).trans h3, (St.wr_good _ _).trans h4, ?_⟩
    have := St.wr_len (s := St.wrs s l m) (l.getD m default).k (l.getD m default).t
    show (St.wr _ _ _).loose.length ≤ _
    omega
theorem upto_burn (s : St) (m : Nat → Nat) (i : Nat) : s.burn.upto m i = s.upto m i := by
  induction i with
  | zero => rfl
  | succ i ih =>
    show St.one (s.burn.upto m i) _ _ = St.one (s.upto m i) _ _
    rw [ih]
    rfl
/-- All the picks of way 1, of way 2. -/
def full (n : Nat) : List Int := (List.range n).map fun j : Nat => 128 + (j : Int)
def none' (n : Nat) : List Int := List.replicate n 0
theorem full_len (n : Nat) : (full n).length = n := by simp [full]
theorem crash_full {s : St} (h : s.Ok) (rest : List Int) : (s.crash (full s.loose.length ++ rest)).good = (s.burn.settle (fun _ => 128)).good := by
  show (s.upto _ s.loose.length).1 = (s.burn.upto _ s.loose.length).1
  rw [upto_burn]
  congr 1
  refine St.upto_all h _ _ (fun i hi => ?_) _ (Nat.le_refl _)
  have e : pk (full s.loose.length ++ rest) i = 128 := by
    unfold pk
    rw [List.getElem?_append_left (by rw [full_len]; exact hi)]
    unfold full
    rw [List.getElem?_map, List.getElem?_range hi]
    show stay (128 + (i : Int)) = 128
    unfold stay
    omega
  rw [e]
theorem crash_none {s : St} (rest : List Int) : (s.crash (none' s.loose.length ++ rest)).good = s.good := by
  show (s.upto _ s.loose.length).1 = s.good
  refine St.upto_zero _ (fun i hi => ?_) _ (Nat.le_refl _)
  unfold pk none'
  rw [List.getElem?_append_left (by simpa using hi), List.getElem?_replicate, if_pos hi]
  show stay 0 = 0
  rfl
/-- The picks of way 1, the first i of them filled. -/
def fill (n i : Nat) : List Value := (List.range n).map fun j : Nat => Value.int .i64 (if j < i then 128 + (j : Int) else 0)
theorem fill_zero (n : Nat) : fill n 0 = List.replicate n (.int .i64 0) := by
  apply List.ext_getElem
  · simp [fill]
  · intro j h1 h2
    simp [fill]
theorem fill_step (n i : Nat) : ((fill n i).toArray.setIfInBounds i (.int .i64 (128 + (i : Int)))) = (fill n (i + 1)).toArray := by
  apply Array.ext
  · simp [fill]
  · intro j h1 h2
    have hj : j < n := by simpa [fill] using h1
    rw [Array.getElem_setIfInBounds (by simpa [fill] using hj)]
    simp only [fill, List.getElem_toArray, List.getElem_map, List.getElem_range]
    by_cases e : i = j
    · subst e
      rw [if_pos rfl, if_pos (by omega)]
    · rw [if_neg e]
      by_cases e2 : j < i
      · rw [if_pos e2, if_pos (by omega)]
      · rw [if_neg e2, if_neg (by omega)]
theorem fill_all (n : Nat) : fill n n = icells (full n) := by
  unfold fill icells full
  rw [List.map_map]
  apply List.map_congr_left
  intro j hj
  have : j < n := List.mem_range.1 hj
  simp [this]
theorem fill_len (n i : Nat) : (fill n i).length = n := by simp [fill]
theorem none_cells (n : Nat) : icells (none' n) = List.replicate n (.int .i64 0) := by simp [icells, none']
end Sec

theorem int_cells : (Try.prog.info? 3).map (fun i => (i.zero, i.size, i.bytes)) = some (some (.int .i64 0), 1, 8) := by kernel_rfl

/-- Numbers that came in are appended to a slice of the call's own. -/
theorem append_ints (w : World) (base : Nat) (v : Value) (n : Nat) (xs : List Value) (hown : w.ownsRow base 3 1 v n xs) (A : Option Addr) (m c : Nat) (news : List Value) (hl : news.length = m)
    (hsrc : 0 < m → ∃ ad, A = some ad ∧ ∀ j u, news[j]? = some u → w.cell? (ad.add j) = some u) (h1 : ∀ u ∈ news, u.oneCell' = true) (hn : n + m ≤ 1000000) (hbase : base ≤ w.heap.size) (ty : TypeId) :
    ∃ v' w', (Builtin.append_ #[23, 23] ty #[v, .slice A m c]).run Try.prog w = .ok v' w' ∧ w'.ownsRow base 3 1 v' (n + m) (xs ++ news) ∧ w.grownBy w' v.ownBlock := by
  obtain ⟨i, hi, hz⟩ := Option.map_eq_some_iff.1 int_cells
  simp only [Prod.mk.injEq] at hz
  obtain ⟨z1, z2, z3⟩ := hz
  have hmax : n + m ≤ maxLen := by unfold maxLen; omega
  cases A with
  | some ad =>
    obtain ⟨v', w', a, b, d, _⟩ := run_append_own_at (P := Try.prog) w base 23 ty 3 i _ 1 8 Try.underlying23 hi z1 z2 z3 rfl (by omega) v n xs hown ad m c news (by omega) (fun j u hu => by
      obtain ⟨ad', e, hc⟩ := hsrc (by have := (List.getElem?_eq_some_iff.1 hu).1; omega)
      cases e
      exact hc j u hu) h1 hmax (by omega) hbase
    exact ⟨v', w', a, b, d⟩
  | none =>
    have hm : m = 0 := by
      rcases Nat.eq_zero_or_pos m with h | h
      · exact h
      · obtain ⟨_, e, _⟩ := hsrc h
        cases e
    subst hm
    have hnil : news = [] := List.eq_nil_of_length_eq_zero hl
    subst hnil
    refine ⟨v, w, ?_, by simpa using hown, ⟨rfl, rfl, rfl, Nat.le_refl _, fun _ _ _ => rfl⟩⟩
    rcases hown.2 with ⟨rfl, rfl⟩ | ⟨g, cap, cur, rfl, _, _, hnc, _⟩
    · simp [Builtin.append_, run_underlying (P := Try.prog) Try.underlying23, sizeOf, typeInfo, hi, Builtin.lenOf, Builtin.firstCells]
    · simp [Builtin.append_, run_underlying (P := Try.prog) Try.underlying23, sizeOf, typeInfo, hi, Builtin.lenOf, Builtin.firstCells, hnc, storeCells]
/-- What a slice of the call's own holds, as a crash's picks. -/
theorem picks_own {w : World} {base : Nat} {v : Value} {ps : List Int} (h : w.ownsRow base 3 1 v ps.length (icells ps)) :
    ∃ A c, v = .slice A ps.length c ∧ (0 < ps.length → ∃ ad, A = some ad ∧ ad.block < w.heap.size ∧ base ≤ ad.block ∧ ∀ (j : Nat) p, ps[j]? = some p → w.cell? (ad.add j) = some (.int .i64 p)) := by
  rcases h.2 with ⟨rfl, h0⟩ | ⟨g, cap, cur, rfl, hb, hg, _⟩
  · exact ⟨none, 0, by rw [h0], fun h => by omega⟩
  · refine ⟨_, cap, rfl, fun _ => ⟨_, rfl, Sec.lt_of_heap hg, hb, fun j p hp => ?_⟩⟩
    refine h.cells (g := g) rfl j _ ?_
    unfold icells
    rw [List.getElem?_map, hp]
    rfl
end Go.Proofs.Ytmoifihgomjbcaa
