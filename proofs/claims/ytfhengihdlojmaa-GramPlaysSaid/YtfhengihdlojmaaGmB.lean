/-
  The document's net: Place, find, IsCut.
-/
import Derived.Test.YtfhengihdlojmaaGmA
namespace Go.Proofs.Ytfhengihdlojmaa
open Go.RowKit

namespace Gm
def plc (a : Int) : Bool := decide (0 ≤ a) && decide (a < 1024)
/-- Which of a list a number's message is. -/
def Fnd (id : Int) (l : List Msg) (r : Int) : Prop := (r = -1 ∧ ∀ x ∈ l, x.id ≠ id) ∨ ∃ (i : Nat) (h : i < l.length), r = (i : Int) ∧ (l[i]).id = id
def isCut (a b : Int) (cs : List Wy) : Bool := cs.any fun x => decide (x.1 = a ∧ x.2 = b)
theorem isCut_iff {a b : Int} {cs : List Wy} : isCut a b cs = true ↔ (a, b) ∈ cs := by
  unfold isCut
  rw [List.any_eq_true]
  constructor
  · rintro ⟨⟨x, y⟩, hx, h⟩
    obtain ⟨rfl, rfl⟩ : x = a ∧ y = b := by simpa using h
    exact hx
  · intro h
    exact ⟨_, h, by simp⟩
end Gm

theorem rplace (a : Int) (w : World) : Calls Try.prog 28 #[.int .i64 a] w fun e w' => e = .returned (.bool (Gm.plc a)) ∧ w = w' := by
  unfold Gm.plc
  by_cases h0 : 0 ≤ a
  · have d0 : decide (0 ≤ a) = true := by simpa using h0
    by_cases h1 : a < 1024
    · have d1 : decide (a < 1024) = true := by simpa using h1
      clear h0 h1
      go_enter Try.func28, Try.ntmps28
      go_wp2_with fail
      go_ret
      exact ⟨by rw [d0, d1]; rfl, rfl⟩
    · have d1 : decide (a < 1024) = false := by simpa using h1
      clear h0 h1
      go_enter Try.func28, Try.ntmps28
      go_wp2_with fail
      go_ret
      exact ⟨by rw [d0, d1]; rfl, rfl⟩
  · have d0 : decide (0 ≤ a) = false := by simpa using h0
    clear h0
    go_enter Try.func28, Try.ntmps28
    go_wp2_with fail
    go_ret
    exact ⟨by rw [d0]; rfl, rfl⟩

set_option maxRecDepth 20000 in
set_option maxHeartbeats 1000000 in
theorem nfind {R : Nat} {v vc : Value} {last : Int} {l : List Gm.Msg} {cs : List Gm.Wy} {w : World} (h : Gm.DNet R v vc last l cs w) (hl : l.length ≤ 100000) (id : Int) :
    Calls Try.prog 31 #[.pointer (some ⟨R, 0, none⟩), .int .u64 id] w fun e w' => (∃ r, e = .returned (.int .i64 r) ∧ Gm.Fnd id l r) ∧ w = w' := by
  have c1 := h.c1
  obtain ⟨A, n, rfl⟩ := Gm.own_form h.row
  have HLI := Lib.hid (Gm.own_liesM h.row)
  clear h
  go_enter Try.func31, Try.ntmps31
  go_wp2_with fail
  go_loopw [5] (fun i wr => ∃ j : Nat, j ≤ l.length ∧ i = .int .i64 j ∧ Hid (∀ x ∈ l.take j, x.id ≠ id) ∧ wr = w) (fun i _ => l.length - (intOf i).toNat)
  case atStart => exact ⟨0, Nat.zero_le _, rfl, fun x hx => by simp at hx, rfl⟩
  case round =>
    obtain ⟨j, hj, rfl, HE, rfl⟩ := hrel
    by_cases hlt : j < l.length
    · obtain ⟨p, rfl, hpb, hp0, _, _, _⟩ := Gm.at4 HLI.out hlt
      have k0 : (0 : Int) ≤ (j : Int) := by omega
      have k1 : (j : Int) < l.length := by omega
      have HS : Hid ((l[j]).id ≠ id → ∀ x ∈ l.take (j + 1), x.id ≠ id) := fun hne x hx => by
        rw [List.take_succ_eq_append_getElem hlt] at hx
        rcases List.mem_append.1 hx with hx | hx
        · exact HE.out x hx
        · rw [List.mem_singleton.1 hx]; exact hne
      have HT : Hid ((l[j]).id = id → Gm.Fnd id l (j : Int)) := fun e => .inr ⟨j, hlt, rfl, e⟩
      generalize (l[j]).id = x at hp0 HS HT
      by_cases e : x = id
      · have HT2 := Lib.hid (HT.out e)
        have d : (x == id) = true := by simpa using e
        clear HS HT e
        go_wp2_with fail
        go_ret
        exact ⟨⟨_, rfl, HT2.out⟩, rfl⟩
      · have d : (x == id) = false := by rw [beq_eq_false_iff_ne]; exact e
        have HS2 := Lib.hid (HS.out e)
        clear HS HT e
        go_wp2_with fail
        go_roundw
        case rel => exact ⟨j + 1, by omega, by go_num, HS2.out, trivial⟩
        case measure => simp [intOf]; omega
    · have k1 : ¬ ((j : Int) < l.length) := by omega
      have HN : Hid (∀ x ∈ l, x.id ≠ id) := by
        have := HE.out
        rwa [List.take_of_length_le (by omega)] at this
      go_wp2_with fail
      go_ret
      exact ⟨⟨_, rfl, .inl ⟨rfl, HN.out⟩⟩, rfl⟩

set_option maxRecDepth 20000 in
set_option maxHeartbeats 1000000 in
theorem niscut {R : Nat} {v vc : Value} {last : Int} {l : List Gm.Msg} {cs : List Gm.Wy} {w : World} (h : Gm.DNet R v vc last l cs w) (hl : cs.length ≤ 100000) (a b : Int) :
    Calls Try.prog 32 #[.pointer (some ⟨R, 0, none⟩), .int .i64 a, .int .i64 b] w fun e w' => e = .returned (.bool (Gm.isCut a b cs)) ∧ w = w' := by
  have c2 := h.c2
  obtain ⟨A, n, rfl⟩ := Gm.own_form h.rowc
  have HLI := Lib.hid (Gm.own_liesW h.rowc)
  clear h
  go_enter Try.func32, Try.ntmps32
  go_wp2_with fail
  go_loopw [7] (fun i wr => ∃ j : Nat, j ≤ cs.length ∧ i = .int .i64 j ∧ Hid (∀ x ∈ cs.take j, x ≠ (a, b)) ∧ wr = w) (fun i _ => cs.length - (intOf i).toNat)
  case atStart => exact ⟨0, Nat.zero_le _, rfl, fun x hx => by simp at hx, rfl⟩
  case round =>
    obtain ⟨j, hj, rfl, HE, rfl⟩ := hrel
    by_cases hlt : j < cs.length
    · obtain ⟨p, rfl, hpb, hp0, hp1⟩ := Gm.atW HLI.out hlt
      have k0 : (0 : Int) ≤ (j : Int) := by omega
      have k1 : (j : Int) < cs.length := by omega
      have HS : Hid (cs[j] ≠ (a, b) → ∀ x ∈ cs.take (j + 1), x ≠ (a, b)) := fun hne x hx => by
        rw [List.take_succ_eq_append_getElem hlt] at hx
        rcases List.mem_append.1 hx with hx | hx
        · exact HE.out x hx
        · rw [List.mem_singleton.1 hx]; exact hne
      have HT : Hid (cs[j] = (a, b) → Gm.isCut a b cs = true) := fun e => Gm.isCut_iff.2 (e ▸ List.getElem_mem hlt)
      generalize cs[j] = x at hp0 hp1 HS HT
      obtain ⟨x1, x2⟩ := x
      simp only [] at hp0 hp1
      by_cases e : x1 = a ∧ x2 = b
      · have HT2 := Lib.hid (HT.out (by rw [e.1, e.2]))
        obtain ⟨e1, e2⟩ := e
        have d1 : (x1 == a) = true := by simpa using e1
        have d2 : (x2 == b) = true := by simpa using e2
        clear HS HT e1 e2
        go_wp2_with fail
        go_ret
        exact ⟨by rw [HT2.out]; rfl, rfl⟩
      · have HS2 := Lib.hid (HS.out (fun h => e ⟨congrArg Prod.fst h, congrArg Prod.snd h⟩))
        have d : ((x1 == a) && (x2 == b)) = false := by
          rw [Bool.eq_false_iff]
          intro h
          rw [Bool.and_eq_true, beq_iff_eq, beq_iff_eq] at h
          exact e h
        clear HS HT e
        by_cases f1 : x1 = a
        · have d1 : (x1 == a) = true := by simpa using f1
          have d2 : (x2 == b) = false := by rw [d1] at d; simpa using d
          clear d f1
          go_wp2_with fail
          go_roundw
          case rel => exact ⟨j + 1, by omega, by go_num, HS2.out, trivial⟩
          case measure => simp [intOf]; omega
        · have d1 : (x1 == a) = false := by rw [beq_eq_false_iff_ne]; exact f1
          clear d f1
          go_wp2_with fail
          go_roundw
          case rel => exact ⟨j + 1, by omega, by go_num, HS2.out, trivial⟩
          case measure => simp [intOf]; omega
    · have k1 : ¬ ((j : Int) < cs.length) := by omega
      have HN : Hid (Gm.isCut a b cs = false) := by
        have := HE.out
        rw [List.take_of_length_le (by omega)] at this
        show _ = _
        rw [Bool.eq_false_iff]
        intro h
        exact this _ (Gm.isCut_iff.1 h) rfl
      go_wp2_with fail
      go_ret
      exact ⟨by rw [HN.out]; rfl, rfl⟩
end Go.Proofs.Ytfhengihdlojmaa
