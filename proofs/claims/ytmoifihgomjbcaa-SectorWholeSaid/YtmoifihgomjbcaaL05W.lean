/-
  Layer 5's written, where it is true; SectorNil.
-/
import Derived.Test.YtmoifihgomjbcaaL05S
import Derived.Test.YtmoifihgomjbcaaSecK
namespace Go.Proofs.Ytmoifihgomjbcaa
open Go.RowKit

/-- Did this step put c at place 'at_' of sector k? -/
def StepV.Put (a : StepV) (k : Int) (at_ c : Nat) : Prop := a.k = k ∧ a.t.size ≤ 128 ∧ (if h : at_ < a.t.size then a.t[at_].toNat = c else c = 0)

set_option maxHeartbeats 2000000 in
set_option maxRecDepth 20000 in
theorem written_yes (l : List StepV) (A : Option Addr) (cc B : Nat) (w : World) (la : LiesS w B A l) (nl : l.length ≤ 200) (k : Int) (at_ c : Nat) (j : Nat) (hj : j < l.length) (hput : l[j].Put k at_ c) :
    Calls Try.prog 15 #[.slice A l.length cc, .int .i64 k, .int .i64 (at_ : Int), .int .u8 (c : Int)] w fun e w' => e = .returned (.bool true) ∧ w = w' := by
  have LA := Lib.hid la
  have HP := Lib.hid hput
  clear la hput
  go_enter Try.func15, Try.ntmps15
  go_wp2_with fail
  go_loop [9] (fun i => ∃ m : Nat, m ≤ j ∧ i = .int .i64 m) (fun i => l.length - (intOf i).toNat)
  case atStart => exact ⟨0, Nat.zero_le _, rfl⟩
  case round =>
    obtain ⟨m, hm, rfl⟩ := hrel
    have hlt : m < l.length := by omega
    obtain ⟨ad, rfl, _, hc⟩ := LA.out (by omega)
    obtain ⟨q0, q1, q2, q3⟩ := stp_at hlt (ad.add (m * 4)) (hc m hlt)
    have hki : (m : Int) < (l.length : Int) := by omega
    have HN : Hid (¬ l[m].Put k at_ c → m + 1 ≤ j) := fun h => by
      rcases Nat.lt_or_ge m j with h' | h'
      · omega
      · obtain rfl : m = j := by omega
        exact absurd HP.out h
    clear hc q0 q3
    generalize l[m] = a at q1 q2 HN
    obtain ⟨act, ak, t, ps, A', c'⟩ := a
    simp only [] at q1 q2
    by_cases h1 : ak = k
    · subst h1
      by_cases h2 : t.size ≤ 128
      · have e2 : decide ((128 : Int) < (t.size : Int)) = false := by simp; omega
        by_cases h3 : at_ < t.size
        · have e3 : decide (at_ < t.size) = true := by simpa using h3
          have hai : (at_ : Int) < (t.size : Int) := by omega
          by_cases h4 : t[at_].toNat = c
          · have e4 : ((t[at_].toNat : Int) == (c : Int)) = true := by simpa using (by omega : (t[at_].toNat : Int) = (c : Int))
            clear HN h4
            go_wp2_with fail
            all_goals (go_ret; exact ⟨rfl, rfl⟩)
          · have e4 : ((t[at_].toNat : Int) == (c : Int)) = false := by simpa using (by omega : ¬ (t[at_].toNat : Int) = (c : Int))
            have e5 : decide (t.size ≤ at_) = false := by simpa using h3
            have HJ : Hid (m + 1 ≤ j) := HN.out (fun h => by
              have := h.2.2
              simp only at this
              rw [dif_pos h3] at this
              exact h4 this)
            clear HN h4
            go_wp2_with fail
            go_round
            case rel => exact ⟨m + 1, HJ.out, by go_num⟩
            case measure => simp [intOf]; omega
        · have e3 : decide (at_ < t.size) = false := by simpa using h3
          have e5 : decide (t.size ≤ at_) = true := by simpa using h3
          by_cases h4 : c = 0
          · have e4 : ((c : Int) == 0) = true := by simpa using h4
            clear HN h4
            go_wp2_with fail
            all_goals (go_ret; exact ⟨rfl, rfl⟩)
          · have e4 : ((c : Int) == 0) = false := by simpa using h4
            have HJ : Hid (m + 1 ≤ j) := HN.out (fun h => by
              have := h.2.2
              simp only at this
              rw [dif_neg h3] at this
              exact h4 this)
            clear HN h4
            go_wp2_with fail
            go_round
            case rel => exact ⟨m + 1, HJ.out, by go_num⟩
            case measure => simp [intOf]; omega
      · have e2 : decide ((128 : Int) < (t.size : Int)) = true := by simp; omega
        have HJ : Hid (m + 1 ≤ j) := HN.out (fun h => h2 h.2.1)
        clear HN
        go_wp2_with fail
        go_round
        case rel => exact ⟨m + 1, HJ.out, by go_num⟩
        case measure => simp [intOf]; omega
    · have HJ : Hid (m + 1 ≤ j) := HN.out (fun h => h1 h.1)
      clear HN
      go_wp2_with fail
      go_round
      case rel => exact ⟨m + 1, HJ.out, by go_num⟩
      case measure => simp [intOf]; omega

/-! ### What a step wrote -/
def StepV.Wrote (a : StepV) (x : Nat × List UInt8) : Prop := a.k = (x.1 : Int) ∧ a.t.size ≤ 128 ∧ x.2 = Sec.pad a.t.data.toList
/-- All that is loose some of these steps wrote. -/
def Sec.St.By (s : Sec.St) (l : List StepV) : Prop := ∀ x ∈ s.loose, ∃ j, ∃ h : j < l.length, l[j].Wrote x
theorem Sec.By.wr {s : Sec.St} {l : List StepV} (h : s.By l) (j : Nat) (hj : j < l.length) : (s.wr l[j].k l[j].t).By l := by
  intro x hx
  rcases Sec.St.wr_mem (s := s) _ _ x hx with h1 | ⟨h1, h2, h3, h4⟩
  · exact h x h1
  · subst h4
    exact ⟨j, hj, by show l[j].k = _; simp only; omega, h3, rfl⟩
theorem Sec.byte_put {s : Sec.St} (hs : s.Ok) {l : List StepV} (hall : s.By l) (ps : List Int) (i : Nat) (b : UInt8) (hb : (s.crash ps).good[i]? = some b) (hne : s.good[i]? ≠ some b) :
    ∃ j, ∃ h : j < l.length, l[j].Put ((i / 128 : Nat) : Int) (i % 128) b.toNat := by
  have hb' : (s.upto (Sec.pk ps) s.loose.length).1[i]? = some b := hb
  rcases Sec.St.upto_old hs (Sec.pk ps) s.loose.length (Nat.le_refl _) i with h | ⟨x, hx, hk, h⟩
  · rw [hb'] at h
    exact absurd h.symm hne
  · obtain ⟨j, hj, h1, h2, h3⟩ := hall x hx
    refine ⟨j, hj, by rw [h1, hk], h2, ?_⟩
    have hm : i % 128 < 128 := Nat.mod_lt _ (by omega)
    rw [hb', h3, Sec.pad_get _ hm] at h
    have hl : l[j].t.data.toList.length = l[j].t.size := rfl
    rw [hl] at h
    have hv := Option.some.inj h
    split
    · rename_i hlt
      rw [if_pos hlt] at hv
      rw [hv, List.getD_eq_getElem?_getD, List.getElem?_eq_getElem (by rw [hl]; exact hlt)]
      rfl
    · rename_i hlt
      rw [if_neg hlt] at hv
      rw [hv]; rfl
/-- Picks that came in. -/
theorem picks_of {w' : World} {B : Nat} {A : Option Addr} {ps : List Int} (h : Lies w' B A (icells ps)) (hB : B ≤ w'.heap.size) :
    0 < ps.length → ∃ ad, A = some ad ∧ ad.block < w'.heap.size ∧ ad.block < B ∧ ∀ (j : Nat) p, ps[j]? = some p → w'.cell? (ad.add j) = some (.int .i64 p) := fun h0 => by
  obtain ⟨ad, e, hb, hc⟩ := h (by simpa [icells] using h0)
  refine ⟨ad, e, by omega, hb, fun j p hp => hc j _ ?_⟩
  unfold icells
  rw [List.getElem?_map, hp]
  rfl
/-- A sector's bytes. -/
theorem Sec.sector_of (xs : List UInt8) (i : Nat) : (⟨((xs.drop (i * 128)).take 128).toArray⟩ : ByteArray) = (⟨xs.toArray⟩ : ByteArray).extract (i * 128) ((i + 1) * 128) := by
  apply ByteArray.ext
  rw [ByteArray.data_extract]
  apply Array.ext'
  simp only [Array.toList_extract, List.toList_toArray, List.extract_eq_take_drop]
  rw [show (i + 1) * 128 - i * 128 = 128 by omega]
/-- written, the numbers as a walk spells them. -/
theorem written_i (l : List StepV) (A : Option Addr) (cc B : Nat) (w : World) (la : LiesS w B A l) (nl : l.length ≤ 200) (ka kb kc : Int) (a b c : Nat) (ha : ka = (a : Int)) (hb : kb = (b : Int)) (hc : kc = (c : Int)) (j : Nat) (hj : j < l.length) (hput : l[j].Put (a : Int) b c) :
    Calls Try.prog 15 #[.slice A l.length cc, .int .i64 ka, .int .i64 kb, .int .u8 kc] w fun e w' => e = .returned (.bool true) ∧ w = w' := by
  subst ha hb hc
  exact written_yes l A cc B w la nl _ _ _ j hj hput
end Go.Proofs.Ytmoifihgomjbcaa
