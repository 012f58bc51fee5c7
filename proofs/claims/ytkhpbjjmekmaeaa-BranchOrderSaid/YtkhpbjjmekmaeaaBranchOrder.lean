/-
  Who comes ahead of whom, and what sorting tells (P12.2, P12.3).
-/
import Derived.Test.YtkhpbjjmekmaeaaRows
import Derived.Test.YtkhpbjjmekmaeaaBrK
import Derived.Test.YtkhpbjjmekmaeaaL12A
import Derived.ProofKit
import Derived.OpenShut
import Derived.ShutString
namespace Go.Proofs.Ytkhpbjjmekmaeaa.branchOrder
open Go.ChangeShapes Go.WideShapes Go.ChangeAt Go.RowKit
open Go.ChangeMaps (open_string shut_string)

def P (x y : ByteArray) : Bool := y.toList == x.toList
/-- How often x stands among the first k. -/
def cn (x : ByteArray) (l : List ByteArray) (k : Nat) : Int := ((l.take k).countP (P x) : Nat)
theorem cn_le (x : ByteArray) (l : List ByteArray) (k : Nat) : 0 ≤ cn x l k ∧ cn x l k ≤ k := by
  unfold cn
  have h1 := List.countP_le_length (p := P x) (l := l.take k)
  have h2 : (l.take k).length ≤ k := by rw [List.length_take]; omega
  omega
theorem cn_succ (x : ByteArray) (l : List ByteArray) (k : Nat) (h : k < l.length) : cn x l (k + 1) = cn x l k + (if (l[k].toList == x.toList) = true then 1 else 0) := by
  unfold cn
  rw [List.take_succ_eq_append_getElem h, List.countP_append]
  have e : List.countP (P x) [l[k]] = if (l[k].toList == x.toList) = true then 1 else 0 := by
    rw [List.countP_singleton]
    rfl
  rw [e]
  split <;> simp
theorem cn_all {x : ByteArray} {l out : List ByteArray} (h : out.Perm l) : cn x l l.length = cn x out l.length := by
  unfold cn
  rw [List.take_length, List.take_of_length_le (by rw [h.length_eq]; exact Nat.le_refl _), h.countP_eq]
theorem up_le {out : List ByteArray} (h : Br.Up out) {i j : Nat} (hij : i < j) (hj : j < out.length) : ¬ (0 : Int) < Br.cmpR (out[i]'(by omega)) out[j] := by
  have h1 := List.pairwise_iff_getElem.1 h i j (by omega) hj hij
  intro h2
  apply h1
  have h3 := Br.cmp_flip (out[i]'(by omega)).data.toList out[j].data.toList
  refine (Br.cmp_bytes _ _).1.1 ?_
  unfold Br.cmpR at h2
  omega

theorem dec0 (x : Int) : (x == 0) = decide (x = 0) := rfl
theorem cmp_eq0 (a b : ByteArray) : (Br.cmpR a b == 0) = (a.toList == b.toList) := by
  rw [Bool.eq_iff_iff, beq_iff_eq, beq_iff_eq, Lib.toList_data, Lib.toList_data]
  exact (Br.cmp_bytes _ _).2.1
theorem cmp_tr {a b c : ByteArray} (h1 : Br.cmpR a b ≤ 0) (h2 : Br.cmpR b c ≤ 0) : ¬ 0 < Br.cmpR a c := by
  intro h3
  have f1 := Br.cmp_flip a.data.toList b.data.toList
  have f2 := Br.cmp_flip b.data.toList c.data.toList
  have f3 := Br.cmp_flip a.data.toList c.data.toList
  unfold Br.cmpR at h1 h2 h3
  have g1 : ¬ b.data.toList < a.data.toList := fun h => by have := (Br.cmp_bytes _ _).1.2 h; omega
  have g2 : ¬ c.data.toList < b.data.toList := fun h => by have := (Br.cmp_bytes _ _).1.2 h; omega
  have g3 : c.data.toList < a.data.toList := (Br.cmp_bytes _ _).1.1 (by omega)
  exact Br.le_tr g1 g2 g3
/-- The counting: in the midst of it. -/
def Cnt (x : ByteArray) (l out : List ByteArray) (k : Nat) (z : Int) : Prop := z = cn x l k - cn x out k
theorem Cnt.step {x : ByteArray} {l out : List ByteArray} {k : Nat} {z : Int} (h : Cnt x l out k z) (h1 : k < l.length) (h2 : k < out.length) : Cnt x l out (k + 1) (z + (if (l[k].toList == x.toList) = true then 1 else 0) - (if (out[k].toList == x.toList) = true then 1 else 0)) := by
  unfold Cnt at h ⊢
  rw [cn_succ x l k h1, cn_succ x out k h2, h]
  omega
theorem Cnt.range {x : ByteArray} {l out : List ByteArray} {k : Nat} {z : Int} (h : Cnt x l out k z) : -(k : Int) ≤ z ∧ z ≤ k := by
  unfold Cnt at h
  have := cn_le x l k
  have := cn_le x out k
  omega

set_option maxHeartbeats 1000000 in
set_option maxRecDepth 20000 in
theorem big (w : World) (a b c : ByteArray) (l : List ByteArray) (A : Option Addr) (cp : Nat) (S1 S2 : Int) (hs1 : wrap64 ((a.size : Int) + (b.size : Int)) = S1) (hs2 : wrap64 (S1 + (c.size : Int)) = S2) (h : ¬ S2 ≤ 1024 ∨ 40 < l.length) :
    Calls Try.prog 6 #[.string a, .string b, .string c, .slice A l.length cp] w fun e w' => e = .returned (.bool true) ∧ Below w.heap.size w w' := by
  by_cases h1 : S2 ≤ 1024
  · have h2 : (40 : Int) < (l.length : Int) := by
      rcases h with h | h
      · exact absurd h1 h
      · omega
    clear h
    go_enter Try.func6, Try.ntmps6
    go_wp2_with fail
    refine (alive12_any _).mono ?_
    rintro e w1 ⟨rfl, b1⟩
    have B1 := Lib.hid b1
    clear b1
    go_wp2_with fail
    go_ret
    exact ⟨rfl, B1.out⟩
  · clear h
    go_enter Try.func6, Try.ntmps6
    go_wp2_with fail
    refine (alive12_any _).mono ?_
    rintro e w1 ⟨rfl, b1⟩
    have B1 := Lib.hid b1
    clear b1
    go_wp2_with fail
    go_ret
    exact ⟨rfl, B1.out⟩

set_option maxHeartbeats 4000000 in
set_option maxRecDepth 20000 in
theorem small (w : World) (a b c : ByteArray) (l : List ByteArray) (A : Option Addr) (cp : Nat) (la : Lies w w.heap.size A (tcells l)) (S1 S2 : Int) (hs1 : wrap64 ((a.size : Int) + (b.size : Int)) = S1) (hs2 : wrap64 (S1 + (c.size : Int)) = S2) (h1 : S2 ≤ 1024) (h2 : l.length ≤ 40) :
    Calls Try.prog 6 #[.string a, .string b, .string c, .slice A l.length cp] w fun e w' => e = .returned (.bool true) ∧ Below w.heap.size w w' := by
  have LA := Lib.hid la
  have e2 : ¬ (40 : Int) < (l.length : Int) := by omega
  clear la
  go_enter Try.func6, Try.ntmps6
  go_wp2_with fail
  go_loopw [9] (fun s wr => ∃ k : Nat, k ≤ l.length ∧ s = .int .i64 k ∧ Hid (∀ x ∈ l.take k, x.size ≤ 256) ∧ w = wr) (fun s _ => l.length - (intOf s).toNat)
  case atStart => exact ⟨0, Nat.zero_le _, rfl, fun x hx => by simp at hx, rfl⟩
  case round =>
    obtain ⟨k, hk, rfl, HS, rfl⟩ := hrel
    by_cases hlt : k < l.length
    · have k0 : (0 : Int) ≤ (k : Int) := by omega
      have k1 : (k : Int) < (l.length : Int) := by omega
      obtain ⟨ad, rfl, -, hc⟩ := LA.out.at_ (tcells_at hlt)
      have HT := Lib.hid (List.take_succ_eq_append_getElem hlt)
      by_cases h3 : 256 < (l[k]).size
      · have e3 : (256 : Int) < ((l[k]).size : Int) := by omega
        generalize l[k] = x at hc e3
        clear h1 h2 h3 HT hlt HS
        go_wp2_with fail
        refine (alive12_any _).mono ?_
        rintro e w1 ⟨rfl, b1⟩
        have B1 := Lib.hid b1
        clear b1
        go_wp2_with fail
        go_ret
        exact ⟨rfl, B1.out⟩
      · have e3 : ¬ (256 : Int) < ((l[k]).size : Int) := by omega
        have HN : Hid (∀ x ∈ l.take (k + 1), x.size ≤ 256) := fun x hx => by
          rw [HT.out, List.mem_append, List.mem_singleton] at hx
          rcases hx with hx | rfl
          · exact HS.out x hx
          · omega
        generalize l[k] = x at hc e3
        clear h1 h2 h3 HT hlt HS
        go_wp2_with fail
        go_roundw
        case rel => exact ⟨k + 1, by omega, by go_num, HN.out, trivial⟩
        case measure => simp [intOf]; omega
    · have k1 : ¬ (k : Int) < (l.length : Int) := by omega
      have HS2 : Hid (∀ x ∈ l, x.size ≤ 1000000) := fun x hx => Nat.le_trans (HS.out x (by rw [List.take_of_length_le (by omega)]; exact hx)) (by decide)
      have HSO := Lib.hid (bSort l A cp w LA.out (by omega) HS2.out)
      have KAB := Lib.hid (fun U => bCompare a b U)
      have KBC := Lib.hid (fun U => bCompare b c U)
      have KAC := Lib.hid (fun U => bCompare a c U)
      have HTR : Hid (Br.cmpR a b ≤ 0 → Br.cmpR b c ≤ 0 → ¬ 0 < Br.cmpR a c) := cmp_tr
      have heq := cmp_eq0 a b
      generalize Br.cmpR a b = r1 at *
      generalize Br.cmpR b c = r2 at *
      generalize Br.cmpR a c = r3 at *
      clear hlt HS
      go_upto_region 8 with fail
      go_cut [67] (fun s wx => s = .bool false ∧ w = wx)
      case first =>
        clear HSO HS2
        by_cases c1 : r1 ≤ 0
        · have d1 : decide (r1 ≤ 0) = true := decide_eq_true c1
          by_cases c2 : r2 ≤ 0
          · have d2 : decide (r2 ≤ 0) = true := decide_eq_true c2
            have d3 : decide (0 < r3) = false := decide_eq_false (HTR.out c1 c2)
            clear c1 c2 HTR
            go_wp2_with fail
            refine (KAB.out _).mono ?_
            rintro e wx ⟨rfl, rfl⟩
            go_wp2_with fail
            refine (KAB.out _).mono ?_
            rintro e wx ⟨rfl, rfl⟩
            go_wp2_with fail
            refine (KBC.out _).mono ?_
            rintro e wx ⟨rfl, rfl⟩
            go_wp2_with fail
            refine (KAC.out _).mono ?_
            rintro e wx ⟨rfl, rfl⟩
            go_wp2_with fail
            go_meet
            case rel => exact ⟨rfl, rfl⟩
          · have d2 : decide (r2 ≤ 0) = false := decide_eq_false c2
            clear c1 c2 HTR
            go_wp2_with fail
            refine (KAB.out _).mono ?_
            rintro e wx ⟨rfl, rfl⟩
            go_wp2_with fail
            refine (KAB.out _).mono ?_
            rintro e wx ⟨rfl, rfl⟩
            go_wp2_with fail
            refine (KBC.out _).mono ?_
            rintro e wx ⟨rfl, rfl⟩
            go_wp2_with fail
            go_meet
            case rel => exact ⟨rfl, rfl⟩
        · have d1 : decide (r1 ≤ 0) = false := decide_eq_false c1
          clear c1 HTR
          go_wp2_with fail
          refine (KAB.out _).mono ?_
          rintro e wx ⟨rfl, rfl⟩
          go_wp2_with fail
          refine (KAB.out _).mono ?_
          rintro e wx ⟨rfl, rfl⟩
          go_wp2_with fail
          go_meet
          case rel => exact ⟨rfl, rfl⟩
      case rest =>
        obtain ⟨rfl, rfl⟩ := hcut
        clear HTR KAB KBC KAC heq
        go_wp2_with fail
        refine HSO.out.mono ?_
        rintro e w2 ⟨out, B, c2, ho1, ho2, ho3, rfl, ho4, -, hb2⟩
        have HO := Lib.hid (And.intro ho1 (And.intro ho2 (And.intro ho3 (And.intro ho4 hb2))))
        clear ho1 ho2 ho3 ho4 hb2 HSO HS2
        go_wp2_with fail
        go_loopw [11] (fun s wr => ∃ i : Nat, i ≤ l.length ∧ s = .int .i64 i ∧ ∃ q, wr = w2.drewN q) (fun s _ => l.length - (intOf s).toNat)
        case atStart => exact ⟨0, Nat.zero_le _, rfl, 0, rfl⟩
        case round =>
          obtain ⟨i, hi, rfl, q, rfl⟩ := hrel
          by_cases hlt : i < l.length
          · have i0 : (0 : Int) ≤ (i : Int) := by omega
            have i1 : (i : Int) < (l.length : Int) := by omega
            have hio : i < out.length := by rw [HO.out.1]; exact hlt
            obtain ⟨cx, -⟩ := HO.out.2.2.2.1.2 i hio
            have HUP : Hid (∀ j : Nat, (hj : j + 1 = i) → w2.cell? ⟨B, j, none⟩ = some (.string (out[j]'(by omega))) ∧ ¬ (0 : Int) < Br.cmpR (out[j]'(by omega)) out[i]) := fun j hj => ⟨(HO.out.2.2.2.1.2 j (by omega)).1, up_le HO.out.2.2.1 (by omega) hio⟩
            have HCNT : Hid (∀ k z, k < l.length → Cnt out[i] l out k z → ∃ u v : ByteArray, (∀ ad, A = some ad → w2.cell? (ad.add k) = some (.string u)) ∧ w2.cell? ⟨B, k, none⟩ = some (.string v) ∧ (∃ ad, A = some ad) ∧ -40 ≤ z ∧ z ≤ 40 ∧ Cnt out[i] l out (k + 1) (z + (if (u.toList == out[i].toList) = true then 1 else 0) - (if (v.toList == out[i].toList) = true then 1 else 0))) := fun k z hk hz => by
              have hko : k < out.length := by rw [HO.out.1]; exact hk
              obtain ⟨ad, hA, -, hc⟩ := (LA.out.below HO.out.2.2.2.2).at_ (tcells_at hk)
              have hr := hz.range
              exact ⟨l[k], out[k], fun ad' h => by rw [hA] at h; cases h; exact hc, (HO.out.2.2.2.1.2 k hko).1, ⟨ad, hA⟩, by omega, by omega, hz.step hk hko⟩
            have HEND : Hid (∀ z, Cnt out[i] l out l.length z → z = 0) := fun z h => by
              unfold Cnt at h
              rw [h, cn_all HO.out.2.1]
              omega
            have HUP2 : Hid (∀ j : Nat, j + 1 = i → ∃ y, w2.cell? ⟨B, j, none⟩ = some (.string y) ∧ ¬ (0 : Int) < Br.cmpR y out[i]) := fun j hj => ⟨_, HUP.out j hj⟩
            have HST : Hid (Cnt out[i] l out 0 0) := by show Cnt _ _ _ _ _; unfold Cnt cn; simp
            clear HUP
            generalize out[i] = x at cx HCNT HEND HUP2 HST
            clear hlt hio
            go_upto_region 16 with fail
            go_cut [95] (fun s wx => s = .bool false ∧ ∃ q', wx = w2.drewN q')
            case first =>
              clear HCNT HEND HST
              by_cases h0 : i = 0
              · have d0 : decide ((0 : Int) < (i : Int)) = false := decide_eq_false (by omega)
                have d1 : decide (0 < i) = false := decide_eq_false (by omega)
                clear h0 HUP2
                go_quiet (fail)
                go_wp2_with fail
                go_meet
                case rel => exact ⟨rfl, _, by rw [World.drewN_drewN]⟩
              · have d0 : decide ((0 : Int) < (i : Int)) = true := decide_eq_true (by omega)
                have d1 : decide (0 < i) = true := decide_eq_true (by omega)
                obtain ⟨j, hj⟩ : ∃ j, i - 1 = j := ⟨_, rfl⟩
                obtain ⟨y, cy, hle⟩ := HUP2.out j (by omega)
                have hj1 : (i : Int) - 1 = (j : Int) := by omega
                have j0 : (0 : Int) ≤ (j : Int) := by omega
                have j1 : (j : Int) < (l.length : Int) := by omega
                have hjw : IntKind.i64.wrap (j : Int) = (j : Int) := by rw [IntKind.wrap_i64]; omega
                have d2 : decide ((0 : Int) < Br.cmpR y x) = false := decide_eq_false hle
                have HK := Lib.hid (fun U => bCompare y x U)
                generalize Br.cmpR y x = r at *
                clear h0 HUP2 hj hle
                go_quiet ((go_at_call 18; refine (HK.out _).mono ?_; rintro e w' ⟨rfl, rfl⟩; exact ⟨rfl, _, by first | rfl | rw [World.drewN_drewN]⟩))
                go_wp2_with fail
                go_meet
                case rel => exact ⟨rfl, _, by rw [World.drewN_drewN]⟩
            case rest =>
              obtain ⟨rfl, q2, rfl⟩ := hcut
              clear HUP2
              go_wp2_with fail
              go_loopw [12, 13] (fun s12 s13 wr => ∃ (k : Nat) (z : Int), k ≤ l.length ∧ s12 = .int .i64 z ∧ s13 = .int .i64 k ∧ Hid (Cnt x l out k z) ∧ ∃ q, wr = w2.drewN q) (fun _ s13 _ => l.length - (intOf s13).toNat)
              case atStart => exact ⟨0, 0, Nat.zero_le _, rfl, rfl, HST.out, q2, rfl⟩
              case round =>
                obtain ⟨k, z, hk, rfl, rfl, HZ, q3, rfl⟩ := hrel
                by_cases hlk : k < l.length
                · have k0 : (0 : Int) ≤ (k : Int) := by omega
                  have k1 : (k : Int) < (l.length : Int) := by omega
                  obtain ⟨u, v, hcu, hcv, ⟨ad, rfl⟩, hz0, hz1, hN⟩ := HCNT.out k z hlk HZ.out
                  have hcu := hcu ad rfl
                  clear hlk HZ
                  cases hu : (u.toList == x.toList) with
                  | true =>
                    cases hv : (v.toList == x.toList) with
                    | true =>
                      have HN : Hid (Cnt x l out (k + 1) (z)) := by show Cnt _ _ _ _ _; simpa [hu, hv] using hN
                      clear hN
                      go_wp2_with fail
                      go_quiet (fail)
                      go_wp2_with fail
                      go_quiet (fail)
                      go_wp2_with fail
                      go_roundw
                      case rel => exact ⟨k + 1, _, by omega, rfl, by go_num, HN.out, _, rfl⟩
                      case measure => simp [intOf]; omega
                    | false =>
                      have HN : Hid (Cnt x l out (k + 1) (z + 1)) := by show Cnt _ _ _ _ _; simpa [hu, hv] using hN
                      clear hN
                      go_wp2_with fail
                      go_quiet (fail)
                      go_wp2_with fail
                      go_quiet (fail)
                      go_wp2_with fail
                      go_roundw
                      case rel => exact ⟨k + 1, _, by omega, rfl, by go_num, HN.out, _, rfl⟩
                      case measure => simp [intOf]; omega
                  | false =>
                    cases hv : (v.toList == x.toList) with
                    | true =>
                      have HN : Hid (Cnt x l out (k + 1) (z - 1)) := by show Cnt _ _ _ _ _; simpa [hu, hv] using hN
                      clear hN
                      go_wp2_with fail
                      go_quiet (fail)
                      go_wp2_with fail
                      go_quiet (fail)
                      go_wp2_with fail
                      go_roundw
                      case rel => exact ⟨k + 1, _, by omega, rfl, by go_num, HN.out, _, rfl⟩
                      case measure => simp [intOf]; omega
                    | false =>
                      have HN : Hid (Cnt x l out (k + 1) (z)) := by show Cnt _ _ _ _ _; simpa [hu, hv] using hN
                      clear hN
                      go_wp2_with fail
                      go_quiet (fail)
                      go_wp2_with fail
                      go_quiet (fail)
                      go_wp2_with fail
                      go_roundw
                      case rel => exact ⟨k + 1, _, by omega, rfl, by go_num, HN.out, _, rfl⟩
                      case measure => simp [intOf]; omega
                · have k1 : ¬ (k : Int) < (l.length : Int) := by omega
                  obtain rfl : z = 0 := HEND.out z (by rw [show l.length = k by omega]; exact HZ.out)
                  go_wp2_with fail
                  exact ⟨⟨i + 1, by omega, by go_num, q3, rfl⟩, by simp [intOf]; omega⟩
          · have i1 : ¬ (i : Int) < (l.length : Int) := by omega
            go_wp2_with fail
            refine (alive12_any _).mono ?_
            rintro e w4 ⟨rfl, b4⟩
            have B0 : Below w.heap.size w (w2.drewN q) := below_drewN HO.out.2.2.2.2 q
            have B4 := Lib.hid (B0.trans (b4.mono B0.size))
            clear b4
            go_wp2_with fail
            go_ret
            exact ⟨rfl, B4.out⟩

theorem walk (w : World) (a : ByteArray) (_ha : a.size ≤ maxLen) (b : ByteArray) (_hb : b.size ≤ maxLen) (c : ByteArray) (_hc : c.size ≤ maxLen) (l : List ByteArray) (A : Option Addr) (cp : Nat) (la : Lies w w.heap.size A (tcells l)) (_nl : l.length ≤ maxLen) (_bl : ∀ x ∈ l, x.size ≤ maxLen) :
    Calls Try.prog 6 #[.string a, .string b, .string c, .slice A l.length cp] w fun e w' => e = .returned (.bool true) ∧ Below w.heap.size w w' := by
  by_cases h : ¬ wrap64 (wrap64 ((a.size : Int) + (b.size : Int)) + (c.size : Int)) ≤ 1024 ∨ 40 < l.length
  · exact big w a b c l A cp _ _ rfl rfl h
  · exact small w a b c l A cp la _ _ rfl rfl (Decidable.not_not.1 fun h2 => h (.inl h2)) (by omega)

/-! ### From the walk to the statement -/
theorem own : ownKnob Try.prog.godebug = none := by kernel_rfl

set_option maxRecDepth 20000 in
theorem contract (H : Type) (enc : TypeId × Value → H) (W : World) (base : Nat) (args : Array Value) (ds gs : List (DataW H)) (before : List MemPlace)
    (hval : ∀ (j : Nat) t v, Try.f6.params[j]? = some t → args[j]? = some v → Value.okWide Try.prog W .any base t v)
    (hW : DataW.Whole enc Try.prog Try.f6.params.toList Rows.branchOrderSpec.vars false W args.toList ds gs before) :
    Calls Try.prog 6 args W fun e W' => ∃ v, e = .returned v ∧ Rows.branchOrderSpec.post enc Try.prog Try.f6 false true false false W args v W' := by
  have hW' := hW
  obtain ⟨p, q, hA0, hV, rfl, hfz, hnd⟩ := hW
  have hA : DataW.TrodAll enc Try.prog W 0 (fun _ => true) true Try.f6.params.toList args.toList ds p := hA0
  rw [Try.params6] at hA hval
  obtain ⟨v0, vs0, d0, ds0, p0, q0, hargs, rfl, rfl, h0, r0⟩ := trodAll_cons hA
  obtain ⟨v1, vs1, d1, ds1, p1, q1, rfl, rfl, rfl, h1, r1⟩ := trodAll_cons r0
  obtain ⟨v2, vs2, d2, ds2, p2, q2, rfl, rfl, rfl, h2, r2⟩ := trodAll_cons r1
  obtain ⟨v3, vs3, d3, ds3, p3, q3, rfl, rfl, rfl, h3, r3⟩ := trodAll_cons r2
  obtain ⟨rfl, rfl, rfl⟩ := trodAll_nil r3
  obtain rfl : args = #[v0, v1, v2, v3] := by cases args; simp_all
  obtain ⟨rfl, rfl⟩ := trodVars_none hV
  obtain ⟨a0, rfl, rfl, rfl, w0⟩ := open_string Try.underlying9 (hval 0 9 v0 rfl rfl) h0
  obtain ⟨a1, rfl, rfl, rfl, w1⟩ := open_string Try.underlying9 (hval 1 9 v1 rfl rfl) h1
  obtain ⟨a2, rfl, rfl, rfl, w2⟩ := open_string Try.underlying9 (hval 2 9 v2 rfl rfl) h2
  have k3 := h3
  obtain ⟨fuel3, hf3⟩ := h3
  obtain ⟨xs3, A3, c3, hcs3, hn3, hl3, hb3⟩ := trod_strs Try.underlying32 Try.underlying9 (by kernel_rfl) hf3
  obtain rfl := slice_of Try.underlying32 (hval 3 32 v3 rfl rfl) hcs3
  clear hA0
  simp only [List.append_nil] at hW'
  refine (walk W a0 w0 a1 w1 a2 w2 xs3 A3 c3 hl3 hn3 hb3).mono fun e W' ⟨he, bel⟩ => ?_
  subst he
  exact ⟨_, rfl, _, _, _, [], _, [], hW', trodAll_mk1 (shut_bool Try.underlying4 _), (trodAll_cons_mk (shut_string Try.underlying9 w0) (trodAll_cons_mk (shut_string Try.underlying9 w1) (trodAll_cons_mk (shut_string Try.underlying9 w2) (trodAll_cons_mk (Below.trod laidOut (by kernel_rfl) (of_decide_eq_true (by kernel_rfl)) k3 bel (fun x hx => DataW.trod_lt _ _ _ _ hf3 x hx)) trodAll_mk0)))), rfl, bel.frame _, fun h => by cases h⟩

set_option maxRecDepth 100000 in
theorem lifted (os : Os) (started : os.Started) (H : Type) (enc : TypeId × Value → H) :
    ReturnsInHanded {} Try.checked os 6 .any (Rows.branchOrderSpec.pre6 enc Try.prog Try.f6 Rows.branchOrderRow.domain false) (Rows.branchOrderSpec.post enc Try.prog Try.f6 false true false false) := by
  refine returnsInHanded_of_change (C := Try.checked) own started (by kernel_rfl) Try.func6
    (ChangeSpec.witness6 (enc := enc) (C := Try.checked) false ⟨#[], #[.string ByteArray.empty, .string ByteArray.empty, .string ByteArray.empty, .slice none 0 0], []⟩ 8 (by kernel_rfl) (by kernel_rfl) (by kernel_rfl) (by kernel_rfl)) ?_
  intro W base args ds gs before hval hW _ _
  exact contract H enc W base args ds gs before hval hW

theorem over : Rows.branchOrderRow.holds Try.pinned (OpenSpec.ofChange Rows.branchOrderSpec) :=
  OpenClaim.holds_of_wide 6 Try.f6 rfl rfl rfl rfl rfl rfl rfl ⟨rfl, rfl, rfl, rfl, rfl⟩ rfl rfl rfl rfl rfl (by kernel_rfl) Try.func6 (by kernel_rfl)
    (of_decide_eq_true (by kernel_rfl)) (by unfold Func.isWrapper; first | (rw [if_pos (by decide +kernel)]; kernel_rfl) | (rw [if_neg (by decide +kernel)]; exact ⟨rfl, rfl⟩))
    (fun os started H enc _ => lifted os started H enc)

/-- The statement. -/
theorem proved : Rows.BranchOrderSaid :=
  over

end Go.Proofs.Ytkhpbjjmekmaeaa.branchOrder
