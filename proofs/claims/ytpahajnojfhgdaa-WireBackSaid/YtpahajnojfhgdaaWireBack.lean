/-
  What is proved: for all slices of uint64, int64 and string and every uint16 the law WireBack of layer 3 returns true and changes nothing: what was written, one behind the other, is read as itself, and nothing is left; what is cut off anywhere is short. No condition.
-/
import Derived.Test.YtpahajnojfhgdaaRows
import Derived.Test.YtpahajnojfhgdaaL03A
import Derived.Test.YtpahajnojfhgdaaWireO
import Derived.Test.YtpahajnojfhgdaaWireQ
import Derived.Deep.DeepCutAuto
import Derived.Deep.CutBlock
import Derived.Deep.LoopGhost
import Derived.BigQuiet
import Derived.WalkLawsBesides
import Derived.ProofKit
import Derived.OpenShut
import Derived.ShutString
namespace Go.Proofs.Ytpahajnojfhgdaa.wireBack
open Go.ChangeShapes Go.WideShapes Go.ChangeAt Go.RowKit
open Go.ChangeMaps (open_string shut_string)

theorem later {B : Nat} {a b c : World} (h : Below B a b) (k : Below b.heap.size b c) (hB : B ≤ a.heap.size) : Below B a c := h.trans (k.mono (by have := h.size; omega))
theorem take_snoc_all {xs : List ByteArray} {k : Nat} {n : Nat} (h : ∀ x ∈ xs.take k, x.size ≤ n) (hk : k < xs.length) (hx : xs[k].size ≤ n) : ∀ x ∈ xs.take (k + 1), x.size ≤ n := by
  rw [List.take_succ_eq_append_getElem hk]
  intro x hm
  rcases List.mem_append.1 hm with hm | hm
  · exact h x hm
  · simp at hm; rw [hm]; exact hx

/-- A round's state: the reader at block B has what is left of bytes R; nothing that was there has turned. -/
def St (p B : Nat) (w : World) (R : List UInt8) (wr : World) : Prop :=
  ∃ (s : ByteArray) (f : Nat), Wire.RD B s f wr ∧ Wire.Bk p s f R ∧ s.size ≤ 500000 ∧ w.heap.size ≤ B ∧ Below w.heap.size w wr
/-- What is held to be the same so far: in part 0 it is. -/
def Sm (p : Nat) (v : Value) : Prop := ∃ q : Bool, v = .bool q ∧ (p = 0 → q = true)

theorem St.next {p B : Nat} {w wr w1 : World} {R : List UInt8} {s t : ByteArray} {f g : Nat} (_h : Wire.RD B s f wr) (hz : t.size ≤ 500000) (hB : w.heap.size ≤ B) (hb : Below w.heap.size w wr) (ha : Wire.After B t g wr w1) (hk : Wire.Bk p t g R) : St p B w R w1 :=
  ⟨t, g, ha.1, hk, hz, hB, hb.grown ha.2 hb.size (fun k h => by injection h; omega)⟩

/-- What a part reads: all, or what is cut off. -/
def In (p n : Nat) (R : List UInt8) (v : Value) : Prop := ∃ s : ByteArray, v = .string s ∧ Wire.Bk p s 0 R ∧ s.size ≤ n
theorem in_cut {p m : Nat} {S : ByteArray} {R : List UInt8} (h1 : p = 1) (hS : S.data.toList = R) (hm : m < S.size) : Wire.Bk p (S.extract 0 m) 0 R :=
  .inr ⟨h1, .inr ⟨rfl, m, by rw [← hS, ← Wire.size_of]; exact hm, by rw [Lib.extract_data, ← hS]; simp⟩⟩
theorem in_all {p : Nat} {S : ByteArray} {R : List UInt8} (h0 : p = 0) (hS : S.data.toList = R) : Wire.Bk p S 0 R := .inl ⟨h0, rfl, hS⟩
theorem St.below {p B : Nat} {w wr : World} {R : List UInt8} (h : St p B w R wr) : Below w.heap.size w wr := by
  obtain ⟨_, _, _, _, _, _, hb⟩ := h
  exact hb
theorem lies_cell {w : World} {B k : Nat} {ad : Addr} {xs : List Value} {u : Value} (h : Lies w B (some ad) xs) (hk : xs[k]? = some u) : w.cell? (ad.add k) = some u := by
  obtain ⟨ad', he, _, hc⟩ := h.at_ hk
  injection he with he
  rw [he]
  exact hc
theorem uBytes_nil {xs : List Nat} {k : Nat} (h : xs.length ≤ k) : uBytes (xs.drop k) = [] := by rw [List.drop_of_length_le h]; rfl
theorem iBytes_nil {xs : List Int} {k : Nat} (h : xs.length ≤ k) : iBytes (xs.drop k) = [] := by rw [List.drop_of_length_le h]; rfl
theorem tBytes_nil {xs : List ByteArray} {k : Nat} (h : xs.length ≤ k) : tBytes (xs.drop k) = [] := by rw [List.drop_of_length_le h]; rfl
theorem st_nil {p B : Nat} {w wr : World} {Q R : List UInt8} (h : St p B w (Q ++ R) wr) (hq : Q = []) : St p B w R wr := by subst hq; exact h
theorem small {s : ByteArray} (h : s.size ≤ 500000) : s.size ≤ maxLen := by unfold maxLen; omega


set_option maxRecDepth 20000 in
set_option maxHeartbeats 16000000 in
theorem walk (w : World)
    (u : List Nat) (Au : Option Addr) (cu : Nat) (lu : Lies w w.heap.size Au (u64s u)) (nu : u.length ≤ maxLen) (bu : ∀ x ∈ u, x < 18446744073709551616)
    (i : List Int) (Ai : Option Addr) (ci : Nat) (li : Lies w w.heap.size Ai (icells i)) (ni : i.length ≤ maxLen) (bi : ∀ x ∈ i, -9223372036854775808 ≤ x ∧ x ≤ 9223372036854775807)
    (t : List ByteArray) (At : Option Addr) (ct : Nat) (lt : Lies w w.heap.size At (tcells t)) (nt : t.length ≤ maxLen) (bt : ∀ x ∈ t, x.size ≤ maxLen)
    (a : Int) (a0 : 0 ≤ a) (a1 : a ≤ 65535) :
    Calls Try.prog 5 #[.slice Au u.length cu, .slice Ai i.length ci, .slice At t.length ct, .int .u16 a] w fun e w' => e = .returned (.bool true) ∧ Below w.heap.size w w' := by
  unfold maxLen at nu ni nt
  have Lu := Lib.hid lu
  have Bu := Lib.hid bu
  have Li := Lib.hid li
  have Bi := Lib.hid bi
  have Lt := Lib.hid lt
  have Bt := Lib.hid bt
  clear lu li lt bu bi bt
  by_cases hu : 100 < u.length
  · have du : decide (100 < u.length) = true := by simpa using hu
    go_enter Try.func5, Try.ntmps5
    go_wp2_with fail
    refine (alive_any _).mono ?_
    rintro e w1 ⟨rfl, hb1⟩
    go_wp2_with fail
    go_ret
    exact ⟨rfl, hb1⟩
  · have du : decide (100 < u.length) = false := by simpa using hu
    by_cases hi : 100 < i.length
    · have di : decide (100 < i.length) = true := by simpa using hi
      go_enter Try.func5, Try.ntmps5
      go_wp2_with fail
      refine (alive_any _).mono ?_
      rintro e w1 ⟨rfl, hb1⟩
      go_wp2_with fail
      go_ret
      exact ⟨rfl, hb1⟩
    · have di : decide (100 < i.length) = false := by simpa using hi
      by_cases ht : 100 < t.length
      · have dt : decide (100 < t.length) = true := by simpa using ht
        go_enter Try.func5, Try.ntmps5
        go_wp2_with fail
        refine (alive_any _).mono ?_
        rintro e w1 ⟨rfl, hb1⟩
        go_wp2_with fail
        go_ret
        exact ⟨rfl, hb1⟩
      · have dt : decide (100 < t.length) = false := by simpa using ht
        go_enter Try.func5, Try.ntmps5
        go_wp2_with fail
        go_loop [9] (fun j => ∃ k : Nat, k ≤ t.length ∧ j = .int .i64 k ∧ ∀ x ∈ t.take k, x.size ≤ 4096) (fun j => t.length - (intOf j).toNat)
        case atStart => exact ⟨0, Nat.zero_le _, rfl, by simp⟩
        case round =>
          obtain ⟨k, hk, rfl, hall⟩ := hrel
          have HALL := Lib.hid hall
          clear hall
          by_cases hlt : k < t.length
          · obtain ⟨ad, rfl, _, hc⟩ := Lt.out.at_ (tcells_at hlt)
            have hmx := Bt.out t[k] (List.getElem_mem hlt)
            unfold maxLen at hmx
            by_cases hbig : (t[k].size : Int) > 1024
            · go_wp2_with fail
              refine (alive_any _).mono ?_
              rintro e w1 ⟨rfl, hb1⟩
              go_wp2_with fail
              go_ret
              exact ⟨rfl, hb1⟩
            · have HK := Lib.hid (take_snoc_all HALL.out hlt (by omega))
              go_wp2_with fail
              exact ⟨⟨k + 1, by omega, by go_num, HK.out⟩, by simp [intOf]; omega⟩
          · have ht4 : ∀ x ∈ t, x.size ≤ 4096 := fun x hx => HALL.out x (by rw [List.take_of_length_le (by omega)]; exact hx)
            have zu := uBytes_len Bu.out
            have zi := iBytes_len Bi.out
            have zt := tBytes_len ht4
            have T4 := Lib.hid ht4
            clear HALL ht4
            go_wp2_with fail
            refine (uints_any u Au cu _ Lu.out (by omega) Bu.out).mono ?_
            rintro e w1 ⟨rfl, hb1⟩
            have z1 := hb1.size
            go_wp2_with fail
            refine (ints_any i Ai ci _ ((Li.out.below hb1).mono z1) (by omega) Bi.out).mono ?_
            rintro e w2 ⟨rfl, hb2⟩
            have h2 := later hb1 hb2 (Nat.le_refl _)
            have z2 := h2.size
            clear hb1 hb2
            go_wp2_with fail
            refine (texts_any t At ct _ ((Lt.out.below h2).mono z2) (by omega) T4.out).mono ?_
            rintro e w3 ⟨rfl, hb3⟩
            have h3 := later h2 hb3 (Nat.le_refl _)
            clear h2 hb3 z1 z2
            go_wp2_with fail
            obtain ⟨S, hS⟩ : ∃ S : ByteArray, ({ data := (uBytes u).toArray } : ByteArray) ++ { data := (iBytes i).toArray } ++ { data := (tBytes t).toArray } = S := ⟨_, rfl⟩
            have hSd : S.data.toList = uBytes u ++ (iBytes i ++ tBytes t) := by rw [← hS]; simp
            have hSz : S.size ≤ 500000 := by
              rw [Wire.size_of S, hSd, List.length_append, List.length_append]
              omega
            have HSD := Lib.hid hSd
            rw [hS]
            clear hS hSd zu zi zt
            go_loopg [11] 2 (fun n j wr => ∃ p : Nat, p ≤ 2 ∧ n = 2 - p ∧ j = .int .i64 p ∧ Below w.heap.size w wr)
            case atStart => exact ⟨0, by omega, rfl, rfl, h3⟩
            case round =>
              clear h3
              obtain ⟨p, hp, rfl, rfl, hbel⟩ := hrel
              by_cases hp2 : p = 2
              · subst hp2
                go_wp2_with fail
                refine (alive_any _).mono ?_
                rintro e w4 ⟨rfl, hb4⟩
                go_wp2_with fail
                go_ret
                exact ⟨rfl, later hbel hb4 (Nat.le_refl _)⟩
              · have hplt : (p : Int) < 2 := by omega
                go_upto_if 62 with fail
                go_cut [12] (fun v wx => In p S.size (uBytes u ++ (iBytes i ++ tBytes t)) v ∧ Below w.heap.size w wx)
                case first =>
                  by_cases h1 : p = 1
                  · have e1 : ((p : Int) == 1) = true := by rw [beq_iff_eq]; omega
                    by_cases h0 : S.size = 0
                    · have hS0 : S.toList = [] := by
                        rw [Lib.toList_data]
                        exact List.eq_nil_of_length_eq_zero (by rw [← Wire.size_of S]; exact h0)
                      have e2 : S.toList.isEmpty = true := by rw [hS0]; rfl
                      clear h0
                      go_wp2_with fail
                      refine (alive_any _).mono ?_
                      rintro e w4 ⟨rfl, hb4⟩
                      go_wp2_with fail
                      go_ret
                      exact ⟨rfl, later hbel hb4 (Nat.le_refl _)⟩
                    · have hS0 : ¬ S.toList = [] := by
                        intro h
                        rw [Lib.toList_data] at h
                        apply h0
                        rw [Wire.size_of S, h]; rfl
                      have e2 : S.toList.isEmpty = false := by simpa using hS0
                      obtain ⟨m, hm, hml⟩ : ∃ m : Nat, a % (S.size : Int) = (m : Int) ∧ m < S.size :=
                        ⟨(a % (S.size : Int)).toNat, by have := Int.emod_nonneg a (b := (S.size : Int)) (by omega); omega, by have := Int.emod_lt_of_pos a (b := (S.size : Int)) (by omega); omega⟩
                      have HM := Lib.hid (in_cut h1 HSD.out hml)
                      go_wp2_with fail
                      go_meet
                      exact ⟨⟨_, rfl, HM.out, by rw [ByteArray.size_extract]; omega⟩, hbel⟩
                  · have e1 : ((p : Int) == 1) = false := by rw [beq_eq_false_iff_ne]; omega
                    have HM := Lib.hid (in_all (p := p) (by omega) HSD.out)
                    go_wp2_with fail
                    go_meet
                    exact ⟨⟨_, rfl, HM.out, Nat.le_refl _⟩, hbel⟩
                case rest =>
                  obtain ⟨⟨s0, rfl, hbk, hz⟩, hb⟩ := hcut
                  have HBK := Lib.hid hbk
                  clear hbk hbel
                  go_wp2_with fail
                  refine (new_any _ _).mono ?_
                  rintro e w4 ⟨rfl, hr4, hb4⟩
                  have hst : St p wc.heap.size w (uBytes u ++ (iBytes i ++ tBytes t)) w4 := ⟨s0, 0, hr4, HBK.out, by omega, hb.size, later hb hb4 (Nat.le_refl _)⟩
                  have HST := Lib.hid hst
                  clear hst hr4 hb4 HBK
                  go_wp2_with fail
                  go_loopg [14, 15] u.length (fun n q j wr' => ∃ k : Nat, k ≤ u.length ∧ n = u.length - k ∧ j = .int .i64 k ∧ Sm p q ∧ St p wc.heap.size w (uBytes (u.drop k) ++ (iBytes i ++ tBytes t)) wr')
                  case atStart => exact ⟨0, Nat.zero_le _, rfl, rfl, ⟨true, rfl, fun _ => rfl⟩, HST.out⟩
                  case round =>
                    clear HST
                    obtain ⟨k, hk, rfl, rfl, ⟨q, rfl, hq⟩, hst⟩ := hrel
                    have HQ := Lib.hid hq
                    clear hq
                    by_cases hlt : k < u.length
                    · rw [uBytes_drop hlt, List.append_assoc] at hst
                      obtain ⟨s, f, hrd, hbk, hsz, hB, hbw⟩ := hst
                      obtain ⟨ad, rfl, _, hc⟩ := (Lu.out.below hbw).at_ (u64s_at hlt)
                      have hstep := Wire.Bk_num (wrong := Wire.wU 18446744073709551615) (Bu.out u[k] (List.getElem_mem hlt)) (fun b => Wire.wU_all (Bu.out u[k] (List.getElem_mem hlt))) hbk
                      have hss := Wire.step_size (wrong := Wire.wU 18446744073709551615) s f
                      have HC := rUint_any 18446744073709551615 wc.heap.size s f wr hrd (small hsz)
                      generalize Wire.step (Wire.wU 18446744073709551615) s f = st at hstep hss HC
                      obtain ⟨v, t', g⟩ := st
                      simp only [] at hstep hss HC
                      have HCC := Lib.hid HC
                      have HX := Lib.hid hstep
                      have HRD := Lib.hid hrd
                      clear HC hstep hbk hrd
                      cases q
                      · go_wp2_with fail
                        refine HCC.out.mono ?_
                        rintro e w5 ⟨rfl, hA⟩
                        have HN := Lib.hid (St.next HRD.out (by omega : t'.size ≤ 500000) hB hbw hA HX.out.1)
                        clear hA
                        go_wp2_with fail
                        go_roundg (u.length - (k + 1))
                        case measure => omega
                        case rel => exact ⟨k + 1, by omega, rfl, by go_num, ⟨false, rfl, HQ.out⟩, HN.out⟩
                      · go_wp2_with fail
                        refine HCC.out.mono ?_
                        rintro e w5 ⟨rfl, hA⟩
                        have HN := Lib.hid (St.next HRD.out (by omega : t'.size ≤ 500000) hB hbw hA HX.out.1)
                        have hc5 := lies_cell (Lu.out.below HN.out.below) (u64s_at hlt)
                        clear hA hc
                        go_wp2_with fail
                        go_roundg (u.length - (k + 1))
                        case measure => omega
                        case rel => exact ⟨k + 1, by omega, rfl, by go_num, ⟨_, rfl, fun h0 => by rw [HX.out.2 h0]; simp⟩, HN.out⟩
                    · have hst0 := st_nil hst (uBytes_nil (by omega))
                      have HST := Lib.hid hst0
                      clear hst hst0
                      go_wp2_with fail
                      go_loopg [14, 17] i.length (fun n q j wr' => ∃ k : Nat, k ≤ i.length ∧ n = i.length - k ∧ j = .int .i64 k ∧ Sm p q ∧ St p wc.heap.size w (iBytes (i.drop k) ++ tBytes t) wr')
                      case atStart => exact ⟨0, Nat.zero_le _, rfl, rfl, ⟨q, rfl, HQ.out⟩, HST.out⟩
                      case round =>
                        clear HST HQ
                        obtain ⟨k, hk, rfl, rfl, ⟨q, rfl, hq⟩, hst⟩ := hrel
                        have HQ := Lib.hid hq
                        clear hq
                        by_cases hlt : k < i.length
                        · rw [iBytes_drop hlt, List.append_assoc] at hst
                          obtain ⟨s, f, hrd, hbk, hsz, hB, hbw⟩ := hst
                          obtain ⟨ad, rfl, _, hc⟩ := (Li.out.below hbw).at_ (icells_at hlt)
                          have hib := Bi.out i[k] (List.getElem_mem hlt)
                          have hstep := Wire.Bk_num (wrong := Wire.wI (-9223372036854775808) 9223372036854775807) (Lib.zigzag_lt hib.1 hib.2) (fun b => Wire.wI_all hib) hbk
                          have hss := Wire.step_size (wrong := Wire.wI (-9223372036854775808) 9223372036854775807) s f
                          have HC := rInt_any (-9223372036854775808) 9223372036854775807 wc.heap.size s f wr hrd (small hsz)
                          generalize Wire.step (Wire.wI (-9223372036854775808) 9223372036854775807) s f = st at hstep hss HC
                          obtain ⟨v, t', g⟩ := st
                          simp only [] at hstep hss HC
                          have HCC := Lib.hid HC
                          have HX := Lib.hid hstep
                          have HRD := Lib.hid hrd
                          clear HC hstep hbk hrd hib
                          cases q
                          · go_wp2_with fail
                            refine HCC.out.mono ?_
                            rintro e w5 ⟨rfl, hA⟩
                            have HN := Lib.hid (St.next HRD.out (by omega : t'.size ≤ 500000) hB hbw hA HX.out.1)
                            clear hA
                            go_wp2_with fail
                            go_roundg (i.length - (k + 1))
                            case measure => omega
                            case rel => exact ⟨k + 1, by omega, rfl, by go_num, ⟨false, rfl, HQ.out⟩, HN.out⟩
                          · go_wp2_with fail
                            refine HCC.out.mono ?_
                            rintro e w5 ⟨rfl, hA⟩
                            have HN := Lib.hid (St.next HRD.out (by omega : t'.size ≤ 500000) hB hbw hA HX.out.1)
                            have hc5 := lies_cell (Li.out.below HN.out.below) (icells_at hlt)
                            clear hA hc
                            go_wp2_with fail
                            go_roundg (i.length - (k + 1))
                            case measure => omega
                            case rel => exact ⟨k + 1, by omega, rfl, by go_num, ⟨_, rfl, fun h0 => by rw [HX.out.2 h0, Num.zag_zig]; simp⟩, HN.out⟩
                        · have hst0 := st_nil hst (iBytes_nil (by omega))
                          have HST := Lib.hid hst0
                          clear hst hst0
                          go_wp2_with fail
                          go_loopg [14, 19] t.length (fun n q j wr' => ∃ k : Nat, k ≤ t.length ∧ n = t.length - k ∧ j = .int .i64 k ∧ Sm p q ∧ St p wc.heap.size w (tBytes (t.drop k) ++ []) wr')
                          case atStart => exact ⟨0, Nat.zero_le _, rfl, rfl, ⟨q, rfl, HQ.out⟩, (by rw [List.append_nil]; exact HST.out)⟩
                          case round =>
                            clear HST HQ
                            obtain ⟨k, hk, rfl, rfl, ⟨q, rfl, hq⟩, hst⟩ := hrel
                            have HQ := Lib.hid hq
                            clear hq
                            by_cases hlt : k < t.length
                            · rw [tBytes_drop hlt, List.append_assoc, List.append_assoc] at hst
                              obtain ⟨s, f, hrd, hbk, hsz, hB, hbw⟩ := hst
                              obtain ⟨ad, rfl, _, hc⟩ := (Lt.out.below hbw).at_ (tcells_at hlt)
                              have htb := T4.out t[k] (List.getElem_mem hlt)
                              have hstep := Wire.Bk_text (t := t[k]) (by omega) hbk
                              have hss := Wire.text_size t[k].size s f
                              have HC := rText_any (t[k].size : Int) (by omega) (by omega) wc.heap.size s f wr hrd (small hsz) (.inl (by omega))
                              generalize Wire.text (t[k].size : Int) s f = st at hstep hss HC
                              obtain ⟨v, t', g⟩ := st
                              simp only [] at hstep hss HC
                              have HCC := Lib.hid HC
                              have HX := Lib.hid hstep
                              have HRD := Lib.hid hrd
                              clear HC hstep hbk hrd
                              cases q
                              · go_wp2_with fail
                                refine HCC.out.mono ?_
                                rintro e w5 ⟨rfl, hA⟩
                                have HN := Lib.hid (St.next HRD.out (by omega : t'.size ≤ 500000) hB hbw hA HX.out.1)
                                clear hA
                                go_wp2_with fail
                                go_roundg (t.length - (k + 1))
                                case measure => omega
                                case rel => exact ⟨k + 1, by omega, rfl, by go_num, ⟨false, rfl, HQ.out⟩, HN.out⟩
                              · go_wp2_with fail
                                refine HCC.out.mono ?_
                                rintro e w5 ⟨rfl, hA⟩
                                have HN := Lib.hid (St.next HRD.out (by omega : t'.size ≤ 500000) hB hbw hA HX.out.1)
                                have hc5 := lies_cell (Lt.out.below HN.out.below) (tcells_at hlt)
                                clear hA hc
                                go_wp2_with fail
                                go_roundg (t.length - (k + 1))
                                case measure => omega
                                case rel => exact ⟨k + 1, by omega, rfl, by go_num, ⟨_, rfl, fun h0 => by rw [HX.out.2 h0]; simp⟩, HN.out⟩
                            · have hst0 := st_nil hst (tBytes_nil (by omega))
                              have HST := Lib.hid hst0
                              clear hst hst0
                              obtain ⟨s, f, hrd, hbk, hsz, hB, hbw⟩ := HST.out
                              have HRD := Lib.hid hrd
                              clear hrd
                              by_cases h0 : p = 0
                              · have e0 : ((p : Int) == 0) = true := by rw [beq_iff_eq]; omega
                                have e1 : ((p : Int) == 1) = false := by rw [beq_eq_false_iff_ne]; omega
                                have hqt := HQ.out h0
                                have HF := Lib.hid (Wire.Bk_end0 (h0 ▸ hbk))
                                subst hqt
                                clear hbk h0
                                go_wp2_with fail
                                refine (rEnd_any _ _ _ _ HRD.out (small hsz)).mono ?_
                                rw [HF.out]
                                rintro e w5 ⟨rfl, hA⟩
                                have HB5 := Lib.hid (hbw.grown hA.2 hbw.size (fun k h => by injection h; omega))
                                clear hA
                                go_wp2_with fail
                                go_roundg (2 - (p + 1))
                                case measure => omega
                                case rel => exact ⟨p + 1, by omega, rfl, by go_num, HB5.out⟩
                              · have hp1 : p = 1 := by omega
                                subst hp1
                                have hf := Wire.Bk_end1 hbk
                                subst hf
                                clear hbk h0
                                go_wp2_with fail
                                refine (err_any _ _ _ _ HRD.out).mono ?_
                                rintro e w' ⟨rfl, rfl⟩
                                go_wp2_with fail
                                go_roundg 0
                                case measure => omega
                                case rel => exact ⟨2, by omega, rfl, rfl, hbw⟩

/-! ### From the walk to the statement -/
theorem own : ownKnob Try.prog.godebug = none := by kernel_rfl

theorem contract (H : Type) (enc : TypeId × Value → H) (W : World) (base : Nat) (args : Array Value) (ds gs : List (DataW H)) (before : List MemPlace)
    (hval : ∀ (j : Nat) t v, Try.f5.params[j]? = some t → args[j]? = some v → Value.okWide Try.prog W .any base t v)
    (hW : DataW.Whole enc Try.prog Try.f5.params.toList Rows.wireBackSpec.vars false W args.toList ds gs before) :
    Calls Try.prog 5 args W fun e W' => ∃ v, e = .returned v ∧ Rows.wireBackSpec.post enc Try.prog Try.f5 false true false false W args v W' := by
  have hW' := hW
  obtain ⟨p, q, hA0, hV, rfl, hfz, hnd⟩ := hW
  have hA : DataW.TrodAll enc Try.prog W 0 (fun _ => true) true Try.f5.params.toList args.toList ds p := hA0
  rw [Try.params5] at hA hval
  obtain ⟨v0, vs0, d0, ds0, p0, q0, hargs, rfl, rfl, h0, r0⟩ := trodAll_cons hA
  obtain ⟨v1, vs1, d1, ds1, p1, q1, rfl, rfl, rfl, h1, r1⟩ := trodAll_cons r0
  obtain ⟨v2, vs2, d2, ds2, p2, q2, rfl, rfl, rfl, h2, r2⟩ := trodAll_cons r1
  obtain ⟨v3, vs3, d3, ds3, p3, q3, rfl, rfl, rfl, h3, r3⟩ := trodAll_cons r2
  obtain ⟨rfl, rfl, rfl⟩ := trodAll_nil r3
  obtain rfl : args = #[v0, v1, v2, v3] := by cases args; simp_all
  obtain ⟨rfl, rfl⟩ := trodVars_none hV
  have k0 := h0
  obtain ⟨fuel0, hf0⟩ := h0
  obtain ⟨xs0, A0, c0, hcs0, hn0, hl0, hb0⟩ := trod_u64s Try.underlying22 Try.underlying28 (by kernel_rfl) hf0
  obtain rfl := slice_of Try.underlying22 (hval 0 22 v0 rfl rfl) hcs0
  have k1 := h1
  obtain ⟨fuel1, hf1⟩ := h1
  obtain ⟨xs1, A1, c1, hcs1, hn1, hl1, hb1⟩ := trod_i64s Try.underlying23 Try.underlying2 (by kernel_rfl) hf1
  obtain rfl := slice_of Try.underlying23 (hval 1 23 v1 rfl rfl) hcs1
  have k2 := h2
  obtain ⟨fuel2, hf2⟩ := h2
  obtain ⟨xs2, A2, c2, hcs2, hn2, hl2, hb2⟩ := trod_strs Try.underlying24 Try.underlying9 (by kernel_rfl) hf2
  obtain rfl := slice_of Try.underlying24 (hval 2 24 v2 rfl rfl) hcs2
  obtain ⟨a3, rfl, rfl, rfl, w3⟩ := open_int Try.underlying55 (hval 3 55 v3 rfl rfl) h3
  have b3 : 0 ≤ a3 ∧ a3 ≤ 65535 := by simpa [Lit.wf, IntKind.min, IntKind.max, IntKind.signed, IntKind.bits] using w3
  clear hA0
  simp only [List.append_nil] at hW'
  refine (walk W xs0 A0 c0 hl0 hn0 hb0 xs1 A1 c1 hl1 hn1 hb1 xs2 A2 c2 hl2 hn2 hb2 a3 b3.1 b3.2).mono fun e W' ⟨he, bel⟩ => ?_
  subst he
  exact ⟨_, rfl, _, _, _, [], _, [], hW', trodAll_mk1 (shut_bool Try.underlying4 _), (trodAll_cons_mk (Below.trod laidOut (by kernel_rfl) (of_decide_eq_true (by kernel_rfl)) k0 bel (fun x hx => DataW.trod_lt _ _ _ _ hf0 x hx)) (trodAll_cons_mk (Below.trod laidOut (by kernel_rfl) (of_decide_eq_true (by kernel_rfl)) k1 bel (fun x hx => DataW.trod_lt _ _ _ _ hf1 x hx)) (trodAll_cons_mk (Below.trod laidOut (by kernel_rfl) (of_decide_eq_true (by kernel_rfl)) k2 bel (fun x hx => DataW.trod_lt _ _ _ _ hf2 x hx)) (trodAll_cons_mk (shut_int Try.underlying55 w3) trodAll_mk0)))), rfl, bel.frame _, fun h => by cases h⟩

set_option maxRecDepth 100000 in
theorem lifted (os : Os) (started : os.Started) (H : Type) (enc : TypeId × Value → H) :
    ReturnsInHanded {} Try.checked os 5 .any (Rows.wireBackSpec.pre6 enc Try.prog Try.f5 Rows.wireBackRow.domain false) (Rows.wireBackSpec.post enc Try.prog Try.f5 false true false false) := by
  refine returnsInHanded_of_change (C := Try.checked) own started (by kernel_rfl) Try.func5
    (ChangeSpec.witness6 (enc := enc) (C := Try.checked) false ⟨#[], #[.slice none 0 0, .slice none 0 0, .slice none 0 0, .int .u16 0], []⟩ 8 (by kernel_rfl) (by kernel_rfl) (by kernel_rfl) (by kernel_rfl)) ?_
  intro W base args ds gs before hval hW _ _
  exact contract H enc W base args ds gs before hval hW

theorem over : Rows.wireBackRow.holds Try.pinned (OpenSpec.ofChange Rows.wireBackSpec) :=
  OpenClaim.holds_of_wide 5 Try.f5 rfl rfl rfl rfl rfl rfl rfl ⟨rfl, rfl, rfl, rfl, rfl⟩ rfl rfl rfl rfl rfl (by kernel_rfl) Try.func5 (by kernel_rfl)
    (of_decide_eq_true (by kernel_rfl)) (by unfold Func.isWrapper; first | (rw [if_pos (by decide +kernel)]; kernel_rfl) | (rw [if_neg (by decide +kernel)]; exact ⟨rfl, rfl⟩))
    (fun os started H enc _ => lifted os started H enc)

/-- The statement. -/
theorem proved : Rows.WireBackSaid :=
  over

end Go.Proofs.Ytpahajnojfhgdaa.wireBack
