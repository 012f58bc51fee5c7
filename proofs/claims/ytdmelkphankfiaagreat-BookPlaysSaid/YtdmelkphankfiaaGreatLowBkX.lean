/-
  The document's book: Append.
  The document's book: Clear and Open that refuse, of a disk that stands still, or of sectors that are not there.
  A book and its disk, and the document's, side by side (thresherlaw06's pair): what a call of each leaves.
-/
import Derived.Test.YtdmelkphankfiaaGreatLowBkS
import Derived.Test.YtdmelkphankfiaaGreatLowPbE
section
namespace Go.Proofs.YtdmelkphankfiaaGreat
open Go.RowKit
attribute [local go_sem ↓] Go.wp_at_zero Go.wp_at_succ

/-- The document's Write, of a sector that is there. -/
theorem rwput (R : Sec.Rl) (s : Sec.St) (w : World) (h : Sec.RHas R s w) (hs : s.Ok) (k : Nat) (hk : k < s.n) (y : List UInt8) (hy : y.length = 128) (hlim : s.loose.length ≤ 1000000000) :
    Calls Tryz.prog 52 #[.pointer (some ⟨R.b, 0, none⟩), .int .i64 (k : Int), .string ⟨y.toArray⟩] w fun e w' => e = .returned (.int .i64 (Book.wput s k y).1) ∧ ∃ v, Sec.RHas { R with v := v } (Book.wput s k y).2 w' ∧ Sec.Mv R.off { R with v := v : Sec.Rl }.off w w' := by
  have hys : (⟨y.toArray⟩ : ByteArray).size ≤ 128 := by show y.toArray.size ≤ 128; simp; omega
  have hpad : Sec.pad (⟨y.toArray⟩ : ByteArray).data.toList = y := by simp [Sec.pad, hy]
  unfold Book.wput
  cases hd : s.still with
  | true =>
    rw [if_pos rfl]
    exact (rwrite_down R s w h hs hd k hk _ hys).mono fun e w' ⟨a, b⟩ => ⟨a, R.v, by subst b; exact h, by subst b; exact .refl _ _⟩
  | false =>
    rw [if_neg (by simp)]
    have := rwrite R s w h hs hd k hk _ hys hlim
    rw [hpad] at this
    exact this

namespace Book
/-- What is still to do from sector i on. -/
def todoF (a n : Nat) (S T : List UInt8) (i : Nat) : List (Nat × List UInt8) := (((List.range n).drop i).filter fun i => decide (made T i ≠ made S i)).map fun i => (a + i, made T i)
theorem todoF_zero (a n : Nat) (S T : List UInt8) : todoF a n S T 0 = todo a n S T := rfl
theorem todoF_all {a n : Nat} {S T : List UInt8} {i : Nat} (h : n ≤ i) : todoF a n S T i = [] := by
  unfold todoF
  rw [List.drop_of_length_le (by simpa using h)]
  rfl
theorem range_drop {n i : Nat} (h : i < n) : (List.range n).drop i = i :: (List.range n).drop (i + 1) := by
  rw [List.drop_eq_getElem_cons (by simpa using h), List.getElem_range]
theorem todoF_same {a n : Nat} {S T : List UInt8} {i : Nat} (h : i < n) (e : made T i = made S i) : todoF a n S T i = todoF a n S T (i + 1) := by
  unfold todoF
  rw [range_drop h, List.filter_cons, if_neg (by simpa using e)]
theorem todoF_next {a n : Nat} {S T : List UInt8} {i : Nat} (h : i < n) (e : made T i ≠ made S i) : todoF a n S T i = (a + i, made T i) :: todoF a n S T (i + 1) := by
  unfold todoF
  rw [range_drop h, List.filter_cons, if_pos (by simpa using e)]
  rfl
theorem RB.c013 {B b a n : Nat} {S : List UInt8} {br : Bool} {w : World} (h : RB B b a n S br w) : w.cell? ⟨B, 0, none⟩ = some (.pointer (some ⟨b, 0, none⟩)) ∧ w.cell? ⟨B, 1, none⟩ = some (.int .i64 (a : Int)) ∧ w.cell? ⟨B, 3, none⟩ = some (.string ⟨S.toArray⟩) := ⟨h.c0, h.c1, h.c3⟩
/-- Behind a call of the document's book. -/
def RAfter (R : Sec.Rl) (X a n : Nat) (c : Int) (S : List UInt8) (br : Bool) (s : Sec.St) (w : World) (e : Ending) (w' : World) : Prop :=
  e = .returned (.int .i64 c) ∧ RB X R.b a n S br w' ∧ ∃ v, Sec.RHas { R with v := v } s w' ∧ ({ R with v := v : Sec.Rl }).off X ∧ Sec.Mv (fun i => R.off i ∧ i ≠ X) (fun i => ({ R with v := v : Sec.Rl }).off i ∧ i ≠ X) w w'
end Book

set_option maxHeartbeats 8000000 in
set_option maxRecDepth 20000 in
theorem kappend (R : Sec.Rl) (s : Sec.St) {X a n : Nat} {S : List UInt8} {br : Bool} {w : World} (h : Book.RB X R.b a n S br w) (ho : R.off X) (hR : Sec.RHas R s w) (hs : s.Ok) (hS : S.length ≤ n * 127) (han : a + n ≤ s.n) (hlim : s.loose.length + n ≤ 1000000000)
    (xs : List ByteArray) (A : Option Addr) (c : Nat) (hl : xs.length ≤ 20) (hx : ∀ x ∈ xs, x.size ≤ 262144) (hli : Lies w w.heap.size A (tcells xs)) (r : Int × List UInt8 × Bool × Sec.St) (hr : r = Book.app a n S br s xs) :
    Calls Tryz.prog 26 #[.pointer (some ⟨X, 0, none⟩), .slice A xs.length c] w (Book.RAfter R X a n r.1 r.2.1 r.2.2.1 r.2.2.2 w) := by
  have hn2 := hs.n2
  have hlb := h.ltb
  have c4 := h.c4
  have H := Lib.hid h
  have HO := Lib.hid ho
  have HR := Lib.hid hR
  have HS := Lib.hid hs
  have HL := Lib.hid hli
  have HX := Lib.hid hx
  have HRR := Lib.hid hr
  cases br with
  | true =>
    have HRE : Hid (r = (3, S, true, s)) := hr.trans Book.app_broken
    clear h ho hR hs hli hx hr
    go_enter Tryz.func26, Tryz.ntmps26
    go_wp2_with fail
    go_ret
    rw [HRE.out]
    exact ⟨rfl, H.out, R.v, HR.out, HO.out, .refl _ _⟩
  | false =>
    have HLONG : Hid (∀ (i : Nat) (hi : i < xs.length), 131072 < xs[i].size → r = (4, S, false, s)) := fun i hi hz => by
      refine hr.trans (Book.app_long ?_)
      unfold Book.long
      rw [List.any_eq_true]
      exact ⟨xs[i], List.getElem_mem hi, by simpa using hz⟩
    clear h ho hR hs hli hx hr
    go_enter Tryz.func26, Tryz.ntmps26
    go_wp2_with fail
    go_loopw [5, 6] (fun sv t wr => ∃ (i : Nat) (acc : List UInt8), sv = .string ⟨acc.toArray⟩ ∧ t = .int .i64 i ∧ i ≤ xs.length ∧ acc.length ≤ i * 131088 ∧ Hid (Book.frb (xs.take i) = acc) ∧ Hid (∀ x ∈ xs.take i, x.size ≤ 131072) ∧ Hid (Below w.heap.size w wr)) (fun _ t _ => xs.length - (intOf t).toNat)
    case atStart => exact ⟨0, [], rfl, rfl, Nat.zero_le _, Nat.zero_le _, rfl, fun x hx => by simp at hx, Below.refl _ _⟩
    case round =>
      obtain ⟨i, acc, rfl, rfl, hi, hacc, HACC, HSM, HW⟩ := hrel
      by_cases hit : i < xs.length
      · obtain ⟨ad, hA, hbk, hcx⟩ := Lies.at_ (Lies.below HL.out HW.out) (tcells_at hit)
        subst hA
        clear hbk
        have hi0 : (0 : Int) ≤ (i : Int) := by omega
        have hi1 : (i : Int) < (xs.length : Int) := by omega
        have HLG := Lib.hid (HLONG.out i hit)
        have hxz := HX.out xs[i] (List.getElem_mem hit)
        have HT := Lib.hid (Book.frb_succ xs i hit)
        have HTK := Lib.hid (List.take_succ_eq_append_getElem hit)
        generalize xs[i] = x at hcx HLG hxz HT HTK
        by_cases hz : 131072 < x.size
        · have hzi : (131072 : Int) < (x.size : Int) := by omega
          have HRE := Lib.hid (HLG.out hz)
          clear hz HLG
          go_wp2_with fail
          go_ret
          rw [HRE.out]
          exact ⟨rfl, (HW.out.block X hlb).trans H.out, R.v, Sec.RAt.below HR.out HW.out, HO.out, .of_below HW.out⟩
        · have hzi : ¬ (131072 : Int) < (x.size : Int) := by omega
          have HRAW : Hid (∀ wx : World, Calls Tryz.prog 57 #[.int .u8 1, .string x] wx fun e w' => e = .returned (.string ⟨(Frame.raw 1 x.data.toList).toArray⟩) ∧ Below wx.heap.size wx w') := fun wx => fraw_any 1 x wx (by omega)
          have hrl := Book.raw_le (t := x.data.toList) (by simpa using (by omega : x.size ≤ 131072))
          have HSM2 : Hid (∀ y ∈ xs.take (i + 1), y.size ≤ 131072) := fun y hy => by
            rw [HTK.out] at hy
            rcases List.mem_append.1 hy with hy | hy
            · exact HSM.out y hy
            · rw [List.mem_singleton.1 hy]; omega
          have HACC2 : Hid (Book.frb (xs.take (i + 1)) = acc ++ Frame.raw 1 x.data.toList) := by show _ = _; rw [HT.out, HACC.out]
          generalize Frame.raw 1 x.data.toList = y at HRAW hrl HACC2
          have hcat : (⟨acc.toArray⟩ : ByteArray) ++ ⟨y.toArray⟩ = ⟨(acc ++ y).toArray⟩ := by
            apply ByteArray.ext
            rw [ByteArray.data_append]
            apply Array.ext'
            simp
          have has : (⟨acc.toArray⟩ : ByteArray).size = acc.length := by show acc.toArray.size = _; simp
          have hys : (⟨y.toArray⟩ : ByteArray).size = y.length := by show y.toArray.size = _; simp
          have hsz : acc.length + y.length ≤ 4000000 := by omega
          clear hz HLG HT HTK
          go_wp2_with fail
          refine (HRAW.out _).mono ?_
          rintro e w1 ⟨rfl, hb⟩
          have HW1 := Lib.hid (HW.out.trans (hb.mono HW.out.size))
          clear hb hcx
          go_wp2_with fail
          go_roundw
          case rel => exact ⟨i + 1, acc ++ y, by rw [← hcat], by go_num, by omega, by rw [List.length_append]; omega, HACC2.out, HSM2.out, HW1.out⟩
          case measure => simp [intOf]; omega
      · have hac : Book.frb xs = acc := by
          have := HACC.out
          rwa [List.take_of_length_le (by omega)] at this
        have hlong : Book.long xs = false := by
          have h1 := HSM.out
          rw [List.take_of_length_le (by omega)] at h1
          unfold Book.long
          rw [List.any_eq_false]
          intro x hx
          have := h1 x hx
          simp
          omega
        have has : (⟨acc.toArray⟩ : ByteArray).size = acc.length := by show acc.toArray.size = _; simp
        have hai : (acc.length : Int) ≤ 4000000 := by omega
        have HRB : Hid (Book.RB X R.b a n S false wr) := (HW.out.block X hlb).trans H.out
        have HRW : Hid (Sec.RHas R s wr) := Sec.RAt.below HR.out HW.out
        have HRM := Lib.hid (kroom HRB.out (by omega) hS)
        have hfit : ¬ (S.length + acc.length ≤ n * 127) → r = (6, S, false, s) := fun hno => by
          exact HRR.out.trans (Book.app_full hlong (by rw [hac]; exact hno))
        have hok : S.length + acc.length ≤ n * 127 → r = ((Book.puts (Book.todo a n S (S ++ acc)) s).1, S ++ acc, (Book.puts (Book.todo a n S (S ++ acc)) s).1 != 0, (Book.puts (Book.todo a n S (S ++ acc)) s).2) := fun hyes => by
          have := HRR.out.trans (Book.app_fits hlong (by rw [hac]; exact hyes))
          rw [hac] at this
          exact this
        have HFIT := Lib.hid hfit
        have HOK := Lib.hid hok
        obtain ⟨m, hm⟩ : ∃ m, m = n * 127 - S.length := ⟨_, rfl⟩
        rw [← hm] at HRM
        have hmi : (m : Int) ≤ 600000 := by omega
        clear hac hlong hfit hok
        by_cases hf : S.length + acc.length ≤ n * 127
        · have hma : decide (m < acc.length) = false := by simp; omega
          have HRE := Lib.hid (HOK.out hf)
          clear HFIT HOK hm
          go_wp2_with fail
          refine HRM.out.mono ?_
          rintro e w1 ⟨rfl, hb1⟩
          have HW1 := Lib.hid (HW.out.trans (hb1.mono HW.out.size))
          clear hb1 HRM HRW HRB HRR HLONG HSM HACC HX HL hmi
          have HRB1 : Hid (Book.RB X R.b a n S false w1) := (HW1.out.block X hlb).trans H.out
          have e3 := HRB1.out.c3
          have f3 := HRB1.out.fro 3
          obtain ⟨T, hT⟩ : ∃ T, T = S ++ acc := ⟨_, rfl⟩
          rw [← hT] at HRE
          have hcat : (⟨S.toArray⟩ : ByteArray) ++ ⟨acc.toArray⟩ = ⟨T.toArray⟩ := by
            rw [hT]
            apply ByteArray.ext
            rw [ByteArray.data_append]
            apply Array.ext'
            simp
          have hSs : (⟨S.toArray⟩ : ByteArray).size = S.length := by show S.toArray.size = _; simp
          have hsum : S.length + acc.length ≤ 1000000 := by omega
          have hTl : T.length ≤ 1000000 := by rw [hT, List.length_append]; omega
          have hSl : S.length ≤ 1000000 := by omega
          have HRB2 : Hid (Book.RB X R.b a n T false (w1.setCell ⟨X, 3, none⟩ (.string ⟨T.toArray⟩))) := HRB1.out.to T
          have hg := Sec.grown_set w1 X 3 (.string ⟨T.toArray⟩)
          have HR2 : Hid (Sec.RHas R s (w1.setCell ⟨X, 3, none⟩ (.string ⟨T.toArray⟩))) := Sec.RAt.keep (Sec.RAt.below HR.out HW1.out) (fun j hj => hg.block j (Sec.RAt.lt (Sec.RAt.below HR.out HW1.out) hj) (fun e => by
            obtain rfl : j = X := Option.some.inj e
            exact hj HO.out))
          have HM2 : Hid (Sec.Mv (fun i => R.off i ∧ i ≠ X) (fun i => R.off i ∧ i ≠ X) w (w1.setCell ⟨X, 3, none⟩ (.string ⟨T.toArray⟩))) := (Sec.Mv.of_below HW1.out).trans (.of_grown hg (fun j hj e => hj.2 (Option.some.inj e)) (fun _ _ h => h))
          obtain ⟨Pq, hPq⟩ : ∃ Pq, Pq = Book.puts (Book.todo a n S T) s := ⟨_, rfl⟩
          rw [← hPq] at HRE
          have HP0 : Hid (Pq = Book.puts (Book.todoF a n S T 0) s) := by show _ = _; rw [hPq, Book.todoF_zero]
          have HKT : Hid (∀ (wx : World) (i : Nat), i < n → Calls Tryz.prog 58 #[.string ⟨T.toArray⟩, .int .i64 (i : Int)] wx fun e w' => e = .returned (.string ⟨(Book.made T i).toArray⟩) ∧ Below wx.heap.size wx w') := fun wx i hi => kmade ⟨T.toArray⟩ (by show T.toArray.size ≤ _; simpa using hTl) i (by omega) wx
          have HKS : Hid (∀ (wx : World) (i : Nat), i < n → Calls Tryz.prog 58 #[.string ⟨S.toArray⟩, .int .i64 (i : Int)] wx fun e w' => e = .returned (.string ⟨(Book.made S i).toArray⟩) ∧ Below wx.heap.size wx w') := fun wx i hi => kmade ⟨S.toArray⟩ (by show S.toArray.size ≤ _; simpa using hSl) i (by omega) wx
          clear hT hf hPq hg
          go_wp2_with fail
          clear e3 f3 hcat hSs hsum hTl has hma
          generalize w1.setCell ⟨X, 3, none⟩ (.string ⟨T.toArray⟩) = w2 at HRB2 HR2 HM2
          clear HRB1 HW1
          go_loopw [8] (fun t wr => ∃ (i : Nat) (v : Value) (si : Sec.St), t = .int .i64 i ∧ i ≤ n ∧ Hid (Book.RB X R.b a n T false wr) ∧ Hid (Sec.RHas { R with v := v } si wr) ∧ Hid (({ R with v := v : Sec.Rl }).off X) ∧ Hid (Sec.Mv (fun i => R.off i ∧ i ≠ X) (fun i => ({ R with v := v : Sec.Rl }).off i ∧ i ≠ X) w wr) ∧
            Hid (si.Ok ∧ si.n = s.n ∧ si.loose.length ≤ s.loose.length + i) ∧ Hid (Pq = Book.puts (Book.todoF a n S T i) si)) (fun t _ => n - (intOf t).toNat)
          case atStart => exact ⟨0, R.v, s, rfl, Nat.zero_le _, HRB2.out, HR2.out, HO.out, HM2.out, ⟨HS.out, rfl, Nat.le_refl _⟩, HP0.out⟩
          case round =>
            obtain ⟨i, v, si, rfl, hi, KRB, KR, KO, KM, KS, KP⟩ := hrel
            have e2 := KRB.out.c2
            by_cases hit : i < n
            · have hi0 : (0 : Int) ≤ (i : Int) := by omega
              have hi1 : (i : Int) < (n : Int) := by omega
              have e3 := KRB.out.c3
              have HKT2 := Lib.hid (fun wx : World => HKT.out wx i hit)
              have HKS2 := Lib.hid (fun wx : World => HKS.out wx i hit)
              obtain ⟨hok, hsn, hsl⟩ := KS.out
              have hml := Book.made_len T i
              have H1 : Hid (Book.made T i = Book.made S i → Pq = Book.puts (Book.todoF a n S T (i + 1)) si) := fun e => by rw [KP.out, Book.todoF_same hit e]
              have H2 : Hid (Book.made T i ≠ Book.made S i → (Book.wput si (a + i) (Book.made T i)).1 = 0 → Pq = Book.puts (Book.todoF a n S T (i + 1)) (Book.wput si (a + i) (Book.made T i)).2) := fun e hc => Book.go_from KP.out (Book.todoF_next hit e) hc
              have H3 : Hid (Book.made T i ≠ Book.made S i → (Book.wput si (a + i) (Book.made T i)).1 ≠ 0 → Pq = Book.wput si (a + i) (Book.made T i)) := fun e hc => Book.stop_from KP.out (Book.todoF_next hit e) hc
              have HWR : Hid (∀ (wx : World), Below wr.heap.size wr wx → Calls Tryz.prog 52 #[.pointer (some ⟨R.b, 0, none⟩), .int .i64 ((a : Int) + (i : Int)), .string ⟨(Book.made T i).toArray⟩] wx fun e w' => e = .returned (.int .i64 (Book.wput si (a + i) (Book.made T i)).1) ∧ ∃ v2, Sec.RHas { R with v := v2 } (Book.wput si (a + i) (Book.made T i)).2 w' ∧ Sec.Mv ({ R with v := v : Sec.Rl }).off ({ R with v := v2 : Sec.Rl }).off wx w') := fun wx hb => by
                have := rwput { R with v := v } si wx (Sec.RAt.below KR.out hb) hok (a + i) (by omega) (Book.made T i) hml (by omega)
                rw [Int.natCast_add] at this
                exact this
              have HOK2 := Lib.hid (Book.wput_ok hok (show a + i < si.n by omega) hml)
              have HN2 := Lib.hid ((Book.wput_n si (a + i) (Book.made T i)).trans hsn)
              have HL2 : Hid ((Book.wput si (a + i) (Book.made T i)).2.loose.length ≤ s.loose.length + (i + 1)) := by
                have := Book.wput_len si (a + i) (Book.made T i)
                show _ ≤ _
                omega
              have hcode := Book.wput_code si (a + i) (Book.made T i)
              generalize Book.wput si (a + i) (Book.made T i) = q at HWR HOK2 HN2 HL2 H2 H3 hcode
              generalize Book.made T i = y at HKT2 H1 H2 H3 HWR
              generalize Book.made S i = x at HKS2 H1 H2 H3
              obtain ⟨qc, qs⟩ := q
              simp only [] at hcode
              clear hok hsn hsl hml
              have hai0 : (0 : Int) ≤ (a : Int) := by omega
              have hai : (a : Int) + (i : Int) ≤ 4096 := by have h1 := KS.out.2.1; omega
              by_cases he : y = x
              · have G1 := Lib.hid (H1.out he)
                have he2 : (y == x) = true := by rw [he]; simp
                clear H1 H2 H3 HWR HOK2 HN2 HL2 hcode he
                go_wp2_with fail
                refine (HKT2.out _).mono ?_
                rintro e w3 ⟨rfl, hb3⟩
                have HB3 := Lib.hid hb3
                clear hb3
                go_wp2_with fail
                refine (HKS2.out _).mono ?_
                rintro e w4 ⟨rfl, hb4⟩
                have HB4 := Lib.hid (HB3.out.trans (hb4.mono HB3.out.size))
                clear hb4 e2 e3
                go_wp2_with fail
                go_roundw
                case rel => exact ⟨i + 1, v, si, by go_num, by omega, (HB4.out.block X KRB.out.ltb).trans KRB.out, Sec.RAt.below KR.out HB4.out, KO.out, KM.out.trans (.of_below HB4.out), ⟨KS.out.1, KS.out.2.1, by have := KS.out.2.2; omega⟩, G1.out⟩
                case measure => simp [intOf]; omega
              · have he2 : (y == x) = false := by rw [beq_eq_false_iff_ne]; exact he
                have G2 := Lib.hid (H2.out he)
                have G3 := Lib.hid (H3.out he)
                clear H1 H2 H3 he
                go_wp2_with fail
                refine (HKT2.out _).mono ?_
                rintro e w3 ⟨rfl, hb3⟩
                have HB3 := Lib.hid hb3
                clear hb3
                go_wp2_with fail
                refine (HKS2.out _).mono ?_
                rintro e w4 ⟨rfl, hb4⟩
                have HB4 := Lib.hid (HB3.out.trans (hb4.mono HB3.out.size))
                clear hb4 e2 e3
                have KRB4 : Hid (Book.RB X R.b a n T false w4) := (HB4.out.block X KRB.out.ltb).trans KRB.out
                have e0 := KRB4.out.c0
                have e1 := KRB4.out.c1
                have e3 := KRB4.out.c3
                have hw1 : IntKind.i64.wrap ((a : Int) + (i : Int)) = (a : Int) + (i : Int) := by rw [IntKind.wrap_i64]; omega
                go_wp2_with fail
                go_region_held3 (fun w' => w'.cell? ⟨X, 0, none⟩ = some (.pointer (some ⟨R.b, 0, none⟩)) ∧ w'.cell? ⟨X, 1, none⟩ = some (.int .i64 (a : Int)) ∧ w'.cell? ⟨X, 3, none⟩ = some (.string ⟨T.toArray⟩))
                  (first | assumption | exact ⟨e0, e1, e3⟩ | exact (Book.RB.c013 (KRB5.out)) | exact (Book.RB.c013 (KRB6.out))) (first
                  | (go_at_call 58; refine (HKT2.out _).mono ?_; rintro e w5 ⟨rfl, hb5⟩; have HB5 := Lib.hid (HB4.out.drew.trans (hb5.mono HB4.out.size)); have KRB5 : Hid (Book.RB X R.b a n T false w5) := (HB5.out.block X KRB.out.ltb).trans KRB.out; clear hb5)
                  | (go_at_call 52; refine (HWR.out _ HB5.out).mono ?_; rintro e w6 ⟨rfl, v2, hR6, hM6⟩; have HR6 := Lib.hid hR6; have HM6 := Lib.hid ((Sec.Mv.of_below HB5.out).trans hM6); have KRB6 : Hid (Book.RB X R.b a n T false w6) := (HM6.out.block X KRB.out.ltb KO.out).trans KRB.out; clear hR6 hM6))
                all_goals
                  simp only [Exit.then]
                  go_at_K
                  have HO6 : Hid (({ R with v := v2 : Sec.Rl }).off X) := HM6.out.keep X KRB.out.ltb KO.out
                  have HMM : Hid (Sec.Mv (fun i => R.off i ∧ i ≠ X) (fun i => ({ R with v := v2 : Sec.Rl }).off i ∧ i ≠ X) w w6) := KM.out.trans (HM6.out.but X)
                  clear HB5 HB4 HB3 KRB5 KRB4 HKT2 HKS2 HWR e0 e1 e3 hw1 he2
                  rcases hcode with rfl | rfl
                  · have G4 := Lib.hid (G2.out rfl)
                    clear G2 G3
                    go_wp2_with fail
                    go_roundw
                    case rel => exact ⟨i + 1, v2, qs, by go_num, by omega, KRB6.out, HR6.out, HO6.out, HMM.out, ⟨HOK2.out, HN2.out, HL2.out⟩, G4.out⟩
                    case measure => simp [intOf]; omega
                  · have G4 := Lib.hid (G3.out (by show (51 : Int) ≠ 0; decide))
                    have e4 := KRB6.out.c4
                    have f4 := KRB6.out.fro 4
                    clear G2 G3
                    go_wp2_with fail
                    go_ret
                    have hg := Sec.grown_set w6 X 4 (.bool true)
                    rw [HRE.out, G4.out]
                    refine ⟨rfl, KRB6.out.broke true, v2, Sec.RAt.keep HR6.out (fun j hj => hg.block j (Sec.RAt.lt HR6.out hj) (fun e => ?_)), HO6.out, HMM.out.trans (.of_grown hg (fun j hj e => hj.2 (Option.some.inj e)) (fun _ _ h => h))⟩
                    obtain rfl : j = X := Option.some.inj e
                    exact hj HO6.out
            · have hfin : Pq = (0, si) := by
                rw [KP.out, Book.todoF_all (by omega)]
                rfl
              have HFIN := Lib.hid hfin
              clear hfin
              go_wp2_with fail
              go_ret
              rw [HRE.out, HFIN.out]
              exact ⟨rfl, KRB.out, v, KR.out, KO.out, KM.out⟩
        · have hma : decide (m < acc.length) = true := by simp; omega
          have HRE := Lib.hid (HFIT.out hf)
          clear HFIT HOK hm hf
          go_wp2_with fail
          refine HRM.out.mono ?_
          rintro e w1 ⟨rfl, hb1⟩
          have HW1 := Lib.hid (HW.out.trans (hb1.mono HW.out.size))
          clear hb1
          go_wp2_with fail
          go_ret
          rw [HRE.out]
          exact ⟨rfl, (HW1.out.block X hlb).trans H.out, R.v, Sec.RAt.below HR.out HW1.out, HO.out, .of_below HW1.out⟩
end Go.Proofs.YtdmelkphankfiaaGreat
end

section
namespace Go.Proofs.YtdmelkphankfiaaGreat
open Go.RowKit
attribute [local go_sem ↓] Go.wp_at_zero Go.wp_at_succ

set_option maxHeartbeats 1000000 in
set_option maxRecDepth 20000 in
theorem kclear_no (R : Sec.Rl) (s : Sec.St) (w : World) (h : Sec.RHas R s w) (hs : s.Ok) (a n : Int) (hno : Book.fits s.n a n = false) :
    Calls Tryz.prog 25 #[.pointer (some ⟨R.b, 0, none⟩), .int .i64 a, .int .i64 n] w fun e w' => e = .returned (.int .i64 2) ∧ Below w.heap.size w w' := by
  have HM := Lib.hid (kmay R s w h hs a n)
  rw [hno] at HM
  clear h hs hno
  go_enter Tryz.func25, Tryz.ntmps25
  go_wp2_with fail
  refine HM.out.mono ?_
  rintro e w1 ⟨rfl, hb⟩
  have HB := Lib.hid hb
  clear hb
  go_wp2_with fail
  go_ret
  exact ⟨rfl, HB.out⟩

set_option maxHeartbeats 1000000 in
set_option maxRecDepth 20000 in
theorem kclear_down (R : Sec.Rl) (s : Sec.St) (w : World) (h : Sec.RHas R s w) (hs : s.Ok) (hd : s.still = true) (a n : Nat) (hn : 1 ≤ n) (han : a + n ≤ s.n) :
    Calls Tryz.prog 25 #[.pointer (some ⟨R.b, 0, none⟩), .int .i64 (a : Int), .int .i64 (n : Int)] w fun e w' => e = .returned (.int .i64 51) ∧ Below w.heap.size w w' := by
  have hn2 := hs.n2
  have HM := Lib.hid (kmay R s w h hs a n)
  have hf : Book.fits s.n (a : Int) (n : Int) = true := by
    unfold Book.fits
    simp
    omega
  rw [hf] at HM
  have HRD : Hid (∀ wx, Below w.heap.size w wx → Calls Tryz.prog 46 #[.pointer (some ⟨R.b, 0, none⟩), .int .i64 (a : Int), .int .i64 (n : Int)] wx fun e w' => e = .returned (.tuple #[.slice none 0 0, .int .i64 51]) ∧ Below wx.heap.size wx w') := fun wx hb => kread_down R s wx (Sec.RAt.below h hb) hd a n hn (by omega)
  clear h hs hf hd
  go_enter Tryz.func25, Tryz.ntmps25
  go_wp2_with fail
  refine HM.out.mono ?_
  rintro e w1 ⟨rfl, hb⟩
  have HB := Lib.hid hb
  clear hb
  go_wp2_with fail
  refine (HRD.out _ HB.out).mono ?_
  rintro e w2 ⟨rfl, hb⟩
  have HB2 := Lib.hid (HB.out.trans (hb.mono HB.out.size))
  clear hb
  go_wp2_with fail
  go_ret
  exact ⟨rfl, HB2.out⟩

set_option maxHeartbeats 1000000 in
set_option maxRecDepth 20000 in
theorem kopen_no (R : Sec.Rl) (s : Sec.St) (w : World) (h : Sec.RHas R s w) (hs : s.Ok) (a n : Int) (hno : Book.fits s.n a n = false) :
    Calls Tryz.prog 22 #[.pointer (some ⟨R.b, 0, none⟩), .int .i64 a, .int .i64 n] w fun e w' => e = .returned (.tuple #[.pointer none, .slice none 0 0, .int .i64 2]) ∧ Below w.heap.size w w' := by
  have HM := Lib.hid (kmay R s w h hs a n)
  rw [hno] at HM
  clear h hs hno
  go_enter Tryz.func22, Tryz.ntmps22
  go_wp2_with fail
  refine HM.out.mono ?_
  rintro e w1 ⟨rfl, hb⟩
  have HB := Lib.hid hb
  clear hb
  go_wp2_with fail
  refine bodyPost_ret (v := .tuple #[.pointer none, .slice none 0 0, .int .i64 2]) (by simp [results, Tryz.results22, go_sem]) rfl ?_
  exact ⟨rfl, HB.out⟩

set_option maxHeartbeats 1000000 in
set_option maxRecDepth 20000 in
theorem kopen_down (R : Sec.Rl) (s : Sec.St) (w : World) (h : Sec.RHas R s w) (hs : s.Ok) (hd : s.still = true) (a n : Nat) (hn : 1 ≤ n) (han : a + n ≤ s.n) :
    Calls Tryz.prog 22 #[.pointer (some ⟨R.b, 0, none⟩), .int .i64 (a : Int), .int .i64 (n : Int)] w fun e w' => e = .returned (.tuple #[.pointer none, .slice none 0 0, .int .i64 51]) ∧ Below w.heap.size w w' := by
  have hn2 := hs.n2
  have HM := Lib.hid (kmay R s w h hs a n)
  have hf : Book.fits s.n (a : Int) (n : Int) = true := by
    unfold Book.fits
    simp
    omega
  rw [hf] at HM
  have HRD : Hid (∀ wx, Below w.heap.size w wx → Calls Tryz.prog 46 #[.pointer (some ⟨R.b, 0, none⟩), .int .i64 (a : Int), .int .i64 (n : Int)] wx fun e w' => e = .returned (.tuple #[.slice none 0 0, .int .i64 51]) ∧ Below wx.heap.size wx w') := fun wx hb => kread_down R s wx (Sec.RAt.below h hb) hd a n hn (by omega)
  clear h hs hf hd
  go_enter Tryz.func22, Tryz.ntmps22
  go_wp2_with fail
  refine HM.out.mono ?_
  rintro e w1 ⟨rfl, hb⟩
  have HB := Lib.hid hb
  clear hb
  go_wp2_with fail
  refine (HRD.out _ HB.out).mono ?_
  rintro e w2 ⟨rfl, hb⟩
  have HB2 := Lib.hid (HB.out.trans (hb.mono HB.out.size))
  clear hb
  go_wp2_with fail
  refine bodyPost_ret (v := .tuple #[.pointer none, .slice none 0 0, .int .i64 51]) (by simp [results, Tryz.results22, go_sem]) rfl ?_
  exact ⟨rfl, HB2.out⟩

namespace Book
/-- What both answer to a Clear, or an Open: the code, the disk behind it. -/
def clearP (s : Sec.St) (a n : Int) : Int × Sec.St :=
  if fits s.n a n = false then (2, s) else if s.still = true then (51, s) else ((anew [] a.toNat (secsL s.now a.toNat n.toNat) s).1, (anew [] a.toNat (secsL s.now a.toNat n.toNat) s).2.2)
def openP (s : Sec.St) (a n : Int) : Int × Sec.St :=
  if fits s.n a n = false then (2, s) else if s.still = true then (51, s) else ((anew (good s.now a.toNat n.toNat) a.toNat (secsL s.now a.toNat n.toNat) s).1, (anew (good s.now a.toNat n.toNat) a.toNat (secsL s.now a.toNat n.toNat) s).2.2)
theorem clearP_keep {s : Sec.St} (h : s.Ok) (a n : Int) : (clearP s a n).2.Ok ∧ (clearP s a n).2.n = s.n ∧ (clearP s a n).2.loose.length ≤ s.loose.length + 2 * s.n ∧ (s.Seen → (clearP s a n).2.Seen) := by
  unfold clearP
  split
  · exact ⟨h, rfl, Nat.le_add_right _ _, fun h => h⟩
  · rename_i hf
    obtain ⟨a', n', rfl, rfl, h1, h2⟩ := fits_nat (s := s) (by simpa using hf)
    split
    · exact ⟨h, rfl, Nat.le_add_right _ _, fun h => h⟩
    · obtain ⟨k1, k2, k3, k4⟩ := anew_keep (xs := []) h (show (a' : Int).toNat + (secsL s.now (a' : Int).toNat (n' : Int).toNat).length ≤ s.n by rw [secsL_len]; simpa using h2) (secsL_sz h.now (by simpa using h2))
      exact ⟨k1, k2, by rw [secsL_len] at k3; simp at k3 ⊢; omega, k4⟩
theorem openP_keep {s : Sec.St} (h : s.Ok) (a n : Int) : (openP s a n).2.Ok ∧ (openP s a n).2.n = s.n ∧ (openP s a n).2.loose.length ≤ s.loose.length + 2 * s.n ∧ (s.Seen → (openP s a n).2.Seen) := by
  unfold openP
  split
  · exact ⟨h, rfl, Nat.le_add_right _ _, fun h => h⟩
  · rename_i hf
    obtain ⟨a', n', rfl, rfl, h1, h2⟩ := fits_nat (s := s) (by simpa using hf)
    split
    · exact ⟨h, rfl, Nat.le_add_right _ _, fun h => h⟩
    · obtain ⟨k1, k2, k3, k4⟩ := anew_keep (xs := good s.now (a' : Int).toNat (n' : Int).toNat) h (show (a' : Int).toNat + (secsL s.now (a' : Int).toNat (n' : Int).toNat).length ≤ s.n by rw [secsL_len]; simpa using h2) (secsL_sz h.now (by simpa using h2))
      exact ⟨k1, k2, by rw [secsL_len] at k3; simp at k3 ⊢; omega, k4⟩
end Book

theorem pclear_all (D : Sec.Bl) (s : Sec.St) (w : World) (h : Sec.At D s w) (hs : s.Ok) (a n : Int) (ha : a ≤ 9223372036854775807) (hlim : s.loose.length ≤ 900000000) :
    Calls Tryz.prog 16 #[.pointer (some ⟨D.b, 0, none⟩), .int .i64 a, .int .i64 n] w fun e w' => e = .returned (.int .i64 (Book.clearP s a n).1) ∧ Sec.Behind D (Book.clearP s a n).2 w w' := by
  have hn2 := hs.n2
  unfold Book.clearP
  cases hf : Book.fits s.n a n with
  | false =>
    rw [if_pos rfl]
    exact (pclear_no D s w h hs a n ha hf).mono fun e w' ⟨x, y⟩ => ⟨x, D, h.below y, .of_below y⟩
  | true =>
    rw [if_neg (by simp)]
    obtain ⟨a', n', rfl, rfl, h1, h2⟩ := Book.fits_nat hf
    cases hd : s.still with
    | true =>
      rw [if_pos rfl]
      exact (pclear_down D s w h hs hd a' n' h1 h2).mono fun e w' ⟨x, y⟩ => ⟨x, D, h.below y, .of_below y⟩
    | false =>
      rw [if_neg (by simp)]
      exact pclear D s w h hs hd a' n' h1 h2 (by omega)
theorem kclear_all (R : Sec.Rl) (s : Sec.St) (w : World) (h : Sec.RHas R s w) (hs : s.Ok) (hseen : s.Seen) (a n : Int) (hlim : s.loose.length ≤ 900000000) :
    Calls Tryz.prog 25 #[.pointer (some ⟨R.b, 0, none⟩), .int .i64 a, .int .i64 n] w fun e w' => e = .returned (.int .i64 (Book.clearP s a n).1) ∧ ∃ v, Sec.RHas { R with v := v } (Book.clearP s a n).2 w' ∧ Sec.Mv R.off ({ R with v := v : Sec.Rl }).off w w' := by
  have hn2 := hs.n2
  unfold Book.clearP
  cases hf : Book.fits s.n a n with
  | false =>
    rw [if_pos rfl]
    exact (kclear_no R s w h hs a n hf).mono fun e w' ⟨x, y⟩ => ⟨x, R.v, Sec.RAt.below h y, .of_below y⟩
  | true =>
    rw [if_neg (by simp)]
    obtain ⟨a', n', rfl, rfl, h1, h2⟩ := Book.fits_nat hf
    cases hd : s.still with
    | true =>
      rw [if_pos rfl]
      exact (kclear_down R s w h hs hd a' n' h1 h2).mono fun e w' ⟨x, y⟩ => ⟨x, R.v, Sec.RAt.below h y, .of_below y⟩
    | false =>
      rw [if_neg (by simp)]
      exact kclear R s w h hs hseen hd a' n' h1 h2 (by omega)

/-- A book's block is none of the disk's: it is of another type. -/
theorem Book.off_of_book {R : Sec.Rl} {s : Sec.St} {B b a n : Nat} {S : List UInt8} {br : Bool} {w : World} (h : Sec.RHas R s w) (hB : Book.RB B b a n S br w) : R.off B := by
  unfold Book.RB at hB
  have key : ∀ (v : Value) (e : TypeId) (size m : Nat) (xs : List Value), e ≠ 44 → w.ownsRow 0 e size v m xs → some B ≠ v.ownBlock := fun v e size m xs he ho heq => by
    rcases ho.2 with ⟨rfl, _⟩ | ⟨g, cap, cur, rfl, _, hg, _⟩
    · simp [Value.ownBlock] at heq
    · have hgB : B = g := by simpa [Value.ownBlock] using heq
      subst hgB
      rw [hB] at hg
      injection hg with hg
      injection hg with _ h2 _
      exact he h2.symm
  refine ⟨fun e => ?_, key _ _ _ _ _ (by decide) h.good, key _ _ _ _ _ (by decide) h.row⟩
  have := h.ob
  rw [← e, hB] at this
  injection this with this
  injection this with _ h2 _
  exact absurd h2 (by decide)

namespace Book
/-- What the program's Open comes to. -/
def POpen (D : Sec.Bl) (a n : Int) (s : Sec.St) (w : World) (e : Ending) (w' : World) : Prop :=
  ∃ D', Sec.At D' (openP s a n).2 w' ∧ Sec.Moves D D' w w' ∧
    (((openP s a n).1 ≠ 0 ∧ e = .returned (.tuple #[.pointer none, .slice none 0 0, .int .i64 (openP s a n).1])) ∨
     ((openP s a n).1 = 0 ∧ fits s.n a n = true ∧ ∃ (B : Nat) (A : Option Addr) (c : Nat), e = .returned (.tuple #[.pointer (some ⟨B, 0, none⟩), .slice A (found s.now a.toNat n.toNat).length c, .int .i64 0]) ∧ w.heap.size ≤ B ∧ D'.off B ∧
        PB B D.b a n (good s.now a.toNat n.toNat) false w' ∧ Lies w' w'.heap.size A (tcells ((found s.now a.toNat n.toNat).map fun x => ⟨x.toArray⟩)) ∧ ∀ ad, A = some ad → w.heap.size ≤ ad.block))
/-- What the document's Open comes to. -/
def ROpen (R : Sec.Rl) (a n : Int) (s : Sec.St) (w : World) (e : Ending) (w' : World) : Prop :=
  ∃ v, Sec.RHas { R with v := v } (openP s a n).2 w' ∧ Sec.Mv R.off ({ R with v := v : Sec.Rl }).off w w' ∧
    (((openP s a n).1 ≠ 0 ∧ e = .returned (.tuple #[.pointer none, .slice none 0 0, .int .i64 (openP s a n).1])) ∨
     ((openP s a n).1 = 0 ∧ fits s.n a n = true ∧ ∃ (B : Nat) (A : Option Addr) (c : Nat), e = .returned (.tuple #[.pointer (some ⟨B, 0, none⟩), .slice A (found s.now a.toNat n.toNat).length c, .int .i64 0]) ∧ w.heap.size ≤ B ∧ ({ R with v := v : Sec.Rl }).off B ∧
        RB B R.b a.toNat n.toNat (good s.now a.toNat n.toNat) false w' ∧ Lies w' w'.heap.size A (tcells ((found s.now a.toNat n.toNat).map fun x => ⟨x.toArray⟩)) ∧ ∀ ad, A = some ad → w.heap.size ≤ ad.block))
end Book

theorem popen_all (D : Sec.Bl) (s : Sec.St) (w : World) (h : Sec.At D s w) (hs : s.Ok) (a n : Int) (ha : a ≤ 9223372036854775807) (hlim : s.loose.length ≤ 900000000) :
    Calls Tryz.prog 17 #[.pointer (some ⟨D.b, 0, none⟩), .int .i64 a, .int .i64 n] w (Book.POpen D a n s w) := by
  have hn2 := hs.n2
  cases hf : Book.fits s.n a n with
  | false =>
    have e : Book.openP s a n = (2, s) := by unfold Book.openP; rw [if_pos hf]
    refine (popen_no D s w h hs a n ha hf).mono fun x w' ⟨x, y⟩ => ⟨D, ?_, .of_below y, .inl ?_⟩
    · rw [e]; exact h.below y
    · rw [e]; exact ⟨by simp, x⟩
  | true =>
    obtain ⟨a', n', rfl, rfl, h1, h2⟩ := Book.fits_nat hf
    cases hd : s.still with
    | true =>
      have e : Book.openP s a' n' = (51, s) := by unfold Book.openP; rw [if_neg (by rw [hf]; simp), if_pos hd]
      refine (popen_down D s w h hs hd a' n' h1 h2).mono fun x w' ⟨x, y⟩ => ⟨D, ?_, .of_below y, .inl ?_⟩
      · rw [e]; exact h.below y
      · rw [e]; exact ⟨by simp, x⟩
    | false =>
      have e : Book.openP s a' n' = ((Book.anew (Book.good s.now a' n') a' (Book.secsL s.now a' n') s).1, (Book.anew (Book.good s.now a' n') a' (Book.secsL s.now a' n') s).2.2) := by
        unfold Book.openP; rw [if_neg (by rw [hf]; simp), if_neg (by rw [hd]; simp)]; rfl
      refine (popen D s w h hs hd a' n' h1 h2 (by omega) _ rfl).mono ?_
      rintro x w' ⟨D', k1, k2, k3, k4⟩
      refine ⟨D', by rw [e]; exact k1, k2, ?_⟩
      rw [e]
      by_cases hc : (Book.anew (Book.good s.now a' n') a' (Book.secsL s.now a' n') s).1 = 0
      · exact .inr ⟨hc, hf, k4 hc⟩
      · exact .inl ⟨hc, k3 hc⟩
theorem kopen_all (R : Sec.Rl) (s : Sec.St) (w : World) (h : Sec.RHas R s w) (hs : s.Ok) (hseen : s.Seen) (a n : Int) (hlim : s.loose.length ≤ 900000000) :
    Calls Tryz.prog 22 #[.pointer (some ⟨R.b, 0, none⟩), .int .i64 a, .int .i64 n] w (Book.ROpen R a n s w) := by
  have hn2 := hs.n2
  cases hf : Book.fits s.n a n with
  | false =>
    have e : Book.openP s a n = (2, s) := by unfold Book.openP; rw [if_pos hf]
    refine (kopen_no R s w h hs a n hf).mono fun x w' ⟨x, y⟩ => ⟨R.v, ?_, .of_below y, .inl ?_⟩
    · rw [e]; exact Sec.RAt.below h y
    · rw [e]; exact ⟨by simp, x⟩
  | true =>
    obtain ⟨a', n', rfl, rfl, h1, h2⟩ := Book.fits_nat hf
    cases hd : s.still with
    | true =>
      have e : Book.openP s a' n' = (51, s) := by unfold Book.openP; rw [if_neg (by rw [hf]; simp), if_pos hd]
      refine (kopen_down R s w h hs hd a' n' h1 h2).mono fun x w' ⟨x, y⟩ => ⟨R.v, ?_, .of_below y, .inl ?_⟩
      · rw [e]; exact Sec.RAt.below h y
      · rw [e]; exact ⟨by simp, x⟩
    | false =>
      have e : Book.openP s a' n' = ((Book.anew (Book.good s.now a' n') a' (Book.secsL s.now a' n') s).1, (Book.anew (Book.good s.now a' n') a' (Book.secsL s.now a' n') s).2.2) := by
        unfold Book.openP; rw [if_neg (by rw [hf]; simp), if_neg (by rw [hd]; simp)]; rfl
      refine (kopen R s w h hs hseen hd a' n' h1 h2 (by omega) _ rfl).mono ?_
      rintro x w' ⟨⟨v, k1, k2⟩, k3, k4⟩
      refine ⟨v, by rw [e]; exact k1, k2, ?_⟩
      rw [e]
      by_cases hc : (Book.anew (Book.good s.now a' n') a' (Book.secsL s.now a' n') s).1 = 0
      · obtain ⟨B, A, c, m1, m2, m3, m4⟩ := k4 hc
        refine .inr ⟨hc, hf, B, A, c, m1, m2, ?_, m3, m4⟩
        exact Book.off_of_book k1 m3
      · exact .inl ⟨hc, k3 hc⟩
end Go.Proofs.YtdmelkphankfiaaGreat
end

section
namespace Go.Proofs.YtdmelkphankfiaaGreat
open Go.RowKit

namespace Sec
/-- What is the disk's lies in the heap. -/
theorem At.lt {D : Bl} {s : St} {w : World} (h : At D s w) {i : Nat} (hi : ¬ D.off i) : i < w.heap.size := by
  rcases Nat.lt_or_ge i w.heap.size with hlt | hge
  · exact hlt
  · exact absurd (off_fresh h hge) hi
theorem At.keep {D : Bl} {s : St} {w w' : World} (h : At D s w) (hk : ∀ i, ¬ D.off i → w'.heap[i]? = w.heap[i]?) : At D s w' :=
  ⟨(hk _ (fun ho => ho.1 rfl)).trans h.ob, (hk _ (fun ho => ho.2.1 rfl)).trans h.good, (hk _ (fun ho => ho.2.2.1 rfl)).trans h.now,
    owns_keep h.row (fun i e => hk i (fun ho => ho.2.2.2 e.symm)), h.lo1, h.lo2, h.lo3, h.ne1, h.ne2, h.ne3, h.ne4, h.ne5, h.ne6⟩
end Sec

namespace Book
/-- The books of a pair: where they are, their stream, whether they are broken. -/
structure Bk where
  B : Nat
  X : Nat
  S : List UInt8
  br : Bool
def bv : Option Bk → Value
  | none => .pointer none
  | some b => .pointer (some ⟨b.B, 0, none⟩)
def xv : Option Bk → Value
  | none => .pointer none
  | some b => .pointer (some ⟨b.X, 0, none⟩)
/-- The pair's block. -/
def Pair (P p r : Nat) (a n : Int) (bk : Option Bk) (w : World) : Prop :=
  w.heap[P]? = some (.cells #[.pointer (some ⟨p, 0, none⟩), .pointer (some ⟨r, 0, none⟩), bv bk, xv bk, .int .i64 a, .int .i64 n] 36 (0, 0))
section
variable {P p r : Nat} {a n : Int} {bk : Option Bk} {w w' : World}
theorem Pair.ltb (h : Pair P p r a n bk w) : P < w.heap.size := Sec.lt_of_heap h
theorem Pair.keep (h : Pair P p r a n bk w) (hk : w'.heap[P]? = w.heap[P]?) : Pair P p r a n bk w' := hk.trans h
theorem Pair.cell (h : Pair P p r a n bk w) (j : Nat) : w.cell? ⟨P, j, none⟩ = (#[.pointer (some ⟨p, 0, none⟩), .pointer (some ⟨r, 0, none⟩), bv bk, xv bk, .int .i64 a, .int .i64 n] : Array Value)[j]? := cell_of_row w P j _ _ _ h
theorem Pair.fro (h : Pair P p r a n bk w) (j : Nat) : w.frozen? ⟨P, j, none⟩ = false := frozen_of_row w P j _ _ h
theorem Pair.c0 (h : Pair P p r a n bk w) : w.cell? ⟨P, 0, none⟩ = some (.pointer (some ⟨p, 0, none⟩)) := h.cell 0
theorem Pair.c1 (h : Pair P p r a n bk w) : w.cell? ⟨P, 1, none⟩ = some (.pointer (some ⟨r, 0, none⟩)) := h.cell 1
theorem Pair.c2 (h : Pair P p r a n bk w) : w.cell? ⟨P, 2, none⟩ = some (bv bk) := h.cell 2
theorem Pair.c3 (h : Pair P p r a n bk w) : w.cell? ⟨P, 3, none⟩ = some (xv bk) := h.cell 3
theorem Pair.c4 (h : Pair P p r a n bk w) : w.cell? ⟨P, 4, none⟩ = some (.int .i64 a) := h.cell 4
theorem Pair.c5 (h : Pair P p r a n bk w) : w.cell? ⟨P, 5, none⟩ = some (.int .i64 n) := h.cell 5
end
/-- A book and the document's, both alike. -/
structure Both (base : Nat) (a n : Int) (D : Sec.Bl) (R : Sec.Rl) (P : Nat) (b : Bk) (N : Nat) (w : World) : Prop where
  pb : PB b.B D.b a n b.S b.br w
  rb : RB b.X R.b a.toNat n.toNat b.S b.br w
  dB : D.off b.B
  dX : D.off b.X
  rB : R.off b.B
  rX : R.off b.X
  loB : base ≤ b.B
  loX : base ≤ b.X
  ne1 : b.B ≠ b.X
  ne2 : b.B ≠ P
  ne3 : b.X ≠ P
  len : b.S.length ≤ n.toNat * 127
  fits : fits N a n = true
/-- Two disks alike, and two books, or none. -/
structure Two (base : Nat) (a n : Int) (D : Sec.Bl) (R : Sec.Rl) (P : Nat) (bk : Option Bk) (N : Nat) (s : Sec.St) (w : World) : Prop where
  hA : Sec.At D s w
  hR : Sec.RHas R s w
  ok : s.Ok
  seen : s.Seen
  nn : s.n = N
  apart : ∀ i, ¬ R.off i → D.off i
  lowD : base ≤ D.lo
  lowR : ∀ i, i < base → R.off i
  pair : Pair P D.b R.b a n bk w
  lowP : base ≤ P
  dP : D.off P
  rP : R.off P
  book : ∀ b, bk = some b → Both base a n D R P b N w
section
variable {base : Nat} {a n : Int} {D D' : Sec.Bl} {R : Sec.Rl} {P N : Nat} {bk : Option Bk} {b : Bk} {s s' : Sec.St} {w w1 w2 : World}
theorem Two.below (h : Two base a n D R P bk N s w) (hb : Below w.heap.size w w1) : Two base a n D R P bk N s w1 :=
  ⟨h.hA.below hb, Sec.RAt.below h.hR hb, h.ok, h.seen, h.nn, h.apart, h.lowD, h.lowR, h.pair.keep (hb.block _ h.pair.ltb), h.lowP, h.dP, h.rP, fun b e => by
    have k := h.book b e
    exact ⟨k.pb.below hb, (hb.block _ k.rb.ltb).trans k.rb, k.dB, k.dX, k.rB, k.rX, k.loB, k.loX, k.ne1, k.ne2, k.ne3, k.len, k.fits⟩⟩
theorem Two.base_le (h : Two base a n D R P bk N s w) : base ≤ w.heap.size := by
  have := h.pair.ltb
  have := h.lowP
  omega
/-- Behind a call of the program's: the document's stand as they stood. -/
theorem Two.midR (h : Two base a n D R P bk N s w) (B : Nat) (hB : ∀ b, bk = some b → b.B = B) (hn : bk = none → B = w.heap.size) (hm : Mvb D D' B w w1) : Sec.RHas R s w1 ∧ Pair P D.b R.b a n bk w1 ∧ ∀ b, bk = some b → RB b.X R.b a.toNat n.toNat b.S b.br w1 := by
  have hBR : R.off B := by
    cases bk with
    | none => rw [hn rfl]; exact off_new h.hR (Nat.le_refl _)
    | some b => rw [← hB b rfl]; exact (h.book b rfl).rB
  have hBP : P ≠ B := by
    cases bk with
    | none => rw [hn rfl]; have := h.pair.ltb; omega
    | some b => rw [← hB b rfl]; exact (h.book b rfl).ne2.symm
  refine ⟨Sec.RAt.keep h.hR (fun i hi => hm.block i (Sec.RAt.lt h.hR hi) (h.apart i hi) (fun e => hi (by rw [e]; exact hBR))), h.pair.keep (hm.block _ h.pair.ltb h.dP hBP), fun b e => ?_⟩
  have k := h.book b e
  exact (hm.block _ k.rb.ltb k.dX (by rw [← hB b e]; exact k.ne1.symm)).trans k.rb
/-- Behind a call of each, with books. -/
theorem Two.step (h : Two base a n D R P (some b) N s w) (hm : Mvb D D' b.B w w1) (hA : Sec.At D' s' w1) {S' : List UInt8} {br' : Bool} (hpb : PB b.B D.b a n S' br' w1) (hoB : D'.off b.B) (v : Value)
    (hR : Sec.RHas { R with v := v } s' w2) (hrb : RB b.X R.b a.toNat n.toNat S' br' w2) (hoX : ({ R with v := v : Sec.Rl }).off b.X) (hr : Sec.Mv (fun i => R.off i ∧ i ≠ b.X) (fun i => ({ R with v := v : Sec.Rl }).off i ∧ i ≠ b.X) w1 w2)
    (hok : s'.Ok) (hseen : s'.Seen) (hn : s'.n = s.n) (hlen : S'.length ≤ n.toNat * 127) :
    Two base a n D' { R with v := v } P (some ⟨b.B, b.X, S', br'⟩) N s' w2 ∧ Below base w w2 := by
  have k := h.book b rfl
  have hsz := hm.size
  have hDR : ∀ i, ¬ D'.off i → i < w1.heap.size ∧ R.off i ∧ i ≠ b.X := fun i hi => by
    refine ⟨hA.lt hi, ?_, fun e => hi (by rw [e]; exact hm.keep _ k.rb.ltb k.dX)⟩
    by_cases hr' : R.off i
    · exact hr'
    · exact absurd (hm.keep i (Sec.RAt.lt h.hR hr') (h.apart i hr')) hi
  have hX1 : b.X < w1.heap.size := Nat.lt_of_lt_of_le k.rb.ltb hsz
  have hB1 : b.B < w1.heap.size := hpb.ltb
  have hP1 : P < w1.heap.size := Nat.lt_of_lt_of_le h.pair.ltb hsz
  have hpair1 : Pair P D.b R.b a n (some b) w1 := h.pair.keep (hm.block _ h.pair.ltb h.dP k.ne2.symm)
  refine ⟨⟨hA.keep (fun i hi => ?_), hR, hok, hseen, hn.trans h.nn, fun i hi => ?_, by rw [hm.lo]; exact h.lowD, fun i hi => ?_, ?_, h.lowP, hm.keep _ h.pair.ltb h.dP, (hr.keep P hP1 ⟨h.rP, k.ne3.symm⟩).1, fun b' e => ?_⟩, ?_⟩
  · obtain ⟨x1, x2, x3⟩ := hDR i hi
    exact hr.block i x1 ⟨x2, x3⟩
  · by_cases hi1 : D'.off i
    · exact hi1
    · obtain ⟨x1, x2, x3⟩ := hDR i hi1
      exact absurd (hr.keep i x1 ⟨x2, x3⟩).1 hi
  · have hb := h.base_le
    exact (hr.keep i (by omega) ⟨h.lowR i hi, by have := k.loX; omega⟩).1
  · rw [hm.b]
    exact (hr.block P hP1 ⟨h.rP, k.ne3.symm⟩).trans hpair1
  · obtain rfl := Option.some.inj e
    refine ⟨?_, hrb, hoB, hm.keep _ k.rb.ltb k.dX, (hr.keep _ hB1 ⟨k.rB, k.ne1⟩).1, hoX, k.loB, k.loX, k.ne1, k.ne2, k.ne3, hlen, k.fits⟩
    show PB b.B D'.b a n S' br' w2
    rw [hm.b]
    exact hpb.keep (hr.block _ hB1 ⟨k.rB, k.ne1⟩)
  · have h1 : Below base w w1 := hm.below h.hA h.lowD k.loB
    have hb := h.base_le
    exact h1.trans ⟨hr.os, hr.tape, hr.output, hr.size, fun i hi => hr.block i (by omega) ⟨h.lowR i hi, by have := k.loX; omega⟩⟩
/-- Behind a call of each, without books. -/
theorem Two.stepN (h : Two base a n D R P none N s w) (hm : Sec.Moves D D' w w1) (hA : Sec.At D' s' w1) (v : Value)
    (hR : Sec.RHas { R with v := v } s' w2) (hr : Sec.Mv R.off ({ R with v := v : Sec.Rl }).off w1 w2)
    (hok : s'.Ok) (hseen : s'.Seen) (hn : s'.n = s.n) :
    Two base a n D' { R with v := v } P none N s' w2 ∧ Below base w w2 := by
  have hsz := hm.size
  have hDR : ∀ i, ¬ D'.off i → i < w1.heap.size ∧ R.off i := fun i hi => by
    refine ⟨hA.lt hi, ?_⟩
    by_cases hr' : R.off i
    · exact hr'
    · exact absurd (hm.off (Sec.RAt.lt h.hR hr') (h.apart i hr')) hi
  have hP1 : P < w1.heap.size := Nat.lt_of_lt_of_le h.pair.ltb hsz
  have hpair1 : Pair P D.b R.b a n none w1 := h.pair.keep (hm.block _ h.pair.ltb h.dP)
  refine ⟨⟨hA.keep (fun i hi => ?_), hR, hok, hseen, hn.trans h.nn, fun i hi => ?_, by rw [hm.lo]; exact h.lowD, fun i hi => ?_, ?_, h.lowP, hm.off h.pair.ltb h.dP, hr.keep P hP1 h.rP, fun b' e => by cases e⟩, ?_⟩
  · obtain ⟨x1, x2⟩ := hDR i hi
    exact hr.block i x1 x2
  · by_cases hi1 : D'.off i
    · exact hi1
    · obtain ⟨x1, x2⟩ := hDR i hi1
      exact absurd (hr.keep i x1 x2) hi
  · have hb := h.base_le
    exact hr.keep i (by omega) (h.lowR i hi)
  · rw [hm.b]
    exact (hr.block P hP1 h.rP).trans hpair1
  · have h1 : Below base w w1 := (hm.below h.hA).mono h.lowD
    have hb := h.base_le
    exact h1.trans ⟨hr.os, hr.tape, hr.output, hr.size, fun i hi => hr.block i (by omega) (h.lowR i hi)⟩
/-- Behind a call of each disk; books stay as they are. -/
theorem Two.disks (h : Two base a n D R P bk N s w) (hm : Sec.Moves D D' w w1) (hA : Sec.At D' s' w1) (v : Value)
    (hR : Sec.RHas { R with v := v } s' w2) (hr : Sec.Mv R.off ({ R with v := v : Sec.Rl }).off w1 w2)
    (hok : s'.Ok) (hseen : s'.Seen) (hn : s'.n = s.n) :
    Two base a n D' { R with v := v } P bk N s' w2 ∧ Below base w w2 := by
  cases bk with
  | none => exact h.stepN hm hA v hR hr hok hseen hn
  | some b =>
    have k := h.book b rfl
    have hX1 : b.X < w1.heap.size := Nat.lt_of_lt_of_le k.rb.ltb hm.size
    have hrb1 : RB b.X R.b a.toNat n.toNat b.S b.br w1 := (hm.block _ k.rb.ltb k.dX).trans k.rb
    have := h.step (S' := b.S) (br' := b.br) (.of_moves hm) hA (k.pb.keep (hm.block _ k.pb.ltb k.dB)) (hm.off k.pb.ltb k.dB) v hR ((hr.block _ hX1 k.rX).trans hrb1) (hr.keep _ hX1 k.rX) (hr.but b.X) hok hseen hn k.len
    exact this
end
end Book
end Go.Proofs.YtdmelkphankfiaaGreat
end
