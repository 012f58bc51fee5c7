/-
  BookPlays's walk: a pair is made; what its parts answer behind each call.
-/
import Derived.Test.YtdmelkphankfiaaGreatLowDo
import Derived.Test.YtdmelkphankfiaaGreatLowRd
import Derived.Test.YtdmelkphankfiaaGreatL06A
import Derived.Deep.RegionHeld3
import Derived.Deep.DrawnRows
import Derived.Deep.QuietTactic
import Derived.BigQuiet
namespace Go.Proofs.YtdmelkphankfiaaGreat
open Go.RowKit
attribute [local go_sem ↓] Go.wp_at_zero Go.wp_at_succ

/-- The loose list's value of the document's disk, opened: its length. -/
theorem Sec.RAt.opened {R : Sec.Rl} {gs : List ByteArray} {ls : List (Nat × List UInt8)} {fz : Int} {w : World} (h : Sec.RAt R gs ls fz w) : ∃ A c, R.v = .slice A ls.length c := by
  rcases h.row.2 with ⟨e, h0⟩ | ⟨g, cap, _, e, _⟩
  · exact ⟨none, 0, by rw [e, h0]⟩
  · exact ⟨_, cap, e⟩

namespace Book
/-- A pair, newly made. -/
theorem two_new {D : Sec.Bl} {R : Sec.Rl} {K base : Nat} {a n : Int} {w w1 w2 : World} (hK1 : 1 ≤ K) (hK2 : K ≤ 4096) (hA : Sec.At D (Sec.St.fresh K) w1) (hb1 : Below base w w1) (hlo : D.lo = base) (hbase : base = w.heap.size) (hR : Sec.RHas R (Sec.St.fresh K) w2) (hb2 : Below w1.heap.size w1 w2) (hoff : ∀ i, i < w1.heap.size → R.off i) :
    Two base a n D R w2.heap.size none K (Sec.St.fresh K) (w2.alloc (.cells #[.pointer (some ⟨D.b, 0, none⟩), .pointer (some ⟨R.b, 0, none⟩), .pointer none, .pointer none, .int .i64 a, .int .i64 n] 36)) ∧ Below base w (w2.alloc (.cells #[.pointer (some ⟨D.b, 0, none⟩), .pointer (some ⟨R.b, 0, none⟩), .pointer none, .pointer none, .int .i64 a, .int .i64 n] 36)) := by
  have hba : Below w2.heap.size w2 (w2.alloc (.cells #[.pointer (some ⟨D.b, 0, none⟩), .pointer (some ⟨R.b, 0, none⟩), .pointer none, .pointer none, .int .i64 a, .int .i64 n] 36)) := (Below.refl _ _).alloc (Nat.le_refl _) _
  have s1 := hb1.size
  have s2 := hb2.size
  refine ⟨⟨(hA.below hb2).below hba, Sec.RAt.below hR hba, Sec.St.fresh_ok hK1 hK2, Sec.St.Seen.fresh K, rfl, fun i hi => Sec.off_fresh hA ?_, by omega, fun i hi => hoff i (by omega), heap_alloc_new w2 _, by omega, Sec.off_fresh hA s2, off_new hR (Nat.le_refl _), fun b e => (by cases e)⟩, ?_⟩
  · rcases Nat.lt_or_ge i w1.heap.size with h | h
    · exact absurd (hoff i h) hi
    · exact h
  · exact hb1.trans ((hb2.mono (by omega)).trans (hba.mono (by omega)))
end Book

/-- What a round of BookPlays stands on. -/
def Book.Stand (base : Nat) (a n : Int) (p r P K lim : Nat) (w wr : World) : Prop :=
  ∃ D R bk s, D.b = p ∧ R.b = r ∧ Book.Two base a n D R P bk K s wr ∧ s.loose.length ≤ lim ∧ Below base w wr

set_option maxHeartbeats 8000000 in
set_option maxRecDepth 100000 in
theorem walk_plays (u : Int) (u0 : 0 ≤ u) (u1 : u ≤ 255) (a n : Int) (a1 : a ≤ 9223372036854775807) (w : World) (l : List StepB) (A : Option Addr) (c : Nat) (la : LiesB w w.heap.size A l) (nl : l.length ≤ maxLen) (ok : ∀ x ∈ l, x.Ok w) :
    Calls Tryz.prog 3 #[.int .u8 u, .int .i64 a, .int .i64 n, .slice A l.length c] w fun e w' => e = .returned (.bool true) ∧ Below w.heap.size w w' := by
  have LA := Lib.hid la
  have OK := Lib.hid ok
  have HHV := Lib.hid (heavyb l A c w.heap.size w la nl (fun x hx => by have k := ok x hx; exact ⟨k.ts, k.tlen, k.len, k.tsz⟩))
  obtain ⟨K, hK⟩ : ∃ K : Nat, 1 + u % 12 = (K : Int) := ⟨(1 + u % 12).toNat, by omega⟩
  have hK1 : 1 ≤ K := by omega
  have hK12 : K ≤ 12 := by omega
  have HK := Lib.hid hK
  clear la ok hK
  go_enter Tryz.func3, Tryz.ntmps3
  go_wp2_with fail
  refine HHV.out.mono ?_
  rintro e w1 ⟨b, rfl, hsm, rfl⟩
  cases b with
  | true =>
    clear hsm
    go_wp2_with fail
    refine (alive6_any _).mono ?_
    rintro e w2 ⟨rfl, hb2⟩
    go_wp2_with fail
    go_ret
    exact ⟨rfl, hb2⟩
  | false =>
    obtain ⟨hl100, hsm⟩ := hsm rfl
    have HSM := Lib.hid hsm
    clear hsm HHV
    go_wp2_with fail
    rw [HK.out]
    refine (sec_new K _ hK1 (by omega)).mono ?_
    rintro e w1 ⟨D, rfl, hA, hb1, hlo⟩
    have HA := Lib.hid hA
    have HB1 := Lib.hid hb1
    have HLO := Lib.hid hlo
    clear hA hb1 hlo
    go_wp2_with fail
    refine (rnew K _ hK1 (by omega)).mono ?_
    rintro e w2 ⟨R, rfl, hR, hb2, hoff⟩
    have HT0 := Lib.hid (Book.two_new (a := a) (n := n) hK1 (by omega) HA.out HB1.out HLO.out rfl hR hb2 hoff)
    clear hR hb2 hoff HB1 HA
    unfold Sec.Bl.ptr
    go_wp2_with fail
    obtain ⟨w3, hw3⟩ : ∃ w3, w3 = w2.alloc (.cells #[.pointer (some ⟨D.b, 0, none⟩), .pointer (some ⟨R.b, 0, none⟩), .pointer none, .pointer none, .int .i64 a, .int .i64 n] 36) := ⟨_, rfl⟩
    rw [← hw3] at HT0 ⊢
    clear hw3
    generalize w2.heap.size = P at HT0
    refine (two_open HT0.out.1 a1 (Nat.zero_le _)).mono ?_
    rintro e w4 ⟨rfl, D1, R1, bk, hT, hd, hr, hb⟩
    have HST : Hid (Book.Stand w.heap.size a n D.b R.b P K 9000 w w4) := ⟨D1, R1, bk, _, hd, hr, hT, (by have := (Book.openP_keep HT0.out.1.ok a n).2.2.1; have h0 : (Sec.St.fresh K).loose.length = 0 := rfl; have h1 : (Sec.St.fresh K).n = K := rfl; omega), HT0.out.2.trans hb⟩
    generalize D.b = p at HST
    generalize R.b = r at HST
    clear hT hd hr hb HT0 HLO
    go_wp2_with fail
    go_loopw [15] (fun t wr => ∃ m : Nat, m ≤ l.length ∧ t = .int .i64 m ∧ Hid (Book.Stand w.heap.size a n p r P K ((m + 1) * 9000) w wr)) (fun t _ => l.length - (intOf t).toNat)
    case atStart => exact ⟨0, Nat.zero_le _, rfl, HST.out⟩
    case round =>
      clear HST
      obtain ⟨m, hm, rfl, HST⟩ := hrel
      obtain ⟨D, R, bk, s, hdp, hrr, hT, hs, hbel⟩ := HST.out
      have HT := Lib.hid hT
      have HB := Lib.hid hbel
      clear HST hT hbel
      by_cases hlt : m < l.length
      · obtain ⟨ad, rfl, hadb, hc⟩ := (LA.out.below HB.out) (by omega)
        obtain ⟨q0, q1, q2, q3⟩ := stb_at hlt (ad.add (m * 4)) (hc m hlt)
        have HSMA := Lib.hid (HSM.out l[m] (List.getElem_mem hlt))
        have HOKA := Lib.hid (OK.out l[m] (List.getElem_mem hlt))
        have hm0 : (0 : Int) ≤ (m : Int) := by omega
        have hm1 : (m : Int) < (l.length : Int) := by omega
        clear hc
        generalize l[m] = st at q0 q1 q2 q3 HSMA HOKA
        have HDO := Lib.hid (do_all HT.out a1 (by omega) st HSMA.out HOKA.out.n.2 (HOKA.out.ts.below HB.out) (HOKA.out.ps.below HB.out))
        go_wp2_with fail
        refine HDO.out.mono ?_
        rintro e w5 ⟨s5, ⟨rfl, D5, R5, bk5, hT5, hd5, hr5, hb5⟩, hs5⟩
        obtain rfl : D5.b = p := hd5.trans hdp
        obtain rfl : R5.b = r := hr5.trans hrr
        have HT5 := Lib.hid hT5
        have HB5 := Lib.hid (HB.out.trans hb5)
        have hs6 : s5.loose.length ≤ (m + 1 + 1) * 9000 := by omega
        have c2 := HT5.out.pair.c2
        have c3 := HT5.out.pair.c3
        obtain ⟨Av, cv, hRv⟩ := Sec.RAt.opened HT5.out.hR
        have cr := Sec.RAt.c1 HT5.out.hR
        rw [hRv] at cr
        have HLS : Hid (Calls Tryz.prog 13 #[.pointer (some ⟨D5.b, 0, none⟩)] w5.drew fun e w' => e = .returned (.int .i64 (s5.loose.length : Int)) ∧ w5.drew = w') := sec_loose D5 s5 _ HT5.out.hA.drew HT5.out.ok
        clear hT5 hd5 hr5 hb5 hs5 hdp hrr HDO HT HB hs q0 q1 q2 q3 HSMA HOKA hRv
        cases bk5 with
        | none =>
          replace c3 : w5.cell? ⟨P, 3, none⟩ = some (.pointer none) := c3
          clear c2
          go_wp2_with fail
          go_quiet ((go_at_call 13; exact Calls.quiet_of_same ((sec_loose D5 s5 _ (HT5.out.hA.below (below_drewN (Below.refl _ _) _)) HT5.out.ok).mono fun _ _ h => ⟨h.1, h.2.symm⟩)))
          go_wp2_with fail
          go_roundw
          case rel => exact ⟨m + 1, by omega, by go_num, D5, R5, none, s5, rfl, rfl, HT5.out.below (below_drewN (Below.refl _ _) _), hs6, below_drewN HB5.out _⟩
          case measure => simp [intOf]; omega
        | some b =>
          replace c2 : w5.cell? ⟨P, 2, none⟩ = some (.pointer (some ⟨b.B, 0, none⟩)) := c2
          replace c3 : w5.cell? ⟨P, 3, none⟩ = some (.pointer (some ⟨b.X, 0, none⟩)) := c3
          have K5 := HT5.out.book b rfl
          obtain ⟨a', n', ea, en, h1, h2⟩ := Book.two_app HT5.out
          have hn2 := HT5.out.ok.n2
          have cx := K5.rb.c3
          have hsz : (⟨b.S.toArray⟩ : ByteArray).size = b.S.length := by show b.S.toArray.size = _; simp
          have HPL : Hid (Calls Tryz.prog 10 #[.pointer (some ⟨b.B, 0, none⟩)] w5.drew fun e w' => e = .returned (.int .i64 (b.S.length : Int)) ∧ Below w5.heap.size w5.drew w') := plen (K5.pb.below (Below.refl _ _).drew) (by omega)
          have HPR : Hid (∀ wx, Below w5.heap.size w5 wx → Calls Tryz.prog 11 #[.pointer (some ⟨b.B, 0, none⟩)] wx fun e w' => e = .returned (.int .i64 ((n' * 127 - b.S.length : Nat) : Int)) ∧ Below wx.heap.size wx w') := fun wx hb => by
            have hpb := K5.pb.below hb
            rw [en] at hpb
            exact proom hpb (by omega) h2
          have HRR : Hid (∀ wx, Below w5.heap.size w5 wx → Calls Tryz.prog 12 #[.pointer (some ⟨b.X, 0, none⟩)] wx fun e w' => e = .returned (.int .i64 ((n' * 127 - b.S.length : Nat) : Int)) ∧ Below wx.heap.size wx w') := fun wx hb => by
            have hrb : Book.RB b.X R5.b a.toNat n.toNat b.S b.br wx := (hb.block _ K5.rb.ltb).trans K5.rb
            have e2 : n.toNat = n' := by omega
            rw [e2] at hrb
            exact kroom hrb (by omega) h2
          have HLS2 : Hid (∀ wx, Below w5.heap.size w5 wx → Calls Tryz.prog 13 #[.pointer (some ⟨D5.b, 0, none⟩)] wx fun e w' => e = .returned (.int .i64 (s5.loose.length : Int)) ∧ wx = w') := fun wx hb => sec_loose D5 s5 _ (HT5.out.hA.below hb) HT5.out.ok
          have hP := HT5.out.pair.ltb
          have hX := K5.rb.ltb
          have hR := Sec.RAt.ltb HT5.out.hR
          clear K5 ea en h1 h2 HLS
          go_wp2_with fail
          go_region_held3 (fun w' => w'.cell? ⟨P, 2, none⟩ = some (.pointer (some ⟨b.B, 0, none⟩)) ∧ w'.cell? ⟨P, 3, none⟩ = some (.pointer (some ⟨b.X, 0, none⟩)) ∧ w'.cell? ⟨b.X, 3, none⟩ = some (.string ⟨b.S.toArray⟩) ∧ w'.cell? ⟨R5.b, 1, none⟩ = some (.slice Av s5.loose.length cv))
            (first | assumption | exact ⟨c2, c3, cx, cr⟩ | exact CC1.out | exact CC2.out | exact CC3.out)
            (first
            | (go_at_call 10; refine HPL.out.mono ?_; rintro e w6 ⟨rfl, hb6⟩; have HB6 := Lib.hid ((Below.refl w5.heap.size w5).drew.trans hb6); have CC1 : Hid (w6.cell? ⟨P, 2, none⟩ = some (.pointer (some ⟨b.B, 0, none⟩)) ∧ w6.cell? ⟨P, 3, none⟩ = some (.pointer (some ⟨b.X, 0, none⟩)) ∧ w6.cell? ⟨b.X, 3, none⟩ = some (.string ⟨b.S.toArray⟩) ∧ w6.cell? ⟨R5.b, 1, none⟩ = some (.slice Av s5.loose.length cv)) := ⟨(HB6.out.cell (p := ⟨P, 2, none⟩) hP).trans c2, (HB6.out.cell (p := ⟨P, 3, none⟩) hP).trans c3, (HB6.out.cell (p := ⟨b.X, 3, none⟩) hX).trans cx, (HB6.out.cell (p := ⟨R5.b, 1, none⟩) hR).trans cr⟩; clear hb6)
            | (go_at_call 11; refine (HPR.out w6 HB6.out).mono ?_; rintro e w7 ⟨rfl, hb7⟩; have HB7 := Lib.hid (HB6.out.trans (hb7.mono HB6.out.size)); have CC2 : Hid (w7.cell? ⟨P, 2, none⟩ = some (.pointer (some ⟨b.B, 0, none⟩)) ∧ w7.cell? ⟨P, 3, none⟩ = some (.pointer (some ⟨b.X, 0, none⟩)) ∧ w7.cell? ⟨b.X, 3, none⟩ = some (.string ⟨b.S.toArray⟩) ∧ w7.cell? ⟨R5.b, 1, none⟩ = some (.slice Av s5.loose.length cv)) := ⟨(HB7.out.cell (p := ⟨P, 2, none⟩) hP).trans c2, (HB7.out.cell (p := ⟨P, 3, none⟩) hP).trans c3, (HB7.out.cell (p := ⟨b.X, 3, none⟩) hX).trans cx, (HB7.out.cell (p := ⟨R5.b, 1, none⟩) hR).trans cr⟩; clear hb7)
            | (go_at_call 12; refine (HRR.out w7 HB7.out).mono ?_; rintro e w8 ⟨rfl, hb8⟩; have HB8 := Lib.hid (HB7.out.trans (hb8.mono HB7.out.size)); have CC3 : Hid (w8.cell? ⟨P, 2, none⟩ = some (.pointer (some ⟨b.B, 0, none⟩)) ∧ w8.cell? ⟨P, 3, none⟩ = some (.pointer (some ⟨b.X, 0, none⟩)) ∧ w8.cell? ⟨b.X, 3, none⟩ = some (.string ⟨b.S.toArray⟩) ∧ w8.cell? ⟨R5.b, 1, none⟩ = some (.slice Av s5.loose.length cv)) := ⟨(HB8.out.cell (p := ⟨P, 2, none⟩) hP).trans c2, (HB8.out.cell (p := ⟨P, 3, none⟩) hP).trans c3, (HB8.out.cell (p := ⟨b.X, 3, none⟩) hX).trans cx, (HB8.out.cell (p := ⟨R5.b, 1, none⟩) hR).trans cr⟩; clear hb8)
            | (go_at_call 13; refine (HLS2.out w8 HB8.out).mono ?_; rintro e w9 ⟨rfl, rfl⟩))
          all_goals
            simp only [Exit.then]
            go_at_K
            go_wp2_with fail
            go_roundw
            case rel => exact ⟨m + 1, by omega, by go_num, D5, R5, _, s5, rfl, rfl, HT5.out.below HB8.out, hs6, HB5.out.trans (HB8.out.mono HB5.out.size)⟩
            case measure => simp [intOf]; omega
      · subst hdp hrr
        obtain rfl : m = l.length := by omega
        clear hs hlt hm HSM
        go_wp2_with fail
        refine (sec_sure D s _ HT.out.hA HT.out.ok).mono ?_
        rintro e w5 ⟨rfl, hb5⟩
        have HB5 := Lib.hid (HB.out.trans (hb5.mono HB.out.size))
        have HT5 := Lib.hid (HT.out.below hb5)
        clear hb5 HB HT
        go_wp2_with fail
        refine (rsure R s _ HT5.out.hR HT5.out.ok).mono ?_
        rintro e w6 ⟨rfl, rfl⟩
        go_wp2_with fail
        refine (alive6_any _).mono ?_
        rintro e w6 ⟨rfl, hb6⟩
        go_wp2_with fail
        go_ret
        exact ⟨rfl, HB5.out.trans (hb6.mono HB5.out.size)⟩
end Go.Proofs.YtdmelkphankfiaaGreat
