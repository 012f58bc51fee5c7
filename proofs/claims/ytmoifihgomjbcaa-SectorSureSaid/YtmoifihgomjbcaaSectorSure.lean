/-
  Behind a sync a crash changes nothing, and what is read is what is there for good; behind any crash each byte of each sector is one that it had for good, or that some loose write wrote there: whatever number of sectors, calls, writes and picks come in (SectorSure).
-/
import Derived.Test.YtmoifihgomjbcaaRows
import Derived.Test.YtmoifihgomjbcaaL05A
import Derived.Test.YtmoifihgomjbcaaL05W
import Derived.Deep.RegionHeld3
import Derived.Deep.DrawnRows
import Derived.Laws.DeepStrings4
import Derived.WalkSmall
import Derived.ProofKit
import Derived.OpenShut
import Derived.ShutString
namespace Go.Proofs.Ytmoifihgomjbcaa.sectorSure
open Go.ChangeShapes Go.WideShapes Go.ChangeAt Go.RowKit
open Go.ChangeMaps (open_string shut_string)

attribute [local go_sem ↓] Go.wp_at_zero Go.wp_at_succ

/-- One of the lists is too long. -/
def Big (l more : List StepV) (a b : Nat) : Bool := heavyB l || (heavyB more || (decide (300 < a) || decide (300 < b)))

set_option maxHeartbeats 2000000 in
set_option maxRecDepth 100000 in
theorem walk_big (n : Int) (w : World) (l : List StepV) (A : Option Addr) (c : Nat) (la : LiesS w w.heap.size A l) (nl : l.length ≤ maxLen)
    (more : List StepV) (Am : Option Addr) (cm : Nat) (lm : LiesS w w.heap.size Am more) (nm : more.length ≤ maxLen) (np no : Nat) (Ap Ao : Option Addr) (cp co : Nat) (hbig : Big l more np no = true) :
    Calls Try.prog 3 #[.int .u8 n, .slice A l.length c, .slice Am more.length cm, .slice Ap np cp, .slice Ao no co] w fun e w' => e = .returned (.bool true) ∧ Below w.heap.size w w' := by
  have LA := Lib.hid la
  have LM := Lib.hid lm
  have HBIG := Lib.hid hbig
  clear la lm hbig
  cases h1 : heavyB l with
  | true =>
    have H1 := Lib.hid h1
    clear h1
    go_enter Try.func3, Try.ntmps3
    go_wp2_with fail
    refine (heavy_any l A c _ _ LA.out nl).mono ?_
    rintro e w' ⟨rfl, rfl⟩
    rw [H1.out]
    go_wp2_with fail
    refine (alive5_any _).mono ?_
    rintro e w1 ⟨rfl, hb1⟩
    go_wp2_with fail
    go_ret
    exact ⟨rfl, hb1⟩
  | false =>
    cases h2 : heavyB more with
    | true =>
      have H1 := Lib.hid h1
      have H2 := Lib.hid h2
      clear h1 h2
      go_enter Try.func3, Try.ntmps3
      go_wp2_with fail
      refine (heavy_any l A c _ _ LA.out nl).mono ?_
      rintro e w' ⟨rfl, rfl⟩
      rw [H1.out]
      go_wp2_with fail
      refine (heavy_any more Am cm _ _ LM.out nm).mono ?_
      rintro e w' ⟨rfl, rfl⟩
      rw [H2.out]
      go_wp2_with fail
      refine (alive5_any _).mono ?_
      rintro e w1 ⟨rfl, hb1⟩
      go_wp2_with fail
      go_ret
      exact ⟨rfl, hb1⟩
    | false =>
      have H1 := Lib.hid h1
      have H2 := Lib.hid h2
      have h3 := HBIG.out
      unfold Big at h3
      rw [h1, h2] at h3
      clear h1 h2
      by_cases h4 : 300 < np
      · have d1 : decide ((300 : Int) < (np : Int)) = true := by simp; omega
        clear h3 h4
        go_enter Try.func3, Try.ntmps3
        go_wp2_with fail
        refine (heavy_any l A c _ _ LA.out nl).mono ?_
        rintro e w' ⟨rfl, rfl⟩
        rw [H1.out]
        go_wp2_with fail
        refine (heavy_any more Am cm _ _ LM.out nm).mono ?_
        rintro e w' ⟨rfl, rfl⟩
        rw [H2.out]
        go_wp2_with fail
        refine (alive5_any _).mono ?_
        rintro e w1 ⟨rfl, hb1⟩
        go_wp2_with fail
        go_ret
        exact ⟨rfl, hb1⟩
      · have d1 : decide ((300 : Int) < (np : Int)) = false := by simp; omega
        have d2 : decide ((300 : Int) < (no : Int)) = true := by
          rw [decide_eq_false h4] at h3
          simp at h3
          simp; omega
        clear h3 h4
        go_enter Try.func3, Try.ntmps3
        go_wp2_with fail
        refine (heavy_any l A c _ _ LA.out nl).mono ?_
        rintro e w' ⟨rfl, rfl⟩
        rw [H1.out]
        go_wp2_with fail
        refine (heavy_any more Am cm _ _ LM.out nm).mono ?_
        rintro e w' ⟨rfl, rfl⟩
        rw [H2.out]
        go_wp2_with fail
        refine (alive5_any _).mono ?_
        rintro e w1 ⟨rfl, hb1⟩
        go_wp2_with fail
        go_ret
        exact ⟨rfl, hb1⟩

/-- Ahead of the sync. -/
def Ahead (p K m : Nat) (w0 wr : World) : Prop := ∃ s : Sec.St, s.Ok ∧ s.n = K ∧ s.lit = false ∧ s.loose.length ≤ m ∧ Sec.Has p w0.heap.size s wr ∧ Below w0.heap.size w0 wr

/-- Behind it, m more steps in. -/
def More (p K : Nat) (g : List UInt8) (more : List StepV) (m : Nat) (w0 wr : World) : Prop :=
  ∃ s : Sec.St, s.Ok ∧ s.n = K ∧ s.lit = false ∧ s.loose.length ≤ m ∧ s.good = g ∧ s.By more ∧ Sec.Has p w0.heap.size s wr ∧ Below w0.heap.size w0 wr

set_option maxHeartbeats 8000000 in
set_option maxRecDepth 100000 in
theorem walk_main (n : Int) (n0 : 0 ≤ n) (n1 : n ≤ 255) (w : World) (l : List StepV) (A : Option Addr) (c : Nat) (la : LiesS w w.heap.size A l) (ok : ∀ a ∈ l, a.Ok w)
    (more : List StepV) (Am : Option Addr) (cm : Nat) (lm : LiesS w w.heap.size Am more)
    (picks : List Int) (Ap : Option Addr) (cp : Nat) (lp : Lies w w.heap.size Ap (icells picks))
    (other : List Int) (Ao : Option Addr) (co : Nat) (lo : Lies w w.heap.size Ao (icells other)) (hbig : Big l more picks.length other.length = false) :
    Calls Try.prog 3 #[.int .u8 n, .slice A l.length c, .slice Am more.length cm, .slice Ap picks.length cp, .slice Ao other.length co] w fun e w' => e = .returned (.bool true) ∧ Below w.heap.size w w' := by
  unfold Big at hbig
  simp only [Bool.or_eq_false_iff, decide_eq_false_iff_not] at hbig
  obtain ⟨h1, h2, h3, h4⟩ := hbig
  have hp300 : picks.length ≤ 300 := by omega
  have ho300 : other.length ≤ 300 := by omega
  have hl200 := (heavy_no h1).1
  have hm200 := (heavy_no h2).1
  have H1 := Lib.hid h1
  have H2 := Lib.hid h2
  have LA := Lib.hid la
  have LM := Lib.hid lm
  have LP := Lib.hid lp
  have LO := Lib.hid lo
  have OK := Lib.hid ok
  have HMS := Lib.hid (heavy_no h2).2
  have d1 : decide ((300 : Int) < (picks.length : Int)) = false := by simp; omega
  have d2 : decide ((300 : Int) < (other.length : Int)) = false := by simp; omega
  obtain ⟨K, hK⟩ : ∃ K : Nat, 1 + n % 9 = (K : Int) := ⟨(1 + n % 9).toNat, by omega⟩
  have hK1 : 1 ≤ K := by omega
  have hK9 : K ≤ 9 := by omega
  have HK := Lib.hid hK
  clear la lm lp lo ok h1 h2 h3 h4 hK
  go_enter Try.func3, Try.ntmps3
  go_wp2_with fail
  refine (heavy_any l A c _ _ LA.out (by unfold maxLen; omega)).mono ?_
  rintro e w' ⟨rfl, rfl⟩
  rw [H1.out]
  go_wp2_with fail
  refine (heavy_any more Am cm _ _ LM.out (by unfold maxLen; omega)).mono ?_
  rintro e w' ⟨rfl, rfl⟩
  rw [H2.out]
  go_wp2_with fail
  rw [HK.out]
  refine (has_new K _ hK1 (by omega)).mono ?_
  rintro e w1 ⟨p, rfl, hA, hb1⟩
  have ST : Hid (Ahead p K 0 w w1) := ⟨_, Sec.St.fresh_ok hK1 (by omega), rfl, rfl, Nat.le_refl _, hA, hb1⟩
  clear hA hb1 d1 d2
  go_wp2_with fail
  go_loopw [14] (fun t wr => ∃ m : Nat, m ≤ l.length ∧ t = .int .i64 m ∧ Ahead p K m w wr) (fun t _ => l.length - (intOf t).toNat)
  case atStart => exact ⟨0, Nat.zero_le _, rfl, ST.out⟩
  case round =>
    clear ST
    obtain ⟨m, hm, rfl, hst⟩ := hrel
    by_cases hlt : m < l.length
    · obtain ⟨s, hs, hsn, hsl, hsm, hh, hbel⟩ := hst
      obtain ⟨ad, rfl, hadb, hc⟩ := (LA.out.below hbel) (by omega)
      obtain ⟨q0, q1, q2, q3⟩ := stp_at hlt (ad.add (m * 4)) (hc m hlt)
      have hpb : (ad.add (m * 4)).block < w.heap.size := by rw [Lies.add_block]; exact hadb
      have HOK := Lib.hid (OK.out l[m] (List.getElem_mem hlt))
      have hm0 : (0 : Int) ≤ (m : Int) := by omega
      have hm1 : (m : Int) < (l.length : Int) := by omega
      have HS := Lib.hid hs
      have HSN := Lib.hid hsn
      have HSL := Lib.hid hsl
      have HH := Lib.hid hh
      have HB := Lib.hid hbel
      clear hs hsn hsl hh hbel hc
      generalize l[m] = a at q0 q1 q2 q3 HOK
      obtain ⟨act, k, t, ps, A', c'⟩ := a
      simp only [] at q0 q1 q2 q3
      have q1d : wr.drew.cell? ⟨(ad.add (m * 4)).block, (ad.add (m * 4)).off + 1, none⟩ = some (.int .i64 k) := q1
      have q2d : wr.drew.cell? ⟨(ad.add (m * 4)).block, (ad.add (m * 4)).off + 2, none⟩ = some (.string t) := q2
      go_wp2_with fail
      go_region_held3 (fun w' => w'.cell? ⟨(ad.add (m * 4)).block, (ad.add (m * 4)).off + 1, none⟩ = some (.int .i64 k) ∧ w'.cell? ⟨(ad.add (m * 4)).block, (ad.add (m * 4)).off + 2, none⟩ = some (.string t))
        ((first | exact ⟨q1d, q2d⟩ | exact ⟨(HB2.out.cell (p := ⟨(ad.add (m * 4)).block, (ad.add (m * 4)).off + 1, none⟩) hpb).trans q1d, (HB2.out.cell (p := ⟨(ad.add (m * 4)).block, (ad.add (m * 4)).off + 2, none⟩) hpb).trans q2d⟩))
        (first | (go_at_call 9; refine (has_write p _ s _ HH.out.drew HS.out (Sec.St.runs HSL.out) (by omega) k t).mono ?_; rintro e w2 ⟨rfl, hN, hB2⟩; have HN := Lib.hid hN; have HB2 := Lib.hid hB2; clear hN hB2))
      have q0' := (HB2.out.cell hpb).trans (show wr.drew.cell? (ad.add (m * 4)) = _ from q0)
      have q3' := (HB2.out.cell (p := ⟨(ad.add (m * 4)).block, (ad.add (m * 4)).off + 3, none⟩) hpb).trans (show wr.drew.cell? ⟨(ad.add (m * 4)).block, (ad.add (m * 4)).off + 3, none⟩ = _ from q3)
      have HBB := Lib.hid (HB.out.trans ((Below.refl _ _).drew.trans HB2.out))
      have HL1 := Sec.St.wr_len (s := s) k t
      clear q0 q1 q2 q3 q1d q2d HB HB2 HH
      by_cases h5 : act % 5 = 4
      · have d5 : ((act : Int) % 5 == 4) = true := by simp; omega
        clear h5
        go_wp2_with fail
        have hsz := HBB.out.size
        refine (has_crash p _ _ _ HN.out (HS.out.wr k t) (by omega) A' c' ps HOK.out.len (picks_of ((HOK.out.ps).below HBB.out) hsz)).mono ?_
        rintro e w3 ⟨rfl, hN3, hB3⟩
        have HN3 := Lib.hid hN3
        have HB3 := Lib.hid (HBB.out.trans hB3)
        clear hN3 hB3
        go_wp2_with fail
        go_roundw
        case rel => exact ⟨m + 1, by omega, by go_num, _, Sec.St.crash_ok (HS.out.wr k t) ps, (Sec.St.wr_n (s := s) k t).trans HSN.out, rfl, Nat.zero_le _, HN3.out, HB3.out⟩
        case measure => simp [intOf]; omega
      · have d5 : ((act : Int) % 5 == 4) = false := by simp; omega
        clear h5
        go_wp2_with fail
        go_roundw
        case rel => exact ⟨m + 1, by omega, by go_num, _, HS.out.wr k t, (Sec.St.wr_n (s := s) k t).trans HSN.out, (Sec.St.wr_lit (s := s) k t).trans HSL.out, by omega, HN.out, HBB.out⟩
        case measure => simp [intOf]; omega
    · obtain ⟨s, hs, hsn, hsl, hsm, hh, hbel⟩ := hst
      have HS := Lib.hid hs
      have HSN := Lib.hid hsn
      have HSL := Lib.hid hsl
      have HH := Lib.hid hh
      have HB := Lib.hid hbel
      have hsm' : s.loose.length ≤ 200 := by omega
      clear hs hsn hsl hh hbel hsm
      go_wp2_with fail
      refine (has_sync p _ s _ HH.out HS.out (Sec.St.runs HSL.out) (by omega)).mono ?_
      rintro e w2 ⟨rfl, hN, hB⟩
      have HS2 : Hid ((s.burn.settle (fun _ => 128)).Ok) := HS.out.burn.settle _
      have HN2 : Hid ((s.burn.settle (fun _ => 128)).n = K) := HSN.out
      have HL2 : Hid ((s.burn.settle (fun _ => 128)).lit = false) := HSL.out
      have HE2 : Hid ((s.burn.settle (fun _ => 128)).loose = []) := rfl
      have HH2 := Lib.hid hN
      have HB2 := Lib.hid (HB.out.trans hB)
      clear hN hB HS HSN HSL HH HB hsm'
      revert HS2 HN2 HL2 HE2 HH2
      generalize s.burn.settle (fun _ => 128) = s2
      intro HS2 HN2 HL2 HE2 HH2
      go_wp2_with fail
      refine (has_loose p _ s2 _ HH2.out HS2.out).mono ?_
      rintro e w' ⟨rfl, rfl⟩
      rw [HE2.out]
      go_wp2_with fail
      refine (has_sure p _ s2 _ HH2.out HS2.out).mono ?_
      rintro e w3 ⟨rfl, hb⟩
      have HH3 := Lib.hid (HH2.out.below hb)
      have HB3 := Lib.hid (HB2.out.trans (hb.mono HB2.out.size))
      have HG : Hid ((⟨s2.good.toArray⟩ : ByteArray).size = K * 128) := by
        show s2.good.toArray.size = _
        rw [List.size_toArray, HS2.out.good, HN2.out]
      clear hb HH2 HB2
      obtain ⟨G, hG⟩ : ∃ G : ByteArray, G = ⟨s2.good.toArray⟩ := ⟨_, rfl⟩
      have HGG := Lib.hid hG
      rw [← hG]
      rw [← hG] at HG
      clear hG
      go_wp2_with fail
      have hsz := HB3.out.size
      refine (has_crash p _ s2 _ HH3.out HS2.out (by rw [HE2.out]; simp) Ao co other (by unfold maxLen; omega) (picks_of (LO.out.below HB3.out) hsz)).mono ?_
      rintro e w4 ⟨rfl, hN, hB⟩
      have HS4 : Hid ((s2.crash other).Ok) := Sec.St.crash_ok HS2.out _
      have HN4 : Hid ((s2.crash other).n = K) := HN2.out
      have HE4 : Hid ((s2.crash other).loose = []) := rfl
      have HG4 : Hid ((⟨(s2.crash other).good.toArray⟩ : ByteArray) = G) := by
        show _ = _
        rw [HGG.out]
        unfold Sec.St.crash
        rw [Sec.St.settle_none HE2.out]
      have HH4 := Lib.hid hN
      have HB4 := Lib.hid (HB3.out.trans hB)
      clear hN hB HH3 HB3 HS2 HN2 HL2 HE2 HGG hsz
      have HL4 : Hid ((s2.crash other).lit = false) := rfl
      revert HS4 HN4 HE4 HG4 HH4 HL4
      generalize s2.crash other = s3
      intro HS4 HN4 HE4 HG4 HH4 HL4
      go_wp2_with fail
      refine (has_sure p _ s3 _ HH4.out HS4.out).mono ?_
      rintro e w5 ⟨rfl, hb⟩
      have HH5 := Lib.hid (HH4.out.below hb)
      have HB5 := Lib.hid (HB4.out.trans (hb.mono HB4.out.size))
      clear hb HH4 HB4
      rw [HG4.out]
      have g1 : (G.size : Int) = (K : Int) * 128 := by have := HG.out; omega
      go_wp2_with fail
      go_loop [16] (fun t => ∃ i : Nat, i ≤ K ∧ t = .int .i64 i) (fun t => K - (intOf t).toNat)
      case atStart => exact ⟨0, Nat.zero_le _, rfl⟩
      case round =>
        obtain ⟨i, hi, rfl⟩ := hrel
        by_cases hlt2 : i < K
        · have HRD : Hid ((⟨((s3.now.drop (i * 128)).take 128).toArray⟩ : ByteArray) = G.extract (i * 128) ((i + 1) * 128)) := by
            show _ = _
            rw [HS4.out.read HE4.out, ← HG4.out]
            exact Sec.sector_of _ i
          have b0 : (0 : Int) ≤ (i : Int) * 128 := by omega
          have b1 : (i : Int) * 128 ≤ ((i : Int) + 1) * 128 := by omega
          have b2 : ((i : Int) + 1) * 128 ≤ (K : Int) * 128 := by omega
          have b3 : (i : Int) + 1 ≤ 10 := by omega
          have t1 : ((i : Int) * 128).toNat = i * 128 := by omega
          have t2 : (((i : Int) + 1) * 128).toNat = (i + 1) * 128 := by omega
          have hsl : (Instr.slice 9 (.string G) (some (.int .i64 ((i : Int) * 128))) (some (.int .i64 (((i : Int) + 1) * 128))) none).run Try.prog w5 = .ok (.string (G.extract (i * 128) ((i + 1) * 128))) w5 := by
            rw [run_slice_string_if (w := w5) 9 G .i64 .i64 _ _ Try.underlying9, if_pos ⟨by omega, by rw [g1]; exact b2⟩, if_pos ⟨b0, b1⟩, t1, t2]
          clear t1 t2 b1 b2
          go_wp2_with fail
          refine (has_read p _ s3 _ HH5.out HS4.out (Sec.St.runs HL4.out) i (by have := HN4.out; omega)).mono ?_
          rintro e w' ⟨rfl, rfl⟩
          rw [HRD.out]
          go_wp2_with fail
          go_round
          case rel => exact ⟨i + 1, by omega, by go_num⟩
          case measure => simp [intOf]; omega
        · obtain rfl : i = K := by omega
          have ST : Hid (More p i s3.good more 0 w w5) := ⟨s3, HS4.out, HN4.out, HL4.out, by rw [HE4.out]; exact Nat.le_refl _, rfl, (by intro x hx; rw [HE4.out] at hx; cases hx), HH5.out, HB5.out⟩
          have HGO : Hid (G = ⟨s3.good.toArray⟩) := HG4.out.symm
          have HGL : Hid (s3.good.length = i * 128) := by
            show _ = _
            rw [HS4.out.good, HN4.out]
          clear HS4 HN4 HL4 HE4 HH5 HB5 HG4 hlt2 hi
          revert ST HGO HGL
          generalize s3.good = g
          intro ST HGO HGL
          go_wp2_with fail
          go_loopw [19] (fun t wr => ∃ j : Nat, j ≤ more.length ∧ t = .int .i64 j ∧ More p i g more j w wr) (fun t _ => more.length - (intOf t).toNat)
          case atStart => exact ⟨0, Nat.zero_le _, rfl, ST.out⟩
          case round =>
            clear ST
            obtain ⟨j, hj, rfl, hst⟩ := hrel
            by_cases hlt3 : j < more.length
            · obtain ⟨s, hs, hsn, hsl, hsm, hsg, hby, hh, hbel⟩ := hst
              obtain ⟨ad, rfl, hadb, hc⟩ := (LM.out.below hbel) (by omega)
              obtain ⟨q0, q1, q2, q3⟩ := stp_at hlt3 (ad.add (j * 4)) (hc j hlt3)
              have hpb : (ad.add (j * 4)).block < w.heap.size := by rw [Lies.add_block]; exact hadb
              have hm0 : (0 : Int) ≤ (j : Int) := by omega
              have hm1 : (j : Int) < (more.length : Int) := by omega
              have HS := Lib.hid hs
              have HSN := Lib.hid hsn
              have HSL := Lib.hid hsl
              have HSG := Lib.hid hsg
              have HBY := Lib.hid (Sec.By.wr hby j hlt3)
              have HH := Lib.hid hh
              have HB := Lib.hid hbel
              clear hs hsn hsl hsg hby hh hbel hc q0 q3
              generalize more[j] = a at q1 q2 HBY
              obtain ⟨act, k, t, ps, A', c'⟩ := a
              simp only [] at q1 q2
              have q1d : wr.drew.cell? ⟨(ad.add (j * 4)).block, (ad.add (j * 4)).off + 1, none⟩ = some (.int .i64 k) := q1
              have q2d : wr.drew.cell? ⟨(ad.add (j * 4)).block, (ad.add (j * 4)).off + 2, none⟩ = some (.string t) := q2
              have HL1 := Sec.St.wr_len (s := s) k t
              go_wp2_with fail
              go_region_held3 (fun w' => w'.cell? ⟨(ad.add (j * 4)).block, (ad.add (j * 4)).off + 1, none⟩ = some (.int .i64 k) ∧ w'.cell? ⟨(ad.add (j * 4)).block, (ad.add (j * 4)).off + 2, none⟩ = some (.string t))
                ((first | exact ⟨q1d, q2d⟩ | exact ⟨(HB2.out.cell (p := ⟨(ad.add (j * 4)).block, (ad.add (j * 4)).off + 1, none⟩) hpb).trans q1d, (HB2.out.cell (p := ⟨(ad.add (j * 4)).block, (ad.add (j * 4)).off + 2, none⟩) hpb).trans q2d⟩))
                (first | (go_at_call 9; refine (has_write p _ s _ HH.out.drew HS.out (Sec.St.runs HSL.out) (by omega) k t).mono ?_; rintro e w2 ⟨rfl, hN, hB2⟩; have HN := Lib.hid hN; have HB2 := Lib.hid hB2; clear hN hB2))
              have HBB := Lib.hid (HB.out.trans ((Below.refl _ _).drew.trans HB2.out))
              clear q1 q2 q1d q2d HB HB2 HH
              go_wp2_with fail
              go_roundw
              case rel => exact ⟨j + 1, by omega, by go_num, _, HS.out.wr k t, (Sec.St.wr_n (s := s) k t).trans HSN.out, (Sec.St.wr_lit (s := s) k t).trans HSL.out, by omega, (Sec.St.wr_good (s := s) k t).trans HSG.out, HBY.out, HN.out, HBB.out⟩
              case measure => simp [intOf]; omega
            · obtain ⟨s, hs, hsn, hsl, hsm, hsg, hby, hh, hbel⟩ := hst
              have HS := Lib.hid hs
              have HSN := Lib.hid hsn
              have HSL := Lib.hid hsl
              have HSG := Lib.hid hsg
              have HBY := Lib.hid hby
              have HH := Lib.hid hh
              have HB := Lib.hid hbel
              have hsm' : s.loose.length ≤ 200 := by omega
              clear hs hsn hsl hsg hby hh hbel hsm
              go_wp2_with fail
              refine (has_sure p _ s _ HH.out HS.out).mono ?_
              rintro e w6 ⟨rfl, hb⟩
              have HH6 := Lib.hid (HH.out.below hb)
              have HB6 := Lib.hid (HB.out.trans (hb.mono HB.out.size))
              clear hb HH HB
              rw [HSG.out, ← HGO.out]
              go_wp2_with fail
              have hsz := HB6.out.size
              refine (has_crash p _ s _ HH6.out HS.out (by omega) Ap cp picks (by unfold maxLen; omega) (picks_of (LP.out.below HB6.out) hsz)).mono ?_
              rintro e w7 ⟨rfl, hN, hB⟩
              have HH7 := Lib.hid hN
              have HB7 := Lib.hid (HB6.out.trans hB)
              have HS7 : Hid ((s.crash picks).Ok) := Sec.St.crash_ok HS.out _
              clear hN hB HH6 HB6 hsz
              go_wp2_with fail
              refine (has_sure p _ _ _ HH7.out HS7.out).mono ?_
              rintro e w8 ⟨rfl, hb⟩
              have HB8 := Lib.hid (HB7.out.trans (hb.mono HB7.out.size))
              have HT : Hid ((s.crash picks).good.length = i * 128) := by
                show _ = _
                rw [HS7.out.good]
                exact congrArg (· * 128) HSN.out
              have HPUT : Hid (∀ (x : Nat) (b : UInt8), (s.crash picks).good[x]? = some b → g[x]? ≠ some b → ∃ j, ∃ h : j < more.length, more[j].Put ((x / 128 : Nat) : Int) (x % 128) b.toNat) := fun x b h1 h2 =>
                Sec.byte_put HS.out HBY.out picks x b h1 (by rw [HSG.out]; exact h2)
              clear hb HH7 HB7 HS7 HS HSN HSL HSG HBY
              revert HT HPUT
              generalize (s.crash picks).good = tg
              intro HT HPUT
              obtain ⟨T, hTE⟩ : ∃ T : ByteArray, T = ⟨tg.toArray⟩ := ⟨_, rfl⟩
              have HTE := Lib.hid hTE
              rw [← hTE]
              clear hTE
              have g2 : T.size = i * 128 := by
                rw [HTE.out]
                have : (⟨tg.toArray⟩ : ByteArray).size = tg.length := rfl
                have := HT.out
                omega
              have g3 : G.size = i * 128 := HG.out
              have HG2 := Lib.hid g2
              have g4 : ((T.size : Int) == (G.size : Int)) = true := by rw [g2, g3]; simp
              clear g1 g2 g3
              go_wp2_with fail
              clear g4
              go_loopw [21] (fun t wr => ∃ x : Nat, x ≤ i * 128 ∧ t = .int .i64 x ∧ Below w.heap.size w wr) (fun t _ => i * 128 - (intOf t).toNat)
              case atStart => exact ⟨0, Nat.zero_le _, rfl, HB8.out⟩
              case round =>
                clear HB8
                obtain ⟨x, hx, rfl, hbel⟩ := hrel
                by_cases hlt4 : x < i * 128
                · have x1 : x < T.size := by have := HG2.out; omega
                  have x2 : x < G.size := by have := HG.out; omega
                  have x3 : (x : Int) < (T.size : Int) := by omega
                  have x4 : (x : Int) < (G.size : Int) := by omega
                  have HBL := Lib.hid hbel
                  have HTX : Hid (tg[x]? = some T[x]) := by
                    show _ = _
                    have h : T.data.toList = tg := by rw [HTE.out]
                    rw [← h, List.getElem?_eq_getElem (by simpa using x1)]
                    rfl
                  have HGX : Hid (g[x]? = some G[x]) := by
                    show _ = _
                    have h : G.data.toList = g := by rw [HGO.out]
                    rw [← h, List.getElem?_eq_getElem (by simpa using x2)]
                    rfl
                  clear hbel
                  by_cases heq : T[x] = G[x]
                  · clear HTX HGX
                    go_wp2_with fail
                    go_quiet (fail)
                    go_wp2_with fail
                    go_roundw
                    case rel => exact ⟨x + 1, by omega, by go_num, below_drewN HBL.out _⟩
                    case measure => simp [intOf]; omega
                  · have e0 : ¬ T[x].toNat = G[x].toNat := fun h => heq (UInt8.toNat_inj.1 h)
                    have e1 : ((T[x].toNat : Int) != (G[x].toNat : Int)) = true := by simp; omega
                    obtain ⟨j2, hj2, hput⟩ := HPUT.out x T[x] HTX.out (by rw [HGX.out]; intro h; exact heq (Option.some.inj h).symm)
                    have HPU := Lib.hid hput
                    clear HTX HGX hput
                    go_wp2_with fail
                    go_quiet ((go_at_call 15; exact Calls.quiet_of_same ((written_i more Am cm _ _ (LM.out.below (below_drewN HBL.out _)) hm200 _ _ _ (x / 128) (x % 128) T[x].toNat (by omega) (by omega) (by omega) j2 hj2 HPU.out).mono fun _ _ h => ⟨h.1, h.2.symm⟩)))
                    go_wp2_with fail
                    go_roundw
                    case rel => exact ⟨x + 1, by omega, by go_num, below_drewN HBL.out _⟩
                    case measure => simp [intOf]; omega
                · obtain rfl : x = i * 128 := by omega
                  have HBL := Lib.hid hbel
                  have x1 : ((i * 128 : Nat) : Int) = (T.size : Int) := by have := HG2.out; omega
                  have x2 : ¬ (((i * 128 : Nat) : Int) < (T.size : Int)) := by omega
                  clear hbel x1
                  go_wp2_with fail
                  refine (alive5_any _).mono ?_
                  rintro e w9 ⟨rfl, hb9⟩
                  have hsz := HBL.out.size
                  go_wp2_with fail
                  go_ret
                  exact ⟨rfl, HBL.out.trans (hb9.mono hsz)⟩

theorem walk (w : World) (n : Int) (n0 : 0 ≤ n) (n1 : n ≤ 255) (l : List StepV) (A : Option Addr) (c : Nat) (la : LiesS w w.heap.size A l) (nl : l.length ≤ maxLen) (ok : ∀ a ∈ l, a.Ok w)
    (more : List StepV) (Am : Option Addr) (cm : Nat) (lm : LiesS w w.heap.size Am more) (nm : more.length ≤ maxLen) (_ : ∀ a ∈ more, a.Ok w)
    (picks : List Int) (Ap : Option Addr) (cp : Nat) (lp : Lies w w.heap.size Ap (icells picks)) (_ : picks.length ≤ maxLen) (_ : ∀ x ∈ picks, -9223372036854775808 ≤ x ∧ x ≤ 9223372036854775807)
    (other : List Int) (Ao : Option Addr) (co : Nat) (lo : Lies w w.heap.size Ao (icells other)) (_ : other.length ≤ maxLen) (_ : ∀ x ∈ other, -9223372036854775808 ≤ x ∧ x ≤ 9223372036854775807) :
    Calls Try.prog 3 #[.int .u8 n, .slice A l.length c, .slice Am more.length cm, .slice Ap picks.length cp, .slice Ao other.length co] w fun e w' => e = .returned (.bool true) ∧ Below w.heap.size w w' := by
  cases hb : Big l more picks.length other.length with
  | true => exact walk_big n w l A c la nl more Am cm lm nm _ _ Ap Ao cp co hb
  | false => exact walk_main n n0 n1 w l A c la ok more Am cm lm picks Ap cp lp other Ao co lo hb

/-! ### From the walk to the statement -/
theorem own : ownKnob Try.prog.godebug = none := by kernel_rfl

set_option maxRecDepth 20000 in
theorem contract (H : Type) (enc : TypeId × Value → H) (W : World) (base : Nat) (args : Array Value) (ds gs : List (DataW H)) (before : List MemPlace)
    (hval : ∀ (j : Nat) t v, Try.f3.params[j]? = some t → args[j]? = some v → Value.okWide Try.prog W .any base t v)
    (hW : DataW.Whole enc Try.prog Try.f3.params.toList Rows.sectorSureSpec.vars false W args.toList ds gs before) :
    Calls Try.prog 3 args W fun e W' => ∃ v, e = .returned v ∧ Rows.sectorSureSpec.post enc Try.prog Try.f3 false true false false W args v W' := by
  have hW' := hW
  obtain ⟨p, q, hA0, hV, rfl, hfz, hnd⟩ := hW
  have hA : DataW.TrodAll enc Try.prog W 0 (fun _ => true) true Try.f3.params.toList args.toList ds p := hA0
  rw [Try.params3] at hA hval
  obtain ⟨v0, vs0, d0, ds0, p0, q0, hargs, rfl, rfl, h0, r0⟩ := trodAll_cons hA
  obtain ⟨v1, vs1, d1, ds1, p1, q1, rfl, rfl, rfl, h1, r1⟩ := trodAll_cons r0
  obtain ⟨v2, vs2, d2, ds2, p2, q2, rfl, rfl, rfl, h2, r2⟩ := trodAll_cons r1
  obtain ⟨v3, vs3, d3, ds3, p3, q3, rfl, rfl, rfl, h3, r3⟩ := trodAll_cons r2
  obtain ⟨v4, vs4, d4, ds4, p4, q4, rfl, rfl, rfl, h4, r4⟩ := trodAll_cons r3
  obtain ⟨rfl, rfl, rfl⟩ := trodAll_nil r4
  obtain rfl : args = #[v0, v1, v2, v3, v4] := by cases args; simp_all
  obtain ⟨rfl, rfl⟩ := trodVars_none hV
  obtain ⟨a0, rfl, rfl, rfl, w0⟩ := open_int Try.underlying5 (hval 0 5 v0 rfl rfl) h0
  have b0 : 0 ≤ a0 ∧ a0 ≤ 255 := by simpa [Lit.wf, IntKind.min, IntKind.max, IntKind.signed, IntKind.bits] using w0
  have k1 := h1
  obtain ⟨fuel1, hf1⟩ := h1
  obtain ⟨xs1, A1, c1, hcs1, hn1, hl1, hb1⟩ := trod_steps hf1
  obtain rfl := slice_of Try.underlying22 (hval 1 22 v1 rfl rfl) hcs1
  have k2 := h2
  obtain ⟨fuel2, hf2⟩ := h2
  obtain ⟨xs2, A2, c2, hcs2, hn2, hl2, hb2⟩ := trod_steps hf2
  obtain rfl := slice_of Try.underlying22 (hval 2 22 v2 rfl rfl) hcs2
  have k3 := h3
  obtain ⟨fuel3, hf3⟩ := h3
  obtain ⟨xs3, A3, c3, hcs3, hn3, hl3, hb3⟩ := trod_i64s Try.underlying23 Try.underlying3 (by kernel_rfl) hf3
  obtain rfl := slice_of Try.underlying23 (hval 3 23 v3 rfl rfl) hcs3
  have k4 := h4
  obtain ⟨fuel4, hf4⟩ := h4
  obtain ⟨xs4, A4, c4, hcs4, hn4, hl4, hb4⟩ := trod_i64s Try.underlying23 Try.underlying3 (by kernel_rfl) hf4
  obtain rfl := slice_of Try.underlying23 (hval 4 23 v4 rfl rfl) hcs4
  clear hA0
  simp only [List.append_nil] at hW'
  refine (walk W a0 b0.1 b0.2 xs1 A1 c1 hl1 hn1 hb1 xs2 A2 c2 hl2 hn2 hb2 xs3 A3 c3 hl3 hn3 hb3 xs4 A4 c4 hl4 hn4 hb4).mono fun e W' ⟨he, bel⟩ => ?_
  subst he
  exact ⟨_, rfl, _, _, _, [], _, [], hW', trodAll_mk1 (shut_bool Try.underlying4 _), (trodAll_cons_mk (shut_int Try.underlying5 w0) (trodAll_cons_mk (Below.trod laidOut (by kernel_rfl) (of_decide_eq_true (by kernel_rfl)) k1 bel (fun x hx => DataW.trod_lt _ _ _ _ hf1 x hx)) (trodAll_cons_mk (Below.trod laidOut (by kernel_rfl) (of_decide_eq_true (by kernel_rfl)) k2 bel (fun x hx => DataW.trod_lt _ _ _ _ hf2 x hx)) (trodAll_cons_mk (Below.trod laidOut (by kernel_rfl) (of_decide_eq_true (by kernel_rfl)) k3 bel (fun x hx => DataW.trod_lt _ _ _ _ hf3 x hx)) (trodAll_cons_mk (Below.trod laidOut (by kernel_rfl) (of_decide_eq_true (by kernel_rfl)) k4 bel (fun x hx => DataW.trod_lt _ _ _ _ hf4 x hx)) trodAll_mk0))))), rfl, bel.frame _, fun h => by cases h⟩

set_option maxRecDepth 100000 in
theorem lifted (os : Os) (started : os.Started) (H : Type) (enc : TypeId × Value → H) :
    ReturnsInHanded {} Try.checked os 3 .any (Rows.sectorSureSpec.pre6 enc Try.prog Try.f3 Rows.sectorSureRow.domain false) (Rows.sectorSureSpec.post enc Try.prog Try.f3 false true false false) := by
  refine returnsInHanded_of_change (C := Try.checked) own started (by kernel_rfl) Try.func3
    (ChangeSpec.witness6 (enc := enc) (C := Try.checked) false ⟨#[], #[.int .u8 0, .slice none 0 0, .slice none 0 0, .slice none 0 0, .slice none 0 0], []⟩ 8 (by kernel_rfl) (by kernel_rfl) (by kernel_rfl) (by kernel_rfl)) ?_
  intro W base args ds gs before hval hW _ _
  exact contract H enc W base args ds gs before hval hW

theorem over : Rows.sectorSureRow.holds Try.pinned (OpenSpec.ofChange Rows.sectorSureSpec) :=
  OpenClaim.holds_of_wide 3 Try.f3 rfl rfl rfl rfl rfl rfl rfl ⟨rfl, rfl, rfl, rfl, rfl⟩ rfl rfl rfl rfl rfl (by kernel_rfl) Try.func3 (by kernel_rfl)
    (of_decide_eq_true (by kernel_rfl)) (by unfold Func.isWrapper; first | (rw [if_pos (by decide +kernel)]; kernel_rfl) | (rw [if_neg (by decide +kernel)]; exact ⟨rfl, rfl⟩))
    (fun os started H enc _ => lifted os started H enc)

/-- The statement. -/
theorem proved : Rows.SectorSureSaid :=
  over

end Go.Proofs.Ytmoifihgomjbcaa.sectorSure
