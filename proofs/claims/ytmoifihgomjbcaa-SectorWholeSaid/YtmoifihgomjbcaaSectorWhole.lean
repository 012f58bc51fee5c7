/-
  A crash in which all stays is a sync, one in which nothing stays is as if nothing had been written, and picks for writes that are not there count for nothing: whatever number of sectors, calls, writes and picks come in (SectorWhole).
-/
import Derived.Test.YtmoifihgomjbcaaRows
import Derived.Test.YtmoifihgomjbcaaL05A
import Derived.Test.YtmoifihgomjbcaaL05P
import Derived.Deep.RegionHeld3
import Derived.Deep.DrawnRows
import Derived.Laws.DeepStrings4
import Derived.WalkSmall
import Derived.Lib.AppendZeros
import Derived.ProofKit
import Derived.OpenShut
import Derived.ShutString
namespace Go.Proofs.Ytmoifihgomjbcaa.sectorWhole
open Go.ChangeShapes Go.WideShapes Go.ChangeAt Go.RowKit
open Go.ChangeMaps (open_string shut_string)

attribute [local go_sem ↓] Go.wp_at_zero Go.wp_at_succ

/-- One of the lists is too long. -/
def Big (l more : List StepV) (a : Nat) : Bool := heavyB l || (heavyB more || decide (300 < a))

theorem str_cells : (Try.prog.info? 9).map (fun i => (i.zero, i.size, i.bytes)) = some (some (.string ByteArray.empty), 1, 16) := by kernel_rfl

/-- What the three ways come to. -/
def outs (F G : ByteArray) : List ByteArray := [F, F, G]

set_option maxHeartbeats 8000000 in
set_option maxRecDepth 100000 in
theorem walk_main (n : Int) (n0 : 0 ≤ n) (n1 : n ≤ 255) (w : World) (l : List StepV) (A : Option Addr) (c : Nat) (la : LiesS w w.heap.size A l)
    (more : List StepV) (Am : Option Addr) (cm : Nat) (lm : LiesS w w.heap.size Am more)
    (rest : List Int) (Ar : Option Addr) (cr : Nat) (lr : Lies w w.heap.size Ar (icells rest)) (hbig : Big l more rest.length = false) :
    Calls Try.prog 5 #[.int .u8 n, .slice A l.length c, .slice Am more.length cm, .slice Ar rest.length cr] w fun e w' => e = .returned (.bool true) ∧ Below w.heap.size w w' := by
  unfold Big at hbig
  simp only [Bool.or_eq_false_iff, decide_eq_false_iff_not] at hbig
  obtain ⟨h1, h2, h3⟩ := hbig
  have hr300 : rest.length ≤ 300 := by omega
  have hl200 := (heavy_no h1).1
  have hm200 := (heavy_no h2).1
  have H1 := Lib.hid h1
  have H2 := Lib.hid h2
  have LA := Lib.hid la
  have LM := Lib.hid lm
  have LR := Lib.hid lr
  have d1 : decide ((300 : Int) < (rest.length : Int)) = false := by simp; omega
  obtain ⟨K, hK⟩ : ∃ K : Nat, 1 + n % 9 = (K : Int) := ⟨(1 + n % 9).toNat, by omega⟩
  have hK1 : 1 ≤ K := by omega
  have hK9 : K ≤ 9 := by omega
  have HK := Lib.hid hK
  have ZOK : Hid ((Sec.St.fresh K).Ok) := Sec.St.fresh_ok hK1 (by omega)
  have ZLIT : Hid ((Sec.St.fresh K).lit = false) := rfl
  have ZLEN : Hid ((Sec.St.fresh K).loose.length = 0) := rfl
  obtain ⟨S2, hS2⟩ : ∃ S2 : Sec.St, S2 = ((Sec.St.fresh K).wrs l l.length).burn.settle (fun _ => 128) := ⟨_, rfl⟩
  have TOK : Hid (S2.Ok) := by show S2.Ok; rw [hS2]; exact (Sec.St.wrs_facts ZOK.out l l.length).1.burn.settle _
  have TLIT : Hid (S2.lit = false) := by show _ = _; rw [hS2]; exact (Sec.St.wrs_facts ZOK.out l l.length).2.2.1
  have TLEN : Hid (S2.loose.length = 0) := by show _ = _; rw [hS2]; rfl
  have HS2 := Lib.hid hS2
  obtain ⟨S3, hS3⟩ : ∃ S3 : Sec.St, S3 = S2.wrs more more.length := ⟨_, rfl⟩
  obtain ⟨f1, f2, f3, f4, f5⟩ := Sec.St.wrs_facts TOK.out more more.length
  rw [← hS3] at f1 f2 f3 f4 f5
  have UOK := Lib.hid f1
  have ULIT := Lib.hid (f3.trans TLIT.out)
  have hU : S3.loose.length ≤ more.length := by have := TLEN.out; omega
  have HS3 := Lib.hid hS3
  obtain ⟨F, hF⟩ : ∃ F : ByteArray, F = ⟨(S3.burn.settle (fun _ => 128)).good.toArray⟩ := ⟨_, rfl⟩
  obtain ⟨G, hG⟩ : ∃ G : ByteArray, G = ⟨S3.good.toArray⟩ := ⟨_, rfl⟩
  have HF := Lib.hid hF
  have HG := Lib.hid hG
  have HW2 : Hid ((⟨S2.good.toArray⟩ : ByteArray) = G) := by show _ = _; rw [hG, f4]
  clear la lm lr h1 h2 h3 hK hS2 hS3 f1 f2 f3 f4 f5 hF hG
  obtain ⟨si, hsi, hsz⟩ := Option.map_eq_some_iff.1 str_cells
  simp only [Prod.mk.injEq] at hsz
  obtain ⟨s1, s2, s3⟩ := hsz
  have SI := Lib.hid hsi
  have SI1 := Lib.hid s1
  have SI2 := Lib.hid s2
  have SI3 := Lib.hid s3
  clear hsi s1 s2 s3
  go_enter Try.func5, Try.ntmps5
  go_wp2_with fail
  refine (heavy_any l A c _ _ LA.out (by unfold maxLen; omega)).mono ?_
  rintro e w' ⟨rfl, rfl⟩
  rw [H1.out]
  go_wp2_with fail
  refine (heavy_any more Am cm _ _ LM.out (by unfold maxLen; omega)).mono ?_
  rintro e w' ⟨rfl, rfl⟩
  rw [H2.out]
  go_wp2_with fail
  clear d1
  go_loopw [9, 10] (fun v t wr => ∃ way : Nat, way ≤ 3 ∧ t = .int .i64 way ∧ wr.ownsRow w.heap.size 9 1 v way (((outs F G).take way).map Value.string) ∧ Below w.heap.size w wr) (fun _ t _ => 3 - (intOf t).toNat)
  case atStart => exact ⟨0, Nat.zero_le _, rfl, World.ownsRow_nil _ _ _ _, Below.refl _ _⟩
  case round =>
    obtain ⟨way, hway, rfl, hown, hwb⟩ := hrel
    obtain ⟨wo, rfl⟩ : ∃ wo : World, wo = wr := ⟨_, rfl⟩
    have HWB := Lib.hid hwb
    have HOWN := Lib.hid hown
    clear hwb hown
    by_cases hlt : way < 3
    · have hw3 : (way : Int) < 3 := by omega
      go_wp2_with fail
      rw [HK.out]
      refine (has_new K _ hK1 (by omega)).mono ?_
      rintro e w1 ⟨p, rfl, hA, hb1⟩
      have ST : Hid (Sec.Has p wo.heap.size ((Sec.St.fresh K).wrs l 0) w1) := hA
      have SB := Lib.hid hb1
      clear hA hb1
      go_wp2_with fail
      go_loopw [13] (fun t wr => ∃ m : Nat, m ≤ l.length ∧ t = .int .i64 m ∧ Sec.Has p wo.heap.size ((Sec.St.fresh K).wrs l m) wr ∧ Below wo.heap.size wo wr) (fun t _ => l.length - (intOf t).toNat)
      case atStart => exact ⟨0, Nat.zero_le _, rfl, ST.out, SB.out⟩
      case round =>
        clear ST SB
        obtain ⟨m, hm, rfl, hh, hbel⟩ := hrel
        by_cases hlt2 : m < l.length
        · obtain ⟨ad, rfl, hadb, hc⟩ := ((LA.out.below HWB.out).below (hbel.mono HWB.out.size)) (by omega)
          obtain ⟨q0, q1, q2, q3⟩ := stp_at hlt2 (ad.add (m * 4)) (hc m hlt2)
          have hsz := HWB.out.size
          have hpb : (ad.add (m * 4)).block < wo.heap.size := by rw [Lies.add_block]; omega
          have hm0 : (0 : Int) ≤ (m : Int) := by omega
          have hm1 : (m : Int) < (l.length : Int) := by omega
          obtain ⟨fs1, fs2, fs3, fs4, fs5⟩ := Sec.St.wrs_facts ZOK.out l m
          have HST := Lib.hid (Sec.St.wrs_step (s := (Sec.St.fresh K)) (l := l) hlt2)
          have HS := Lib.hid fs1
          have HSL := Lib.hid (fs3.trans ZLIT.out)
          have hsm : ((Sec.St.fresh K).wrs l m).loose.length ≤ 1000 := by have := ZLEN.out; omega
          have HH := Lib.hid hh
          have HB := Lib.hid hbel
          clear fs1 fs2 fs3 fs4 fs5 hc hh hbel q0 q3
          generalize l[m] = a at q1 q2 HST
          obtain ⟨act, k, t, ps, A', c'⟩ := a
          simp only [] at q1 q2 HST
          revert HST HS HSL HH hsm
          generalize (Sec.St.fresh K).wrs l m = s
          intro HS HSL hsm HH HST
          have q1d : wr.drew.cell? ⟨(ad.add (m * 4)).block, (ad.add (m * 4)).off + 1, none⟩ = some (.int .i64 k) := q1
          have q2d : wr.drew.cell? ⟨(ad.add (m * 4)).block, (ad.add (m * 4)).off + 2, none⟩ = some (.string t) := q2
          go_wp2_with fail
          go_region_held3 (fun w' => w'.cell? ⟨(ad.add (m * 4)).block, (ad.add (m * 4)).off + 1, none⟩ = some (.int .i64 k) ∧ w'.cell? ⟨(ad.add (m * 4)).block, (ad.add (m * 4)).off + 2, none⟩ = some (.string t))
            ((first | exact ⟨q1d, q2d⟩ | exact ⟨(HB2.out.cell (p := ⟨(ad.add (m * 4)).block, (ad.add (m * 4)).off + 1, none⟩) hpb).trans q1d, (HB2.out.cell (p := ⟨(ad.add (m * 4)).block, (ad.add (m * 4)).off + 2, none⟩) hpb).trans q2d⟩))
            (first | (go_at_call 9; refine (has_write p _ s _ HH.out.drew HS.out (Sec.St.runs HSL.out) (by omega) k t).mono ?_; rintro e w2 ⟨rfl, hN, hB2⟩; have HN := Lib.hid hN; have HB2 := Lib.hid hB2; clear hN hB2))
          have HBB := Lib.hid (HB.out.trans ((Below.refl _ _).drew.trans HB2.out))
          rw [← HST.out] at HN
          clear q1 q2 q1d q2d HB HB2 HH
          go_wp2_with fail
          go_roundw
          case rel => exact ⟨m + 1, by omega, by go_num, HN.out, HBB.out⟩
          case measure => simp [intOf]; omega
        · obtain rfl : m = l.length := by omega
          have HH := Lib.hid hh
          have HB := Lib.hid hbel
          obtain ⟨fs1, fs2, fs3, fs4, fs5⟩ := Sec.St.wrs_facts ZOK.out l l.length
          have HS := Lib.hid fs1
          have HSL := Lib.hid (fs3.trans ZLIT.out)
          have hsm : ((Sec.St.fresh K).wrs l l.length).loose.length ≤ 1000 := by have := ZLEN.out; omega
          clear fs1 fs2 fs3 fs4 fs5 hh hbel
          go_wp2_with fail
          refine (has_sync p _ _ _ HH.out HS.out (Sec.St.runs HSL.out) (by omega)).mono ?_
          rintro e w2 ⟨rfl, hN, hB⟩
          have HH2 : Hid (Sec.Has p wo.heap.size S2 w2) := by rw [HS2.out]; exact hN
          have HB2 := Lib.hid (HB.out.trans hB)
          clear hN hB HH HB HS HSL hsm
          go_wp2_with fail
          refine (has_sure p _ _ _ HH2.out TOK.out).mono ?_
          rintro e w3 ⟨rfl, hb⟩
          have ST : Hid (Sec.Has p wo.heap.size (S2.wrs more 0) w3) := HH2.out.below hb
          have SB := Lib.hid (HB2.out.trans (hb.mono HB2.out.size))
          rw [HW2.out]
          clear hb HH2 HB2
          go_wp2_with fail
          go_loopw [15] (fun t wr => ∃ m : Nat, m ≤ more.length ∧ t = .int .i64 m ∧ Sec.Has p wo.heap.size (S2.wrs more m) wr ∧ Below wo.heap.size wo wr) (fun t _ => more.length - (intOf t).toNat)
          case atStart => exact ⟨0, Nat.zero_le _, rfl, ST.out, SB.out⟩
          case round =>
            clear ST SB
            obtain ⟨m, hm, rfl, hh, hbel⟩ := hrel
            by_cases hlt2 : m < more.length
            · obtain ⟨ad, rfl, hadb, hc⟩ := ((LM.out.below HWB.out).below (hbel.mono HWB.out.size)) (by omega)
              obtain ⟨q0, q1, q2, q3⟩ := stp_at hlt2 (ad.add (m * 4)) (hc m hlt2)
              have hsz := HWB.out.size
              have hpb : (ad.add (m * 4)).block < wo.heap.size := by rw [Lies.add_block]; omega
              have hm0 : (0 : Int) ≤ (m : Int) := by omega
              have hm1 : (m : Int) < (more.length : Int) := by omega
              obtain ⟨fs1, fs2, fs3, fs4, fs5⟩ := Sec.St.wrs_facts TOK.out more m
              have HST := Lib.hid (Sec.St.wrs_step (s := S2) (l := more) hlt2)
              have HS := Lib.hid fs1
              have HSL := Lib.hid (fs3.trans TLIT.out)
              have hsm : (S2.wrs more m).loose.length ≤ 1000 := by have := TLEN.out; omega
              have HH := Lib.hid hh
              have HB := Lib.hid hbel
              clear fs1 fs2 fs3 fs4 fs5 hc hh hbel q0 q3
              generalize more[m] = a at q1 q2 HST
              obtain ⟨act, k, t, ps, A', c'⟩ := a
              simp only [] at q1 q2 HST
              revert HST HS HSL HH hsm
              generalize S2.wrs more m = s
              intro HS HSL hsm HH HST
              have q1d : wr.drew.cell? ⟨(ad.add (m * 4)).block, (ad.add (m * 4)).off + 1, none⟩ = some (.int .i64 k) := q1
              have q2d : wr.drew.cell? ⟨(ad.add (m * 4)).block, (ad.add (m * 4)).off + 2, none⟩ = some (.string t) := q2
              go_wp2_with fail
              go_region_held3 (fun w' => w'.cell? ⟨(ad.add (m * 4)).block, (ad.add (m * 4)).off + 1, none⟩ = some (.int .i64 k) ∧ w'.cell? ⟨(ad.add (m * 4)).block, (ad.add (m * 4)).off + 2, none⟩ = some (.string t))
                ((first | exact ⟨q1d, q2d⟩ | exact ⟨(HB2.out.cell (p := ⟨(ad.add (m * 4)).block, (ad.add (m * 4)).off + 1, none⟩) hpb).trans q1d, (HB2.out.cell (p := ⟨(ad.add (m * 4)).block, (ad.add (m * 4)).off + 2, none⟩) hpb).trans q2d⟩))
                (first | (go_at_call 9; refine (has_write p _ s _ HH.out.drew HS.out (Sec.St.runs HSL.out) (by omega) k t).mono ?_; rintro e w2 ⟨rfl, hN, hB2⟩; have HN := Lib.hid hN; have HB2 := Lib.hid hB2; clear hN hB2))
              have HBB := Lib.hid (HB.out.trans ((Below.refl _ _).drew.trans HB2.out))
              rw [← HST.out] at HN
              clear q1 q2 q1d q2d HB HB2 HH
              go_wp2_with fail
              go_roundw
              case rel => exact ⟨m + 1, by omega, by go_num, HN.out, HBB.out⟩
              case measure => simp [intOf]; omega

            · obtain rfl : m = more.length := by omega
              have HH : Hid (Sec.Has p wo.heap.size S3 wr) := by rw [HS3.out]; exact hh
              have HB := Lib.hid hbel
              clear hh hbel
              have e1 : decide ((S3.loose.length : Int) < 0) = false := by simp
              have e2 : decide (more.length < S3.loose.length) = false := by simpa using hU
              go_wp2_with fail
              refine (has_loose p _ S3 _ HH.out UOK.out).mono ?_
              rintro e w' ⟨rfl, rfl⟩
              go_wp2_with fail
              refine (has_loose p _ S3 _ HH.out UOK.out).mono ?_
              rintro e w' ⟨rfl, rfl⟩
              clear e1 e2
              by_cases hw0 : way = 0
              · subst hw0
                go_wp2_with fail
                refine (has_sync p _ S3 _ HH.out UOK.out (Sec.St.runs ULIT.out) (by omega)).mono ?_
                rintro e w4 ⟨rfl, hN, hB⟩
                have HHZ := Lib.hid hN
                have HSZ : Hid ((S3.burn.settle (fun _ => 128)).Ok) := UOK.out.burn.settle _
                have HBZ := Lib.hid (HB.out.trans hB)
                have HRES : Hid ((⟨(S3.burn.settle (fun _ => 128)).good.toArray⟩ : ByteArray) = F) := HF.out.symm
                clear hN hB HH HB
                go_wp2_with fail
                refine (has_sure p _ _ _ HHZ.out HSZ.out).mono ?_
                rintro e w8 ⟨rfl, hb8⟩
                have B8 := Lib.hid (HBZ.out.trans (hb8.mono HBZ.out.size))
                rw [HRES.out]
                clear hb8 HHZ HSZ HBZ
                have HKEEP : Hid ((w8.alloc (.cells #[.string F] 9)).ownsRow w.heap.size 9 1 u9 0 (((outs F G).take 0).map Value.string)) := HOWN.out.kept (row := none) (Sec.grown_of_below (B8.out.alloc B8.out.size _) _) (by cases u9.ownBlock <;> simp)
                have hs8 := B8.out.size
                have hs9 := HWB.out.size
                go_wp2_with (at_builtin; refine wpList_append_own_at _ rfl _ _ 43 rfl w.heap.size 9 si _ 1 16 Try.underlying43 SI.out SI1.out SI2.out SI3.out rfl (by omega) _ _ _ rfl HKEEP.out ⟨w8.heap.size, 0, none⟩ 1 1 [.string F] rfl rfl (fun j u hu => World.news_of_block (heap_alloc_new w8 (.cells #[.string F] 9)) j u (by simpa using hu)) (by simp [Value.oneCell']) (by unfold maxLen; omega) (by omega) (by simp; omega) ?_)
                intro v2 w9 hown2 hgrow2 _ _
                have HO2 := Lib.hid hown2
                have B9 : Hid (Below w.heap.size w w9) := (HWB.out.trans ((B8.out.alloc B8.out.size (.cells #[.string F] 9)).mono hs9)).grown hgrow2 (by simp; omega) (fun k hk => (HKEEP.out.lt k hk).1)
                clear hown2 hgrow2
                go_wp2_with fail
                go_roundw
                case rel => exact ⟨0 + 1, by omega, by go_num, HO2.out, B9.out⟩
                case measure => simp [intOf]

              by_cases hw1 : way = 1
              · subst hw1
                obtain ⟨wp, rfl⟩ : ∃ wp : World, wp = wr := ⟨_, rfl⟩
                have hmk := run_make_row' (P := Try.prog) 23 3 (.int .i64 0) 8 Try.underlying23 int_cells rfl .i64 .i64 S3.loose.length (by omega) (by omega)
                go_wp2_with fail
                refine (has_loose p _ S3 _ HH.out UOK.out).mono ?_
                rintro e w' ⟨rfl, rfl⟩
                go_wp2_with fail
                clear hmk
                go_loopw [17] (fun t wr => ∃ i : Nat, i ≤ S3.loose.length ∧ t = .int .i64 i ∧ wr.heap[wp.heap.size]? = some (.cells (Sec.fill S3.loose.length i).toArray 3 (0, 0)) ∧ Below wp.heap.size wp wr) (fun t _ => S3.loose.length - (intOf t).toNat)
                case atStart =>
                  refine ⟨0, Nat.zero_le _, rfl, ?_, (Below.refl _ _).alloc (Nat.le_refl _) _⟩
                  rw [heap_alloc_new, Sec.fill_zero, ← toList_madeCells_one]
                case round =>
                  obtain ⟨i, hi, rfl, hblk, hbl⟩ := hrel
                  have HBK := Lib.hid hblk
                  have HBL := Lib.hid hbl
                  by_cases hlt3 : i < S3.loose.length
                  · have hc : wr.cell? ⟨wp.heap.size, i, none⟩ = some (.int .i64 0) := by
                      rw [cell_of_row wr _ _ _ _ _ hblk]
                      simp [Sec.fill, hlt3]
                    have hf : wr.frozen? ⟨wp.heap.size, i, none⟩ = false := frozen_of_row wr _ _ _ _ hblk
                    have i0 : (0 : Int) ≤ (i : Int) := by omega
                    have i1 : (i : Int) < (S3.loose.length : Int) := by omega
                    have i2 : (S3.loose.length : Int) ≤ 200 := by omega
                    clear hblk hbl
                    go_wp2_with fail
                    go_roundw
                    case rel =>
                      refine ⟨i + 1, by omega, by go_num, ?_, HBL.out.setCell (Nat.le_refl _) _⟩
                      rw [heap_setCell_same _ _ _ _ _ _ HBK.out, Sec.fill_step]
                    case measure => simp [intOf]; omega
                  · obtain rfl : i = S3.loose.length := by omega
                    clear hblk hbl
                    have hOwn : wr.ownsRow wp.heap.size 3 1 (.slice (some ⟨wp.heap.size, 0, none⟩) S3.loose.length S3.loose.length) S3.loose.length (icells (Sec.full S3.loose.length)) := by
                      rw [← Sec.fill_all]
                      exact ⟨by rw [Sec.fill_len]; omega, .inr ⟨_, _, _, rfl, Nat.le_refl _, HBK.out, Nat.le_refl _, by unfold maxLen; omega, by simp [Sec.fill_len], by rw [List.take_of_length_le (by simp [Sec.fill_len])]⟩⟩
                    have hsz1 := HBL.out.size
                    have hsz2 := HB.out.size
                    have hsz3 := HWB.out.size
                    obtain ⟨v1, w5, hr, ho, hgr⟩ := append_ints wr wp.heap.size _ _ _ hOwn Ar rest.length cr (icells rest) (by simp [icells]) (fun h0 => by
                      obtain ⟨ad, e, _, hc⟩ := ((LR.out.below HWB.out).below ((HB.out.trans (HBL.out.mono hsz2)).mono hsz3)) (by simpa [icells] using h0)
                      exact ⟨ad, e, hc⟩) (by intro u hu; obtain ⟨z, _, rfl⟩ := List.mem_map.1 hu; rfl) (by omega) hsz1 23
                    have hlen : (Sec.full S3.loose.length ++ rest).length = S3.loose.length + rest.length := by rw [List.length_append]; simp [Sec.full]
                    have hcat : icells (Sec.full S3.loose.length) ++ icells rest = icells (Sec.full S3.loose.length ++ rest) := by simp [icells]
                    rw [← hlen, hcat] at ho
                    obtain ⟨A5, c5, rfl, hpk⟩ := picks_own ho
                    have HR := Lib.hid hr
                    have HPK := Lib.hid hpk
                    have HB5 : Hid (Below wp.heap.size wp w5) := HBL.out.grown hgr hsz1 (fun k hk => (hOwn.lt k hk).1)
                    clear hr hpk ho hgr hOwn hcat
                    have hps : (Sec.full S3.loose.length ++ rest).length ≤ maxLen := by unfold maxLen; omega
                    have HLN := Lib.hid hlen
                    clear hlen
                    go_wp2_with (at_builtin; refine Lib.wpList_append_run _ rfl (.tmp 120) (.tmp 121) 23 23 rfl _ _ rfl rfl _ _ HR.out ?_)
                    rw [← List.length_append]
                    refine (has_crash_new p _ S3 wp w5 HH.out HB5.out UOK.out (by omega) A5 c5 (Sec.full S3.loose.length ++ rest) hps HPK.out).mono ?_
                    rintro e w6 ⟨rfl, hN, hB⟩
                    have HSZ : Hid ((S3.crash (Sec.full S3.loose.length ++ rest)).Ok) := Sec.St.crash_ok UOK.out _
                    have HHZ := Lib.hid hN
                    have HBZ : Hid (Below wo.heap.size wo w6) := (HB.out.trans (HB5.out.mono hsz2)).trans hB
                    have HRES : Hid ((⟨(S3.crash (Sec.full S3.loose.length ++ rest)).good.toArray⟩ : ByteArray) = F) := by
                      show _ = _
                      rw [Sec.crash_full UOK.out]
                      exact HF.out.symm
                    clear hN hB HH HB HB5 HPK HR
                    go_wp2_with fail
                    refine (has_sure p _ _ _ HHZ.out HSZ.out).mono ?_
                    rintro e w8 ⟨rfl, hb8⟩
                    have B8 := Lib.hid (HBZ.out.trans (hb8.mono HBZ.out.size))
                    rw [HRES.out]
                    clear hb8 HHZ HSZ HBZ
                    have HKEEP : Hid ((w8.alloc (.cells #[.string F] 9)).ownsRow w.heap.size 9 1 u9 1 (((outs F G).take 1).map Value.string)) := HOWN.out.kept (row := none) (Sec.grown_of_below (B8.out.alloc B8.out.size _) _) (by cases u9.ownBlock <;> simp)
                    have hs8 := B8.out.size
                    have hs9 := HWB.out.size
                    go_wp2_with (at_builtin; refine wpList_append_own_at _ rfl _ _ 43 rfl w.heap.size 9 si _ 1 16 Try.underlying43 SI.out SI1.out SI2.out SI3.out rfl (by omega) _ _ _ rfl HKEEP.out ⟨w8.heap.size, 0, none⟩ 1 1 [.string F] rfl rfl (fun j u hu => World.news_of_block (heap_alloc_new w8 (.cells #[.string F] 9)) j u (by simpa using hu)) (by simp [Value.oneCell']) (by unfold maxLen; omega) (by omega) (by simp; omega) ?_)
                    intro v2 w9 hown2 hgrow2 _ _
                    have HO2 := Lib.hid hown2
                    have B9 : Hid (Below w.heap.size w w9) := (HWB.out.trans ((B8.out.alloc B8.out.size (.cells #[.string F] 9)).mono hs9)).grown hgrow2 (by simp; omega) (fun k hk => (HKEEP.out.lt k hk).1)
                    clear hown2 hgrow2
                    go_wp2_with fail
                    go_roundw
                    case rel => exact ⟨1 + 1, by omega, by go_num, HO2.out, B9.out⟩
                    case measure => simp [intOf]


              obtain rfl : way = 2 := by omega
              obtain ⟨wp, rfl⟩ : ∃ wp : World, wp = wr := ⟨_, rfl⟩
              have hmk := run_make_row' (P := Try.prog) 23 3 (.int .i64 0) 8 Try.underlying23 int_cells rfl .i64 .i64 S3.loose.length (by omega) (by omega)
              go_wp2_with fail
              refine (has_loose p _ S3 _ HH.out UOK.out).mono ?_
              rintro e w' ⟨rfl, rfl⟩
              have HOWNP : Hid ((wp.alloc (.cells (madeCells #[.int .i64 0] S3.loose.length) 3)).ownsRow wp.heap.size 3 1 (.slice (some ⟨wp.heap.size, 0, none⟩) S3.loose.length S3.loose.length) S3.loose.length (icells (Sec.none' S3.loose.length))) := by
                have h := World.ownsRow_lit (base := wp.heap.size) (e := 3) (size := 1) wp (madeCells #[.int .i64 0] S3.loose.length) S3.loose.length (Nat.le_refl _) (by unfold maxLen; omega) (by rw [size_madeCells]; omega)
                rw [toList_madeCells_one, ← Sec.none_cells] at h
                exact h
              have HBL : Hid (Below wp.heap.size wp (wp.alloc (.cells (madeCells #[.int .i64 0] S3.loose.length) 3))) := (Below.refl _ _).alloc (Nat.le_refl _) _
              have hOwn := HOWNP.out
              have hsz1 := HBL.out.size
              have hsz2 := HB.out.size
              have hsz3 := HWB.out.size
              obtain ⟨v1, w5, hr, ho, hgr⟩ := append_ints (wp.alloc (.cells (madeCells #[.int .i64 0] S3.loose.length) 3)) wp.heap.size _ _ _ hOwn Ar rest.length cr (icells rest) (by simp [icells]) (fun h0 => by
                obtain ⟨ad, e, _, hc⟩ := ((LR.out.below HWB.out).below ((HB.out.trans (HBL.out.mono hsz2)).mono hsz3)) (by simpa [icells] using h0)
                exact ⟨ad, e, hc⟩) (by intro u hu; obtain ⟨z, _, rfl⟩ := List.mem_map.1 hu; rfl) (by omega) hsz1 23
              have hlen : (Sec.none' S3.loose.length ++ rest).length = S3.loose.length + rest.length := by rw [List.length_append]; simp [Sec.none']
              have hcat : icells (Sec.none' S3.loose.length) ++ icells rest = icells (Sec.none' S3.loose.length ++ rest) := by simp [icells]
              rw [← hlen, hcat] at ho
              obtain ⟨A5, c5, rfl, hpk⟩ := picks_own ho
              have HR := Lib.hid hr
              have HPK := Lib.hid hpk
              have HB5 : Hid (Below wp.heap.size wp w5) := HBL.out.grown hgr hsz1 (fun k hk => (hOwn.lt k hk).1)
              clear hr hpk ho hgr hOwn hcat
              have hps : (Sec.none' S3.loose.length ++ rest).length ≤ maxLen := by unfold maxLen; omega
              have HLN := Lib.hid hlen
              clear hlen
              go_wp2_with (at_builtin; refine Lib.wpList_append_run _ rfl (.tmp 128) (.tmp 129) 23 23 rfl _ _ rfl rfl _ _ HR.out ?_)
              rw [← List.length_append]
              refine (has_crash_new p _ S3 wp w5 HH.out HB5.out UOK.out (by omega) A5 c5 (Sec.none' S3.loose.length ++ rest) hps HPK.out).mono ?_
              rintro e w6 ⟨rfl, hN, hB⟩
              have HSZ : Hid ((S3.crash (Sec.none' S3.loose.length ++ rest)).Ok) := Sec.St.crash_ok UOK.out _
              have HHY := Lib.hid hN
              have HBY : Hid (Below wo.heap.size wo w6) := (HB.out.trans (HB5.out.mono hsz2)).trans hB
              have HRES : Hid ((⟨(S3.crash (Sec.none' S3.loose.length ++ rest)).good.toArray⟩ : ByteArray) = G) := by
                show _ = _
                rw [Sec.crash_none]
                exact HG.out.symm
              clear hN hB HH HB HB5 HPK HR
              go_wp2_with fail
              refine (has_sure p _ _ _ HHY.out HSZ.out).mono ?_
              rintro e w7 ⟨rfl, hb7⟩
              rw [HRES.out]
              have HHZ := Lib.hid (HHY.out.below hb7)
              have HBZ := Lib.hid (HBY.out.trans (hb7.mono HBY.out.size))
              clear hb7 HHY HBY hmk
              go_wp2_with fail
              refine (has_sure p _ _ _ HHZ.out HSZ.out).mono ?_
              rintro e w8 ⟨rfl, hb8⟩
              have B8 := Lib.hid (HBZ.out.trans (hb8.mono HBZ.out.size))
              rw [HRES.out]
              clear hb8 HHZ HSZ HBZ
              have HKEEP : Hid ((w8.alloc (.cells #[.string G] 9)).ownsRow w.heap.size 9 1 u9 2 (((outs F G).take 2).map Value.string)) := HOWN.out.kept (row := none) (Sec.grown_of_below (B8.out.alloc B8.out.size _) _) (by cases u9.ownBlock <;> simp)
              have hs8 := B8.out.size
              have hs9 := HWB.out.size
              go_wp2_with (at_builtin; refine wpList_append_own_at _ rfl _ _ 43 rfl w.heap.size 9 si _ 1 16 Try.underlying43 SI.out SI1.out SI2.out SI3.out rfl (by omega) _ _ _ rfl HKEEP.out ⟨w8.heap.size, 0, none⟩ 1 1 [.string G] rfl rfl (fun j u hu => World.news_of_block (heap_alloc_new w8 (.cells #[.string G] 9)) j u (by simpa using hu)) (by simp [Value.oneCell']) (by unfold maxLen; omega) (by omega) (by simp; omega) ?_)
              intro v2 w9 hown2 hgrow2 _ _
              have HO2 := Lib.hid hown2
              have B9 : Hid (Below w.heap.size w w9) := (HWB.out.trans ((B8.out.alloc B8.out.size (.cells #[.string G] 9)).mono hs9)).grown hgrow2 (by simp; omega) (fun k hk => (HKEEP.out.lt k hk).1)
              clear hown2 hgrow2
              go_wp2_with fail
              go_roundw
              case rel => exact ⟨2 + 1, by omega, by go_num, HO2.out, B9.out⟩
              case measure => simp [intOf]


    · obtain rfl : way = 3 := by omega
      obtain ⟨g, cap, rfl, hg0, hg1⟩ := HOWN.out.form (by omega)
      have k0 : wo.drew.cell? ⟨g, 0, none⟩ = some (.string F) := HOWN.out.cells (g := g) rfl 0 (.string F) rfl
      have k1 : wo.drew.cell? ⟨g, 1, none⟩ = some (.string F) := by
        have h := HOWN.out.cells (g := g) rfl 1 (.string F) rfl
        rw [Addr.add_mid] at h
        exact h
      have hs9 := HWB.out.size
      go_wp2_with fail
      go_region_held3 (fun w' => w'.cell? ⟨g, 0, none⟩ = some (.string F) ∧ w'.cell? ⟨g, 1, none⟩ = some (.string F))
        ((first | exact ⟨k0, k1⟩ | exact ⟨(HB9.out.cell (p := ⟨g, 0, none⟩) hg1).trans k0, (HB9.out.cell (p := ⟨g, 1, none⟩) hg1).trans k1⟩))
        (first | (go_at_call 7; refine (alive5_any _).mono ?_; rintro e w9 ⟨rfl, hb9⟩; have HB9 := Lib.hid hb9; clear hb9))
      go_wp2_with fail
      go_ret
      exact ⟨rfl, (HWB.out.trans ((Below.refl _ _).drew.trans (HB9.out.mono hs9)))⟩

set_option maxHeartbeats 2000000 in
set_option maxRecDepth 100000 in
theorem walk_big (n : Int) (w : World) (l : List StepV) (A : Option Addr) (c : Nat) (la : LiesS w w.heap.size A l) (nl : l.length ≤ maxLen)
    (more : List StepV) (Am : Option Addr) (cm : Nat) (lm : LiesS w w.heap.size Am more) (nm : more.length ≤ maxLen) (nr : Nat) (Ar : Option Addr) (cr : Nat) (hbig : Big l more nr = true) :
    Calls Try.prog 5 #[.int .u8 n, .slice A l.length c, .slice Am more.length cm, .slice Ar nr cr] w fun e w' => e = .returned (.bool true) ∧ Below w.heap.size w w' := by
  have LA := Lib.hid la
  have LM := Lib.hid lm
  have HBIG := Lib.hid hbig
  clear la lm hbig
  cases h1 : heavyB l with
  | true =>
    have H1 := Lib.hid h1
    clear h1
    go_enter Try.func5, Try.ntmps5
    go_wp2_with fail
    refine (heavy_any l A c _ _ LA.out nl).mono ?_
    rintro e w' ⟨rfl, rfl⟩
    rw [H1.out]
    go_wp2_with fail
    refine (alive5_any _).mono ?_
    rintro e w1 ⟨rfl, hb1⟩
    go_wp2_with fail
    go_ret
    exact ⟨rfl, hb1⟩
  | false =>
    cases h2 : heavyB more with
    | true =>
      have H1 := Lib.hid h1
      have H2 := Lib.hid h2
      clear h1 h2
      go_enter Try.func5, Try.ntmps5
      go_wp2_with fail
      refine (heavy_any l A c _ _ LA.out nl).mono ?_
      rintro e w' ⟨rfl, rfl⟩
      rw [H1.out]
      go_wp2_with fail
      refine (heavy_any more Am cm _ _ LM.out nm).mono ?_
      rintro e w' ⟨rfl, rfl⟩
      rw [H2.out]
      go_wp2_with fail
      refine (alive5_any _).mono ?_
      rintro e w1 ⟨rfl, hb1⟩
      go_wp2_with fail
      go_ret
      exact ⟨rfl, hb1⟩
    | false =>
      have d1 : decide ((300 : Int) < (nr : Int)) = true := by
        have h3 := HBIG.out
        unfold Big at h3
        rw [h1, h2] at h3
        simp at h3
        simp; omega
      have H1 := Lib.hid h1
      have H2 := Lib.hid h2
      clear h1 h2
      go_enter Try.func5, Try.ntmps5
      go_wp2_with fail
      refine (heavy_any l A c _ _ LA.out nl).mono ?_
      rintro e w' ⟨rfl, rfl⟩
      rw [H1.out]
      go_wp2_with fail
      refine (heavy_any more Am cm _ _ LM.out nm).mono ?_
      rintro e w' ⟨rfl, rfl⟩
      rw [H2.out]
      go_wp2_with fail
      refine (alive5_any _).mono ?_
      rintro e w1 ⟨rfl, hb1⟩
      go_wp2_with fail
      go_ret
      exact ⟨rfl, hb1⟩

theorem walk (w : World) (n : Int) (n0 : 0 ≤ n) (n1 : n ≤ 255) (l : List StepV) (A : Option Addr) (c : Nat) (la : LiesS w w.heap.size A l) (nl : l.length ≤ maxLen) (_ : ∀ a ∈ l, a.Ok w)
    (more : List StepV) (Am : Option Addr) (cm : Nat) (lm : LiesS w w.heap.size Am more) (nm : more.length ≤ maxLen) (_ : ∀ a ∈ more, a.Ok w)
    (rest : List Int) (Ar : Option Addr) (cr : Nat) (lr : Lies w w.heap.size Ar (icells rest)) (_ : rest.length ≤ maxLen) (_ : ∀ x ∈ rest, -9223372036854775808 ≤ x ∧ x ≤ 9223372036854775807) :
    Calls Try.prog 5 #[.int .u8 n, .slice A l.length c, .slice Am more.length cm, .slice Ar rest.length cr] w fun e w' => e = .returned (.bool true) ∧ Below w.heap.size w w' := by
  cases hb : Big l more rest.length with
  | true => exact walk_big n w l A c la nl more Am cm lm nm _ Ar cr hb
  | false => exact walk_main n n0 n1 w l A c la more Am cm lm rest Ar cr lr hb

/-! ### From the walk to the statement -/
theorem own : ownKnob Try.prog.godebug = none := by kernel_rfl

set_option maxRecDepth 20000 in
theorem contract (H : Type) (enc : TypeId × Value → H) (W : World) (base : Nat) (args : Array Value) (ds gs : List (DataW H)) (before : List MemPlace)
    (hval : ∀ (j : Nat) t v, Try.f5.params[j]? = some t → args[j]? = some v → Value.okWide Try.prog W .any base t v)
    (hW : DataW.Whole enc Try.prog Try.f5.params.toList Rows.sectorWholeSpec.vars false W args.toList ds gs before) :
    Calls Try.prog 5 args W fun e W' => ∃ v, e = .returned v ∧ Rows.sectorWholeSpec.post enc Try.prog Try.f5 false true false false W args v W' := by
  have hW' := hW
  obtain ⟨p, q, hA0, hV, rfl, hfz, hnd⟩ := hW
  have hA : DataW.TrodAll enc Try.prog W 0 (fun _ => true) true Try.f5.params.toList args.toList ds p := hA0
  rw [Try.params5] at hA hval
  obtain ⟨v0, vs0, d0, ds0, p0, q0, hargs, rfl, rfl, h0, r0⟩ := trodAll_cons hA
  obtain ⟨v1, vs1, d1, ds1, p1, q1, rfl, rfl, rfl, h1, r1⟩ := trodAll_cons r0
  obtain ⟨v2, vs2, d2, ds2, p2, q2, rfl, rfl, rfl, h2, r2⟩ := trodAll_cons r1
  obtain ⟨v3, vs3, d3, ds3, p3, q3, rfl, rfl, rfl, h3, r3⟩ := trodAll_cons r2
  obtain ⟨rfl, rfl, rfl⟩ := trodAll_nil r3
  obtain rfl : args = #[v0, v1, v2, v3] := by cases args; simp_all
  obtain ⟨rfl, rfl⟩ := trodVars_none hV
  obtain ⟨a0, rfl, rfl, rfl, w0⟩ := open_int Try.underlying5 (hval 0 5 v0 rfl rfl) h0
  have b0 : 0 ≤ a0 ∧ a0 ≤ 255 := by simpa [Lit.wf, IntKind.min, IntKind.max, IntKind.signed, IntKind.bits] using w0
  have k1 := h1
  obtain ⟨fuel1, hf1⟩ := h1
  obtain ⟨xs1, A1, c1, hcs1, hn1, hl1, hb1⟩ := trod_steps hf1
  obtain rfl := slice_of Try.underlying22 (hval 1 22 v1 rfl rfl) hcs1
  have k2 := h2
  obtain ⟨fuel2, hf2⟩ := h2
  obtain ⟨xs2, A2, c2, hcs2, hn2, hl2, hb2⟩ := trod_steps hf2
  obtain rfl := slice_of Try.underlying22 (hval 2 22 v2 rfl rfl) hcs2
  have k3 := h3
  obtain ⟨fuel3, hf3⟩ := h3
  obtain ⟨xs3, A3, c3, hcs3, hn3, hl3, hb3⟩ := trod_i64s Try.underlying23 Try.underlying3 (by kernel_rfl) hf3
  obtain rfl := slice_of Try.underlying23 (hval 3 23 v3 rfl rfl) hcs3
  clear hA0
  simp only [List.append_nil] at hW'
  refine (walk W a0 b0.1 b0.2 xs1 A1 c1 hl1 hn1 hb1 xs2 A2 c2 hl2 hn2 hb2 xs3 A3 c3 hl3 hn3 hb3).mono fun e W' ⟨he, bel⟩ => ?_
  subst he
  exact ⟨_, rfl, _, _, _, [], _, [], hW', trodAll_mk1 (shut_bool Try.underlying4 _), (trodAll_cons_mk (shut_int Try.underlying5 w0) (trodAll_cons_mk (Below.trod laidOut (by kernel_rfl) (of_decide_eq_true (by kernel_rfl)) k1 bel (fun x hx => DataW.trod_lt _ _ _ _ hf1 x hx)) (trodAll_cons_mk (Below.trod laidOut (by kernel_rfl) (of_decide_eq_true (by kernel_rfl)) k2 bel (fun x hx => DataW.trod_lt _ _ _ _ hf2 x hx)) (trodAll_cons_mk (Below.trod laidOut (by kernel_rfl) (of_decide_eq_true (by kernel_rfl)) k3 bel (fun x hx => DataW.trod_lt _ _ _ _ hf3 x hx)) trodAll_mk0)))), rfl, bel.frame _, fun h => by cases h⟩

set_option maxRecDepth 100000 in
theorem lifted (os : Os) (started : os.Started) (H : Type) (enc : TypeId × Value → H) :
    ReturnsInHanded {} Try.checked os 5 .any (Rows.sectorWholeSpec.pre6 enc Try.prog Try.f5 Rows.sectorWholeRow.domain false) (Rows.sectorWholeSpec.post enc Try.prog Try.f5 false true false false) := by
  refine returnsInHanded_of_change (C := Try.checked) own started (by kernel_rfl) Try.func5
    (ChangeSpec.witness6 (enc := enc) (C := Try.checked) false ⟨#[], #[.int .u8 0, .slice none 0 0, .slice none 0 0, .slice none 0 0], []⟩ 8 (by kernel_rfl) (by kernel_rfl) (by kernel_rfl) (by kernel_rfl)) ?_
  intro W base args ds gs before hval hW _ _
  exact contract H enc W base args ds gs before hval hW

theorem over : Rows.sectorWholeRow.holds Try.pinned (OpenSpec.ofChange Rows.sectorWholeSpec) :=
  OpenClaim.holds_of_wide 5 Try.f5 rfl rfl rfl rfl rfl rfl rfl ⟨rfl, rfl, rfl, rfl, rfl⟩ rfl rfl rfl rfl rfl (by kernel_rfl) Try.func5 (by kernel_rfl)
    (of_decide_eq_true (by kernel_rfl)) (by unfold Func.isWrapper; first | (rw [if_pos (by decide +kernel)]; kernel_rfl) | (rw [if_neg (by decide +kernel)]; exact ⟨rfl, rfl⟩))
    (fun os started H enc _ => lifted os started H enc)

/-- The statement. -/
theorem proved : Rows.SectorWholeSaid :=
  over

end Go.Proofs.Ytmoifihgomjbcaa.sectorWhole
