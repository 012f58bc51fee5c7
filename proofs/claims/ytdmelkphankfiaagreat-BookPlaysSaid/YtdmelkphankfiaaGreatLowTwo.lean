/-
  thresherlaw06's pair: both are opened.
  A call of each disk, alike (thresherlaw05's Do): Write, Fuse, Crash.
  A call of each disk, alike (thresherlaw05's Do): Fuse, Crash.
-/
import Derived.Test.YtdmelkphankfiaaGreatLowBkX
section
namespace Go.Proofs.YtdmelkphankfiaaGreat
open Go.RowKit
attribute [local go_sem ↓] Go.wp_at_zero Go.wp_at_succ

namespace Book
section
variable {base : Nat} {a n : Int} {D D' : Sec.Bl} {R : Sec.Rl} {P N : Nat} {bk : Option Bk} {s s' : Sec.St} {w w1 w2 : World}
/-- The pair's books turn. -/
theorem Two.rebook (h : Two base a n D R P bk N s w) (bk' : Option Bk) (hb : ∀ b, bk' = some b → Both base a n D R P b N w) :
    Two base a n D R P bk' N s ((w.setCell ⟨P, 2, none⟩ (bv bk')).setCell ⟨P, 3, none⟩ (xv bk')) ∧ Below base w ((w.setCell ⟨P, 2, none⟩ (bv bk')).setCell ⟨P, 3, none⟩ (xv bk')) := by
  have hg := Sec.grown_trans (Sec.grown_set w P 2 (bv bk')) (Sec.grown_set (w.setCell ⟨P, 2, none⟩ (bv bk')) P 3 (xv bk'))
  have hp : Pair P D.b R.b a n bk' ((w.setCell ⟨P, 2, none⟩ (bv bk')).setCell ⟨P, 3, none⟩ (xv bk')) := by
    unfold Pair
    rw [heap_setCell_same _ _ _ _ _ _ (heap_setCell_same _ _ _ _ _ _ h.pair)]
    rfl
  generalize (w.setCell ⟨P, 2, none⟩ (bv bk')).setCell ⟨P, 3, none⟩ (xv bk') = w1 at hg hp
  refine ⟨⟨Sec.at_grown h.hA h.dP hg, Sec.RAt.keep h.hR (fun j hj => hg.block j (Sec.RAt.lt h.hR hj) (fun e => ?_)), h.ok, h.seen, h.nn, h.apart, h.lowD, h.lowR, hp, h.lowP, h.dP, h.rP, fun b e => ?_⟩, ?_⟩
  · obtain rfl : j = P := Option.some.inj e
    exact hj h.rP
  · have k := hb b e
    exact ⟨k.pb.keep (hg.block _ k.pb.ltb (fun e => k.ne2 (Option.some.inj e))), (hg.block _ k.rb.ltb (fun e => k.ne3 (Option.some.inj e))).trans k.rb, k.dB, k.dX, k.rB, k.rX, k.loB, k.loX, k.ne1, k.ne2, k.ne3, k.len, k.fits⟩
  · have hb := h.base_le
    exact ⟨hg.os, hg.tape, hg.output, hg.size, fun i hi => hg.block i (by omega) (fun e => by have := Option.some.inj e; have := h.lowP; omega)⟩
/-- The number that stands for 'no book' in midR. -/
def Two.who (bk : Option Bk) (w : World) : Nat := match bk with | none => w.heap.size | some b => b.B
theorem Two.mid (h : Two base a n D R P bk N s w) (hm : Sec.Moves D D' w w1) : Sec.RHas R s w1 ∧ Pair P D.b R.b a n bk w1 ∧ ∀ b, bk = some b → RB b.X R.b a.toNat n.toNat b.S b.br w1 :=
  h.midR (Two.who bk w) (fun b e => by subst e; rfl) (fun e => by subst e; rfl) (.of_moves hm)
/-- What a pair's open leaves. -/
def Opened2 (base : Nat) (a n : Int) (D : Sec.Bl) (R : Sec.Rl) (P N : Nat) (s : Sec.St) (w : World) (e : Ending) (w' : World) : Prop :=
  e = .returned (.bool true) ∧ ∃ D' R' bk', Two base a n D' R' P bk' N s w' ∧ D'.b = D.b ∧ R'.b = R.b ∧ Below base w w'
theorem good_len (xs : List UInt8) (a n : Nat) : (good xs a n).length ≤ n * 127 := by
  unfold good
  rw [List.length_take]
  have h1 := stream_len (secsL xs a n)
  rw [secsL_len] at h1
  omega
end
theorem recs_len (l : List (UInt8 × List UInt8)) : (recs l).1.length ≤ l.length := by
  induction l with
  | nil => exact Nat.le_refl _
  | cons f l ih =>
    rw [recs]
    split
    · simp only [List.length_cons]; omega
    · exact Nat.zero_le _
/-- An Open's answer: its two values. -/
def PVal (D D' : Sec.Bl) (a n : Int) (N : Nat) (c : Int) (fl : List (List UInt8)) (gd : List UInt8) (w w' : World) (pv sv : Value) : Prop :=
  (c ≠ 0 ∧ pv = .pointer none ∧ sv = .slice none 0 0) ∨
  (c = 0 ∧ fits N a n = true ∧ ∃ (B : Nat) (A : Option Addr) (k : Nat), pv = .pointer (some ⟨B, 0, none⟩) ∧ sv = .slice A fl.length k ∧ w.heap.size ≤ B ∧ D'.off B ∧ PB B D.b a n gd false w' ∧ Lies w' w'.heap.size A (tcells (fl.map fun x => ⟨x.toArray⟩)) ∧ ∀ ad, A = some ad → w.heap.size ≤ ad.block)
def RVal (R R' : Sec.Rl) (a n : Int) (c : Int) (fl : List (List UInt8)) (gd : List UInt8) (w w' : World) (pv sv : Value) : Prop :=
  (c ≠ 0 ∧ pv = .pointer none ∧ sv = .slice none 0 0) ∨
  (c = 0 ∧ ∃ (B : Nat) (A : Option Addr) (k : Nat), pv = .pointer (some ⟨B, 0, none⟩) ∧ sv = .slice A fl.length k ∧ w.heap.size ≤ B ∧ R'.off B ∧ RB B R.b a.toNat n.toNat gd false w' ∧ Lies w' w'.heap.size A (tcells (fl.map fun x => ⟨x.toArray⟩)) ∧ ∀ ad, A = some ad → w.heap.size ≤ ad.block)
theorem POpen.val {D : Sec.Bl} {a n : Int} {s : Sec.St} {w w' : World} {e : Ending} (h : POpen D a n s w e w') :
    ∃ D' pv sv, e = .returned (.tuple #[pv, sv, .int .i64 (openP s a n).1]) ∧ Sec.At D' (openP s a n).2 w' ∧ Sec.Moves D D' w w' ∧ PVal D D' a n s.n (openP s a n).1 (found s.now a.toNat n.toNat) (good s.now a.toNat n.toNat) w w' pv sv := by
  obtain ⟨D', h1, h2, h3⟩ := h
  rcases h3 with ⟨k1, k2⟩ | ⟨k1, k2, B, A, c, k3, k4, k5, k6, k7, k8⟩
  · exact ⟨D', _, _, k2, h1, h2, .inl ⟨k1, rfl, rfl⟩⟩
  · rw [k1] at *
    exact ⟨D', _, _, k3, h1, h2, .inr ⟨rfl, k2, B, A, c, rfl, rfl, k4, k5, k6, k7, k8⟩⟩
theorem ROpen.val {R : Sec.Rl} {a n : Int} {s : Sec.St} {w w' : World} {e : Ending} (h : ROpen R a n s w e w') :
    ∃ v pv sv, e = .returned (.tuple #[pv, sv, .int .i64 (openP s a n).1]) ∧ Sec.RHas { R with v := v } (openP s a n).2 w' ∧ Sec.Mv R.off ({ R with v := v : Sec.Rl }).off w w' ∧ RVal R { R with v := v } a n (openP s a n).1 (found s.now a.toNat n.toNat) (good s.now a.toNat n.toNat) w w' pv sv := by
  obtain ⟨v, h1, h2, h3⟩ := h
  rcases h3 with ⟨k1, k2⟩ | ⟨k1, k2, B, A, c, k3, k4, k5, k6, k7, k8⟩
  · exact ⟨v, _, _, k2, h1, h2, .inl ⟨k1, rfl, rfl⟩⟩
  · rw [k1] at *
    exact ⟨v, _, _, k3, h1, h2, .inr ⟨rfl, B, A, c, rfl, rfl, k4, k5, k6, k7, k8⟩⟩
end Book

set_option maxHeartbeats 8000000 in
set_option maxRecDepth 20000 in
theorem two_open {base : Nat} {a n : Int} {D : Sec.Bl} {R : Sec.Rl} {P N : Nat} {bk : Option Book.Bk} {s : Sec.St} {w : World} (h : Book.Two base a n D R P bk N s w) (ha : a ≤ 9223372036854775807) (hlim : s.loose.length ≤ 900000000) :
    Calls Tryz.prog 8 #[.pointer (some ⟨P, 0, none⟩)] w (Book.Opened2 base a n D R P N (Book.openP s a n).2 w) := by
  obtain ⟨q1, q2, q3, q4⟩ := Book.openP_keep h.ok a n
  have H := Lib.hid h
  have HQ1 := Lib.hid q1
  have HQ2 := Lib.hid q2
  have HQ4 := Lib.hid (q4 h.seen)
  have c0 := h.pair.c0
  have c4 := h.pair.c4
  have c5 := h.pair.c5
  have hnn := h.nn
  obtain ⟨fl0, hfl0⟩ : ∃ fl0, fl0 = Book.found s.now a.toNat n.toNat := ⟨_, rfl⟩
  have HPO : Hid (∀ wx, Below w.heap.size w wx → Calls Tryz.prog 17 #[.pointer (some ⟨D.b, 0, none⟩), .int .i64 a, .int .i64 n] wx fun e w' => ∃ D' pv sv, e = .returned (.tuple #[pv, sv, .int .i64 (Book.openP s a n).1]) ∧ Sec.At D' (Book.openP s a n).2 w' ∧ Sec.Moves D D' wx w' ∧ Book.PVal D D' a n N (Book.openP s a n).1 (Book.found s.now a.toNat n.toNat) (Book.good s.now a.toNat n.toNat) wx w' pv sv) := fun wx hb => (popen_all D s wx (h.hA.below hb) h.ok a n ha hlim).mono fun e w' h => by
    rw [← hnn]
    exact h.val
  have HRO : Hid (∀ wx, Sec.RHas R s wx → Calls Tryz.prog 22 #[.pointer (some ⟨R.b, 0, none⟩), .int .i64 a, .int .i64 n] wx fun e w' => ∃ v pv sv, e = .returned (.tuple #[pv, sv, .int .i64 (Book.openP s a n).1]) ∧ Sec.RHas { R with v := v } (Book.openP s a n).2 w' ∧ Sec.Mv R.off ({ R with v := v : Sec.Rl }).off wx w' ∧ Book.RVal R { R with v := v } a n (Book.openP s a n).1 (Book.found s.now a.toNat n.toNat) (Book.good s.now a.toNat n.toNat) wx w' pv sv) := fun wx hR => (kopen_all R s wx hR h.ok h.seen a n hlim).mono fun e w' h => h.val
  have HS := Lib.hid (Book.good_len s.now a.toNat n.toNat)
  have hN := h.ok.n2
  have HFL : Hid (Book.fits N a n = true → fl0.length ≤ maxLen) := fun hf => by
    obtain ⟨a', n', e1, e2, h1, h2⟩ := Book.fits_nat (s := s) (by rw [hnn]; exact hf)
    rw [hfl0]
    unfold Book.found
    have k1 := Book.recs_len (Frame.sc (Book.stream (Book.secsL s.now a.toNat n.toNat)) 131072).1
    have k2 := Frame.sc_len (Book.stream (Book.secsL s.now a.toNat n.toNat)) 131072
    have k3 := Book.stream_len (Book.secsL s.now a.toNat n.toNat)
    rw [Book.secsL_len] at k3
    unfold maxLen
    omega
  generalize Book.openP s a n = q at HPO HRO HQ1 HQ2 HQ4
  obtain ⟨qc, qs⟩ := q
  rw [← hfl0] at HPO HRO
  clear hfl0
  generalize Book.good s.now a.toNat n.toNat = gd at HPO HRO HS
  clear h q1 q2 q3 q4
  go_enter Tryz.func8, Tryz.ntmps8
  go_wp2_with fail
  go_region_held3 (fun w' => w'.cell? ⟨P, 0, none⟩ = some (.pointer (some ⟨D.b, 0, none⟩)) ∧ w'.cell? ⟨P, 4, none⟩ = some (.int .i64 a) ∧ w'.cell? ⟨P, 5, none⟩ = some (.int .i64 n))
    (first | assumption | exact ⟨c0, c4, c5⟩ | exact ⟨HPR.c0, HPR.c4, HPR.c5⟩) (first
    | (go_at_call 17; refine (HPO.out _ (Below.refl _ _).drew).mono ?_; rintro e w1 ⟨D1, pv, sv, rfl, hA1, hM1, hv1⟩; have HM1 := Lib.hid ((Sec.Moves.of_below (D := D) (Below.refl w.heap.size w).drew).trans hM1); have HPR := (H.out.mid HM1.out).2.1))
  all_goals
    simp only [Exit.then]
    go_at_K
    have HA1 := Lib.hid hA1
    have HV1 := Lib.hid hv1
    have d1 := HPR.c1
    have d4 := HPR.c4
    have d5 := HPR.c5
    have HR1 := Lib.hid (H.out.mid HM1.out).1
    have HPR1 := Lib.hid HPR
    clear hA1 hM1 hv1 HPR c0 c4 c5 HPO
    go_wp2_with fail
    go_region_held3 (fun w' => w'.cell? ⟨P, 1, none⟩ = some (.pointer (some ⟨R.b, 0, none⟩)) ∧ w'.cell? ⟨P, 4, none⟩ = some (.int .i64 a) ∧ w'.cell? ⟨P, 5, none⟩ = some (.int .i64 n))
      (first | assumption | exact ⟨d1, d4, d5⟩ | exact ⟨HPR2.c1, HPR2.c4, HPR2.c5⟩) (first
      | (go_at_call 22; refine (HRO.out w1.drew (Sec.RAt.below HR1.out (Below.refl _ _).drew)).mono ?_; rintro e w2 ⟨v2, pv2, sv2, rfl, hR2, hM2, hv2⟩; have HM2 := Lib.hid ((Sec.Mv.of_below (off := R.off) (Below.refl w1.heap.size w1).drew).trans hM2); have HTW := Lib.hid (H.out.disks HM1.out HA1.out v2 hR2 HM2.out HQ1.out HQ4.out HQ2.out); have HPR2 := HTW.out.1.pair; have HPR3 : Book.Pair P D.b R.b a n bk w2 := by rw [← HM1.out.b]; exact HPR2))
    all_goals
      simp only [Exit.then]
      go_at_K
      have HTWO := Lib.hid HTW
      have HPR4 := Lib.hid HPR3
      have e2 := HPR3.c2
      have e3 := HPR3.c3
      have f2 := HPR3.fro 2
      have f3 := HPR3.fro 3
      have HRV := Lib.hid hv2
      have hb1 : w.heap.size ≤ w1.heap.size := HM1.out.size
      have hb2 : w1.heap.size ≤ w2.heap.size := HM2.out.size
      clear hR2 hM2 hv2 HTW HPR2 HPR3 d1 d4 d5
      by_cases hq : qc = 0
      · subst hq
        obtain ⟨_, hf, B, A1, k1, rfl, rfl, m1, m2, m3, m4, m5⟩ : (0 : Int) = 0 ∧ _ := (HV1.out.resolve_left (fun h => h.1 rfl))
        obtain ⟨_, X, A2, k2, rfl, rfl, n1, n2, n3, n4, n5⟩ : (0 : Int) = 0 ∧ _ := (HRV.out.resolve_left (fun h => h.1 rfl))
        have hn1 : w1.heap.size ≤ X := n1
        have hm1 : w.heap.size ≤ B := m1
        have hbase := H.out.base_le
        have hPlt := H.out.pair.ltb
        have hoRB : R.off B := Book.off_new H.out.hR hm1
        have HBOTH : Hid (Book.Both base a n D1 { R with v := v2 } P ⟨B, X, gd, false⟩ N w2) := by
          refine ⟨?_, n3, m2, Sec.off_fresh HA1.out hn1, HM2.out.keep B m3.ltb hoRB, n2, by show base ≤ B; omega, by show base ≤ X; omega, ?_, by show B ≠ P; omega, by show X ≠ P; omega, HS.out, hf⟩
          · show Book.PB B D1.b a n gd false w2
            rw [HM1.out.b]
            exact m3.keep (HM2.out.block B m3.ltb hoRB)
          · show B ≠ X
            have := m3.ltb
            omega
        obtain ⟨z1, z2⟩ := HTWO.out.1.rebook (some ⟨B, X, gd, false⟩) (fun b e => by obtain rfl := Option.some.inj e; exact HBOTH.out)
        have hg := Sec.grown_trans (Sec.grown_set w2 P 2 (.pointer (some ⟨B, 0, none⟩))) (Sec.grown_set (w2.setCell ⟨P, 2, none⟩ (.pointer (some ⟨B, 0, none⟩))) P 3 (.pointer (some ⟨X, 0, none⟩)))
        have HZ : Hid (Book.Two base a n D1 { R with v := v2 } P (some ⟨B, X, gd, false⟩) N qs ((w2.setCell ⟨P, 2, none⟩ (.pointer (some ⟨B, 0, none⟩))).setCell ⟨P, 3, none⟩ (.pointer (some ⟨X, 0, none⟩))) ∧ Below base w ((w2.setCell ⟨P, 2, none⟩ (.pointer (some ⟨B, 0, none⟩))).setCell ⟨P, 3, none⟩ (.pointer (some ⟨X, 0, none⟩)))) := ⟨z1, HTWO.out.2.trans z2⟩
        have hfl := HFL.out hf
        have HLI1 : Hid (Lies ((w2.setCell ⟨P, 2, none⟩ (.pointer (some ⟨B, 0, none⟩))).setCell ⟨P, 3, none⟩ (.pointer (some ⟨X, 0, none⟩))) ((w2.setCell ⟨P, 2, none⟩ (.pointer (some ⟨B, 0, none⟩))).setCell ⟨P, 3, none⟩ (.pointer (some ⟨X, 0, none⟩))).heap.size A1 (tcells (fl0.map fun x => ⟨x.toArray⟩))) := fun hp => by
          obtain ⟨ad, e, hlt, hc⟩ := m4 hp
          have hge : w.heap.size ≤ ad.block := m5 ad e
          refine ⟨ad, e, Nat.lt_of_lt_of_le hlt (Nat.le_trans hb2 hg.size), fun j u hu => ?_⟩
          rw [World.cell?_of_block (hg.block _ (by rw [Lies.add_block]; omega) (fun e => by have := Option.some.inj e; rw [Lies.add_block] at this; omega)), World.cell?_of_block (HM2.out.block _ (by rw [Lies.add_block]; exact hlt) (Book.off_new H.out.hR (by rw [Lies.add_block]; exact hge)))]
          exact hc j u hu
        have HLI2 : Hid (Lies ((w2.setCell ⟨P, 2, none⟩ (.pointer (some ⟨B, 0, none⟩))).setCell ⟨P, 3, none⟩ (.pointer (some ⟨X, 0, none⟩))) ((w2.setCell ⟨P, 2, none⟩ (.pointer (some ⟨B, 0, none⟩))).setCell ⟨P, 3, none⟩ (.pointer (some ⟨X, 0, none⟩))).heap.size A2 (tcells (fl0.map fun x => ⟨x.toArray⟩))) := fun hp => by
          obtain ⟨ad, e, hlt, hc⟩ := n4 hp
          have hge : w1.heap.size ≤ ad.block := n5 ad e
          refine ⟨ad, e, Nat.lt_of_lt_of_le hlt hg.size, fun j u hu => ?_⟩
          rw [World.cell?_of_block (hg.block _ (by rw [Lies.add_block]; exact hlt) (fun e => by have := Option.some.inj e; rw [Lies.add_block] at this; omega))]
          exact hc j u hu
        have HTX : Hid (Calls Tryz.prog 21 #[.slice A1 fl0.length k1, .slice A2 fl0.length k2] ((w2.setCell ⟨P, 2, none⟩ (.pointer (some ⟨B, 0, none⟩))).setCell ⟨P, 3, none⟩ (.pointer (some ⟨X, 0, none⟩))) fun e w' => e = .returned (.bool true) ∧ Below ((w2.setCell ⟨P, 2, none⟩ (.pointer (some ⟨B, 0, none⟩))).setCell ⟨P, 3, none⟩ (.pointer (some ⟨X, 0, none⟩))).heap.size ((w2.setCell ⟨P, 2, none⟩ (.pointer (some ⟨B, 0, none⟩))).setCell ⟨P, 3, none⟩ (.pointer (some ⟨X, 0, none⟩))) w') := by
          have key := ktexts (fl0.map fun x => ⟨x.toArray⟩) (fl0.map fun x => ⟨x.toArray⟩) A1 A2 k1 k2 _ HLI1.out HLI2.out (by rw [List.length_map]; exact hfl) (by rw [List.length_map]; exact hfl)
          have e : decide ((fl0.map fun x => (⟨x.toArray⟩ : ByteArray)) = fl0.map fun x => ⟨x.toArray⟩) = true := by simp
          rw [e, List.length_map] at key
          exact key
        have HDB := Lib.hid HM1.out.b
        clear z1 z2 hg m1 m2 m3 m4 m5 n1 n2 n3 n4 n5 HLI1 HLI2 HBOTH
        go_wp2_with fail
        refine HTX.out.mono ?_
        rintro e w4 ⟨rfl, hb4⟩
        go_wp2_with fail
        go_ret
        exact ⟨rfl, D1, { R with v := v2 }, _, HZ.out.1.below hb4, HDB.out, rfl, HZ.out.2.trans (hb4.mono HZ.out.1.base_le)⟩
      · obtain ⟨_, rfl, rfl⟩ := HV1.out.resolve_right (fun h => hq h.1)
        obtain ⟨_, rfl, rfl⟩ := HRV.out.resolve_right (fun h => hq h.1)
        obtain ⟨z1, z2⟩ := HTWO.out.1.rebook none (fun b e => by cases e)
        have HZ : Hid (Book.Two base a n D1 { R with v := v2 } P none N qs ((w2.setCell ⟨P, 2, none⟩ (.pointer none)).setCell ⟨P, 3, none⟩ (.pointer none)) ∧ Below base w ((w2.setCell ⟨P, 2, none⟩ (.pointer none)).setCell ⟨P, 3, none⟩ (.pointer none))) := ⟨z1, HTWO.out.2.trans z2⟩
        have HTX : Hid (Calls Tryz.prog 21 #[.slice none 0 0, .slice none 0 0] ((w2.setCell ⟨P, 2, none⟩ (.pointer none)).setCell ⟨P, 3, none⟩ (.pointer none)) fun e w' => e = .returned (.bool true) ∧ Below ((w2.setCell ⟨P, 2, none⟩ (.pointer none)).setCell ⟨P, 3, none⟩ (.pointer none)).heap.size ((w2.setCell ⟨P, 2, none⟩ (.pointer none)).setCell ⟨P, 3, none⟩ (.pointer none)) w') := by
          exact ktexts [] [] none none 0 0 _ Lies.nil Lies.nil (Nat.zero_le _) (Nat.zero_le _)
        have HDB := Lib.hid HM1.out.b
        clear z1 z2
        go_wp2_with fail
        refine HTX.out.mono ?_
        rintro e w4 ⟨rfl, hb4⟩
        go_wp2_with fail
        go_ret
        exact ⟨rfl, D1, { R with v := v2 }, _, HZ.out.1.below hb4, HDB.out, rfl, HZ.out.2.trans (hb4.mono HZ.out.1.base_le)⟩
end Go.Proofs.YtdmelkphankfiaaGreat
end

section
namespace Go.Proofs.YtdmelkphankfiaaGreat
open Go.RowKit
attribute [local go_sem ↓] Go.wp_at_zero Go.wp_at_succ

namespace Book
/-- A Write of whatever number, whatever text. -/
def wrP (s : Sec.St) (k : Int) (t : ByteArray) : Int × Sec.St := if 0 ≤ k ∧ k < (s.n : Int) ∧ t.size ≤ 128 then wput s k.toNat (Sec.pad t.data.toList) else (s.wc k t, s)
theorem wrP_keep {s : Sec.St} (h : s.Ok) (k : Int) (t : ByteArray) : (wrP s k t).2.Ok ∧ (wrP s k t).2.n = s.n ∧ (wrP s k t).2.loose.length ≤ s.loose.length + 1 ∧ (s.Seen → (wrP s k t).2.Seen) := by
  unfold wrP
  split
  · rename_i hc
    have hp : (Sec.pad t.data.toList).length = 128 := Sec.pad_len (by simpa using hc.2.2)
    exact ⟨wput_ok h (by omega) hp, wput_n _ _ _, wput_len _ _ _, fun hs => wput_seen h hs (by omega) hp⟩
  · exact ⟨h, rfl, Nat.le_succ _, fun h => h⟩
end Book

theorem dwrite_all (D : Sec.Bl) (s : Sec.St) (w : World) (h : Sec.At D s w) (hs : s.Ok) (k : Int) (t : ByteArray) (hlim : s.loose.length ≤ 1000000000) :
    Calls Tryz.prog 51 #[.pointer (some ⟨D.b, 0, none⟩), .int .i64 k, .string t] w fun e w' => e = .returned (.int .i64 (Book.wrP s k t).1) ∧ Sec.Behind D (Book.wrP s k t).2 w w' := by
  unfold Book.wrP
  by_cases hc : 0 ≤ k ∧ k < (s.n : Int) ∧ t.size ≤ 128
  · rw [if_pos hc]
    obtain ⟨j, rfl⟩ := Int.eq_ofNat_of_zero_le hc.1
    unfold Book.wput
    cases hd : s.still with
    | true =>
      rw [if_pos rfl]
      exact (sec_write_down D s w h hs j t (by omega) hc.2.2 hd).mono fun e w' ⟨a, b⟩ => ⟨a, by subst b; exact ⟨D, h, .refl _ _⟩⟩
    | false =>
      rw [if_neg (by simp)]
      exact sec_write_ok D s w h hs j t (by omega) hc.2.2 hd hlim
  · rw [if_neg hc]
    unfold Sec.St.wc
    by_cases hk : 0 ≤ k ∧ k < (s.n : Int)
    · obtain ⟨j, rfl⟩ := Int.eq_ofNat_of_zero_le hk.1
      have ht : 128 < t.size := by
        rcases Nat.lt_or_ge 128 t.size with h | h
        · exact h
        · exact absurd ⟨hk.1, hk.2, h⟩ hc
      rw [if_pos hk, if_neg (by omega)]
      exact (sec_write_long D s w h hs j t (by omega) ht).mono fun e w' ⟨a, b⟩ => ⟨a, by subst b; exact ⟨D, h, .refl _ _⟩⟩
    · rw [if_neg hk]
      exact (sec_write_range D s w h hs k t (by omega)).mono fun e w' ⟨a, b⟩ => ⟨a, by subst b; exact ⟨D, h, .refl _ _⟩⟩
theorem rwrite_all (R : Sec.Rl) (s : Sec.St) (w : World) (h : Sec.RHas R s w) (hs : s.Ok) (k : Int) (t : ByteArray) (hlim : s.loose.length ≤ 1000000000) :
    Calls Tryz.prog 52 #[.pointer (some ⟨R.b, 0, none⟩), .int .i64 k, .string t] w fun e w' => e = .returned (.int .i64 (Book.wrP s k t).1) ∧ ∃ v, Sec.RHas { R with v := v } (Book.wrP s k t).2 w' ∧ Sec.Mv R.off ({ R with v := v : Sec.Rl }).off w w' := by
  unfold Book.wrP
  by_cases hc : 0 ≤ k ∧ k < (s.n : Int) ∧ t.size ≤ 128
  · rw [if_pos hc]
    obtain ⟨j, rfl⟩ := Int.eq_ofNat_of_zero_le hc.1
    unfold Book.wput
    cases hd : s.still with
    | true =>
      rw [if_pos rfl]
      exact (rwrite_down R s w h hs hd j (by omega) t hc.2.2).mono fun e w' ⟨a, b⟩ => ⟨a, by subst b; exact ⟨R.v, h, .refl _ _⟩⟩
    | false =>
      rw [if_neg (by simp)]
      exact rwrite R s w h hs hd j (by omega) t hc.2.2 hlim
  · rw [if_neg hc]
    exact (rwrite_no R s w h hs k t hc).mono fun e w' ⟨a, b⟩ => ⟨a, by subst b; exact ⟨R.v, h, .refl _ _⟩⟩

set_option maxHeartbeats 1000000 in
set_option maxRecDepth 20000 in
theorem sec_fuse_no (D : Sec.Bl) (s : Sec.St) (w : World) (h : Sec.At D s w) (hs : s.Ok) (n : Int) (hn : n < 0) :
    Calls Tryz.prog 55 #[.pointer (some ⟨D.b, 0, none⟩), .int .i64 n] w fun e w' => e = .returned (.int .i64 2) ∧ w = w' := by
  have H := Lib.hid (sec_is D s w h hs)
  have e : D.ptr = .pointer (some ⟨D.b, 0, none⟩) := rfl
  rw [e] at H
  have d : decide (n < 0) = true := by simpa using hn
  clear h hs e
  go_enter Tryz.func55, Tryz.ntmps55
  go_wp2_with fail
  refine H.out.mono ?_
  rintro e w' ⟨rfl, rfl⟩
  go_wp2_with fail
  go_ret
  exact ⟨rfl, rfl⟩

set_option maxHeartbeats 4000000 in
set_option maxRecDepth 20000 in
theorem two_write {base : Nat} {a n : Int} {D : Sec.Bl} {R : Sec.Rl} {P N : Nat} {bk : Option Book.Bk} {s : Sec.St} {w : World} (h : Book.Two base a n D R P bk N s w) (hlim : s.loose.length ≤ 900000000) (k : Int) (t : ByteArray) (A : Option Addr) (m c : Nat) :
    Calls Tryz.prog 24 #[.pointer (some ⟨D.b, 0, none⟩), .pointer (some ⟨R.b, 0, none⟩), .agg #[.int .u8 0, .int .i64 k, .string t, .slice A m c]] w (Book.Opened2 base a n D R P N (Book.wrP s k t).2 w) := by
  obtain ⟨q1, q2, q3, q4⟩ := Book.wrP_keep h.ok k t
  have H := Lib.hid h
  have HQ1 := Lib.hid q1
  have HQ2 := Lib.hid q2
  have HQ4 := Lib.hid (q4 h.seen)
  have HPW : Hid (∀ wx, Below w.heap.size w wx → Calls Tryz.prog 51 #[.pointer (some ⟨D.b, 0, none⟩), .int .i64 k, .string t] wx fun e w' => e = .returned (.int .i64 (Book.wrP s k t).1) ∧ Sec.Behind D (Book.wrP s k t).2 wx w') := fun wx hb => dwrite_all D s wx (h.hA.below hb) h.ok k t (by omega)
  have HRW : Hid (∀ wx, Sec.RHas R s wx → Calls Tryz.prog 52 #[.pointer (some ⟨R.b, 0, none⟩), .int .i64 k, .string t] wx fun e w' => e = .returned (.int .i64 (Book.wrP s k t).1) ∧ ∃ v, Sec.RHas { R with v := v } (Book.wrP s k t).2 w' ∧ Sec.Mv R.off ({ R with v := v : Sec.Rl }).off wx w') := fun wx hR => rwrite_all R s wx hR h.ok k t (by omega)
  generalize Book.wrP s k t = q at HPW HRW HQ1 HQ2 HQ4
  obtain ⟨qc, qs⟩ := q
  obtain ⟨w0, hw0⟩ : ∃ w0, w0 = w.alloc (.cells #[.int .u8 0, .int .i64 k, .string t, .slice A m c] 70) := ⟨_, rfl⟩
  have hb0 : Below w.heap.size w w0 := by rw [hw0]; exact (Below.refl _ _).alloc (Nat.le_refl _) _
  have hx0 : w0.heap[w.heap.size]? = some (.cells #[.int .u8 0, .int .i64 k, .string t, .slice A m c] 70 (0, 0)) := by rw [hw0]; exact heap_alloc_new w _
  have HB0 := Lib.hid hb0
  have HX0 := Lib.hid hx0
  have HOX : Hid (D.off w.heap.size ∧ R.off w.heap.size) := ⟨Sec.off_fresh h.hA (Nat.le_refl _), Book.off_new h.hR (Nat.le_refl _)⟩
  clear h q1 q2 q3 q4 hb0
  go_enter Tryz.func24, Tryz.ntmps24
  go_wp2_with fail
  rw [← hw0]
  clear hw0
  have d1 : w0.cell? ⟨w.heap.size, 1, none⟩ = some (.int .i64 k) := cell_of_row w0 _ 1 _ _ _ hx0
  have d2 : w0.cell? ⟨w.heap.size, 2, none⟩ = some (.string t) := cell_of_row w0 _ 2 _ _ _ hx0
  clear hx0
  go_region_held3 (fun w' => w'.cell? ⟨w.heap.size, 1, none⟩ = some (.int .i64 k) ∧ w'.cell? ⟨w.heap.size, 2, none⟩ = some (.string t))
    (first | assumption | exact ⟨d1, d2⟩ | exact ⟨cell_of_row w1 _ 1 _ _ _ HX1.out, cell_of_row w1 _ 2 _ _ _ HX1.out⟩ | exact ⟨cell_of_row w2 _ 1 _ _ _ HX2.out, cell_of_row w2 _ 2 _ _ _ HX2.out⟩) (first
    | (go_at_call 51; refine (HPW.out w0.drew HB0.out.drew).mono ?_; rintro e w1 ⟨rfl, D1, hA1, hM1⟩; have HA1 := Lib.hid hA1; have HM1 := Lib.hid ((Sec.Moves.of_below (D := D) HB0.out.drew).trans hM1); have HX1 : Hid (w1.heap[w.heap.size]? = _) := (hM1.block _ (Sec.lt_of_heap HX0.out) HOX.out.1).trans HX0.out; have HR1 := Lib.hid (H.out.mid HM1.out).1; clear hA1 hM1)
    | (go_at_call 52; refine (HRW.out w1 HR1.out).mono ?_; rintro e w2 ⟨rfl, v2, hR2, hM2⟩; have HTW := Lib.hid (H.out.disks HM1.out HA1.out v2 hR2 hM2 HQ1.out HQ4.out HQ2.out); have HX2 : Hid (w2.heap[w.heap.size]? = _) := (hM2.block _ (Sec.lt_of_heap HX1.out) HOX.out.2).trans HX1.out; clear hR2 hM2))
  all_goals
    simp only [Exit.then]
    go_at_K
    have HDB := Lib.hid HM1.out.b
    clear HX1 HX2 HA1 HR1 HX0 d1 d2
    go_wp2_with fail
    go_ret
    exact ⟨by simp, D1, { R with v := v2 }, bk, HTW.out.1, HDB.out, rfl, HTW.out.2⟩
end Go.Proofs.YtdmelkphankfiaaGreat
end

section
namespace Go.Proofs.YtdmelkphankfiaaGreat
open Go.RowKit
attribute [local go_sem ↓] Go.wp_at_zero Go.wp_at_succ

namespace Book
section
variable {base : Nat} {a n : Int} {D D' : Sec.Bl} {R : Sec.Rl} {P N : Nat} {bk : Option Bk} {s s' : Sec.St} {w w1 w2 : World}
theorem Two.offD (h : Two base a n D R P bk N s w) {i : Nat} (hi : ¬ D.off i) : R.off i := by
  by_cases hr : R.off i
  · exact hr
  · exact absurd (h.apart i hr) hi
/-- Behind a call of the document's alone: the program's disk stands as it stood. -/
theorem Two.midD (h : Two base a n D R P bk N s w) {off' : Nat → Prop} (hr : Sec.Mv R.off off' w w1) : Sec.At D s w1 :=
  h.hA.keep fun i hi => hr.block i (h.hA.lt hi) (h.offD hi)
/-- A call of the document's disk, then one of the program's. -/
theorem Two.turned (h : Two base a n D R P bk N s w) (v : Value) (hr : Sec.Mv R.off ({ R with v := v : Sec.Rl }).off w w1) (hR : Sec.RHas { R with v := v } s' w1)
    (hm : Sec.Moves D D' w1 w2) (hA : Sec.At D' s' w2) (hok : s'.Ok) (hseen : s'.Seen) (hn : s'.n = s.n) :
    Two base a n D' { R with v := v } P bk N s' w2 ∧ Below base w w2 := by
  have hsz := hr.size
  have hA1 := h.midD hr
  have hap : ∀ i, ¬ ({ R with v := v : Sec.Rl }).off i → D.off i := fun i hi => by
    rcases Nat.lt_or_ge i w.heap.size with hlt | hge
    · by_cases hi1 : R.off i
      · exact absurd (hr.keep i hlt hi1) hi
      · exact h.apart i hi1
    · exact Sec.off_fresh h.hA hge
  have hb := h.base_le
  have hb1 : Below base w w1 := ⟨hr.os, hr.tape, hr.output, hr.size, fun i hi => hr.block i (by omega) (h.lowR i hi)⟩
  refine ⟨⟨hA, Sec.RAt.keep hR (fun i hi => hm.block i (Sec.RAt.lt hR hi) (hap i hi)), hok, hseen, hn.trans h.nn, fun i hi => hm.off (Sec.RAt.lt hR hi) (hap i hi), by rw [hm.lo]; exact h.lowD, fun i hi => hr.keep i (by omega) (h.lowR i hi), ?_, h.lowP,
    hm.off (Nat.lt_of_lt_of_le h.pair.ltb hsz) h.dP, hr.keep P h.pair.ltb h.rP, fun b e => ?_⟩, hb1.trans ((hm.below hA1).mono h.lowD)⟩
  · rw [hm.b]
    exact (hm.block P (Nat.lt_of_lt_of_le h.pair.ltb hsz) h.dP).trans ((hr.block P h.pair.ltb h.rP).trans h.pair)
  · have k := h.book b e
    refine ⟨?_, (hm.block _ (Nat.lt_of_lt_of_le k.rb.ltb hsz) k.dX).trans ((hr.block _ k.rb.ltb k.rX).trans k.rb), hm.off (Nat.lt_of_lt_of_le k.pb.ltb hsz) k.dB, hm.off (Nat.lt_of_lt_of_le k.rb.ltb hsz) k.dX, hr.keep _ k.pb.ltb k.rB, hr.keep _ k.rb.ltb k.rX, k.loB, k.loX, k.ne1, k.ne2, k.ne3, k.len, k.fits⟩
    rw [hm.b]
    exact k.pb.keep ((hm.block _ (Nat.lt_of_lt_of_le k.pb.ltb hsz) k.dB).trans (hr.block _ k.pb.ltb k.rB))
/-- A Fuse of whatever number. -/
def fuP (s : Sec.St) (k : Int) : Sec.St := if k < 0 then s else { s with lit := true, left := k.toNat }
end
end Book

set_option maxHeartbeats 4000000 in
set_option maxRecDepth 20000 in
theorem two_fuse {base : Nat} {a n : Int} {D : Sec.Bl} {R : Sec.Rl} {P N : Nat} {bk : Option Book.Bk} {s : Sec.St} {w : World} (h : Book.Two base a n D R P bk N s w) (k : Int) (hk : k ≤ 9223372036854775807) (t : ByteArray) (A : Option Addr) (m c : Nat) :
    Calls Tryz.prog 24 #[.pointer (some ⟨D.b, 0, none⟩), .pointer (some ⟨R.b, 0, none⟩), .agg #[.int .u8 3, .int .i64 k, .string t, .slice A m c]] w (Book.Opened2 base a n D R P N (Book.fuP s k) w) := by
  have H := Lib.hid h
  obtain ⟨w0, hw0⟩ : ∃ w0, w0 = w.alloc (.cells #[.int .u8 3, .int .i64 k, .string t, .slice A m c] 70) := ⟨_, rfl⟩
  have hb0 : Below w.heap.size w w0 := by rw [hw0]; exact (Below.refl _ _).alloc (Nat.le_refl _) _
  have hx0 : w0.heap[w.heap.size]? = some (.cells #[.int .u8 3, .int .i64 k, .string t, .slice A m c] 70 (0, 0)) := by rw [hw0]; exact heap_alloc_new w _
  have d1 : w0.cell? ⟨w.heap.size, 1, none⟩ = some (.int .i64 k) := cell_of_row w0 _ 1 _ _ _ hx0
  have HB0 := Lib.hid hb0
  have HX0 := Lib.hid hx0
  have H0 := Lib.hid (h.below hb0)
  by_cases hn : k < 0
  · have d : decide (k < 0) = true := by simpa using hn
    have HS : Hid (Book.fuP s k = s) := by show _ = _; unfold Book.fuP; rw [if_pos hn]
    have HF := Lib.hid (sec_fuse_no D s w0 H0.out.hA H0.out.ok k hn)
    rw [hw0] at d1
    clear h hb0 hx0 hn
    go_enter Tryz.func24, Tryz.ntmps24
    go_wp2_with fail
    rw [← hw0]
    clear hw0 d1
    refine HF.out.mono ?_
    rintro e w1 ⟨rfl, rfl⟩
    go_wp2_with fail
    go_ret
    rw [HS.out]
    exact ⟨rfl, D, R, bk, H0.out, rfl, rfl, HB0.out.mono H.out.base_le⟩
  · obtain ⟨j, rfl⟩ := Int.eq_ofNat_of_zero_le (Int.not_lt.1 hn)
    have d : decide ((j : Int) < 0) = false := by simp
    have HS : Hid (Book.fuP s (j : Int) = { s with lit := true, left := j }) := by show _ = _; unfold Book.fuP; rw [if_neg hn]; rfl
    obtain ⟨r1, r2⟩ := Sec.RAt.set (h.below hb0).hR (j : Int)
    have hRJ : Sec.RHas { R with v := R.v } { s with lit := true, left := j } (w0.setCell ⟨R.b, 2, none⟩ (.int .i64 (j : Int))) := r1
    have hA1 := (h.below hb0).midD r2
    have HRJ := Lib.hid hRJ
    have HRM := Lib.hid r2
    have HA1 := Lib.hid hA1
    have HF : Hid (Calls Tryz.prog 55 #[.pointer (some ⟨D.b, 0, none⟩), .int .i64 (j : Int)] (w0.setCell ⟨R.b, 2, none⟩ (.int .i64 (j : Int))) fun e w' => e = .returned (.int .i64 0) ∧ Sec.At D { s with lit := true, left := j } w' ∧ Sec.Moves D D (w0.setCell ⟨R.b, 2, none⟩ (.int .i64 (j : Int))) w') := sec_fuse D s _ hA1 h.ok j
    have c2 : w0.cell? ⟨R.b, 2, none⟩ = some (.int .i64 s.fz) := Sec.RAt.c2 (h.below hb0).hR
    have f2 : w0.frozen? ⟨R.b, 2, none⟩ = false := Sec.RAt.fro (h.below hb0).hR 2
    have hne : w.heap.size ≠ R.b := by have := Sec.RAt.ltb h.hR; omega
    have e1 : (w0.setCell ⟨R.b, 2, none⟩ (.int .i64 (j : Int))).cell? ⟨w.heap.size, 1, none⟩ = some (.int .i64 (j : Int)) :=
      cell_of_row _ _ 1 _ _ _ ((heap_setCell_other _ _ _ _ hne).trans hx0)
    rw [hw0] at d1 c2 f2 e1
    clear h hb0 hx0 hn r1 r2 hRJ hA1 hne
    go_enter Tryz.func24, Tryz.ntmps24
    go_wp2_with fail
    rw [← hw0]
    clear hw0 d1 c2 f2 e1
    refine HF.out.mono ?_
    rintro e w1 ⟨rfl, hA, hM⟩
    have HA := Lib.hid hA
    have HM := Lib.hid hM
    have HOK : Hid (({ s with lit := true, left := j } : Sec.St).Ok) := H.out.ok.fuse true (by omega)
    clear hA hM
    go_wp2_with fail
    go_ret
    rw [HS.out]
    obtain ⟨z1, z2⟩ := H0.out.turned R.v HRM.out HRJ.out HM.out HA.out HOK.out (H.out.seen.fuse true j) rfl
    exact ⟨rfl, D, R, bk, z1, rfl, rfl, (HB0.out.mono H.out.base_le).trans z2⟩

set_option maxHeartbeats 4000000 in
set_option maxRecDepth 20000 in
theorem two_crash {base : Nat} {a n : Int} {D : Sec.Bl} {R : Sec.Rl} {P N : Nat} {bk : Option Book.Bk} {s : Sec.St} {w : World} (h : Book.Two base a n D R P bk N s w) (hlim : s.loose.length ≤ 900000000) (k : Int) (t : ByteArray) (A : Option Addr) (c : Nat) (ps : List Int) (hps : ps.length ≤ maxLen) (hli : Lies w base A (icells ps)) :
    Calls Tryz.prog 24 #[.pointer (some ⟨D.b, 0, none⟩), .pointer (some ⟨R.b, 0, none⟩), .agg #[.int .u8 4, .int .i64 k, .string t, .slice A ps.length c]] w (Book.Opened2 base a n D R P N (s.crash ps) w) := by
  have H := Lib.hid h
  obtain ⟨w0, hw0⟩ : ∃ w0, w0 = w.alloc (.cells #[.int .u8 4, .int .i64 k, .string t, .slice A ps.length c] 70) := ⟨_, rfl⟩
  have hb0 : Below w.heap.size w w0 := by rw [hw0]; exact (Below.refl _ _).alloc (Nat.le_refl _) _
  have hx0 : w0.heap[w.heap.size]? = some (.cells #[.int .u8 4, .int .i64 k, .string t, .slice A ps.length c] 70 (0, 0)) := by rw [hw0]; exact heap_alloc_new w _
  have d3 : w0.cell? ⟨w.heap.size, 3, none⟩ = some (.slice A ps.length c) := cell_of_row w0 _ 3 _ _ _ hx0
  have HB0 := Lib.hid hb0
  have HX0 := Lib.hid hx0
  have H0 := Lib.hid (h.below hb0)
  have hbase := h.base_le
  have HLI : Hid (Lies w0 base A (icells ps)) := Lies.below hli (hb0.mono hbase)
  have HRC : Hid (Calls Tryz.prog 56 #[.pointer (some ⟨R.b, 0, none⟩), .slice A ps.length c] w0 fun e w' => e = .returned (.tuple #[]) ∧ ∃ v, Sec.RHas { R with v := v } (s.crash ps) w' ∧ Sec.Mv R.off ({ R with v := v : Sec.Rl }).off w0 w') :=
    rcrash R s w0 H0.out.hR h.ok A c ps (by omega) hps (fun w' hm hp => by
      obtain ⟨ad, e, hlt, hc⟩ := HLI.out (by simpa [icells] using hp)
      refine ⟨ad, e, fun j p hj => ?_⟩
      have hsz := hb0.size
      rw [World.cell?_of_block (hm.block _ (by rw [Lies.add_block]; omega) (h.lowR _ (by rw [Lies.add_block]; exact hlt)))]
      refine hc j _ ?_
      unfold icells
      rw [List.getElem?_map, hj]
      rfl)
  have HOX : Hid (R.off w.heap.size) := Book.off_new h.hR (Nat.le_refl _)
  rw [hw0] at d3
  clear h hb0 hx0 hli
  go_enter Tryz.func24, Tryz.ntmps24
  go_wp2_with fail
  rw [← hw0]
  clear hw0 d3
  refine HRC.out.mono ?_
  rintro e w1 ⟨rfl, v, hR1, hM1⟩
  have HR1 := Lib.hid hR1
  have HM1 := Lib.hid hM1
  have HA1 := Lib.hid (H0.out.midD hM1)
  have hx1 : w1.heap[w.heap.size]? = some (.cells #[.int .u8 4, .int .i64 k, .string t, .slice A ps.length c] 70 (0, 0)) := (hM1.block _ (Sec.lt_of_heap HX0.out) HOX.out).trans HX0.out
  have d3 : w1.cell? ⟨w.heap.size, 3, none⟩ = some (.slice A ps.length c) := cell_of_row w1 _ 3 _ _ _ hx1
  have HDC : Hid (Calls Tryz.prog 20 #[.pointer (some ⟨D.b, 0, none⟩), .slice A ps.length c] w1 (Sec.Done 0 D (s.crash ps) w1)) :=
    sec_crash D s w1 HA1.out H.out.ok A c ps (fun hp => by
      obtain ⟨ad, e, hlt, hc⟩ := HLI.out (by simpa [icells] using hp)
      have h1 := HB0.out.size
      have h2 := hM1.size
      refine ⟨ad, e, by omega, HA1.out.low (by have := H.out.lowD; omega), fun j p hj => ?_⟩
      rw [World.cell?_of_block (hM1.block _ (by rw [Lies.add_block]; omega) (H.out.lowR _ (by rw [Lies.add_block]; exact hlt)))]
      refine hc j _ ?_
      unfold icells
      rw [List.getElem?_map, hj]
      rfl) hps (by omega)
  have HSEEN : Hid ((s.crash ps).Seen) := Sec.St.Seen.settle H.out.ok _
  have HOK := Lib.hid (Sec.St.crash_ok H.out.ok ps)
  clear hR1 hM1 hx1
  go_wp2_with fail
  refine HDC.out.mono ?_
  rintro e w2 ⟨rfl, D2, hA2, hM2⟩
  have HZ := Lib.hid (H0.out.turned v HM1.out HR1.out hM2 hA2 HOK.out HSEEN.out rfl)
  have HDB := Lib.hid hM2.b
  clear hA2 hM2 d3
  go_wp2_with fail
  go_ret
  exact ⟨rfl, D2, { R with v := v }, bk, HZ.out.1, HDB.out, rfl, (HB0.out.mono hbase).trans HZ.out.2⟩
end Go.Proofs.YtdmelkphankfiaaGreat
end
