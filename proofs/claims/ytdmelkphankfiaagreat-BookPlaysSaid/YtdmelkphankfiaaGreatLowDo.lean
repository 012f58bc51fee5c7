/-
  thresherlaw06's pair: a call of both (do): Sync, a crash, a fuse, Open.
  thresherlaw06's pair: a call of both (do): a crash, a fuse, Open, a write of the disks.
  thresherlaw06's pair: a call of both (do): a fuse, a write of the disks, Clear, Append.
  thresherlaw06's pair: a call of both (do): Append.
  thresherlaw06's pair: a call of both (do), whichever; and what a pair's parts answer behind it.
-/
import Derived.Test.YtdmelkphankfiaaGreatLowTwo
import Derived.Test.YtdmelkphankfiaaGreatL06S
import Derived.BigQuiet
import Derived.Deep.RegionWith
section
namespace Go.Proofs.YtdmelkphankfiaaGreat
open Go.RowKit
attribute [local go_sem ↓] Go.wp_at_zero Go.wp_at_succ

namespace Book
def syP (br : Bool) (s : Sec.St) : Int × Bool × Sec.St := if br = true then (3, true, s) else ((wsync s).1, (wsync s).1 != 0, (wsync s).2)
theorem syP_keep {s : Sec.St} (h : s.Ok) (br : Bool) : (syP br s).2.2.Ok ∧ (syP br s).2.2.n = s.n ∧ (syP br s).2.2.loose.length ≤ s.loose.length ∧ (s.Seen → (syP br s).2.2.Seen) := by
  unfold syP
  split
  · exact ⟨h, rfl, Nat.le_refl _, fun h => h⟩
  · exact ⟨wsync_ok h, wsync_n s, wsync_len s, fun hs => wsync_seen h hs⟩
theorem app_keep {s : Sec.St} (h : s.Ok) {a n : Nat} {S : List UInt8} {br : Bool} {xs : List ByteArray} (han : a + n ≤ s.n) (hS : S.length ≤ n * 127) : (app a n S br s xs).2.2.2.Ok ∧ (app a n S br s xs).2.2.2.n = s.n ∧ (app a n S br s xs).2.2.2.loose.length ≤ s.loose.length + n ∧ (s.Seen → (app a n S br s xs).2.2.2.Seen) ∧ (app a n S br s xs).2.1.length ≤ n * 127 := by
  unfold app
  split
  · exact ⟨h, rfl, Nat.le_add_right _ _, fun h => h, hS⟩
  · split
    · exact ⟨h, rfl, Nat.le_add_right _ _, fun h => h, hS⟩
    · split
      · exact ⟨h, rfl, Nat.le_add_right _ _, fun h => h, hS⟩
      · rename_i hf
        obtain ⟨k1, k2, k3, k4⟩ := puts_ok (todo a n S (S ++ frb xs)) s h (fun x hx => by
          have := todo_mem x hx
          exact ⟨by omega, this.2⟩)
        have := todo_len (a := a) (n := n) (S := S) (T := S ++ frb xs)
        exact ⟨k1, k2, by simp only []; omega, k4, by simp only [List.length_append]; omega⟩
/-- What a call of a pair leaves. -/
def Done2 (base : Nat) (a n : Int) (D : Sec.Bl) (R : Sec.Rl) (P N : Nat) (s : Sec.St) (w : World) (e : Ending) (w' : World) : Prop :=
  ∃ s', Opened2 base a n D R P N s' w e w' ∧ s'.loose.length ≤ s.loose.length + 9000
end Book

theorem ksync_all (R : Sec.Rl) (s : Sec.St) {X a n : Nat} {S : List UInt8} {br : Bool} {w : World} (h : Book.RB X R.b a n S br w) (ho : R.off X) (hR : Sec.RHas R s w) (hs : s.Ok) (hlim : s.loose.length ≤ 1000000000) :
    Calls Tryz.prog 23 #[.pointer (some ⟨X, 0, none⟩)] w (Book.RAfter R X a n (Book.syP br s).1 S (Book.syP br s).2.1 (Book.syP br s).2.2 w) := by
  unfold Book.syP
  cases br with
  | true =>
    rw [if_pos rfl]
    exact (ksync_broken h).mono fun e w' ⟨x, y⟩ => by subst y; exact ⟨x, h, R.v, hR, ho, .refl _ _⟩
  | false =>
    rw [if_neg (by simp)]
    unfold Book.wsync
    cases hd : s.still with
    | true =>
      rw [if_pos rfl]
      exact (ksync_down R s h ho hR hd).mono fun e w' ⟨x, y, z, u⟩ => ⟨x, y, R.v, z, ho, u⟩
    | false =>
      rw [if_neg (by simp)]
      exact (ksync R s h ho hR hs hd hlim).mono fun e w' ⟨x, y, v, z1, z2, z3⟩ => ⟨x, y, v, z1, z2, z3⟩

/-- A step's block, as do reads it. -/
def Book.SBox (Q act : Nat) (T : Option Addr) (tn tc : Nat) (k : Int) (A : Option Addr) (pn c : Nat) (w : World) : Prop :=
  w.heap[Q]? = some (.cells #[.int .u8 (act : Int), .slice T tn tc, .int .i64 k, .slice A pn c] 41 (0, 0))

set_option maxHeartbeats 4000000 in
set_option maxRecDepth 20000 in
theorem do_sync {base : Nat} {a n : Int} {D : Sec.Bl} {R : Sec.Rl} {P N : Nat} {bk : Option Book.Bk} {s : Sec.St} {w : World} (h : Book.Two base a n D R P bk N s w) (hlim : s.loose.length ≤ 900000000) (act : Nat) (hact : Int.tmod (act : Int) 9 = 3) (T : Option Addr) (tn tc : Nat) (k : Int) (A : Option Addr) (pn c : Nat) :
    Calls Tryz.prog 9 #[.pointer (some ⟨P, 0, none⟩), .agg #[.int .u8 (act : Int), .slice T tn tc, .int .i64 k, .slice A pn c]] w (Book.Done2 base a n D R P N s w) := by
  obtain ⟨w0, hw0⟩ : ∃ w0, w0 = w.alloc (.cells #[.int .u8 (act : Int), .slice T tn tc, .int .i64 k, .slice A pn c] 41) := ⟨_, rfl⟩
  have hb0 : Below w.heap.size w w0 := by rw [hw0]; exact (Below.refl _ _).alloc (Nat.le_refl _) _
  have H0 := Lib.hid (h.below hb0)
  have HB0 := Lib.hid (hb0.mono h.base_le)
  have hx0 : w0.heap[w.heap.size]? = some (.cells #[.int .u8 (act : Int), .slice T tn tc, .int .i64 k, .slice A pn c] 41 (0, 0)) := by rw [hw0]; exact heap_alloc_new w _
  have x0 : w0.cell? ⟨w.heap.size, 0, none⟩ = some (.int .u8 (act : Int)) := cell_of_row w0 _ 0 _ _ _ hx0
  have c2 := H0.out.pair.c2
  have c3 := H0.out.pair.c3
  clear h hb0 hx0
  cases bk with
  | none =>
    have c2 : w0.cell? ⟨P, 2, none⟩ = some (.pointer none) := c2
    have c3 : w0.cell? ⟨P, 3, none⟩ = some (.pointer none) := c3
    rw [hw0] at x0 c2 c3
    go_enter Tryz.func9, Tryz.ntmps9
    go_wp2_with fail
    rw [← hw0]
    clear hw0 x0 c2 c3
    refine (psync_nil _).mono ?_
    rintro e w1 ⟨rfl, rfl⟩
    go_wp2_with fail
    go_ret
    exact ⟨s, ⟨rfl, D, R, none, H0.out, rfl, rfl, HB0.out⟩, Nat.le_add_right _ _⟩
  | some b =>
    have c2 : w0.cell? ⟨P, 2, none⟩ = some (.pointer (some ⟨b.B, 0, none⟩)) := c2
    have c3 : w0.cell? ⟨P, 3, none⟩ = some (.pointer (some ⟨b.X, 0, none⟩)) := c3
    have K := H0.out.book b rfl
    obtain ⟨q1, q2, q3, q4⟩ := Book.syP_keep H0.out.ok b.br
    have HQ1 := Lib.hid q1
    have HQ2 := Lib.hid q2
    have HQ3 := Lib.hid q3
    have HQ4 := Lib.hid (q4 H0.out.seen)
    have HPS : Hid (Calls Tryz.prog 19 #[.pointer (some ⟨b.B, 0, none⟩)] w0.drew (Book.After D b.B a n (Book.syP b.br s).1 b.S (Book.syP b.br s).2.1 (Book.syP b.br s).2.2 w0.drew)) :=
      psync D s w0.drew H0.out.hA.drew H0.out.ok b.B a n b.S b.br K.pb K.dB (by omega) _ rfl
    have HRS : Hid (∀ w1, Sec.RHas R s w1 → Book.RB b.X R.b a.toNat n.toNat b.S b.br w1 → Calls Tryz.prog 23 #[.pointer (some ⟨b.X, 0, none⟩)] w1 (Book.RAfter R b.X a.toNat n.toNat (Book.syP b.br s).1 b.S (Book.syP b.br s).2.1 (Book.syP b.br s).2.2 w1)) := fun w1 h1 h2 =>
      ksync_all R s h2 K.rX h1 H0.out.ok (by omega)
    have HLN := Lib.hid K.len
    generalize Book.syP b.br s = q at HPS HRS HQ1 HQ2 HQ3 HQ4
    obtain ⟨qc, qb, qs⟩ := q
    clear q1 q2 q3 q4 K
    have x0' := x0
    rw [hw0] at x0'
    have c3' := c3
    rw [hw0] at c3'
    go_enter Tryz.func9, Tryz.ntmps9
    go_wp2_with fail
    rw [← hw0]
    clear hw0 x0 x0' c3'
    go_region_held3 (fun w' => w'.cell? ⟨P, 2, none⟩ = some (.pointer (some ⟨b.B, 0, none⟩)) ∧ w'.cell? ⟨P, 3, none⟩ = some (.pointer (some ⟨b.X, 0, none⟩)))
      (first | assumption | exact ⟨c2, c3⟩ | exact ⟨HPR1.c2, HPR1.c3⟩ | exact ⟨HZ.out.1.pair.c2, HZ.out.1.pair.c3⟩) (first
      | (go_at_call 19; refine HPS.out.mono ?_; rintro e w1 ⟨rfl, D1, hA1, hpb1, ho1, hM1⟩; have HA1 := Lib.hid hA1; have HPB1 := Lib.hid hpb1; have HO1 := Lib.hid ho1; have HM1 := Lib.hid ((Book.Mvb.of_below (Below.refl w0.heap.size w0).drew).trans hM1); obtain ⟨mr1, HPR1, mr3⟩ := H0.out.midR b.B (fun b' e => by obtain rfl := Option.some.inj e; rfl) (fun e => by cases e) HM1.out; have HR1 := Lib.hid mr1; have HRB1 := Lib.hid (mr3 b rfl); clear hA1 hpb1 ho1 hM1 mr1 mr3)
      | (go_at_call 23; refine (HRS.out w1 HR1.out HRB1.out).mono ?_; rintro e w2 ⟨rfl, hrb2, v2, hR2, ho2, hM2⟩; have HZ := Lib.hid (H0.out.step HM1.out HA1.out HPB1.out HO1.out v2 hR2 hrb2 ho2 hM2 HQ1.out HQ4.out HQ2.out HLN.out); clear hrb2 hR2 ho2 hM2))
    all_goals
      simp only [Exit.then]
      go_at_K
      have HDB := Lib.hid HM1.out.b
      clear HPR1 HA1 HPB1 HO1 HR1 HRB1 c2 c3
      go_wp2_with fail
      go_ret
      exact ⟨qs, ⟨by simp, D1, { R with v := v2 }, _, HZ.out.1, HDB.out, rfl, HB0.out.trans HZ.out.2⟩, Nat.le_trans HQ3.out (Nat.le_add_right _ _)⟩
end Go.Proofs.YtdmelkphankfiaaGreat
end

section
namespace Go.Proofs.YtdmelkphankfiaaGreat
open Go.RowKit
attribute [local go_sem ↓] Go.wp_at_zero Go.wp_at_succ

set_option maxHeartbeats 4000000 in
set_option maxRecDepth 20000 in
theorem do_open {base : Nat} {a n : Int} {D : Sec.Bl} {R : Sec.Rl} {P N : Nat} {bk : Option Book.Bk} {s : Sec.St} {w : World} (h : Book.Two base a n D R P bk N s w) (ha : a ≤ 9223372036854775807) (hlim : s.loose.length ≤ 900000000) (act : Nat) (hact : Int.tmod (act : Int) 9 = 6) (T : Option Addr) (tn tc : Nat) (k : Int) (A : Option Addr) (pn c : Nat) :
    Calls Tryz.prog 9 #[.pointer (some ⟨P, 0, none⟩), .agg #[.int .u8 (act : Int), .slice T tn tc, .int .i64 k, .slice A pn c]] w (Book.Done2 base a n D R P N s w) := by
  obtain ⟨w0, hw0⟩ : ∃ w0, w0 = w.alloc (.cells #[.int .u8 (act : Int), .slice T tn tc, .int .i64 k, .slice A pn c] 41) := ⟨_, rfl⟩
  have hb0 : Below w.heap.size w w0 := by rw [hw0]; exact (Below.refl _ _).alloc (Nat.le_refl _) _
  have H0 := Lib.hid (h.below hb0)
  have HB0 := Lib.hid (hb0.mono h.base_le)
  have hx0 : w0.heap[w.heap.size]? = some (.cells #[.int .u8 (act : Int), .slice T tn tc, .int .i64 k, .slice A pn c] 41 (0, 0)) := by rw [hw0]; exact heap_alloc_new w _
  have x0 : w0.cell? ⟨w.heap.size, 0, none⟩ = some (.int .u8 (act : Int)) := cell_of_row w0 _ 0 _ _ _ hx0
  have HOP := Lib.hid (two_open H0.out ha hlim)
  obtain ⟨q1, q2, q3, q4⟩ := Book.openP_keep h.ok a n
  have HLO : Hid ((Book.openP s a n).2.loose.length ≤ s.loose.length + 9000) := by
    have := h.ok.n2
    show _ ≤ _
    omega
  rw [hw0] at x0
  clear h hb0 hx0 q1 q2 q3 q4
  go_enter Tryz.func9, Tryz.ntmps9
  go_wp2_with fail
  rw [← hw0]
  clear hw0 x0
  refine HOP.out.mono ?_
  rintro e w1 ⟨rfl, D1, R1, bk1, hT, hd, hr, hb⟩
  have HZ : Hid (Book.Opened2 base a n D R P N (Book.openP s a n).2 w (.returned (.bool true)) w1) := ⟨rfl, D1, R1, bk1, hT, hd, hr, HB0.out.trans hb⟩
  clear hT hd hr hb
  go_wp2_with fail
  go_ret
  exact ⟨_, HZ.out, HLO.out⟩

set_option maxHeartbeats 4000000 in
set_option maxRecDepth 20000 in
theorem do_crash {base : Nat} {a n : Int} {D : Sec.Bl} {R : Sec.Rl} {P N : Nat} {bk : Option Book.Bk} {s : Sec.St} {w : World} (h : Book.Two base a n D R P bk N s w) (hlim : s.loose.length ≤ 900000000) (act : Nat) (hact : Int.tmod (act : Int) 9 = 4) (T : Option Addr) (tn tc : Nat) (k : Int) (A : Option Addr) (c : Nat) (ps : List Int) (hps : ps.length ≤ maxLen) (hli : Lies w base A (icells ps)) :
    Calls Tryz.prog 9 #[.pointer (some ⟨P, 0, none⟩), .agg #[.int .u8 (act : Int), .slice T tn tc, .int .i64 k, .slice A ps.length c]] w (Book.Done2 base a n D R P N s w) := by
  obtain ⟨w0, hw0⟩ : ∃ w0, w0 = w.alloc (.cells #[.int .u8 (act : Int), .slice T tn tc, .int .i64 k, .slice A ps.length c] 41) := ⟨_, rfl⟩
  have hb0 : Below w.heap.size w w0 := by rw [hw0]; exact (Below.refl _ _).alloc (Nat.le_refl _) _
  have H0 := Lib.hid (h.below hb0)
  have HB0 := Lib.hid (hb0.mono h.base_le)
  have hx0 : w0.heap[w.heap.size]? = some (.cells #[.int .u8 (act : Int), .slice T tn tc, .int .i64 k, .slice A ps.length c] 41 (0, 0)) := by rw [hw0]; exact heap_alloc_new w _
  have x0 : w0.cell? ⟨w.heap.size, 0, none⟩ = some (.int .u8 (act : Int)) := cell_of_row w0 _ 0 _ _ _ hx0
  have x3 : w0.cell? ⟨w.heap.size, 3, none⟩ = some (.slice A ps.length c) := cell_of_row w0 _ 3 _ _ _ hx0
  have c0 := H0.out.pair.c0
  have c1 := H0.out.pair.c1
  have HCR : Hid (∀ wx, Below w0.heap.size w0 wx → Calls Tryz.prog 24 #[.pointer (some ⟨D.b, 0, none⟩), .pointer (some ⟨R.b, 0, none⟩), .agg #[.int .u8 4, .int .i64 0, .string ⟨#[]⟩, .slice A ps.length c]] wx (Book.Opened2 base a n D R P N (s.crash ps) wx)) := fun wx hb =>
    two_crash (H0.out.below hb) hlim 0 ⟨#[]⟩ A c ps hps (Lies.below (Lies.below hli HB0.out) (hb.mono H0.out.base_le))
  have hx0' := x0
  rw [hw0] at hx0'
  clear h hb0 hx0 hli
  go_enter Tryz.func9, Tryz.ntmps9
  go_wp2_with fail
  rw [← hw0]
  clear hw0 hx0' x0
  go_region_with ((go_at_call 24; refine (HCR.out w0.drew (Below.refl _ _).drew).mono ?_; rintro e w1 ⟨rfl, D1, R1, bk1, hT, hd, hr, hb⟩))
  all_goals
    have HZ : Hid (Book.Opened2 base a n D R P N (s.crash ps) w (.returned (.bool true)) w1) := ⟨rfl, D1, R1, bk1, hT, hd, hr, HB0.out.trans ((Below.refl _ _).drew.trans hb)⟩
    clear hT hd hr hb
    simp only [Exit.then]
    go_at_K
    go_wp2_with fail
    go_ret
    exact ⟨_, HZ.out, Nat.zero_le _⟩
end Go.Proofs.YtdmelkphankfiaaGreat
end

section
namespace Go.Proofs.YtdmelkphankfiaaGreat
open Go.RowKit
attribute [local go_sem ↓] Go.wp_at_zero Go.wp_at_succ

set_option maxHeartbeats 4000000 in
set_option maxRecDepth 20000 in
theorem do_fuse {base : Nat} {a n : Int} {D : Sec.Bl} {R : Sec.Rl} {P N : Nat} {bk : Option Book.Bk} {s : Sec.St} {w : World} (h : Book.Two base a n D R P bk N s w) (act : Nat) (hact : Int.tmod (act : Int) 9 = 5) (T : Option Addr) (tn tc : Nat) (k : Int) (hk : k ≤ 9223372036854775807) (A : Option Addr) (pn c : Nat) :
    Calls Tryz.prog 9 #[.pointer (some ⟨P, 0, none⟩), .agg #[.int .u8 (act : Int), .slice T tn tc, .int .i64 k, .slice A pn c]] w (Book.Done2 base a n D R P N s w) := by
  obtain ⟨w0, hw0⟩ : ∃ w0, w0 = w.alloc (.cells #[.int .u8 (act : Int), .slice T tn tc, .int .i64 k, .slice A pn c] 41) := ⟨_, rfl⟩
  have hb0 : Below w.heap.size w w0 := by rw [hw0]; exact (Below.refl _ _).alloc (Nat.le_refl _) _
  have H0 := Lib.hid (h.below hb0)
  have HB0 := Lib.hid (hb0.mono h.base_le)
  have hx0 : w0.heap[w.heap.size]? = some (.cells #[.int .u8 (act : Int), .slice T tn tc, .int .i64 k, .slice A pn c] 41 (0, 0)) := by rw [hw0]; exact heap_alloc_new w _
  have x0 : w0.cell? ⟨w.heap.size, 0, none⟩ = some (.int .u8 (act : Int)) := cell_of_row w0 _ 0 _ _ _ hx0
  have x2 : w0.cell? ⟨w.heap.size, 2, none⟩ = some (.int .i64 k) := cell_of_row w0 _ 2 _ _ _ hx0
  have c0 := H0.out.pair.c0
  have c1 := H0.out.pair.c1
  have HCR : Hid (∀ wx, Below w0.heap.size w0 wx → Calls Tryz.prog 24 #[.pointer (some ⟨D.b, 0, none⟩), .pointer (some ⟨R.b, 0, none⟩), .agg #[.int .u8 3, .int .i64 k, .string ⟨#[]⟩, .slice none 0 0]] wx (Book.Opened2 base a n D R P N (Book.fuP s k) wx)) := fun wx hb =>
    two_fuse (H0.out.below hb) k hk ⟨#[]⟩ none 0 0
  have HLO : Hid ((Book.fuP s k).loose.length ≤ s.loose.length + 9000) := by
    show _ ≤ _
    unfold Book.fuP
    split <;> exact Nat.le_add_right _ _
  have hx0' := x0
  rw [hw0] at hx0'
  clear h hb0 hx0
  go_enter Tryz.func9, Tryz.ntmps9
  go_wp2_with fail
  rw [← hw0]
  clear hw0 hx0' x0
  go_region_with ((go_at_call 24; refine (HCR.out w0.drew (Below.refl _ _).drew).mono ?_; rintro e w1 ⟨rfl, D1, R1, bk1, hT, hd, hr, hb⟩))
  all_goals
    have HZ : Hid (Book.Opened2 base a n D R P N (Book.fuP s k) w (.returned (.bool true)) w1) := ⟨rfl, D1, R1, bk1, hT, hd, hr, HB0.out.trans ((Below.refl _ _).drew.trans hb)⟩
    clear hT hd hr hb
    simp only [Exit.then]
    go_at_K
    go_wp2_with fail
    go_ret
    exact ⟨_, HZ.out, HLO.out⟩

set_option maxHeartbeats 8000000 in
set_option maxRecDepth 20000 in
theorem do_write {base : Nat} {a n : Int} {D : Sec.Bl} {R : Sec.Rl} {P N : Nat} {bk : Option Book.Bk} {s : Sec.St} {w : World} (h : Book.Two base a n D R P bk N s w) (hlim : s.loose.length ≤ 900000000) (act : Nat) (hact : Int.tmod (act : Int) 9 = 7) (T : Option Addr) (ts : List ByteArray) (htl : ts.length ≤ 20) (tc : Nat) (hli : Lies w base T (tcells ts)) (k : Int) (A : Option Addr) (pn c : Nat) :
    Calls Tryz.prog 9 #[.pointer (some ⟨P, 0, none⟩), .agg #[.int .u8 (act : Int), .slice T ts.length tc, .int .i64 k, .slice A pn c]] w (Book.Done2 base a n D R P N s w) := by
  obtain ⟨w0, hw0⟩ : ∃ w0, w0 = w.alloc (.cells #[.int .u8 (act : Int), .slice T ts.length tc, .int .i64 k, .slice A pn c] 41) := ⟨_, rfl⟩
  have hb0 : Below w.heap.size w w0 := by rw [hw0]; exact (Below.refl _ _).alloc (Nat.le_refl _) _
  have H0 := Lib.hid (h.below hb0)
  have HB0 := Lib.hid (hb0.mono h.base_le)
  have hx0 : w0.heap[w.heap.size]? = some (.cells #[.int .u8 (act : Int), .slice T ts.length tc, .int .i64 k, .slice A pn c] 41 (0, 0)) := by rw [hw0]; exact heap_alloc_new w _
  have x0 : w0.cell? ⟨w.heap.size, 0, none⟩ = some (.int .u8 (act : Int)) := cell_of_row w0 _ 0 _ _ _ hx0
  have x1 : w0.cell? ⟨w.heap.size, 1, none⟩ = some (.slice T ts.length tc) := cell_of_row w0 _ 1 _ _ _ hx0
  have x2 : w0.cell? ⟨w.heap.size, 2, none⟩ = some (.int .i64 k) := cell_of_row w0 _ 2 _ _ _ hx0
  have c0 := H0.out.pair.c0
  have c1 := H0.out.pair.c1
  have HCR : Hid (∀ (t : ByteArray) (wx : World), Below w0.heap.size w0 wx → Calls Tryz.prog 24 #[.pointer (some ⟨D.b, 0, none⟩), .pointer (some ⟨R.b, 0, none⟩), .agg #[.int .u8 0, .int .i64 k, .string t, .slice none 0 0]] wx (Book.Opened2 base a n D R P N (Book.wrP s k t).2 wx)) := fun t wx hb =>
    two_write (H0.out.below hb) hlim k t none 0 0
  have HLO : Hid (∀ t, (Book.wrP s k t).2.loose.length ≤ s.loose.length + 9000) := fun t => by
    have := (Book.wrP_keep H0.out.ok k t).2.2.1
    omega
  have HLI := Lib.hid (Lies.below hli HB0.out)
  have hx0' := x0
  rw [hw0] at hx0'
  have hx1' := x1
  rw [hw0] at hx1'
  clear h hb0 hx0 hli
  by_cases h0 : 0 < ts.length
  · have hd : decide ((0 : Int) < (ts.length : Int)) = true := by simp; omega
    have hd2 : decide (0 < ts.length) = true := by simpa using h0
    have hti : (0 : Int) < (ts.length : Int) := by omega
    obtain ⟨ad, hT, hbk, hcx⟩ := Lies.at_ HLI.out (tcells_at h0)
    subst hT
    generalize ts[0] = t at hcx
    replace hcx : w0.cell? ad = some (.string t) := hcx
    have hcx2 := hcx
    rw [hw0] at hcx2
    clear hbk h0
    go_enter Tryz.func9, Tryz.ntmps9
    go_wp2_with fail
    rw [← hw0]
    clear hw0 hx0' hx1' x0 x1 hcx hcx2 hd hd2
    go_region_with ((go_at_call 24; refine (HCR.out t w0.drew (Below.refl _ _).drew).mono ?_; rintro e w1 ⟨rfl, D1, R1, bk1, hT, hd, hr, hb⟩))
    all_goals
      have HZ : Hid (Book.Opened2 base a n D R P N (Book.wrP s k t).2 w (.returned (.bool true)) w1) := ⟨rfl, D1, R1, bk1, hT, hd, hr, HB0.out.trans ((Below.refl _ _).drew.trans hb)⟩
      clear hT hd hr hb
      simp only [Exit.then]
      go_at_K
      go_wp2_with fail
      go_ret
      exact ⟨_, HZ.out, HLO.out t⟩
  · have hd2 : decide (0 < ts.length) = false := by simpa using h0
    have hti : ¬ (0 : Int) < (ts.length : Int) := by omega
    clear h0
    go_enter Tryz.func9, Tryz.ntmps9
    go_wp2_with fail
    rw [← hw0]
    clear hw0 hx0' hx1' x0 x1 hd2
    go_region_with ((go_at_call 24; refine (HCR.out ⟨#[]⟩ w0.drew (Below.refl _ _).drew).mono ?_; rintro e w1 ⟨rfl, D1, R1, bk1, hT, hd, hr, hb⟩))
    all_goals
      have HZ : Hid (Book.Opened2 base a n D R P N (Book.wrP s k ⟨#[]⟩).2 w (.returned (.bool true)) w1) := ⟨rfl, D1, R1, bk1, hT, hd, hr, HB0.out.trans ((Below.refl _ _).drew.trans hb)⟩
      clear hT hd hr hb
      simp only [Exit.then]
      go_at_K
      go_wp2_with fail
      go_ret
      exact ⟨_, HZ.out, HLO.out _⟩

set_option maxHeartbeats 8000000 in
set_option maxRecDepth 20000 in
theorem do_clear {base : Nat} {a n : Int} {D : Sec.Bl} {R : Sec.Rl} {P N : Nat} {bk : Option Book.Bk} {s : Sec.St} {w : World} (h : Book.Two base a n D R P bk N s w) (ha : a ≤ 9223372036854775807) (hlim : s.loose.length ≤ 900000000) (act : Nat) (hact : Int.tmod (act : Int) 9 = 8) (T : Option Addr) (tn tc : Nat) (k : Int) (A : Option Addr) (pn c : Nat) :
    Calls Tryz.prog 9 #[.pointer (some ⟨P, 0, none⟩), .agg #[.int .u8 (act : Int), .slice T tn tc, .int .i64 k, .slice A pn c]] w (Book.Done2 base a n D R P N s w) := by
  obtain ⟨w0, hw0⟩ : ∃ w0, w0 = w.alloc (.cells #[.int .u8 (act : Int), .slice T tn tc, .int .i64 k, .slice A pn c] 41) := ⟨_, rfl⟩
  have hb0 : Below w.heap.size w w0 := by rw [hw0]; exact (Below.refl _ _).alloc (Nat.le_refl _) _
  have H0 := Lib.hid (h.below hb0)
  have HB0 := Lib.hid (hb0.mono h.base_le)
  have hx0 : w0.heap[w.heap.size]? = some (.cells #[.int .u8 (act : Int), .slice T tn tc, .int .i64 k, .slice A pn c] 41 (0, 0)) := by rw [hw0]; exact heap_alloc_new w _
  have x0 : w0.cell? ⟨w.heap.size, 0, none⟩ = some (.int .u8 (act : Int)) := cell_of_row w0 _ 0 _ _ _ hx0
  have c0 := H0.out.pair.c0
  have c1 := H0.out.pair.c1
  have c4 := H0.out.pair.c4
  have c5 := H0.out.pair.c5
  obtain ⟨q1, q2, q3, q4⟩ := Book.clearP_keep H0.out.ok a n
  have HQ1 := Lib.hid q1
  have HQ2 := Lib.hid q2
  have HQ4 := Lib.hid (q4 H0.out.seen)
  have HLO : Hid ((Book.clearP s a n).2.loose.length ≤ s.loose.length + 9000) := by
    have := h.ok.n2
    show _ ≤ _
    omega
  have HPC : Hid (Calls Tryz.prog 16 #[.pointer (some ⟨D.b, 0, none⟩), .int .i64 a, .int .i64 n] w0.drew fun e w' => e = .returned (.int .i64 (Book.clearP s a n).1) ∧ Sec.Behind D (Book.clearP s a n).2 w0.drew w') := pclear_all D s _ H0.out.hA.drew H0.out.ok a n ha hlim
  have HRC : Hid (∀ wx, Sec.RHas R s wx → Calls Tryz.prog 25 #[.pointer (some ⟨R.b, 0, none⟩), .int .i64 a, .int .i64 n] wx fun e w' => e = .returned (.int .i64 (Book.clearP s a n).1) ∧ ∃ v, Sec.RHas { R with v := v } (Book.clearP s a n).2 w' ∧ Sec.Mv R.off ({ R with v := v : Sec.Rl }).off wx w') := fun wx hR => kclear_all R s wx hR H0.out.ok H0.out.seen a n hlim
  generalize Book.clearP s a n = q at HPC HRC HQ1 HQ2 HQ4 HLO
  obtain ⟨qc, qs⟩ := q
  have hx0' := x0
  rw [hw0] at hx0'
  clear h hb0 hx0 q1 q2 q3 q4
  go_enter Tryz.func9, Tryz.ntmps9
  go_wp2_with fail
  rw [← hw0]
  clear hw0 hx0' x0
  go_region_held3 (fun w' => w'.cell? ⟨P, 0, none⟩ = some (.pointer (some ⟨D.b, 0, none⟩)) ∧ w'.cell? ⟨P, 1, none⟩ = some (.pointer (some ⟨R.b, 0, none⟩)) ∧ w'.cell? ⟨P, 4, none⟩ = some (.int .i64 a) ∧ w'.cell? ⟨P, 5, none⟩ = some (.int .i64 n))
    (first | assumption | exact ⟨c0, c1, c4, c5⟩ | exact ⟨HPR1.c0, HPR1.c1, HPR1.c4, HPR1.c5⟩ | exact ⟨HPR2.c0, HPR2.c1, HPR2.c4, HPR2.c5⟩) (first
    | (go_at_call 16; refine HPC.out.mono ?_; rintro e w1 ⟨rfl, D1, hA1, hM1⟩; have HA1 := Lib.hid hA1; have HM1 := Lib.hid ((Sec.Moves.of_below (D := D) (Below.refl w0.heap.size w0).drew).trans hM1); obtain ⟨mr1, HPR1, mr3⟩ := H0.out.mid HM1.out; have HR1 := Lib.hid mr1; clear hA1 hM1 mr1 mr3)
    | (go_at_call 25; refine (HRC.out w1 HR1.out).mono ?_; rintro e w2 ⟨rfl, v2, hR2, hM2⟩; have HZ := Lib.hid (H0.out.disks HM1.out HA1.out v2 hR2 hM2 HQ1.out HQ4.out HQ2.out); have HPR2 : Book.Pair P D.b R.b a n bk w2 := (by have hp := HZ.out.1.pair; rw [HM1.out.b] at hp; exact hp); clear hR2 hM2))
  all_goals
    simp only [Exit.then]
    go_at_K
    have HDB := Lib.hid HM1.out.b
    clear HPR1 HPR2 HA1 HR1 c0 c1 c4 c5
    go_wp2_with fail
    go_ret
    exact ⟨qs, ⟨by simp, D1, { R with v := v2 }, _, HZ.out.1, HDB.out, rfl, HB0.out.trans HZ.out.2⟩, HLO.out⟩
end Go.Proofs.YtdmelkphankfiaaGreat
end

section
namespace Go.Proofs.YtdmelkphankfiaaGreat
open Go.RowKit
attribute [local go_sem ↓] Go.wp_at_zero Go.wp_at_succ

theorem Book.two_app {base : Nat} {a n : Int} {D : Sec.Bl} {R : Sec.Rl} {P N : Nat} {b : Book.Bk} {s : Sec.St} {w : World} (h : Book.Two base a n D R P (some b) N s w) :
    ∃ a' n' : Nat, a = a' ∧ n = n' ∧ a' + n' ≤ s.n ∧ b.S.length ≤ n' * 127 := by
  have k := h.book b rfl
  obtain ⟨a', n', e1, e2, h1, h2⟩ := Book.fits_nat (s := s) (by rw [h.nn]; exact k.fits)
  have hl := k.len
  rw [e2] at hl
  exact ⟨a', n', e1, e2, h2, by simpa using hl⟩

set_option maxHeartbeats 8000000 in
set_option maxRecDepth 20000 in
theorem do_append {base : Nat} {a n : Int} {D : Sec.Bl} {R : Sec.Rl} {P N : Nat} {bk : Option Book.Bk} {s : Sec.St} {w : World} (h : Book.Two base a n D R P bk N s w) (hlim : s.loose.length ≤ 900000000) (act r : Nat) (hact : Int.tmod (act : Int) 9 = (r : Int)) (hr : r ≤ 2) (T : Option Addr) (ts : List ByteArray) (htl : ts.length ≤ 20) (hsz : ∀ x ∈ ts, x.size ≤ 262144) (tc : Nat) (hli : Lies w base T (tcells ts)) (k : Int) (A : Option Addr) (pn c : Nat) :
    Calls Tryz.prog 9 #[.pointer (some ⟨P, 0, none⟩), .agg #[.int .u8 (act : Int), .slice T ts.length tc, .int .i64 k, .slice A pn c]] w (Book.Done2 base a n D R P N s w) := by
  obtain ⟨w0, hw0⟩ : ∃ w0, w0 = w.alloc (.cells #[.int .u8 (act : Int), .slice T ts.length tc, .int .i64 k, .slice A pn c] 41) := ⟨_, rfl⟩
  have hb0 : Below w.heap.size w w0 := by rw [hw0]; exact (Below.refl _ _).alloc (Nat.le_refl _) _
  have H0 := Lib.hid (h.below hb0)
  have HB0 := Lib.hid (hb0.mono h.base_le)
  have hx0 : w0.heap[w.heap.size]? = some (.cells #[.int .u8 (act : Int), .slice T ts.length tc, .int .i64 k, .slice A pn c] 41 (0, 0)) := by rw [hw0]; exact heap_alloc_new w _
  have x0 : w0.cell? ⟨w.heap.size, 0, none⟩ = some (.int .u8 (act : Int)) := cell_of_row w0 _ 0 _ _ _ hx0
  have x1 : w0.cell? ⟨w.heap.size, 1, none⟩ = some (.slice T ts.length tc) := cell_of_row w0 _ 1 _ _ _ hx0
  have hq : w.heap.size < w0.heap.size := Sec.lt_of_heap hx0
  have HDQ : Hid (D.off w.heap.size) := Sec.off_fresh h.hA (Nat.le_refl _)
  have c2 := H0.out.pair.c2
  have c3 := H0.out.pair.c3
  have e3 : ((r : Int) == 3) = false := by simp; omega
  have e4 : ((r : Int) == 4) = false := by simp; omega
  have e5 : ((r : Int) == 5) = false := by simp; omega
  have e6 : ((r : Int) == 6) = false := by simp; omega
  have e7 : ((r : Int) == 7) = false := by simp; omega
  have e8 : ((r : Int) == 8) = false := by simp; omega
  have HX0 := Lib.hid hx0
  have HLI := Lib.hid (Lies.below hli HB0.out)
  have hbl := h.base_le
  clear hr hb0 hx0 hli
  cases bk with
  | none =>
    have c2 : w0.cell? ⟨P, 2, none⟩ = some (.pointer none) := c2
    have c3 : w0.cell? ⟨P, 3, none⟩ = some (.pointer none) := c3
    clear h
    have HNA : Hid (Calls Tryz.prog 18 #[.pointer none, .slice T ts.length tc] w0.drew fun e w' => e = .returned (.int .i64 1) ∧ w0.drew = w') := pappend_nil T ts.length tc w0.drew
    have x0' := x0
    rw [hw0] at x0'
    have c3' := c3
    rw [hw0] at c3'
    go_enter Tryz.func9, Tryz.ntmps9
    go_wp2_with fail
    rw [← hw0]
    clear hw0 x0 x0' c3' e3 e4 e5 e6 e7 e8
    go_region_with ((go_at_call 18; refine HNA.out.mono ?_; rintro e w1 ⟨rfl, rfl⟩))
    all_goals
      simp only [Exit.then]
      go_at_K
      go_wp2_with fail
      go_ret
      exact ⟨s, ⟨rfl, D, R, none, H0.out.below (Below.refl _ _).drew, rfl, rfl, HB0.out.trans (Below.refl _ _).drew⟩, Nat.le_add_right _ _⟩
  | some b =>
    have c2 : w0.cell? ⟨P, 2, none⟩ = some (.pointer (some ⟨b.B, 0, none⟩)) := c2
    have c3 : w0.cell? ⟨P, 3, none⟩ = some (.pointer (some ⟨b.X, 0, none⟩)) := c3
    have K := H0.out.book b rfl
    have hqB : w.heap.size ≠ b.B := by have := (h.book b rfl).pb.ltb; omega
    have hqX : w.heap.size ≠ b.X := by have := (h.book b rfl).rb.ltb; omega
    have HRQ : Hid (R.off w.heap.size) := Book.off_new h.hR (Nat.le_refl _)
    obtain ⟨a', n', ea, en, h1, h2⟩ := Book.two_app H0.out
    obtain ⟨q1, q2, q3, q4, q5⟩ := Book.app_keep (br := b.br) (xs := ts) H0.out.ok h1 h2
    have HQ1 := Lib.hid q1
    have HQ2 := Lib.hid q2
    have HQ4 := Lib.hid (q4 H0.out.seen)
    have HQ5 : Hid ((Book.app a' n' b.S b.br s ts).2.1.length ≤ n.toNat * 127) := by rw [en]; exact Lib.hid (by simpa using q5)
    have hn2 := h.ok.n2
    have HLO : Hid ((Book.app a' n' b.S b.br s ts).2.2.2.loose.length ≤ s.loose.length + 9000) := by show _ ≤ _; omega
    have HPS : Hid (Calls Tryz.prog 18 #[.pointer (some ⟨b.B, 0, none⟩), .slice T ts.length tc] w0.drew (Book.After D b.B a n (Book.app a' n' b.S b.br s ts).1 (Book.app a' n' b.S b.br s ts).2.1 (Book.app a' n' b.S b.br s ts).2.2.1 (Book.app a' n' b.S b.br s ts).2.2.2 w0.drew)) := by
      have hpb := K.pb
      rw [ea, en] at hpb ⊢
      exact pappend D s w0.drew H0.out.hA.drew H0.out.ok b.B a' n' b.S b.br hpb K.dB h2 h1 (by omega) ts T tc (by unfold maxLen; omega) (fun x hx => by have := hsz x hx; unfold maxLen; omega) ((HLI.out.mono H0.out.base_le).drew) _ rfl
    have HRS : Hid (∀ w1, Sec.RHas R s w1 → Book.RB b.X R.b a.toNat n.toNat b.S b.br w1 → Below base w0 w1 → base ≤ w1.heap.size → Calls Tryz.prog 26 #[.pointer (some ⟨b.X, 0, none⟩), .slice T ts.length tc] w1 (Book.RAfter R b.X a.toNat n.toNat (Book.app a' n' b.S b.br s ts).1 (Book.app a' n' b.S b.br s ts).2.1 (Book.app a' n' b.S b.br s ts).2.2.1 (Book.app a' n' b.S b.br s ts).2.2.2 w1)) := fun w1 y1 y2 y3 y4 => by
      rw [ea, en] at y2 ⊢
      exact kappend R s y2 K.rX y1 H0.out.ok h2 h1 (by omega) ts T tc htl hsz ((HLI.out.below y3).mono y4) _ rfl
    have HLB : Hid (base ≤ b.B) := K.loB
    clear q1 q2 q3 q4 q5
    generalize Book.app a' n' b.S b.br s ts = q at HPS HRS HQ1 HQ2 HQ4 HQ5 HLO
    obtain ⟨qc, qS, qb, qs⟩ := q
    clear ea en h1 h2 K hn2 h hsz
    have x0' := x0
    rw [hw0] at x0'
    have c3' := c3
    rw [hw0] at c3'
    go_enter Tryz.func9, Tryz.ntmps9
    go_wp2_with fail
    rw [← hw0]
    clear hw0 x0 x0' c3' e3 e4 e5 e6 e7 e8
    go_region_held3 (fun w' => w'.cell? ⟨P, 2, none⟩ = some (.pointer (some ⟨b.B, 0, none⟩)) ∧ w'.cell? ⟨P, 3, none⟩ = some (.pointer (some ⟨b.X, 0, none⟩)) ∧ w'.cell? ⟨w.heap.size, 1, none⟩ = some (.slice T ts.length tc))
      (first | assumption | exact ⟨c2, c3, x1⟩ | exact ⟨HPR1.c2, HPR1.c3, XQ1⟩ | exact ⟨HPR2.c2, HPR2.c3, XQ2⟩) (first
      | (go_at_call 18; refine HPS.out.mono ?_; rintro e w1 ⟨rfl, D1, hA1, hpb1, ho1, hM1⟩; have HA1 := Lib.hid hA1; have HPB1 := Lib.hid hpb1; have HO1 := Lib.hid ho1; have HM1 := Lib.hid ((Book.Mvb.of_below (Below.refl w0.heap.size w0).drew).trans hM1); obtain ⟨mr1, HPR1, mr3⟩ := H0.out.midR b.B (fun b' e => by obtain rfl := Option.some.inj e; rfl) (fun e => by cases e) HM1.out; have HR1 := Lib.hid mr1; have HRB1 := Lib.hid (mr3 b rfl); have HXB1 := Lib.hid ((HM1.out.block _ hq HDQ.out hqB).trans HX0.out); have XQ1 : w1.cell? ⟨w.heap.size, 1, none⟩ = some (.slice T ts.length tc) := cell_of_row w1 _ 1 _ _ _ HXB1.out; have HBE1 := Lib.hid (HM1.out.below H0.out.hA H0.out.lowD HLB.out); have HBL1 : Hid (base ≤ w1.heap.size) := Nat.le_trans H0.out.base_le HM1.out.size; clear hA1 hpb1 ho1 hM1 mr1 mr3)
      | (go_at_call 26; refine (HRS.out w1 HR1.out HRB1.out HBE1.out HBL1.out).mono ?_; rintro e w2 ⟨rfl, hrb2, v2, hR2, ho2, hM2⟩; have HZ := Lib.hid (H0.out.step HM1.out HA1.out HPB1.out HO1.out v2 hR2 hrb2 ho2 hM2 HQ1.out HQ4.out HQ2.out HQ5.out); have HPR2 := HZ.out.1.pair; have XQ2 : w2.cell? ⟨w.heap.size, 1, none⟩ = some (.slice T ts.length tc) := cell_of_row w2 _ 1 _ _ _ ((hM2.block _ (Nat.lt_of_lt_of_le hq HM1.out.size) ⟨HRQ.out, hqX⟩).trans HXB1.out); clear hrb2 hR2 ho2 hM2))
    all_goals
      simp only [Exit.then]
      go_at_K
      have HDB := Lib.hid HM1.out.b
      clear HPR1 HPR2 HA1 HPB1 HO1 HR1 HRB1 c2 c3 XQ1 XQ2 HXB1 HBE1 HBL1
      go_wp2_with fail
      go_ret
      exact ⟨qs, ⟨by simp, D1, { R with v := v2 }, _, HZ.out.1, HDB.out, rfl, HB0.out.trans HZ.out.2⟩, HLO.out⟩
end Go.Proofs.YtdmelkphankfiaaGreat
end

section
namespace Go.Proofs.YtdmelkphankfiaaGreat
open Go.RowKit

theorem do_all {base : Nat} {a n : Int} {D : Sec.Bl} {R : Sec.Rl} {P N : Nat} {bk : Option Book.Bk} {s : Sec.St} {w : World} (h : Book.Two base a n D R P bk N s w) (ha : a ≤ 9223372036854775807) (hlim : s.loose.length ≤ 900000000) (st : StepB) (hsm : st.Small) (hk : st.n ≤ 9223372036854775807)
    (hT : Lies w base st.T (tcells st.ts)) (hA : Lies w base st.A (icells st.ps)) :
    Calls Tryz.prog 9 #[.pointer (some ⟨P, 0, none⟩), .agg #[.int .u8 (st.act : Int), .slice st.T st.ts.length st.tc, .int .i64 st.n, .slice st.A st.ps.length st.c]] w (Book.Done2 base a n D R P N s w) := by
  obtain ⟨act, ts, T, tc, k, ps, A, c⟩ := st
  obtain ⟨hsm1, hsm2, hsm3⟩ := hsm
  simp only [] at hk hT hA hsm1 hsm2 hsm3 ⊢
  have e : Int.tmod (act : Int) 9 = ((act % 9 : Nat) : Int) := by
    rw [Int.tmod_eq_emod_of_nonneg (by omega)]
    omega
  have hlt : act % 9 < 9 := Nat.mod_lt _ (by omega)
  by_cases h2 : act % 9 ≤ 2
  · exact do_append h hlim act (act % 9) e h2 T ts hsm1 hsm3 tc hT k A ps.length c
  · have hm : act % 9 = 3 ∨ act % 9 = 4 ∨ act % 9 = 5 ∨ act % 9 = 6 ∨ act % 9 = 7 ∨ act % 9 = 8 := by omega
    rcases hm with hm | hm | hm | hm | hm | hm
    all_goals rw [hm] at e
    · exact do_sync h hlim act e T _ tc k A _ c
    · exact do_crash h hlim act e T _ tc k A c ps (by unfold maxLen; omega) hA
    · exact do_fuse h act e T _ tc k hk A _ c
    · exact do_open h ha hlim act e T _ tc k A _ c
    · exact do_write h hlim act e T ts hsm1 tc hT k A _ c
    · exact do_clear h ha hlim act e T _ tc k A _ c
end Go.Proofs.YtdmelkphankfiaaGreat
end
