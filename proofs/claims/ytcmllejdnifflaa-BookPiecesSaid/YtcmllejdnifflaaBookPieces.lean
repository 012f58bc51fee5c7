/-
  Records which are appended in any pieces, of at most twenty that are not too many, leave the same for good, once they are synced (BookPieces), whatever texts and whatever place to cut come in.
-/
import Derived.Test.YtcmllejdnifflaaRows
import Derived.Test.YtcmllejdnifflaaL06A
import Derived.Test.YtcmllejdnifflaaL06S
import Derived.Test.YtcmllejdnifflaaFrameO
import Derived.ProofKit
import Derived.OpenShut
import Derived.ShutString
namespace Go.Proofs.Ytcmllejdnifflaa.bookPieces
open Go.ChangeShapes Go.WideShapes Go.ChangeAt Go.RowKit
open Go.ChangeMaps (open_string shut_string)

/-- What an Append of a book on a disk that is let alone comes to, as far as BookPieces asks. -/
def Went (p lo B : Nat) (S : List UInt8) (s : Sec.St) (xs : List ByteArray) (w : World) (e : Ending) (w' : World) : Prop :=
  ∃ (c : Int) (S' : List UInt8) (s' : Sec.St), e = .returned (.int .i64 c) ∧ 0 ≤ c ∧ Book.Live p lo B 0 12 S' false s' w' ∧ Book.Laid 0 12 12 S' s' ∧ s'.loose.length ≤ s.loose.length + 12 ∧ Below lo w w' ∧ (c = 0 → S' = S ++ Book.frb xs ∧ Book.long xs = false)
theorem went {p lo B : Nat} {S : List UInt8} {s : Sec.St} {w : World} (h : Book.Live p lo B 0 12 S false s w) (hL : Book.Laid 0 12 12 S s) (hlim : s.loose.length ≤ 100000) (xs : List ByteArray) (A : Option Addr) (c n : Nat) (hn : xs.length = n) (hl : xs.length ≤ maxLen) (hx : ∀ x ∈ xs, x.size ≤ maxLen) (hli : Lies w w.heap.size A (tcells xs)) :
    Calls Try.prog 7 #[.pointer (some ⟨B, 0, none⟩), .slice A n c] w (Went p lo B S s xs w) := by
  subst hn
  by_cases hc : Book.long xs = false ∧ S.length + (Book.frb xs).length ≤ 12 * 127
  · refine (live_append_ok (a := 0) (n := 12) h hL (by omega) xs A c hl hx hli hc.1 hc.2).mono ?_
    rintro e w' ⟨s', h1, h2, h3, h4, _, h6⟩
    exact ⟨0, _, s', h1, Int.le_refl _, h2, h4, h6, h3, fun _ => ⟨rfl, hc.1⟩⟩
  · refine (live_append_no (a := 0) (n := 12) h hL.ok hL.fit (by rw [hL.nn]; exact Nat.le_refl _) (by omega) xs A c hl hx hli hc _ rfl).mono ?_
    rintro e w' ⟨h1, h2, h3⟩
    have h4 : (4 : Int) ≤ (if Book.long xs = true then 4 else 6) := by split <;> omega
    exact ⟨_, S, s, h1, by omega, h2, hL, by omega, h3, fun h => by omega⟩
/-- What stands behind the appends, whichever way they were made. -/
def Met (p lo B : Nat) (xs : List ByteArray) (w : World) (v : Value) (w' : World) : Prop :=
  ∃ (c : Int) (S : List UInt8) (s : Sec.St), v = .int .i64 c ∧ 0 ≤ c ∧ Book.Live p lo B 0 12 S false s w' ∧ Book.Laid 0 12 12 S s ∧ s.loose.length ≤ 1000 ∧ Below lo w w' ∧ (c = 0 → S = Book.frb xs ∧ Book.long xs = false)
theorem slice_front (A : Option Addr) (n c k : Nat) (hk : k ≤ c) (w : World) : (Instr.slice 24 (.slice A n c) none (some (.int .i64 (k : Int))) none).run Try.prog w = .ok (.slice A k c) w := by
  unfold Instr.slice Instr.sliceBounds Instr.sliceBound
  have h1 : (0 : Int) ≤ (k : Int) ∧ (k : Int) ≤ (c : Int) := by omega
  have h0 : Option.map (fun x : Addr => x.add 0) A = A := by cases A <;> rfl
  simp [go_sem, h1]
  intro h
  omega
/-- The rest of a slice. -/
def rest (A : Option Addr) (c k : Nat) : Option Addr := if c = k then A else A.map fun x : Addr => x.add k
theorem slice_back (A : Option Addr) (n c k : Nat) (hk : k ≤ n) (w : World) : (Instr.slice 24 (.slice A n c) (some (.int .i64 (k : Int))) none none).run Try.prog w = .ok (.slice (rest A c k) (n - k) (c - k)) w := by
  unfold Instr.slice Instr.sliceBounds Instr.sliceBound rest
  have h1 : (0 : Int) ≤ (k : Int) ∧ (k : Int) ≤ (n : Int) := by omega
  simp [go_sem, h1]
  intro h
  omega
theorem add_add (a : Addr) (j k : Nat) : (a.add k).add j = a.add (k + j) := by
  unfold Addr.add
  by_cases hk : k = 0
  · subst hk; simp
  · rw [if_neg hk]
    by_cases hj : j = 0
    · subst hj; simp [hk]
    · rw [if_neg hj, if_neg (by omega)]
      simp [Nat.add_assoc]
theorem rest_lies {w : World} {B : Nat} {xs : List ByteArray} {A : Option Addr} {c k : Nat} (h : Lies w B A (tcells xs)) (hc : xs.length ≤ c) : Lies w B (rest A c k) (tcells (xs.drop k)) := fun hp => by
  have hp2 : k < xs.length := by simp [tcells] at hp; omega
  obtain ⟨ad, rfl, hb, hcell⟩ := h (by simp [tcells]; omega)
  have e : rest (some ad) c k = some (ad.add k) := by unfold rest; rw [if_neg (by omega)]; rfl
  refine ⟨ad.add k, e, by rw [Lies.add_block]; exact hb, fun j u hu => ?_⟩
  rw [add_add]
  refine hcell (k + j) u ?_
  rw [← hu]
  simp [tcells, List.getElem?_drop]
theorem front_lies {w : World} {B : Nat} {xs : List ByteArray} {A : Option Addr} {k : Nat} (h : Lies w B A (tcells xs)) : Lies w B A (tcells (xs.take k)) := fun hp => by
  have hp2 : 0 < xs.length := by simp [tcells] at hp; omega
  obtain ⟨ad, rfl, hb, hcell⟩ := h (by simp [tcells]; omega)
  refine ⟨ad, rfl, hb, fun j u hu => hcell j u ?_⟩
  unfold tcells at hu ⊢
  rw [List.map_take, List.getElem?_take] at hu
  split at hu
  · exact hu
  · cases hu

/-- The texts of a row of sectors. -/
theorem texts_back (xs : List ByteArray) : (xs.map fun x => x.data.toList).map (fun y => (⟨y.toArray⟩ : ByteArray)) = xs := by
  rw [List.map_map]
  have e : ((fun y : List UInt8 => (⟨y.toArray⟩ : ByteArray)) ∘ fun x : ByteArray => x.data.toList) = id := rfl
  rw [e, List.map_id]
def sure (xs : List ByteArray) : ByteArray := ⟨(((List.range 12).map (Book.made (Book.frb xs))).flatten).toArray⟩

set_option maxHeartbeats 4000000 in
set_option maxRecDepth 20000 in
theorem walk (w : World) (xs : List ByteArray) (A : Option Addr) (c : Nat) (hl : Lies w w.heap.size A (tcells xs)) (hn : xs.length ≤ maxLen) (hb : (∀ x ∈ xs, x.size ≤ maxLen) ∧ xs.length ≤ c) (u : Int) (u0 : 0 ≤ u) (u1 : u ≤ 255) :
    Calls Try.prog 4 #[.slice A xs.length c, .int .u8 u] w fun e w' => e = .returned (.bool true) ∧ Below w.heap.size w w' := by
  have HL := Lib.hid hl
  have HX := Lib.hid hb.1
  have HC := Lib.hid hb.2
  have hn2 := hn
  unfold maxLen at hn2
  have hb1 : Below w.heap.size w (w.alloc (.cells #[.int .u8 0, .slice A xs.length c, .int .i64 0, .slice none 0 0] 37)) := (Below.refl _ _).alloc (Nat.le_refl _) _
  have HB1 := Lib.hid hb1
  have HHV : Hid (Calls Try.prog 12 #[.slice (some ⟨w.heap.size, 0, none⟩) 1 1] (w.alloc (.cells #[.int .u8 0, .slice A xs.length c, .int .i64 0, .slice none 0 0] 37)) (HeavyOut [⟨0, xs, A, c, 0, [], none, 0⟩] (w.alloc (.cells #[.int .u8 0, .slice A xs.length c, .int .i64 0, .slice none 0 0] 37)))) := by
    refine heavyb [⟨0, xs, A, c, 0, [], none, 0⟩] (some ⟨w.heap.size, 0, none⟩) 1 (w.heap.size + 1) _ ?_ (by simp [maxLen]) ?_
    · intro _
      refine ⟨⟨w.heap.size, 0, none⟩, rfl, Nat.lt_succ_self _, fun j hj i v hv => ?_⟩
      have hj0 : j = 0 := by simpa using hj
      subst hj0
      have := World.news_of_block (heap_alloc_new w (.cells #[.int .u8 0, .slice A xs.length c, .int .i64 0, .slice none 0 0] 37)) i v (by simpa [StepB.cells] using hv)
      exact this
    · intro a ha
      rw [List.mem_singleton.1 ha]
      exact ⟨(Lies.below hl hb1).mono (by simp), hn, by simp, hb.1⟩
  obtain ⟨q, rfl⟩ := Int.eq_ofNat_of_zero_le u0
  obtain ⟨k, hk⟩ : ∃ k, k = q % (xs.length + 1) := ⟨_, rfl⟩
  have hkl : k ≤ xs.length := by
    have := Nat.mod_lt q (show 0 < xs.length + 1 by omega)
    omega
  have hmod : Int.tmod (q : Int) ((xs.length : Int) + 1) = (k : Int) := by
    rw [Int.tmod_eq_emod_of_nonneg (by omega), hk]
    show ((q : Nat) : Int) % ((xs.length + 1 : Nat) : Int) = _
    rw [← Int.natCast_emod]
  clear hl hb hb1 hk hn
  go_enter Try.func4, Try.ntmps4
  go_wp2_with fail
  refine HHV.out.mono ?_
  rintro e w1 ⟨b, rfl, hsm, rfl⟩
  cases b with
  | true =>
    clear hsm
    go_wp2_with fail
    refine (alive6_any _).mono ?_
    rintro e w2 ⟨rfl, hb2⟩
    go_wp2_with fail
    go_ret
    exact ⟨rfl, HB1.out.trans (hb2.mono HB1.out.size)⟩
  | false =>
    obtain ⟨hl20, _, hsz⟩ := (hsm rfl).2 _ (List.mem_singleton.2 rfl)
    simp only [] at hl20 hsz
    have HSZ := Lib.hid hsz
    have h20 : decide ((20 : Int) < (xs.length : Int)) = false := by simp; omega
    have h20i : (xs.length : Int) ≤ 20 := by omega
    obtain ⟨w1, hw1⟩ : ∃ w1, w1 = w.alloc (.cells #[.int .u8 0, .slice A xs.length c, .int .i64 0, .slice none 0 0] 37) := ⟨_, rfl⟩
    rw [← hw1] at HB1
    clear hsm hsz HHV
    go_wp2_with fail
    rw [← hw1]
    clear hw1
    go_loopw [6, 7] (fun sv t wr => ∃ (A2 : Option Addr) (c2 j : Nat), sv = .slice A2 j c2 ∧ t = .int .i64 j ∧ j ≤ 3 ∧ Hid (wr.ownsRow w1.heap.size 9 1 (.slice A2 j c2) j (List.replicate j (.string (sure xs)))) ∧ Hid (Below w1.heap.size w1 wr)) (fun _ t _ => 3 - (intOf t).toNat)
    case atStart => exact ⟨none, 0, 0, rfl, rfl, by omega, World.ownsRow_nil _ _ _ _, Below.refl _ _⟩
    case round =>
      obtain ⟨A2, c2, j, rfl, rfl, hj, HROW, HBW⟩ := hrel
      obtain ⟨wo, rfl⟩ : ∃ wo : World, wo = wr := ⟨_, rfl⟩
      by_cases hj3 : j < 3
      · have hj3i : (j : Int) < 3 := by omega
        have HL0 := Lib.hid (Book.Laid.fresh (a := 0) (n := 12) (N := 12) (by omega) (by omega) (by omega))
        go_wp2_with fail
        refine (has_new 12 _ (by omega) (by omega)).mono ?_
        rintro e w2 ⟨p, rfl, hA, hb⟩
        have HA := Lib.hid hA
        have HB2 := Lib.hid hb
        obtain ⟨s0, hs0⟩ : ∃ s0, s0 = Sec.St.fresh 12 := ⟨_, rfl⟩
        rw [← hs0] at HA HL0
        have HLO0 : Hid (s0.loose = []) := by show _ = _; rw [hs0]; rfl
        clear hA hb hs0
        go_wp2_with fail
        refine (has_open (lo := wo.heap.size) (a := 0) (n := 12) HA.out (Nat.le_refl _) [] (by simp) HL0.out (by omega) (by rw [HLO0.out]; simp)).mono ?_
        rintro e w3 ⟨B, A3, c3, rfl, hlv, hb, hli⟩
        have L3 : Hid (Book.Live p wo.heap.size B 0 12 [] false s0 w3) := hlv
        have HB3 := Lib.hid (HB2.out.trans hb)
        clear hlv hb hli HB2 HA
        go_upto_if 55 with fail
        go_cut [13] (fun v wx => Met p wo.heap.size B xs wo v wx)
        case first =>
          have HN0 : Hid (xs.length ≤ maxLen) := by show _ ≤ _; unfold maxLen; omega
          have HB3' : Hid (Below w.heap.size w w3) := HB1.out.trans ((HBW.out.trans (HB3.out.mono HBW.out.size)).mono HB1.out.size)
          have HL3 : Hid (Lies w3 w.heap.size A (tcells xs)) := Lies.below HL.out HB3'.out
          have hw3 := HB3'.out.size
          have HARG : Hid (∀ wx, Below wo.heap.size wo wx → Lies wx wx.heap.size A (tcells xs)) := fun wx hb => by
            have h1 : Below w.heap.size w wx := HB1.out.trans ((HBW.out.trans (hb.mono HBW.out.size)).mono HB1.out.size)
            exact (Lies.below HL.out h1).mono h1.size
          rcases (by omega : j = 0 ∨ j = 1 ∨ (j ≠ 0 ∧ j ≠ 1)) with rfl | rfl | hj2
          · go_wp2_with fail
            refine (went L3.out HL0.out (by rw [HLO0.out]; simp) xs A c _ rfl HN0.out HX.out (Lies.mono HL3.out hw3)).mono ?_
            rintro e w4 ⟨c', S', s', rfl, h0, hlv, hL, hlo, hb, hc⟩
            have HM : Hid (Met p wo.heap.size B xs wo (.int .i64 c') w4) := ⟨c', S', s', rfl, h0, hlv, hL, by rw [HLO0.out] at hlo; simp at hlo; omega, HB3.out.trans hb, fun h => by simpa using hc h⟩
            clear h0 hlv hL hlo hb hc
            go_wp2_with fail
            go_meet
            exact HM.out
          · have hs1 := fun w => slice_front A xs.length c k (by have := HC.out; omega) w
            have hs2 := fun w => slice_back A xs.length c k hkl w
            have HW1 : Hid (∀ (wx : World) (S : List UInt8) (s : Sec.St), Book.Live p wo.heap.size B 0 12 S false s wx → Book.Laid 0 12 12 S s → s.loose.length ≤ 12 → Below wo.heap.size wo wx → Calls Try.prog 7 #[.pointer (some ⟨B, 0, none⟩), .slice A k c] wx (Went p wo.heap.size B S s (xs.take k) wx)) := fun wx S s h1 h2 h3 h4 =>
              went h1 h2 (by omega) (xs.take k) A c k (by rw [List.length_take]; omega) (by have := HN0.out; rw [List.length_take]; omega) (fun x hx => HX.out x (List.mem_of_mem_take hx)) (front_lies (HARG.out wx h4))
            have HW2 : Hid (∀ (wx : World) (S : List UInt8) (s : Sec.St), Book.Live p wo.heap.size B 0 12 S false s wx → Book.Laid 0 12 12 S s → s.loose.length ≤ 12 → Below wo.heap.size wo wx → Calls Try.prog 7 #[.pointer (some ⟨B, 0, none⟩), .slice (rest A c k) (xs.length - k) (c - k)] wx (Went p wo.heap.size B S s (xs.drop k) wx)) := fun wx S s h1 h2 h3 h4 =>
              went h1 h2 (by omega) (xs.drop k) (rest A c k) (c - k) (xs.length - k) (by rw [List.length_drop]) (by have := HN0.out; rw [List.length_drop]; omega) (fun x hx => HX.out x (List.mem_of_mem_drop hx)) (rest_lies (HARG.out wx h4) HC.out)
            have HJ : Hid (Book.frb (xs.take k) ++ Book.frb (xs.drop k) = Book.frb xs ∧ (Book.long (xs.take k) = false → Book.long (xs.drop k) = false → Book.long xs = false)) := by
              refine ⟨?_, fun h1 h2 => ?_⟩
              · unfold Book.frb
                rw [← Book.frs_app, ← List.map_append, List.take_append_drop]
              · unfold Book.long at h1 h2 ⊢
                rw [← List.take_append_drop k xs, List.any_append, h1, h2]
                rfl
            obtain ⟨A', hA'⟩ : ∃ A', A' = rest A c k := ⟨_, rfl⟩
            obtain ⟨n', hn'⟩ : ∃ n', n' = xs.length - k := ⟨_, rfl⟩
            obtain ⟨c', hc'⟩ : ∃ c', c' = c - k := ⟨_, rfl⟩
            rw [← hA', ← hn', ← hc'] at HW2 hs2
            clear hkl hA' hn' hc'
            generalize xs.take k = ys1 at HW1 HJ
            generalize xs.drop k = ys2 at HW2 HJ
            go_wp2_with fail
            go_region_with (first
              | (go_at_call 7; refine (HW2.out _ _ _ hlv hL (by rw [HLO0.out] at hlo; simpa using hlo) (HB3.out.drew.trans hb)).mono ?_; rintro e w5 ⟨d2, S2, s2, rfl, h02, hlv2, hL2, hlo2, hb2, hc2⟩)
              | (go_at_call 7; have hq1 := L3.out.below (Below.refl _ _).drew; refine (HW1.out _ _ _ hq1 HL0.out (by rw [HLO0.out]; simp) HB3.out.drew).mono ?_; rintro e w4 ⟨d1, S1, s1, rfl, h0, hlv, hL, hlo, hb, hc⟩))
            all_goals
              go_wp2_with fail
              go_meet
              have hj := HJ.out
              refine ⟨max d1 d2, S2, s2, rfl, by omega, hlv2, hL2, by rw [HLO0.out] at hlo; simp at hlo; omega, (HB3.out.drew.trans hb).trans hb2, fun h => ?_⟩
              obtain ⟨a1, a2⟩ := hc (by omega)
              obtain ⟨b1, b2⟩ := hc2 (by omega)
              rw [b1, a1, List.nil_append]
              exact ⟨hj.1, hj.2 a2 b2⟩
          · have e0 : ((j : Int) == 0) = false := by rw [beq_eq_false_iff_ne]; omega
            have e1 : ((j : Int) == 1) = false := by rw [beq_eq_false_iff_ne]; omega
            clear hmod hkl hj2
            simp only [e0]
            go_wp2_with fail
            go_loopw [13, 14] (fun fv t wx => ∃ (i : Nat) (d : Int) (S : List UInt8) (s : Sec.St), fv = .int .i64 d ∧ t = .int .i64 i ∧ i ≤ xs.length ∧ 0 ≤ d ∧ s.loose.length ≤ 12 * i ∧ Hid (Book.Live p wo.heap.size B 0 12 S false s wx) ∧ Hid (Book.Laid 0 12 12 S s) ∧ Hid (Below wo.heap.size wo wx) ∧ Hid (d = 0 → S = Book.frb (xs.take i) ∧ Book.long (xs.take i) = false)) (fun _ t _ => xs.length - (intOf t).toNat)
            case atStart => exact ⟨0, 0, [], s0, rfl, rfl, Nat.zero_le _, Int.le_refl _, by rw [HLO0.out]; simp, L3.out, HL0.out, HB3.out, fun _ => ⟨by simp [Book.frb, Book.frs], rfl⟩⟩
            case round =>
              obtain ⟨i, d, S, s, rfl, rfl, hi, hd0, hlo, HLV, HLA, HBX, HD⟩ := hrel
              by_cases hit : i < xs.length
              · obtain ⟨ad, hA, hbk, hcx⟩ := Lies.at_ (HARG.out _ HBX.out) (tcells_at hit)
                subst hA
                clear hbk
                have hi0 : (0 : Int) ≤ (i : Int) := by omega
                have hi1 : (i : Int) < (xs.length : Int) := by omega
                have HXI := Lib.hid (HX.out xs[i] (List.getElem_mem hit))
                have HT := Lib.hid (List.take_succ_eq_append_getElem hit)
                generalize xs[i] = x at hcx HXI HT
                have HLV2 := Lib.hid (HLV.out.below ((Below.refl _ _).alloc (Nat.le_refl _) (.cells #[.string x] 9)))
                have HAP := Lib.hid (went HLV2.out HLA.out (by omega) [x] (some ⟨wr.heap.size, 0, none⟩) 1 1 rfl (by simp [maxLen]) (fun y hy => by rw [List.mem_singleton.1 hy]; exact HXI.out) (Book.one_lies _ x))
                have HBX2 : Hid (Below wo.heap.size wo (wr.alloc (.cells #[.string x] 9))) := HBX.out.alloc HBX.out.size _
                have HJ : Hid (∀ S' : List UInt8, (d = 0 → S = Book.frb (xs.take i) ∧ Book.long (xs.take i) = false) → S' = S ++ Book.frb [x] → Book.long [x] = false → d = 0 → S' = Book.frb (xs.take (i + 1)) ∧ Book.long (xs.take (i + 1)) = false) := fun S' h1 h2 h3 h4 => by
                  obtain ⟨k1, k2⟩ := h1 h4
                  rw [HT.out, h2, k1]
                  refine ⟨?_, ?_⟩
                  · unfold Book.frb
                    rw [← Book.frs_app, ← List.map_append]
                  · unfold Book.long at k2 h3 ⊢
                    rw [List.any_append, k2, h3]
                    rfl
                go_wp2_with fail
                refine HAP.out.mono ?_
                rintro e w4 ⟨d2, S2, s2, rfl, h02, hlv2, hL2, hlo2, hb2, hc2⟩
                have HLV3 := Lib.hid hlv2
                have HLA3 := Lib.hid hL2
                have HBX3 := Lib.hid (HBX2.out.trans hb2)
                have HD2 : Hid (max d d2 = 0 → S2 = Book.frb (xs.take (i + 1)) ∧ Book.long (xs.take (i + 1)) = false) := fun h => by
                  obtain ⟨b1, b2⟩ := hc2 (by omega)
                  exact HJ.out S2 HD.out b1 b2 (by omega)
                have hmx : 0 ≤ max d d2 := by omega
                have hlo3 : s2.loose.length ≤ 12 * (i + 1) := by omega
                clear hlv2 hL2 hb2 hc2 HAP HJ HD h02 hlo2
                go_wp2_with fail
                go_roundw
                case rel => exact ⟨i + 1, max d d2, S2, s2, rfl, by go_num, by omega, hmx, hlo3, HLV3.out, HLA3.out, HBX3.out, HD2.out⟩
                case measure => simp [intOf]; omega
              · have HM : Hid (Met p wo.heap.size B xs wo (.int .i64 d) wr) := ⟨d, S, s, rfl, hd0, HLV.out, HLA.out, by omega, HBX.out, fun h => by
                  have := HD.out h
                  rwa [List.take_of_length_le (by omega)] at this⟩
                go_wp2_with fail
                go_meet
                exact HM.out
        case rest =>
          obtain ⟨d, S, s, rfl, hd0, hlv, hL, hlo, hbx, hd⟩ := hcut
          have HLV := Lib.hid hlv
          have HLA := Lib.hid hL
          have HLO := Lib.hid hlo
          have HBX := Lib.hid hbx
          have HBC : Hid (Below w.heap.size w wc) := HB1.out.trans ((HBW.out.trans (hbx.mono HBW.out.size)).mono HB1.out.size)
          clear hlv hL hlo hbx
          by_cases hz : d = 0
          · obtain ⟨hS, hlong⟩ := hd hz
            have HS := Lib.hid hS
            have HLG := Lib.hid hlong
            clear hd hS hlong
            subst hz
            go_wp2_with fail
            refine (live_sync HLV.out HLA.out (by have := HLO.out; omega)).mono ?_
            rintro e w4 ⟨s2, rfl, hlv, hb, hL, hlo⟩
            have HLV4 := Lib.hid hlv
            have HLA4 := Lib.hid hL
            have HLO4 := Lib.hid hlo
            have HBX4 := Lib.hid (HBX.out.trans hb)
            clear hlv hb hL hlo
            go_wp2_with fail
            refine (live_crash HLV4.out HLA4.out.ok (by rw [HLO4.out]; simp)).mono ?_
            rintro e w5 ⟨rfl, hlv, hb⟩
            have HLA5 : Hid (Book.Laid 0 12 12 S (s2.crash [])) := Book.Laid.crash HLA4.out.ok HLA4.out.nn HLA4.out HLO4.out rfl
            have HLO5 : Hid ((s2.crash []).loose = []) := rfl
            have HLV5 := Lib.hid hlv
            have HBX5 := Lib.hid (HBX4.out.trans hb)
            clear hlv hb
            generalize s2.crash [] = s3 at HLA5 HLO5 HLV5
            go_wp2_with fail
            refine (live_open (a := 0) (n := 12) HLV5.out (xs.map fun x => x.data.toList) (fun y hy => by
              obtain ⟨x, hx, rfl⟩ := List.mem_map.1 hy
              have := List.any_eq_false.1 HLG.out x hx
              simpa using this) (by have := HLA5.out; rw [HS.out] at this; exact this) (by omega) (by rw [HLO5.out]; simp)).mono ?_
            rintro e w6 ⟨B2, A6, c6, rfl, hlv, hb, hli⟩
            rw [texts_back] at hli
            rw [List.length_map]
            have HLV6 := Lib.hid hlv
            have HBX6 := Lib.hid (HBX5.out.trans hb)
            have HB6 : Hid (Below w.heap.size w w6) := HB1.out.trans ((HBW.out.trans (HBX6.out.mono HBW.out.size)).mono HB1.out.size)
            have HTX : Hid (Calls Try.prog 15 #[.slice A6 xs.length c6, .slice A xs.length c] w6 fun e w' => e = .returned (.bool true) ∧ Below w6.heap.size w6 w') := by
              have key := ktexts xs xs A6 A c6 c w6 hli ((Lies.below HL.out HB6.out).mono HB6.out.size) (by unfold maxLen; omega) (by unfold maxLen; omega)
              have e : decide (xs = xs) = true := by simp
              rw [e] at key
              exact key
            clear hlv hb hli
            go_wp2_with fail
            refine HTX.out.mono ?_
            rintro e w7 ⟨rfl, hb⟩
            have HLV7 := Lib.hid (HLV6.out.below hb)
            have HBX7 := Lib.hid (HBX6.out.trans (hb.mono HBX6.out.size))
            have HSU : Hid (s3.good = ((List.range 12).map (Book.made (Book.frb xs))).flatten) := by
              have := HLA5.out.sure HLO5.out
              rwa [HS.out] at this
            clear hb HTX
            go_wp2_with fail
            refine (live_sure HLV7.out HLA5.out.ok).mono ?_
            rintro e w8 ⟨rfl, hb⟩
            have HSE : Hid ((⟨s3.good.toArray⟩ : ByteArray) = sure xs) := by show _ = _; rw [HSU.out]; rfl
            rw [HSE.out]
            have HBX8 := Lib.hid (HBX7.out.trans (hb.mono HBX7.out.size))
            clear hb
            have HROW8 : Hid (w8.ownsRow w1.heap.size 9 1 (.slice A2 j c2) j (List.replicate j (.string (sure xs)))) := HROW.out.kept (row := none) (grown_of HBX8.out none) (by cases (Value.slice A2 j c2).ownBlock <;> simp)
            have HB8 : Hid (Below w1.heap.size w1 w8) := HBW.out.trans (HBX8.out.mono HBW.out.size)
            obtain ⟨i0, hi, hz0, hz1, hz2⟩ := info_parts str_info
            have HI := Lib.hid hi
            have HZ0 := Lib.hid hz0
            have HZ1 := Lib.hid hz1
            have HZ2 := Lib.hid hz2
            have hws := HB8.out.size
            clear hi hz0 hz1 hz2
            have HKEEP : Hid ((w8.alloc (.cells #[.string (sure xs)] 9)).ownsRow w1.heap.size 9 1 (.slice A2 j c2) j (List.replicate j (.string (sure xs)))) := HROW8.out.alloc _
            obtain ⟨F, hF⟩ : ∃ F, F = sure xs := ⟨_, rfl⟩
            rw [← hF] at HROW8 HKEEP HSE ⊢
            have HF := Lib.hid hF
            clear hF
            go_wp2_with (at_builtin; refine wpList_append_lies _ (by rfl) _ _ _ (by rfl) w1.heap.size 9 i0 (.string ByteArray.empty) 1 16 Try.underlying24 HI.out HZ0.out HZ1.out HZ2.out (by rfl) (by omega) _ _ _ (by rfl) HKEEP.out ⟨w8.heap.size, 0, none⟩ 1 1 [.string F] (by rfl) (by rfl) (fun j u hu => World.news_of_block (heap_alloc_new w8 (.cells #[.string F] 9)) j u (by simpa using hu)) (by simp [Value.oneCell']) (by omega) (by unfold maxLen; omega) (by omega) (by simp; omega) (w8.heap.size + 1) (by simp) ?_)
            intro g' cap' w9 hown hgrow hat hlt2
            have hb9 : Below w1.heap.size w1 w9 := (HB8.out.alloc hws (.cells #[.string F] 9)).grown hgrow (by simp; omega) (fun k hk => (HKEEP.out.lt k hk).1)
            have HB9 := Lib.hid hb9
            have hr9 : w9.ownsRow w1.heap.size 9 1 (.slice (some ⟨g', 0, none⟩) (j + 1) cap') (j + 1) (List.replicate (j + 1) (.string F)) := by
              rw [List.replicate_succ']
              exact hown
            have HR9 := Lib.hid hr9
            clear hown hgrow hat hlt2 hb9 hr9
            go_wp2_with fail
            go_roundw
            case rel => exact ⟨some ⟨g', 0, none⟩, cap', j + 1, rfl, by go_num, by omega, by show World.ownsRow _ _ _ _ _ _ _; rw [← HF.out]; exact HR9.out, HB9.out⟩
            case measure => simp [intOf]; omega
          · have hdb : (d != 0) = true := by rw [bne_iff_ne]; exact hz
            clear hd hz
            go_wp2_with fail
            refine (alive6_any _).mono ?_
            rintro e w4 ⟨rfl, hb⟩
            go_wp2_with fail
            go_ret
            exact ⟨rfl, HBC.out.trans (hb.mono HBC.out.size)⟩
      · obtain rfl : j = 3 := by omega
        have hown := HROW.out
        obtain ⟨g, hA2⟩ : ∃ g, A2 = some ⟨g, 0, none⟩ := by
          rcases hown.2 with ⟨_, h0⟩ | ⟨g, cap, cur, e1, _⟩
          · omega
          · injection e1 with e2
            exact ⟨g, e2⟩
        subst hA2
        have k0 := hown.cellAt 0 (by omega)
        have k1 := hown.cellAt 1 (by omega)
        have k2 := hown.cellAt 2 (by omega)
        rw [show (List.replicate 3 (Value.string (sure xs)))[0]? = some (Value.string (sure xs)) from rfl] at k0
        rw [show (List.replicate 3 (Value.string (sure xs)))[1]? = some (Value.string (sure xs)) from rfl] at k1
        rw [show (List.replicate 3 (Value.string (sure xs)))[2]? = some (Value.string (sure xs)) from rfl] at k2
        generalize sure xs = F at k0 k1 k2
        have he : (F.toList == F.toList) = true := by simp
        have HBW2 : Hid (Below w.heap.size w wo) := HB1.out.trans (HBW.out.mono HB1.out.size)
        have hgl : g < wo.heap.size := (hown.lt g rfl).2
        clear hown
        go_wp2_with fail
        go_region_held3 (fun w' => w'.cell? ⟨g, 0, none⟩ = some (.string F) ∧ w'.cell? ⟨g, 1, none⟩ = some (.string F) ∧ w'.cell? ⟨g, 2, none⟩ = some (.string F))
          (first | assumption | exact ⟨k0, k1, k2⟩ | exact ⟨(hb4.cell (p := ⟨g, 0, none⟩) hgl).trans k0, (hb4.cell (p := ⟨g, 1, none⟩) hgl).trans k1, (hb4.cell (p := ⟨g, 2, none⟩) hgl).trans k2⟩) (first | (go_at_call 11; refine (alive6_any _).mono ?_; rintro e w4 ⟨rfl, hb4⟩))
        all_goals
          simp only [Exit.then]
          go_at_K
          go_wp2_with fail
          go_ret
          exact ⟨rfl, HBW2.out.drew.trans (hb4.mono HBW2.out.size)⟩


/-! ### From the walk to the statement -/
theorem own : ownKnob Try.prog.godebug = none := by kernel_rfl

set_option maxRecDepth 20000 in
theorem contract (H : Type) (enc : TypeId × Value → H) (W : World) (base : Nat) (args : Array Value) (ds gs : List (DataW H)) (before : List MemPlace)
    (hval : ∀ (j : Nat) t v, Try.f4.params[j]? = some t → args[j]? = some v → Value.okWide Try.prog W .any base t v)
    (hW : DataW.Whole enc Try.prog Try.f4.params.toList Rows.bookPiecesSpec.vars false W args.toList ds gs before) :
    Calls Try.prog 4 args W fun e W' => ∃ v, e = .returned v ∧ Rows.bookPiecesSpec.post enc Try.prog Try.f4 false true false false W args v W' := by
  have hW' := hW
  obtain ⟨p, q, hA0, hV, rfl, hfz, hnd⟩ := hW
  have hA : DataW.TrodAll enc Try.prog W 0 (fun _ => true) true Try.f4.params.toList args.toList ds p := hA0
  rw [Try.params4] at hA hval
  obtain ⟨v0, vs0, d0, ds0, p0, q0, hargs, rfl, rfl, h0, r0⟩ := trodAll_cons hA
  obtain ⟨v1, vs1, d1, ds1, p1, q1, rfl, rfl, rfl, h1, r1⟩ := trodAll_cons r0
  obtain ⟨rfl, rfl, rfl⟩ := trodAll_nil r1
  obtain rfl : args = #[v0, v1] := by cases args; simp_all
  obtain ⟨rfl, rfl⟩ := trodVars_none hV
  have k0 := h0
  obtain ⟨fuel0, hf0⟩ := h0
  obtain ⟨xs0, A0, c0, hcs0, hn0, hl0, hb0⟩ := trod_strsc Try.underlying24 Try.underlying9 (by kernel_rfl) hf0
  obtain rfl := slice_of Try.underlying24 (hval 0 24 v0 rfl rfl) hcs0
  obtain ⟨a1, rfl, rfl, rfl, w1⟩ := open_int Try.underlying5 (hval 1 5 v1 rfl rfl) h1
  have b1 : 0 ≤ a1 ∧ a1 ≤ 255 := by simpa [Lit.wf, IntKind.min, IntKind.max, IntKind.signed, IntKind.bits] using w1
  clear hA0
  simp only [List.append_nil] at hW'
  refine (walk W xs0 A0 c0 hl0 hn0 hb0 a1 b1.1 b1.2).mono fun e W' ⟨he, bel⟩ => ?_
  subst he
  exact ⟨_, rfl, _, _, _, [], _, [], hW', trodAll_mk1 (shut_bool Try.underlying4 _), (trodAll_cons_mk (Below.trod laidOut (by kernel_rfl) (of_decide_eq_true (by kernel_rfl)) k0 bel (fun x hx => DataW.trod_lt _ _ _ _ hf0 x hx)) (trodAll_cons_mk (shut_int Try.underlying5 w1) trodAll_mk0)), rfl, bel.frame _, fun h => by cases h⟩

set_option maxRecDepth 100000 in
theorem lifted (os : Os) (started : os.Started) (H : Type) (enc : TypeId × Value → H) :
    ReturnsInHanded {} Try.checked os 4 .any (Rows.bookPiecesSpec.pre6 enc Try.prog Try.f4 Rows.bookPiecesRow.domain false) (Rows.bookPiecesSpec.post enc Try.prog Try.f4 false true false false) := by
  refine returnsInHanded_of_change (C := Try.checked) own started (by kernel_rfl) Try.func4
    (ChangeSpec.witness6 (enc := enc) (C := Try.checked) false ⟨#[], #[.slice none 0 0, .int .u8 0], []⟩ 8 (by kernel_rfl) (by kernel_rfl) (by kernel_rfl) (by kernel_rfl)) ?_
  intro W base args ds gs before hval hW _ _
  exact contract H enc W base args ds gs before hval hW

theorem over : Rows.bookPiecesRow.holds Try.pinned (OpenSpec.ofChange Rows.bookPiecesSpec) :=
  OpenClaim.holds_of_wide 4 Try.f4 rfl rfl rfl rfl rfl rfl rfl ⟨rfl, rfl, rfl, rfl, rfl⟩ rfl rfl rfl rfl rfl (by kernel_rfl) Try.func4 (by kernel_rfl)
    (of_decide_eq_true (by kernel_rfl)) (by unfold Func.isWrapper; first | (rw [if_pos (by decide +kernel)]; kernel_rfl) | (rw [if_neg (by decide +kernel)]; exact ⟨rfl, rfl⟩))
    (fun os started H enc _ => lifted os started H enc)

/-- The statement. -/
theorem proved : Rows.BookPiecesSaid :=
  over

end Go.Proofs.Ytcmllejdnifflaa.bookPieces
