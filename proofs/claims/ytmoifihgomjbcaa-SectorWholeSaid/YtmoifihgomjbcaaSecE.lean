/-
  Contracts of sector's Write.
-/
import Derived.Test.YtmoifihgomjbcaaSecD
namespace Go.Proofs.Ytmoifihgomjbcaa
open Go.RowKit
attribute [local go_sem ↓] Go.wp_at_zero Go.wp_at_succ

/-- Write: done. -/
def Sec.Done (c : Int) (D : Sec.Bl) (s : Sec.St) (w : World) (e : Ending) (w' : World) : Prop := e = .returned (.int .i64 c) ∧ Sec.Behind D s w w'
theorem Sec.Done.same {c : Int} {D : Sec.Bl} {s : Sec.St} {w : World} (h : Sec.At D s w) : Sec.Done c D s w (.returned (.int .i64 c)) w := ⟨rfl, D, h, .refl _ _⟩

set_option maxHeartbeats 1000000 in
theorem sec_write_range (D : Sec.Bl) (s : Sec.St) (w : World) (h : Sec.At D s w) (hs : s.Ok) (k : Int) (t : ByteArray) (hk : k < 0 ∨ (s.n : Int) ≤ k) :
    Calls Try.prog 9 #[D.ptr, .int .i64 k, .string t] w fun e w' => e = .returned (.int .i64 50) ∧ w = w' := by
  have H := Lib.hid h
  have HS := Lib.hid hs
  have HK := Lib.hid hk
  clear h hs hk
  have e : D.ptr = .pointer (some ⟨D.b, 0, none⟩) := rfl
  rw [e]
  clear e
  go_enter Try.func9, Try.ntmps9
  go_wp2_with fail
  refine (sec_is D s _ H.out HS.out).mono ?_
  rintro e w' ⟨rfl, rfl⟩
  go_wp2_with fail
  refine (sec_has_no D s _ H.out k HK.out).mono ?_
  rintro e w' ⟨rfl, rfl⟩
  go_wp2_with fail
  go_ret
  exact ⟨rfl, rfl⟩

set_option maxHeartbeats 1000000 in
theorem sec_write_long (D : Sec.Bl) (s : Sec.St) (w : World) (h : Sec.At D s w) (hs : s.Ok) (k : Nat) (t : ByteArray) (hk : k < s.n) (ht : 128 < t.size) :
    Calls Try.prog 9 #[D.ptr, .int .i64 (k : Int), .string t] w fun e w' => e = .returned (.int .i64 4) ∧ w = w' := by
  have H := Lib.hid h
  have HS := Lib.hid hs
  have hd : decide ((128 : Int) < (t.size : Int)) = true := by simp; omega
  clear h hs ht
  have e : D.ptr = .pointer (some ⟨D.b, 0, none⟩) := rfl
  rw [e]
  clear e
  go_enter Try.func9, Try.ntmps9
  go_wp2_with fail
  refine (sec_is D s _ H.out HS.out).mono ?_
  rintro e w' ⟨rfl, rfl⟩
  go_wp2_with fail
  refine (sec_has_yes D s _ H.out k hk).mono ?_
  rintro e w' ⟨rfl, rfl⟩
  go_wp2_with fail
  go_ret
  exact ⟨rfl, rfl⟩

set_option maxHeartbeats 1000000 in
theorem sec_write_down (D : Sec.Bl) (s : Sec.St) (w : World) (h : Sec.At D s w) (hs : s.Ok) (k : Nat) (t : ByteArray) (hk : k < s.n) (ht : t.size ≤ 128) (hd : s.still = true) :
    Calls Try.prog 9 #[D.ptr, .int .i64 (k : Int), .string t] w fun e w' => e = .returned (.int .i64 51) ∧ w = w' := by
  have H := Lib.hid h
  have HS := Lib.hid hs
  have HD := Lib.hid hd
  have hd : decide ((128 : Int) < (t.size : Int)) = false := by simp; omega
  clear h hs ht
  have e : D.ptr = .pointer (some ⟨D.b, 0, none⟩) := rfl
  rw [e]
  clear e
  go_enter Try.func9, Try.ntmps9
  go_wp2_with fail
  refine (sec_is D s _ H.out HS.out).mono ?_
  rintro e w' ⟨rfl, rfl⟩
  go_wp2_with fail
  refine (sec_has_yes D s _ H.out k hk).mono ?_
  rintro e w' ⟨rfl, rfl⟩
  go_wp2_with fail
  refine (sec_still D s _ H.out true HD.out).mono ?_
  rintro e w' ⟨rfl, rfl⟩
  go_wp2_with fail
  go_ret
  exact ⟨rfl, rfl⟩

set_option maxHeartbeats 2000000 in
set_option maxRecDepth 20000 in
theorem sec_write_ok (D : Sec.Bl) (s : Sec.St) (w : World) (h : Sec.At D s w) (hs : s.Ok) (k : Nat) (t : ByteArray) (hk : k < s.n) (ht : t.size ≤ 128) (hd : s.still = false) (hlim : s.loose.length ≤ 1000000000) :
    Calls Try.prog 9 #[D.ptr, .int .i64 (k : Int), .string t] w (Sec.Done 0 D (s.burn.put k (Sec.pad t.data.toList)) w) := by
  have H := Lib.hid h
  have HS := Lib.hid hs
  have HD := Lib.hid hd
  have HT := Lib.hid ht
  have hd : decide ((128 : Int) < (t.size : Int)) = false := by simp; omega
  clear h hs ht
  have e : D.ptr = .pointer (some ⟨D.b, 0, none⟩) := rfl
  rw [e]
  clear e
  go_enter Try.func9, Try.ntmps9
  go_wp2_with fail
  refine (sec_is D s _ H.out HS.out).mono ?_
  rintro e w' ⟨rfl, rfl⟩
  go_wp2_with fail
  refine (sec_has_yes D s _ H.out k hk).mono ?_
  rintro e w' ⟨rfl, rfl⟩
  go_wp2_with fail
  refine (sec_still D s _ H.out false HD.out).mono ?_
  rintro e w' ⟨rfl, rfl⟩
  go_wp2_with fail
  refine (sec_burn D s _ H.out HS.out HD.out).mono ?_
  rintro e w1 ⟨rfl, hA1, hM1⟩
  have HA := Lib.hid hA1
  have HM := Lib.hid hM1
  clear hA1 hM1
  go_wp2_with fail
  have HPL : Hid ((Sec.pad t.data.toList).length = 128) := Sec.pad_len HT.out
  go_region_held3 (fun w' => w'.os = w1.os) ((first | rfl | assumption | exact hos2))
    (first
      | (go_at_call 24; refine (sec_padded t _ HT.out).mono ?_; rintro e w2 ⟨rfl, hb2⟩; have hos : w2.os = w1.os := hb2.os; have HB := Lib.hid hb2; clear hb2)
      | (go_at_call 23; refine (sec_put D s.burn _ (HA.out.drew.below HB.out) HS.out.burn k hk _ HPL.out hlim).mono ?_; rintro e w3 ⟨rfl, hQ⟩; have hos2 : w3.os = w1.os := (Exists.elim hQ fun _ h => h.2.os).trans hos; have HQ := Lib.hid hQ; clear hQ))
  all_goals
    go_wp2
    go_ret
    obtain ⟨D', q1, q2⟩ := HQ.out
    exact ⟨rfl, D', q1, (HM.out.trans (.of_below ((Below.refl _ _).drew.trans HB.out))).trans q2⟩
end Go.Proofs.Ytmoifihgomjbcaa
