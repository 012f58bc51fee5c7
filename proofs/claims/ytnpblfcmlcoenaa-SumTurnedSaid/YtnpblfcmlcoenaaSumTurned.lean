/-
  What is proved: for every string, every uint16 and every uint32 the law SumTurned of layer 2 returns true and changes nothing: bits which are turned within 32 in a row change the sum. No condition.
-/
import Derived.Test.YtnpblfcmlcoenaaRows
import Derived.Test.YtnpblfcmlcoenaaSumB
import Derived.BigQuiet
import Derived.Deep.RegionWith
import Derived.Deep.DrawnRows
import Derived.Deep.RegionHeld3
import Derived.WalkSmall
import Derived.Lib.ConvBytes
import Derived.ProofKit
import Derived.OpenShut
import Derived.ShutString
namespace Go.Proofs.Ytnpblfcmlcoenaa.sumTurned
open Go.ChangeShapes Go.WideShapes Go.ChangeAt Go.RowKit
open Go.ChangeMaps (open_string shut_string)

/-- The bytes of l at the head of block B. -/
def Held (B : Nat) (l : List UInt8) (w : World) : Prop := ∀ i (h : i < l.length), w.cell? ⟨B, i, none⟩ = some (.int .u8 (l[i].toNat : Int)) ∧ w.frozen? ⟨B, i, none⟩ = false

theorem Held.set {B : Nat} {l : List UInt8} {w : World} (h : Held B l w) (q : Nat) (hq : q < l.length) (x : UInt8) (v : Int) (hv : v = (x.toNat : Int)) : Held B (l.set q x) (w.setCell ⟨B, q, none⟩ (.int .u8 v)) := by
  intro i hi
  have hi' : i < l.length := by simpa using hi
  refine ⟨?_, by rw [World.frozen?_setCell]; exact (h i hi').2⟩
  by_cases e : i = q
  · subst e
    rw [World.cell?_setCell_same _ _ _ (h i hi').1, hv, List.getElem_set_self]
  · rw [World.cell?_setCell_other _ _ _ _ (by intro hh; injection hh with _ h2 _; exact e h2.symm), List.getElem_set_ne (fun h => e h.symm)]
    exact (h i hi').1

theorem Held.start (w : World) (t : TypeId) (s : ByteArray) : Held w.heap.size s.data.toList (Lib.bytesWorld w t s) := by
  intro i hi
  have hi' : i < s.size := by simpa using hi
  refine ⟨?_, ?_⟩
  · rw [Lib.bytesWorld_cell w t s i hi']
    simp [List.getD, hi']
  · have : i < (Lib.bytesCells w t s).size := by simp [Lib.bytesCells]; omega
    simp [World.frozen?, Lib.bytesWorld_at_new]
    omega

theorem Held.conv {B : Nat} {l : List UInt8} {w : World} (h : Held B l w) (n cap : Nat) (hn : l.length = n) :
    (convert 33 9 (.slice (some ⟨B, 0, none⟩) n cap)).run Try.prog w = .ok (.string ⟨l.toArray⟩) w := by
  subst hn
  exact run_convert_bytes_back w 33 9 5 ⟨B, 0, none⟩ cap l Try.underlying33 Try.underlying5 Try.underlying9 (fun j hj => by
    have : (⟨B, 0, none⟩ : Addr).add j = ⟨B, j, none⟩ := by unfold Addr.add; split <;> simp_all
    rw [this]; exact (h j hj).1)

theorem below_bytes (w : World) (t : TypeId) (s : ByteArray) : Below w.heap.size w (Lib.bytesWorld w t s) :=
  ⟨rfl, rfl, rfl, by rw [Lib.bytesWorld_size]; omega, fun j hj => Lib.bytesWorld_at_old w t s j hj⟩

theorem mod_hit (b i : Nat) (h : b / 2 ^ i % 2 = 1) : b % 2 ^ (i + 1) ≠ 0 := by
  have e : b % 2 ^ (i + 1) = 2 ^ i + b % 2 ^ i := by
    rw [Nat.pow_succ, Nat.mod_mul, h]; omega
  have := Nat.two_pow_pos i
  omega

theorem bit_and (b i : Nat) (h : b < 4294967296) : bits BinOp.and IntKind.u32 ((b : Int) / 2 ^ i) 1 = ((b / 2 ^ i % 2 : Nat) : Int) := by
  have e : (b : Int) / 2 ^ i = ((b / 2 ^ i : Nat) : Int) := by simp
  have hl : b / 2 ^ i < 4294967296 := Nat.lt_of_le_of_lt (Nat.div_le_self _ _) h
  rw [e]
  generalize b / 2 ^ i = q at hl
  have := bits_mask .u32 32 (by decide) wraps_u32 1 (by omega) (q : Int) (by omega) (by omega)
  simpa using this

theorem bit_xor (v : UInt8) (r : Nat) (h : r < 8) : bits BinOp.xor IntKind.u8 (v.toNat : Int) (2 ^ r % 256) = ((v ^^^ UInt8.ofNat (2 ^ r)).toNat : Int) := by
  have hr : (2 : Nat) ^ r < 256 := Nat.lt_of_lt_of_le (Nat.pow_lt_pow_right (by omega) h) (by decide)
  have e : (2 : Int) ^ r % 256 = ((2 ^ r : Nat) : Int) := by
    have : (2 : Int) ^ r = ((2 ^ r : Nat) : Int) := by simp
    rw [this]
    generalize (2 : Nat) ^ r = p at hr
    omega
  rw [e, u8_xor_nat _ _ v.toNat_lt hr, UInt8.toNat_xor, UInt8.toNat_ofNat_of_lt' hr]

theorem bit_val (r : Nat) (h : r < 8) : (UInt8.ofNat (2 ^ r)).toNat = 2 ^ r := by
  have hr : (2 : Nat) ^ r < 256 := Nat.lt_of_lt_of_le (Nat.pow_lt_pow_right (by omega) h) (by decide)
  rw [UInt8.toNat_ofNat_of_lt' hr]

set_option maxRecDepth 20000 in
set_option maxHeartbeats 4000000 in
theorem walk (s : ByteArray) (hs : s.size ≤ maxLen) (x : Int) (x0 : 0 ≤ x) (x1 : x ≤ 65535) (y : Int) (y0 : 0 ≤ y) (y1 : y ≤ 4294967295) (w : World) :
    Calls Try.prog 5 #[.string s, .int .u16 x, .int .u32 y] w fun e w' => e = .returned (.bool true) ∧ Below w.heap.size w w' := by
  have hm : (s.size : Int) ≤ 9223372036854775807 := by unfold maxLen at hs; omega
  obtain ⟨b, rfl⟩ := Int.eq_ofNat_of_zero_le y0
  by_cases hbig : (s.size : Int) > 4096
  · go_enter Try.func5, Try.ntmps5
    go_wp2_with fail
    refine (alive_any _).mono ?_
    rintro e w1 ⟨rfl, hb1⟩
    go_wp2_with fail
    go_ret
    exact ⟨rfl, hb1⟩
  by_cases hz : s.size = 0
  · have hz1 : ((s.size : Int) == 0) = true := by simp [hz]
    have hle : (s.size : Int) ≤ 4096 := by omega
    clear hz
    go_enter Try.func5, Try.ntmps5
    go_wp2_with fail
    refine (alive_any _).mono ?_
    rintro e w1 ⟨rfl, hb1⟩
    go_wp2_with fail
    go_ret
    exact ⟨rfl, hb1⟩
  have hz1 : ((s.size : Int) == 0) = false := by rw [beq_eq_false_iff_ne]; omega
  by_cases hy : b = 0
  · have hy1 : ((b : Int) == 0) = true := by simp [hy]
    clear hy
    go_enter Try.func5, Try.ntmps5
    go_wp2_with fail
    refine (alive_any _).mono ?_
    rintro e w1 ⟨rfl, hb1⟩
    go_wp2_with fail
    go_ret
    exact ⟨rfl, hb1⟩
  have hy1 : ((b : Int) == 0) = false := by simp; omega
  obtain ⟨k, hk, hkn⟩ : ∃ k : Nat, x % (8 * (s.size : Int)) = (k : Int) ∧ k < 8 * s.size :=
    ⟨(x % (8 * (s.size : Int))).toNat, by have := Int.emod_nonneg x (b := 8 * (s.size : Int)) (by omega); omega, by have := Int.emod_lt_of_pos x (b := 8 * (s.size : Int)) (by omega); omega⟩
  have kc := fun W : World => Lib.run_convert_string_bytes (P := Try.prog) W 9 33 5 s Try.underlying9 Try.underlying33 Try.underlying5
  go_enter Try.func5, Try.ntmps5
  go_wp2_with fail
  clear kc hk
  have h0 := Held.start w 5 s
  have hb0 := below_bytes w 5 s
  revert h0 hb0
  generalize Lib.bytesWorld w 5 s = w0
  intro h0 hb0
  go_loopg [9, 10] 33 (fun g t a wr => ∃ (i : Nat) (l : List UInt8), g = 33 - i ∧ i ≤ 32 ∧ k + i ≤ 8 * s.size ∧ a = .int .i64 i ∧ (∃ T : Bool, t = .bool T ∧ T = decide (b % 2 ^ i ≠ 0)) ∧ l.length = s.size ∧
    Crc.run Crc.M l = Crc.run Crc.M s.data.toList ^^^ Crc.Rn (8 * s.size - k) (b % 2 ^ i) ∧ Held w.heap.size l wr ∧ Below w.heap.size w wr)
  case atStart => exact ⟨0, s.data.toList, rfl, by omega, by omega, rfl, ⟨false, rfl, by simp [Nat.mod_one]⟩, by simp, by simp [Nat.mod_one, Crc.Rn_zero], h0, hb0⟩
  case round =>
    clear h0 hb0
    obtain ⟨i, l, rfl, hi, hki, rfl, ⟨T, rfl, hT⟩, hl, hrun, hh, hbel⟩ := hrel
    have HT := Lib.hid hT
    clear hT
    have HL := Lib.hid hl
    have HR := Lib.hid hrun
    have HH := Lib.hid hh
    clear hl hrun hh
    by_cases hlt : i < 32 ∧ k + i < 8 * s.size
    · obtain ⟨hlt1, hlt2⟩ := hlt
      have hki' : (k : Int) + (i : Int) < 8 * (s.size : Int) := by omega
      have hn := HL.out
      have hq : (k + i) / 8 < l.length := by omega
      by_cases hb : b / 2 ^ i % 2 = 1
      · have hbit : (bits BinOp.and IntKind.u32 ((b : Int) / 2 ^ i) 1 == 1) = true := by rw [bit_and b i (by omega), hb]; rfl
        obtain ⟨hc, hf⟩ := HH.out _ hq
        clear hn
        go_wp2_with fail
        go_roundg (33 - (i + 1))
        case measure => omega
        case rel =>
          refine ⟨i + 1, _, rfl, by omega, by omega, by go_num, ⟨true, rfl, ?_⟩, ?_, Crc.turn_step Crc.M (8 * s.size) k i b l s.data.toList (by rw [HL.out]) hlt2 hb HR.out (UInt8.ofNat (2 ^ ((k + i) % 8))) (bit_val _ (by omega)) hq,
            HH.out.set _ hq _ _ (bit_xor _ _ (by omega)), hbel.setCell (Nat.le_refl _) _⟩
          · symm; rw [decide_eq_true_iff]; exact mod_hit b i hb
          · rw [List.length_set]; exact HL.out
      · have hbit : (bits BinOp.and IntKind.u32 ((b : Int) / 2 ^ i) 1 == 1) = false := by rw [bit_and b i (by omega), show b / 2 ^ i % 2 = 0 by omega]; rfl
        clear hn
        go_wp2_with fail
        go_roundg (33 - (i + 1))
        case measure => omega
        case rel => exact ⟨i + 1, l, rfl, by omega, by omega, by go_num, ⟨T, rfl, by rw [Crc.mod_succ_none b i (by omega)]; exact HT.out⟩, HL.out, by rw [Crc.mod_succ_none b i (by omega)]; exact HR.out, HH.out, hbel⟩
    · have hlen : (⟨l.toArray⟩ : ByteArray).size ≤ maxLen := by
        show l.toArray.size ≤ maxLen
        rw [List.size_toArray, HL.out]; exact hs
      have hconv := HH.out.conv s.size (grownCap w s.size 0 5) HL.out
      have hne : (((Crc.on 0 l : Nat) : Int) != ((Crc.on 0 s.data.toList : Nat) : Int)) = T := by
        rw [HT.out]
        have h := Crc.turned_iff (n := 8 * s.size) (k := k) Crc.M l s.data.toList (m := b % 2 ^ i) (Nat.lt_of_le_of_lt (Nat.mod_le _ _) (by omega)) HR.out
        have e1 : Crc.on 0 l = Crc.run Crc.M l ^^^ Crc.M := by unfold Crc.on; rw [Nat.zero_xor]
        have e2 : Crc.on 0 s.data.toList = Crc.run Crc.M s.data.toList ^^^ Crc.M := by unfold Crc.on; rw [Nat.zero_xor]
        rw [← e1, ← e2] at h
        rw [bne, Bool.eq_iff_iff]
        simp only [Bool.not_eq_true', beq_eq_false_iff_ne, decide_eq_true_iff]
        rw [← h]
        omega
      clear HT HR HL HH
      by_cases hi32 : i < 32
      · have hki' : ¬ (k : Int) + (i : Int) < 8 * (s.size : Int) := by omega
        clear hlt
        go_wp2_with fail
        refine (of_any _ _ hlen).mono ?_
        rintro e w1 ⟨rfl, hb1⟩
        go_wp2_with fail
        refine (of_any _ _ hs).mono ?_
        rintro e w2 ⟨rfl, hb2⟩
        go_wp2_with fail
        refine (alive_any _).mono ?_
        rintro e w3 ⟨rfl, hb3⟩
        go_wp2_with fail
        go_ret
        have s1 := hb1.size
        have s2 := hb2.size
        have s0 := hbel.size
        exact ⟨rfl, ((hbel.trans (hb1.mono s0)).trans (hb2.mono (by omega))).trans (hb3.mono (by omega))⟩
      · clear hlt
        go_wp2_with fail
        refine (of_any _ _ hlen).mono ?_
        rintro e w1 ⟨rfl, hb1⟩
        go_wp2_with fail
        refine (of_any _ _ hs).mono ?_
        rintro e w2 ⟨rfl, hb2⟩
        go_wp2_with fail
        refine (alive_any _).mono ?_
        rintro e w3 ⟨rfl, hb3⟩
        go_wp2_with fail
        go_ret
        have s1 := hb1.size
        have s2 := hb2.size
        have s0 := hbel.size
        exact ⟨rfl, ((hbel.trans (hb1.mono s0)).trans (hb2.mono (by omega))).trans (hb3.mono (by omega))⟩

/-! ### From the walk to the statement -/
theorem own : ownKnob Try.prog.godebug = none := by kernel_rfl

theorem contract (H : Type) (enc : TypeId × Value → H) (W : World) (base : Nat) (args : Array Value) (ds gs : List (DataW H)) (before : List MemPlace)
    (hval : ∀ (j : Nat) t v, Try.f5.params[j]? = some t → args[j]? = some v → Value.okWide Try.prog W .any base t v)
    (hW : DataW.Whole enc Try.prog Try.f5.params.toList Rows.sumTurnedSpec.vars false W args.toList ds gs before) :
    Calls Try.prog 5 args W fun e W' => ∃ v, e = .returned v ∧ Rows.sumTurnedSpec.post enc Try.prog Try.f5 false true false false W args v W' := by
  have hW' := hW
  obtain ⟨p, q, hA0, hV, rfl, hfz, hnd⟩ := hW
  have hA : DataW.TrodAll enc Try.prog W 0 (fun _ => true) true Try.f5.params.toList args.toList ds p := hA0
  rw [Try.params5] at hA hval
  obtain ⟨v0, vs0, d0, ds0, p0, q0, hargs, rfl, rfl, h0, r0⟩ := trodAll_cons hA
  obtain ⟨v1, vs1, d1, ds1, p1, q1, rfl, rfl, rfl, h1, r1⟩ := trodAll_cons r0
  obtain ⟨v2, vs2, d2, ds2, p2, q2, rfl, rfl, rfl, h2, r2⟩ := trodAll_cons r1
  obtain ⟨rfl, rfl, rfl⟩ := trodAll_nil r2
  obtain rfl : args = #[v0, v1, v2] := by cases args; simp_all
  obtain ⟨rfl, rfl⟩ := trodVars_none hV
  obtain ⟨a0, rfl, rfl, rfl, w0⟩ := open_string Try.underlying9 (hval 0 9 v0 rfl rfl) h0
  obtain ⟨a1, rfl, rfl, rfl, w1⟩ := open_int Try.underlying32 (hval 1 32 v1 rfl rfl) h1
  have b1 : 0 ≤ a1 ∧ a1 ≤ 65535 := by simpa [Lit.wf, IntKind.min, IntKind.max, IntKind.signed, IntKind.bits] using w1
  obtain ⟨a2, rfl, rfl, rfl, w2⟩ := open_int Try.underlying22 (hval 2 22 v2 rfl rfl) h2
  have b2 : 0 ≤ a2 ∧ a2 ≤ 4294967295 := by simpa [Lit.wf, IntKind.min, IntKind.max, IntKind.signed, IntKind.bits] using w2
  clear hA0
  simp only [List.append_nil] at hW'
  refine (walk a0 w0 a1 b1.1 b1.2 a2 b2.1 b2.2 W).mono fun e W' ⟨he, bel⟩ => ?_
  subst he
  exact ⟨_, rfl, _, _, _, [], _, [], hW', trodAll_mk1 (shut_bool Try.underlying4 _), (trodAll_cons_mk (shut_string Try.underlying9 w0) (trodAll_cons_mk (shut_int Try.underlying32 w1) (trodAll_cons_mk (shut_int Try.underlying22 w2) trodAll_mk0))), rfl, bel.frame _, fun h => by cases h⟩

set_option maxRecDepth 100000 in
theorem lifted (os : Os) (started : os.Started) (H : Type) (enc : TypeId × Value → H) :
    ReturnsInHanded {} Try.checked os 5 .any (Rows.sumTurnedSpec.pre6 enc Try.prog Try.f5 Rows.sumTurnedRow.domain false) (Rows.sumTurnedSpec.post enc Try.prog Try.f5 false true false false) := by
  refine returnsInHanded_of_change (C := Try.checked) own started (by kernel_rfl) Try.func5
    (ChangeSpec.witness6 (enc := enc) (C := Try.checked) false ⟨#[], #[.string ByteArray.empty, .int .u16 0, .int .u32 0], []⟩ 8 (by kernel_rfl) (by kernel_rfl) (by kernel_rfl) (by kernel_rfl)) ?_
  intro W base args ds gs before hval hW _ _
  exact contract H enc W base args ds gs before hval hW

theorem over : Rows.sumTurnedRow.holds Try.pinned (OpenSpec.ofChange Rows.sumTurnedSpec) :=
  OpenClaim.holds_of_wide 5 Try.f5 rfl rfl rfl rfl rfl rfl rfl ⟨rfl, rfl, rfl, rfl, rfl⟩ rfl rfl rfl rfl rfl (by kernel_rfl) Try.func5 (by kernel_rfl)
    (of_decide_eq_true (by kernel_rfl)) (by unfold Func.isWrapper; first | (rw [if_pos (by decide +kernel)]; kernel_rfl) | (rw [if_neg (by decide +kernel)]; exact ⟨rfl, rfl⟩))
    (fun os started H enc _ => lifted os started H enc)

/-- The statement. -/
theorem proved : Rows.SumTurnedSaid :=
  over

end Go.Proofs.Ytnpblfcmlcoenaa.sumTurned
