/-
  The contract of code.Decode.
-/
import Derived.Test.YtndgafjnifkghaaCdQ
namespace Go.Proofs.Ytndgafjnifkghaa
open Go.RowKit

namespace Cd
/-! What is read fits the Go types. -/
theorem setI_rng {o : OpV} (h : o.Rng) (i : Nat) {x : Int} (hx : 0 ≤ x ∧ x ≤ 16) : (o.setI i x).Rng := by
  unfold OpV.setI
  split
  · exact ⟨h.k, ⟨by show _ ≤ x; omega, by show x ≤ _; omega⟩, h.a, h.b, h.n⟩
  · split
    · exact ⟨h.k, h.d, ⟨by show _ ≤ x; omega, by show x ≤ _; omega⟩, h.b, h.n⟩
    · exact ⟨h.k, h.d, h.a, ⟨by show _ ≤ x; omega, by show x ≤ _; omega⟩, h.n⟩
theorem rRegs_rng (l : List Nat) (x : OpV × ByteArray × Nat) (h : x.1.Rng) : (rRegs l x).1.Rng := by
  unfold rRegs
  induction l generalizing x with
  | nil => exact h
  | cons i l ih => exact ih _ (setI_rng h i ⟨by omega, by have := stepU_le 16 x.2.1 x.2.2; omega⟩)
theorem rng0 (k : Nat) (hk : k < 256) : (⟨k, 0, 0, 0, 0⟩ : OpV).Rng := by
  have h0 : (-9223372036854775808 : Int) ≤ 0 ∧ (0 : Int) ≤ 9223372036854775807 := by decide
  exact ⟨hk, h0, h0, h0, h0⟩
theorem rOp_rng (s : ByteArray) (f : Nat) : (rOp s f).1.Rng := by
  have h1 : (rHead s f).1.Rng := rRegs_rng _ _ (rng0 _ (Nat.lt_succ_of_le (stepU_le 255 s f)))
  unfold rOp
  split
  · exact ⟨h1.k, h1.d, h1.a, h1.b, Num.zag_range _ (Wire.step_lt _ _)⟩
  · exact h1
theorem rOps_rng (n : Nat) (s : ByteArray) (f : Nat) : ∀ o ∈ (rOps n s f).1, o.Rng := by
  induction n with
  | zero => intro o ho; simp [rOps] at ho
  | succ n ih =>
    intro o ho
    unfold rOps at ho
    rcases List.mem_append.1 ho with h | h
    · exact ih o h
    · rw [List.mem_singleton.1 h]; exact rOp_rng _ _
theorem rFn_rng (s : ByteArray) (f : Nat) : (rFn s f).1.Rng := by
  have h1 := stepU_le 16 s f
  have h2 := stepU_le 16 (rA s f).2.1 (rA s f).2.2
  have h3 := rC_le 64 (rA (rA s f).2.1 (rA s f).2.2).2.1 (rA (rA s f).2.1 (rA s f).2.2).2.2
  refine ⟨⟨by show _ ≤ ((rA s f).1 : Int); omega, ?_⟩, ⟨by show _ ≤ ((rA (rA s f).2.1 (rA s f).2.2).1 : Int); omega, ?_⟩, rOps_rng _ _ _, ?_⟩
  · show ((rA s f).1 : Int) ≤ _
    unfold rA
    omega
  · show ((rA (rA s f).2.1 (rA s f).2.2).1 : Int) ≤ _
    have : (rA (rA s f).2.1 (rA s f).2.2).1 ≤ 16 := h2
    omega
  · show (rOps _ _ _).1.length ≤ _
    rw [rOps_len]
    unfold maxLen
    exact Nat.le_trans h3 (by decide)
theorem rFns_rng (n : Nat) (s : ByteArray) (f : Nat) : ∀ o ∈ (rFns n s f).1, o.Rng := by
  induction n with
  | zero => intro o ho; simp [rFns] at ho
  | succ n ih =>
    intro o ho
    unfold rFns at ho
    rcases List.mem_append.1 ho with h | h
    · exact ih o h
    · rw [List.mem_singleton.1 h]; exact rFn_rng _ _
/-- What Decode tells: the program, the code. -/
def dec (s : ByteArray) : List FnV × Int :=
  if 16384 < s.size then ([], 4)
  else if (Wire.step (Wire.wU 18446744073709551615) s 0).2.2 ≠ 0 then ([], 8)
  else if (Wire.step (Wire.wU 18446744073709551615) s 0).1 ≠ 1 then ([], 100)
  else if Wire.fin (rProg (Wire.step (Wire.wU 18446744073709551615) s 0).2.1 (Wire.step (Wire.wU 18446744073709551615) s 0).2.2).2.1 (rProg (Wire.step (Wire.wU 18446744073709551615) s 0).2.1 (Wire.step (Wire.wU 18446744073709551615) s 0).2.2).2.2 ≠ 0 then ([], 8)
  else if pok (rProg (Wire.step (Wire.wU 18446744073709551615) s 0).2.1 (Wire.step (Wire.wU 18446744073709551615) s 0).2.2).1 then ((rProg (Wire.step (Wire.wU 18446744073709551615) s 0).2.1 (Wire.step (Wire.wU 18446744073709551615) s 0).2.2).1, 0) else ([], 8)
theorem dec_rng (s : ByteArray) : ∀ f ∈ (dec s).1, f.Rng := by
  unfold dec
  split
  · intro f hf; simp at hf
  · split
    · intro f hf; simp at hf
    · split
      · intro f hf; simp at hf
      · split
        · intro f hf; simp at hf
        · split
          · exact rFns_rng _ _ _
          · intro f hf; simp at hf
/-- The rows of a program that was read. -/
structure Rows (w : World) (b : Nat) (A : Option Addr) (c : Nat) (ms : List Fm) : Prop where
  fs : w.ownsRow b 41 3 (.slice A ms.length c) ms.length (mcells ms)
  os : ∀ m ∈ ms, w.ownsRow b 43 5 (.slice m.A m.f.ops.length m.c) m.f.ops.length (ocells m.f.ops)
theorem Rows.keep {w w' : World} {b c : Nat} {A : Option Addr} {ms : List Fm} (h : Rows w b A c ms) (hk : ∀ i, b ≤ i → i < w.heap.size → w'.heap[i]? = w.heap[i]?) : Rows w' b A c ms :=
  ⟨rowKeep h.fs fun i hi => hk i (h.fs.lt i hi).1 (h.fs.lt i hi).2, fun m hm => rowKeep (h.os m hm) fun i hi => hk i ((h.os m hm).lt i hi).1 ((h.os m hm).lt i hi).2⟩
theorem Rows.prog {w : World} {b c : Nat} {A : Option Addr} {ms : List Fm} (h : Rows w b A c ms) : Prog w w.heap.size A ms := ⟨rowLies h.fs, fun m hm => rowLies (h.os m hm)⟩
theorem Rows.base {w : World} {b b2 c : Nat} {A : Option Addr} {ms : List Fm} (h : Rows w b A c ms) (hb : b2 ≤ b) : Rows w b2 A c ms := ⟨rowBase h.fs hb, fun m hm => rowBase (h.os m hm) hb⟩
theorem Rows.nil (w : World) (b : Nat) : Rows w b none 0 [] := ⟨⟨rfl, .inl ⟨rfl, rfl⟩⟩, fun m hm => by simp at hm⟩
theorem results_ct {P : Program} {fn : Func} {p t : Tmp} {ty : TypeId} (h : fn.results = #[.cell p ty, .tmp t]) (tmps : Array Value) (w : World) (g : Nat) (T : TypeId) (cs : Array Value) (fr : Nat × Nat) (d : TypeDesc)
    (hp : tmps.getD p undef = .pointer (some ⟨g, 0, none⟩)) (hg : w.heap[g]? = some (.cells cs T fr))
    (hu : P.underlying ty = some d) (hd : (match d with | .struct _ | .array _ _ => true | _ => false) = true) (hi : (P.info? ty).map (·.size) = some cs.size) (v : Value) (hv : tmps.getD t undef = v) :
    (results fn tmps).run P w = .ok (.tuple #[.agg cs, v]) w := by
  have hp' : tmps[p]?.getD undef = .pointer (some ⟨g, 0, none⟩) := by simpa using hp
  have hv' : tmps[t]?.getD undef = v := by simpa using hv
  simp [results, h, hp', hv', asAddr, run_loadVar_row w g T ty cs fr d hg hu hd hi]
end Cd

set_option maxHeartbeats 1500000 in
set_option maxRecDepth 20000 in
theorem cDecode (s : ByteArray) (hs : s.size ≤ maxLen) (w : World) :
    Calls Try.prog 15 #[.string s] w fun e w' => ∃ (ms : List Cd.Fm) (A : Option Addr) (c : Nat), e = .returned (.tuple #[.agg #[.slice A ms.length c], .int .i64 (Cd.dec s).2]) ∧ Cd.fns ms = (Cd.dec s).1 ∧ Cd.Rows w' w.heap.size A c ms ∧ Below w.heap.size w w' := by
  obtain ⟨W, hW⟩ : ∃ W, W = w.alloc (.cells #[.slice none 0 0] 24) := ⟨_, rfl⟩
  have hb : Below w.heap.size w W := by rw [hW]; exact Cd.fn1 _ _ _
  have hZ : W.heap[w.heap.size]? = some (.cells #[.slice none 0 0] 24 (0, 0)) := by rw [hW]; exact heap_alloc_new w _
  have HB := Lib.hid hb
  have HZ := Lib.hid hZ
  have HI := Lib.hid Cd.pgSize
  have HSZ := Lib.hid hs
  clear hb hZ
  by_cases hbig : 16384 < s.size
  · have HE : Hid (Cd.dec s = ([], 4)) := by show _ = _; unfold Cd.dec; rw [if_pos hbig]
    have HBD := Lib.hid (cbound s hs W)
    rw [if_pos hbig, if_pos hbig] at HBD
    clear hbig hs
    go_enter Try.func15, Try.ntmps15
    go_upto_region 1 with fail
    rw [← hW]
    clear hW
    obtain ⟨Z, hZe⟩ : ∃ Z, Z = w.heap.size := ⟨_, rfl⟩
    rw [← hZe] at HZ ⊢
    have HZE := Lib.hid hZe
    clear hZe
    go_wp2_with fail
    refine HBD.out.mono ?_
    rintro e w2 ⟨rfl, rfl⟩
    go_wp2_with (refine wpList_store_row rfl 24 _ _ rfl Z #[.slice none 0 0] rfl rfl 24 _ HZ.out HI.out rfl (by simp [Value.oneCell']) ?_)
    try simp only [Exit.inBlock, Exit.then]
    refine bodyPost_ret (v := .tuple #[.agg #[.slice none 0 0], .int .i64 4]) (Cd.results_ct Try.results15 _ _ Z 24 #[.slice none 0 0] (0, 0) _ rfl (setRow_heap _ _ _ _ _ _ HZ.out) Try.underlying24 rfl HI.out _ rfl) rfl ⟨[], none, 0, ?_, ?_, Cd.Rows.nil _ _, ?_⟩
    · rw [HE.out]; rfl
    · rw [HE.out]; rfl
    · exact Cd.row_below HB.out (by have := HZE.out; omega) _
  · have HBD := Lib.hid (cbound s hs W)
    rw [if_neg hbig, if_neg hbig] at HBD
    have HNB := Lib.hid hbig
    clear hbig hs
    go_enter Try.func15, Try.ntmps15
    go_upto_region 1 with fail
    rw [← hW]
    clear hW
    obtain ⟨Z, hZe⟩ : ∃ Z, Z = w.heap.size := ⟨_, rfl⟩
    rw [← hZe] at HZ ⊢
    have HZE := Lib.hid hZe
    clear hZe
    go_wp2_with fail
    refine HBD.out.mono ?_
    rintro e w2 ⟨rfl, rfl⟩
    go_wp2_with fail
    refine (new_any s _).mono ?_
    rintro e w2 ⟨rfl, hR2, hb2⟩
    obtain ⟨R, hR⟩ : ∃ R, R = W.heap.size := ⟨_, rfl⟩
    have HRZ : Hid (Z < R) := by show _ < _; rw [hR]; exact Cd.ltH HZ.out
    have HRW : Hid (w.heap.size ≤ R) := by show _ ≤ _; have := HRZ.out; have := HZE.out; omega
    rw [← hR] at hR2 ⊢
    have HR2 := Lib.hid hR2
    have HB2 := Lib.hid (HB.out.trans (hb2.mono HB.out.size))
    have HZ2 : Hid (w2.heap[Z]? = some (.cells #[.slice none 0 0] 24 (0, 0))) := (hb2.block Z (Cd.ltH HZ.out)).trans HZ.out
    clear hR hR2 hb2 HBD
    have HU := Lib.hid (rUint_any 18446744073709551615 R s 0 w2 HR2.out HSZ.out)
    have HDC : Hid (Cd.dec s = if (Wire.step (Wire.wU 18446744073709551615) s 0).2.2 ≠ 0 then ([], 8)
      else if (Wire.step (Wire.wU 18446744073709551615) s 0).1 ≠ 1 then ([], 100)
      else if Wire.fin (Cd.rProg (Wire.step (Wire.wU 18446744073709551615) s 0).2.1 (Wire.step (Wire.wU 18446744073709551615) s 0).2.2).2.1 (Cd.rProg (Wire.step (Wire.wU 18446744073709551615) s 0).2.1 (Wire.step (Wire.wU 18446744073709551615) s 0).2.2).2.2 ≠ 0 then ([], 8)
      else if Cd.pok (Cd.rProg (Wire.step (Wire.wU 18446744073709551615) s 0).2.1 (Wire.step (Wire.wU 18446744073709551615) s 0).2.2).1 then ((Cd.rProg (Wire.step (Wire.wU 18446744073709551615) s 0).2.1 (Wire.step (Wire.wU 18446744073709551615) s 0).2.2).1, 0) else ([], 8)) := by
      show _ = _
      unfold Cd.dec
      rw [if_neg HNB.out]
    have HS1 := Lib.hid (Wire.step_size (wrong := Wire.wU 18446744073709551615) s 0)
    generalize Wire.step (Wire.wU 18446744073709551615) s 0 = y at HU HDC HS1
    obtain ⟨v, s1, f1⟩ := y
    simp only at HU HDC HS1
    go_wp2_with fail
    refine HU.out.mono ?_
    rintro e w3 ⟨rfl, hA3⟩
    have HR3 := Lib.hid hA3.1
    have HB3 : Hid (Below w.heap.size w w3) := HB2.out.grown hA3.2 HB2.out.size (fun k hk => by cases hk; exact HRW.out)
    have HZ3 : Hid (w3.heap[Z]? = some (.cells #[.slice none 0 0] 24 (0, 0))) := (hA3.2.block Z (Cd.ltH HZ2.out) (fun e => by have := Option.some.inj e; have := HRZ.out; omega)).trans HZ2.out
    clear hA3 HU HR2 HB2 HZ2
    go_wp2_with fail
    refine (err_any R s1 f1 w3 HR3.out).mono ?_
    rintro e w4 ⟨rfl, rfl⟩
    by_cases hf : f1 = 0
    · subst hf
      rw [if_neg (by simp)] at HDC
      by_cases hv : v = 1
      · subst hv
        rw [if_neg (by simp)] at HDC
        go_wp2_with fail
        refine (ckinds _).mono ?_
        rintro e w4 ⟨B, rfl, hk⟩
        have HT4 : Hid (Cd.Tbl w4 B) := hk.m
        have HBR : Hid (B ≠ R) := by have := hk.lo; have := HR3.out.lt; show _ ≠ _; omega
        have HR4 := Lib.hid (HR3.out.below hk.bel)
        have HB4 : Hid (Below w.heap.size w w4) := HB3.out.trans (hk.bel.mono HB3.out.size)
        have HZ4 : Hid (w4.heap[Z]? = some (.cells #[.slice none 0 0] 24 (0, 0))) := (hk.bel.block Z (Cd.ltH HZ3.out)).trans HZ3.out
        clear hk HR3 HB3 HZ3
        have HPC := Lib.hid (creadProgram B R HBR.out s1 0 w4 HR4.out (Nat.le_trans HS1.out HSZ.out) HT4.out)
        have HPS := Lib.hid (Nat.le_trans (Cd.rProg_size s1 0) (Nat.le_trans HS1.out HSZ.out))
        have HPRG : Hid (∀ f ∈ (Cd.rProg s1 0).1, f.Rng) := Cd.rFns_rng _ _ _
        have HPLN : Hid ((Cd.rProg s1 0).1.length ≤ 16) := by
          show _ ≤ _
          unfold Cd.rProg
          rw [Cd.rFns_len]
          exact Cd.rC_le 16 _ _
        generalize Cd.rProg s1 0 = x at HPC HPS HPRG HDC HPLN
        obtain ⟨fs, s2, f2⟩ := x
        simp only at HPC HPS HPRG HDC HPLN
        go_wp2_with fail
        refine HPC.out.mono ?_
        rintro e w5 ⟨ms, A, c, rfl, hms, hrf, hro, hA5⟩
        have HMS := Lib.hid hms
        have hr5 : Cd.Rows w5 w4.heap.size A c ms := ⟨hrf, hro⟩
        have HT5 := Lib.hid (Cd.Tbl.grown HT4.out hA5.2 HBR.out)
        have hB5 : Below w.heap.size w w5 := HB4.out.grown hA5.2 HB4.out.size (fun k hk => by cases hk; exact HRW.out)
        have hZ5 : w5.heap[Z]? = some (.cells #[.slice none 0 0] 24 (0, 0)) := (hA5.2.block Z (Cd.ltH HZ4.out) (fun e => by have := Option.some.inj e; have := HRZ.out; omega)).trans HZ4.out
        obtain ⟨P, hP⟩ : ∃ P, P = w5.heap.size := ⟨_, rfl⟩
        obtain ⟨w6, hw6⟩ : ∃ w6, w6 = w5.alloc (.cells #[.slice A ms.length c] 24) := ⟨_, rfl⟩
        have hb6 : Below w5.heap.size w5 w6 := by rw [hw6]; exact Cd.fn1 _ _ _
        have HP6 : Hid (Cd.PBlk w6 P (.slice A ms.length c)) := by show w6.heap[P]? = _; rw [hw6, hP]; exact heap_alloc_new w5 _
        have HR6 := Lib.hid (hA5.1.below hb6)
        have HT6 := Lib.hid (Gm.MapF.below HT5.out hb6 : Cd.Tbl w6 B)
        have HB6 := Lib.hid (hB5.trans (hb6.mono hB5.size))
        have HZ6 : Hid (w6.heap[Z]? = some (.cells #[.slice none 0 0] 24 (0, 0))) := (hb6.block Z (Cd.ltH hZ5)).trans hZ5
        have HRS6 := Lib.hid (hr5.keep (w' := w6) (fun i h1 h2 => hb6.block i h2))
        have HLW : Hid (R < w4.heap.size ∧ R < P ∧ w4.heap.size ≤ P) := ⟨HR4.out.lt, by have := HR4.out.lt; have := hA5.2.size; omega, by have := hA5.2.size; omega⟩
        clear hms hrf hro hA5 hr5 HT5 hB5 hZ5 hb6 HR4 HB4 HZ4 HPC
        go_upto_region 12 with fail
        rw [← hw6, ← hP]
        clear hw6 hP
        go_wp2_with fail
        refine (rEnd_any R s2 f2 w6 HR6.out HPS.out).mono ?_
        rintro e w7 ⟨rfl, hA7⟩
        have HB7 : Hid (Below w.heap.size w w7) := HB6.out.grown hA7.2 HB6.out.size (fun k hk => by cases hk; exact HRW.out)
        have HZ7 : Hid (w7.heap[Z]? = some (.cells #[.slice none 0 0] 24 (0, 0))) := (hA7.2.block Z (Cd.ltH HZ6.out) (fun e => by have := Option.some.inj e; have := HRZ.out; omega)).trans HZ6.out
        have HP7 : Hid (Cd.PBlk w7 P (.slice A ms.length c)) := HP6.out.of_block (hA7.2.block P HP6.out.lt (fun e => by have := Option.some.inj e; have := HLW.out; omega))
        have HT7 := Lib.hid (Cd.Tbl.grown HT6.out hA7.2 HBR.out)
        have HRS7 := Lib.hid (HRS6.out.keep (w' := w7) (fun i h1 h2 => hA7.2.block i h2 (fun e => by have := Option.some.inj e; have := HLW.out; omega)))
        clear hA7 HB6 HZ6 HP6 HT6 HRS6 HR6
        have cP := HP7.out.c0
        by_cases hfin : Wire.fin s2 f2 = 0
        · rw [if_neg (by simpa using hfin)] at HDC
          rw [hfin]
          clear hfin
          have HMAY := Lib.hid (cmay ms (fun m hm => HPRG.out m.f (by rw [← HMS.out]; exact List.mem_map.2 ⟨m, hm, rfl⟩)) (by have h1 := HPLN.out; rw [← HMS.out, Cd.fns_len] at h1; unfold maxLen; omega) A c B w7 HT7.out HRS7.out.prog)
          rw [HMS.out] at HMAY
          cases hp : Cd.pok fs with
          | false =>
            have HE : Hid (Cd.dec s = ([], 8)) := by show _ = _; rw [HDC.out, hp]; rfl
            rw [hp] at HMAY
            clear hp HDC
            go_wp2_with fail
            refine HMAY.out.mono ?_
            rintro e w8 ⟨rfl, hb8⟩
            have HB8 : Hid (Below w.heap.size w w8) := HB7.out.trans (hb8.mono HB7.out.size)
            have HZ8 : Hid (w8.heap[Z]? = some (.cells #[.slice none 0 0] 24 (0, 0))) := (hb8.block Z (Cd.ltH HZ7.out)).trans HZ7.out
            clear hb8
            go_wp2_with (refine wpList_store_row rfl 24 _ _ rfl Z #[.slice none 0 0] rfl rfl 24 _ HZ8.out HI.out rfl (by simp [Value.oneCell']) ?_)
            try simp only [Exit.inBlock, Exit.then]
            refine bodyPost_ret (v := .tuple #[.agg #[.slice none 0 0], .int .i64 8]) (Cd.results_ct Try.results15 _ _ Z 24 #[.slice none 0 0] (0, 0) _ rfl (setRow_heap _ _ _ _ _ _ HZ8.out) Try.underlying24 rfl HI.out _ rfl) rfl ⟨[], none, 0, ?_, ?_, Cd.Rows.nil _ _, ?_⟩
            · rw [HE.out]; rfl
            · rw [HE.out]; rfl
            · exact Cd.row_below HB8.out (by have := HZE.out; omega) _
          | true =>
            have HE : Hid (Cd.dec s = (fs, 0)) := by show _ = _; rw [HDC.out, hp]; rfl
            rw [hp] at HMAY
            clear hp HDC
            go_wp2_with fail
            refine HMAY.out.mono ?_
            rintro e w8 ⟨rfl, hb8⟩
            have HB8 : Hid (Below w.heap.size w w8) := HB7.out.trans (hb8.mono HB7.out.size)
            have HZ8 : Hid (w8.heap[Z]? = some (.cells #[.slice none 0 0] 24 (0, 0))) := (hb8.block Z (Cd.ltH HZ7.out)).trans HZ7.out
            have HP8 : Hid (Cd.PBlk w8 P (.slice A ms.length c)) := HP7.out.of_block (hb8.block P HP7.out.lt)
            have HRS8 := Lib.hid (HRS7.out.keep (w' := w8) (fun i h1 h2 => hb8.block i h2))
            clear hb8
            go_wp2_with (first
              | refine wpList_load_row rfl 24 (.tmp 9) rfl P rfl 24 #[.slice A ms.length c] (0, 0) _ HP8.out Try.underlying24 rfl HI.out ?_
              | refine wpList_store_row rfl 24 (.tmp 2) (.tmp 46) rfl Z #[.slice A ms.length c] rfl rfl 24 _ HZ8.out HI.out rfl (by simp [Value.oneCell']) ?_)
            try simp only [Exit.inBlock, Exit.then]
            refine bodyPost_ret (v := .tuple #[.agg #[.slice A ms.length c], .int .i64 0]) (Cd.results_ct Try.results15 _ _ Z 24 #[.slice A ms.length c] (0, 0) _ rfl (setRow_heap _ _ _ _ _ _ HZ8.out) Try.underlying24 rfl HI.out _ rfl) rfl ⟨ms, A, c, ?_, ?_, ?_, ?_⟩
            · rw [HE.out]
            · rw [HE.out]; exact HMS.out
            · exact (HRS8.out.keep (w' := w8.setRow Z #[.slice A ms.length c]) (fun i h1 h2 => setRow_other w8 Z i _ (by have := HLW.out; have := HRZ.out; omega))).base (by have := HLW.out; have := HRW.out; omega)
            · exact Cd.row_below HB8.out (by have := HZE.out; omega) _
        · have HE : Hid (Cd.dec s = ([], 8)) := by show _ = _; rw [HDC.out, if_pos hfin]
          have hfi : ((Wire.fin s2 f2 : Int) == 0) = false := by simp; omega
          have hfn : ((Wire.fin s2 f2 : Int) != 0) = true := by simp; omega
          clear hfin HDC cP
          generalize Wire.fin s2 f2 = ff at hfi hfn ⊢
          go_wp2_with (refine wpList_store_row rfl 24 _ _ rfl Z #[.slice none 0 0] rfl rfl 24 _ HZ7.out HI.out rfl (by simp [Value.oneCell']) ?_)
          try simp only [Exit.inBlock, Exit.then]
          refine bodyPost_ret (v := .tuple #[.agg #[.slice none 0 0], .int .i64 8]) (Cd.results_ct Try.results15 _ _ Z 24 #[.slice none 0 0] (0, 0) _ rfl (setRow_heap _ _ _ _ _ _ HZ7.out) Try.underlying24 rfl HI.out _ rfl) rfl ⟨[], none, 0, ?_, ?_, Cd.Rows.nil _ _, ?_⟩
          · rw [HE.out]; rfl
          · rw [HE.out]; rfl
          · exact Cd.row_below HB7.out (by have := HZE.out; omega) _
      · have HE : Hid (Cd.dec s = ([], 100)) := by show _ = _; rw [HDC.out, if_pos hv]
        have hvi : ((v : Int) == 1) = false := by simp; omega
        clear hv HDC
        go_wp2_with (refine wpList_store_row rfl 24 _ _ rfl Z #[.slice none 0 0] rfl rfl 24 _ HZ3.out HI.out rfl (by simp [Value.oneCell']) ?_)
        try simp only [Exit.inBlock, Exit.then]
        refine bodyPost_ret (v := .tuple #[.agg #[.slice none 0 0], .int .i64 100]) (Cd.results_ct Try.results15 _ _ Z 24 #[.slice none 0 0] (0, 0) _ rfl (setRow_heap _ _ _ _ _ _ HZ3.out) Try.underlying24 rfl HI.out _ rfl) rfl ⟨[], none, 0, ?_, ?_, Cd.Rows.nil _ _, ?_⟩
        · rw [HE.out]; rfl
        · rw [HE.out]; rfl
        · exact Cd.row_below HB3.out (by have := HZE.out; omega) _
    · have HE : Hid (Cd.dec s = ([], 8)) := by show _ = _; rw [HDC.out, if_pos hf]
      have hfi : ((f1 : Int) == 0) = false := by simp; omega
      clear hf HDC
      go_wp2_with (refine wpList_store_row rfl 24 _ _ rfl Z #[.slice none 0 0] rfl rfl 24 _ HZ3.out HI.out rfl (by simp [Value.oneCell']) ?_)
      try simp only [Exit.inBlock, Exit.then]
      refine bodyPost_ret (v := .tuple #[.agg #[.slice none 0 0], .int .i64 8]) (Cd.results_ct Try.results15 _ _ Z 24 #[.slice none 0 0] (0, 0) _ rfl (setRow_heap _ _ _ _ _ _ HZ3.out) Try.underlying24 rfl HI.out _ rfl) rfl ⟨[], none, 0, ?_, ?_, Cd.Rows.nil _ _, ?_⟩
      · rw [HE.out]; rfl
      · rw [HE.out]; rfl
      · exact Cd.row_below HB3.out (by have := HZE.out; omega) _
end Go.Proofs.Ytndgafjnifkghaa
