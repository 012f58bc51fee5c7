/-
  The sum CRC-32C, as plain facts: what one power more leaves (R), texts (run), products (P).
-/
namespace Go.Proofs.YtpmhpibbdcifnaaGreat.Crc

def D : Nat := 2197175160
def M : Nat := 4294967295
def R (r : Nat) : Nat := r / 2 ^^^ (if r % 2 = 1 then D else 0)

theorem xor_mod_two (a b : Nat) : (a ^^^ b) % 2 = (a + b) % 2 := by
  have h := Nat.testBit_xor a b 0
  simp only [Nat.testBit_zero] at h
  rcases Nat.mod_two_eq_zero_or_one a with ha | ha <;> rcases Nat.mod_two_eq_zero_or_one b with hb | hb <;>
    rcases Nat.mod_two_eq_zero_or_one (a ^^^ b) with hc | hc <;> simp [ha, hb, hc] at h <;> omega

theorem xor_div_two (a b : Nat) : (a ^^^ b) / 2 = a / 2 ^^^ b / 2 := by
  apply Nat.eq_of_testBit_eq
  intro i
  rw [Nat.testBit_xor, Nat.testBit_div_two, Nat.testBit_div_two, Nat.testBit_div_two, Nat.testBit_xor]

theorem xor4 (a b c d : Nat) : (a ^^^ b) ^^^ (c ^^^ d) = (a ^^^ c) ^^^ (b ^^^ d) := by
  rw [Nat.xor_assoc, Nat.xor_assoc, ← Nat.xor_assoc b c d, Nat.xor_comm b c, Nat.xor_assoc c b d]

theorem R_xor (a b : Nat) : R (a ^^^ b) = R a ^^^ R b := by
  unfold R
  rw [xor_mod_two, xor_div_two, xor4]
  congr 1
  rcases Nat.mod_two_eq_zero_or_one a with ha | ha <;> rcases Nat.mod_two_eq_zero_or_one b with hb | hb <;> simp [Nat.add_mod, ha, hb]

theorem R_zero : R 0 = 0 := by decide
theorem R_lt {r : Nat} (h : r < 4294967296) : R r < 4294967296 := by
  unfold R
  have h1 : r / 2 < 2 ^ 32 := by omega
  have h2 : (if r % 2 = 1 then D else 0) < 2 ^ 32 := by split <;> decide
  exact Nat.xor_lt_two_pow h1 h2
theorem R_two (y : Nat) : R (2 * y) = y := by
  unfold R
  rw [if_neg (by omega), Nat.xor_zero]
  omega
theorem R_inj {r : Nat} (h : r < 4294967296) (e : R r = 0) : r = 0 := by
  unfold R at e
  have hx : r / 2 = (if r % 2 = 1 then D else 0) := by
    have := congrArg (· ^^^ (if r % 2 = 1 then D else 0)) e
    simpa [Nat.xor_assoc] using this
  split at hx
  · unfold D at hx; omega
  · omega

def Rn : Nat → Nat → Nat
  | 0, r => r
  | k + 1, r => Rn k (R r)

theorem Rn_add (j k r : Nat) : Rn (j + k) r = Rn j (Rn k r) := by
  induction k generalizing r with
  | zero => rfl
  | succ k ih => exact ih (R r)
theorem Rn_R (k r : Nat) : Rn k (R r) = R (Rn k r) := by
  rw [show Rn k (R r) = Rn (k + 1) r from rfl, Nat.add_comm, Rn_add]; rfl
theorem Rn_xor (k a b : Nat) : Rn k (a ^^^ b) = Rn k a ^^^ Rn k b := by
  induction k generalizing a b with
  | zero => rfl
  | succ k ih => show Rn k (R (a ^^^ b)) = _; rw [R_xor, ih]; rfl
theorem Rn_zero (k : Nat) : Rn k 0 = 0 := by
  induction k with
  | zero => rfl
  | succ k ih => show Rn k (R 0) = 0; rw [R_zero, ih]
theorem Rn_lt {r : Nat} (k : Nat) (h : r < 4294967296) : Rn k r < 4294967296 := by
  induction k generalizing r with
  | zero => exact h
  | succ k ih => exact ih (R_lt h)
theorem Rn_inj {r : Nat} (k : Nat) (h : r < 4294967296) (e : Rn k r = 0) : r = 0 := by
  induction k generalizing r with
  | zero => exact e
  | succ k ih => exact R_inj h (ih (R_lt h) e)
theorem Rn_pow (k y : Nat) : Rn k (2 ^ k * y) = y := by
  induction k generalizing y with
  | zero => simp [Rn]
  | succ k ih =>
    show Rn k (R (2 ^ (k + 1) * y)) = y
    rw [Nat.pow_succ, Nat.mul_comm (2 ^ k) 2, Nat.mul_assoc, R_two, ih]

/-- What a byte leaves, and all above it. -/
def T (x : Nat) : Nat := Rn 8 x
theorem T_lt {x : Nat} (h : x < 256) : T x < 4294967296 := Rn_lt 8 (by omega)
theorem T_xor (a b : Nat) : T (a ^^^ b) = T a ^^^ T b := Rn_xor 8 a b

theorem split_xor (k r : Nat) : r = 2 ^ k * (r / 2 ^ k) ^^^ r % 2 ^ k := by
  apply Nat.eq_of_testBit_eq
  intro i
  rw [Nat.testBit_xor, Nat.testBit_mod_two_pow, Nat.testBit_two_pow_mul, Nat.testBit_div_two_pow]
  by_cases h : i < k
  · simp [h, Nat.not_le.2 h]
  · have h' : k ≤ i := by omega
    simp [h, h']

theorem Rn8_split (r : Nat) : Rn 8 r = r / 256 ^^^ T (r % 256) := by
  conv => lhs; rw [split_xor 8 r]
  rw [Rn_xor, Rn_pow]
  rfl

/-- One byte more, by the table. -/
theorem byte_step (r b : Nat) : r / 256 ^^^ T (r % 256 ^^^ b) = Rn 8 (r ^^^ b) := by
  rw [T_xor, ← Nat.xor_assoc, ← Rn8_split, Rn_xor]; rfl

def run : Nat → List UInt8 → Nat
  | r, [] => r
  | r, b :: l => run (Rn 8 (r ^^^ b.toNat)) l
def on (a : Nat) (s : List UInt8) : Nat := run (a ^^^ M) s ^^^ M
def join (a b n : Nat) : Nat := Rn (8 * n) a ^^^ b

theorem run_append (r : Nat) (s t : List UInt8) : run r (s ++ t) = run (run r s) t := by
  induction s generalizing r with
  | nil => rfl
  | cons b s ih => exact ih _
theorem run_xor (r x : Nat) (s : List UInt8) : run (r ^^^ x) s = run r s ^^^ Rn (8 * s.length) x := by
  induction s generalizing r x with
  | nil => rfl
  | cons b s ih =>
    show run (Rn 8 (r ^^^ x ^^^ b.toNat)) s = run (Rn 8 (r ^^^ b.toNat)) s ^^^ _
    have e : r ^^^ x ^^^ b.toNat = (r ^^^ b.toNat) ^^^ x := by rw [Nat.xor_assoc, Nat.xor_comm x, ← Nat.xor_assoc]
    rw [e, Rn_xor, ih, ← Rn_add, List.length_cons]
    congr 2
theorem run_lt {r : Nat} (s : List UInt8) (h : r < 4294967296) : run r s < 4294967296 := by
  induction s generalizing r with
  | nil => exact h
  | cons b s ih =>
    refine ih (Rn_lt 8 ?_)
    have : b.toNat < 256 := b.toNat_lt
    exact Nat.xor_lt_two_pow (n := 32) h (by omega)
theorem xorM_lt {a : Nat} (h : a < 4294967296) : a ^^^ M < 4294967296 := Nat.xor_lt_two_pow (n := 32) h (by decide)
theorem on_lt {a : Nat} (s : List UInt8) (h : a < 4294967296) : on a s < 4294967296 := xorM_lt (run_lt s (xorM_lt h))
theorem xorMM (a : Nat) : a ^^^ M ^^^ M = a := by rw [Nat.xor_assoc, Nat.xor_self, Nat.xor_zero]
theorem on_append (a : Nat) (s t : List UInt8) : on a (s ++ t) = on (on a s) t := by
  unfold on
  rw [run_append, xorMM]
theorem on_xor (a x : Nat) (s : List UInt8) : on (a ^^^ x) s = on a s ^^^ Rn (8 * s.length) x := by
  unfold on
  have e : a ^^^ x ^^^ M = (a ^^^ M) ^^^ x := by rw [Nat.xor_assoc, Nat.xor_comm x M, Nat.xor_assoc]
  rw [e, run_xor, Nat.xor_assoc, Nat.xor_assoc, Nat.xor_comm (Rn _ _) M]
theorem of_join (s t : List UInt8) : on 0 (s ++ t) = join (on 0 s) (on 0 t) t.length := by
  rw [on_append]
  have h := on_xor 0 (on 0 s) t
  rw [Nat.zero_xor] at h
  rw [h, Nat.xor_comm]
  rfl

/-! ### Products -/
def prod : Nat → Nat → Nat → Nat
  | 0, _, _ => 0
  | k + 1, p, q => (if 2147483648 ≤ q then p else 0) ^^^ prod k (R p) (q * 2 % 4294967296)

theorem xor_self_zero {a : Nat} (h : a = a ^^^ a) : a = 0 := by rw [Nat.xor_self] at h; exact h

theorem prod_map {L : Nat → Nat} (hx : ∀ a b, L (a ^^^ b) = L a ^^^ L b) (hR : ∀ a, L (R a) = R (L a)) (k p q : Nat) : L (prod k p q) = prod k (L p) q := by
  have h0 : L 0 = 0 := xor_self_zero (by have := hx 0 0; rwa [Nat.xor_zero] at this)
  induction k generalizing p q with
  | zero => exact h0
  | succ k ih =>
    show L ((if 2147483648 ≤ q then p else 0) ^^^ prod k (R p) _) = (if 2147483648 ≤ q then L p else 0) ^^^ prod k (R (L p)) _
    rw [hx, ih, hR]
    congr 1
    split
    · rfl
    · exact h0
theorem prod_lt (k : Nat) {p : Nat} (q : Nat) (h : p < 4294967296) : prod k p q < 4294967296 := by
  induction k generalizing p q with
  | zero => show 0 < _; omega
  | succ k ih =>
    have h1 := ih (q * 2 % 4294967296) (R_lt h)
    refine Nat.xor_lt_two_pow (n := 32) ?_ h1
    split
    · exact h
    · decide
theorem prod_zero (k p : Nat) : prod k p 0 = 0 := by
  induction k generalizing p with
  | zero => rfl
  | succ k ih =>
    show (if 2147483648 ≤ 0 then p else 0) ^^^ prod k (R p) (0 * 2 % 4294967296) = 0
    rw [if_neg (by omega), Nat.zero_mul, Nat.zero_mod, ih]; rfl
theorem prod_xor (k a b q : Nat) : prod k (a ^^^ b) q = prod k a q ^^^ prod k b q := by
  induction k generalizing a b q with
  | zero => show 0 = 0 ^^^ 0; rw [Nat.xor_zero]
  | succ k ih =>
    show (if 2147483648 ≤ q then a ^^^ b else 0) ^^^ prod k (R (a ^^^ b)) _ = ((if 2147483648 ≤ q then a else 0) ^^^ prod k (R a) _) ^^^ ((if 2147483648 ≤ q then b else 0) ^^^ prod k (R b) _)
    rw [R_xor, ih, xor4]
    congr 1
    split <;> rfl
theorem prod_R (k p q : Nat) : prod k (R p) q = R (prod k p q) := (prod_map (L := R) R_xor (fun _ => rfl) k p q).symm

theorem pow_xor (k y : Nat) (h : y < 2 ^ k) : 2 ^ k ^^^ y = 2 ^ k + y := by
  have h1 := split_xor k (2 ^ k + y)
  have hp : 0 < 2 ^ k := Nat.two_pow_pos k
  have e1 : (2 ^ k + y) / 2 ^ k = 1 := by
    rw [Nat.add_div_left _ hp, Nat.div_eq_of_lt h]
  have e2 : (2 ^ k + y) % 2 ^ k = y := by
    rw [Nat.add_mod_left, Nat.mod_eq_of_lt h]
  rw [e1, e2, Nat.mul_one] at h1
  exact h1.symm

theorem prod_one (k : Nat) (hk : k ≤ 31) (q : Nat) (hq : q < 4294967296) : prod (k + 1) (2 ^ k) q = q / 2 ^ (31 - k) := by
  induction k generalizing q with
  | zero =>
    show (if 2147483648 ≤ q then 1 else 0) ^^^ 0 = q / 2147483648
    rw [Nat.xor_zero]
    split <;> omega
  | succ k ih =>
    show (if 2147483648 ≤ q then 2 ^ (k + 1) else 0) ^^^ prod (k + 1) (R (2 ^ (k + 1))) (q * 2 % 4294967296) = _
    rw [Nat.pow_succ, Nat.mul_comm (2 ^ k) 2, R_two, ih (by omega) _ (Nat.mod_lt _ (by omega))]
    have hpp : 2 ^ (31 - k) = 2 * 2 ^ (31 - (k + 1)) := by
      rw [← Nat.pow_succ']
      congr 1
      omega
    have hlt : q * 2 % 4294967296 / 2 ^ (31 - k) < 2 ^ (k + 1) := by
      apply Nat.div_lt_of_lt_mul
      rw [← Nat.pow_add, show 31 - k + (k + 1) = 32 by omega]
      exact Nat.mod_lt _ (by omega)
    by_cases h : 2147483648 ≤ q
    · rw [if_pos h, ← Nat.pow_succ', pow_xor _ _ hlt, hpp, ← Nat.div_div_eq_div_mul]
      have e : q * 2 % 4294967296 / 2 = q - 2147483648 := by omega
      have e3 : q = (q - 2147483648) + 2 ^ (31 - (k + 1)) * 2 ^ (k + 1) := by
        rw [← Nat.pow_add, show 31 - (k + 1) + (k + 1) = 31 by omega]
        omega
      rw [e]
      conv => rhs; rw [e3]
      rw [Nat.add_mul_div_left _ _ (Nat.two_pow_pos _), Nat.add_comm]
    · rw [if_neg h, Nat.zero_xor, hpp, ← Nat.div_div_eq_div_mul]
      congr 1
      omega

def P (p q : Nat) : Nat := prod 32 p q
theorem P_one {x : Nat} (h : x < 4294967296) : P 2147483648 x = x := by
  have := prod_one 31 (by omega) x h
  rw [Nat.sub_self, Nat.pow_zero, Nat.div_one] at this
  exact this
theorem P_map {L : Nat → Nat} (hx : ∀ a b, L (a ^^^ b) = L a ^^^ L b) (hR : ∀ a, L (R a) = R (L a)) {x : Nat} (h : x < 4294967296) : L x = P (L 2147483648) x := by
  conv => lhs; rw [← P_one h]
  exact prod_map hx hR 32 _ x
theorem P_comm {p q : Nat} (hp : p < 4294967296) (hq : q < 4294967296) : P p q = P q p := by
  have := P_map (L := fun x => P x q) (fun a b => prod_xor 32 a b q) (fun a => prod_R 32 a q) hp
  rw [this, P_one hq]
theorem P_lt {p : Nat} (q : Nat) (h : p < 4294967296) : P p q < 4294967296 := prod_lt 32 q h

/-- As many powers as one is raised by. -/
def S (m : Nat) : Nat := Rn m 2147483648
theorem S_lt (m : Nat) : S m < 4294967296 := Rn_lt m (by omega)
theorem P_S {a : Nat} (m : Nat) (h : a < 4294967296) : P a (S m) = Rn m a := by
  rw [P_comm h (S_lt m)]
  exact (P_map (L := Rn m) (Rn_xor m) (Rn_R m) h).symm
theorem P_SS (j m : Nat) : P (S j) (S m) = S (m + j) := by
  rw [P_S m (S_lt j)]
  exact (Rn_add m j _).symm
theorem S_space : S 8 = 8388608 := by decide +kernel

/-! ### Bits that are turned -/
theorem flip_run (r : Nat) (s : List UInt8) (p : Nat) (x : UInt8) (h : p < s.length) : run r (s.set p (s[p] ^^^ x)) = run r s ^^^ Rn (8 * (s.length - p)) x.toNat := by
  induction s generalizing r p with
  | nil => simp at h
  | cons b s ih =>
    cases p with
    | zero =>
      show run (Rn 8 (r ^^^ (b ^^^ x).toNat)) s = run (Rn 8 (r ^^^ b.toNat)) s ^^^ _
      rw [UInt8.toNat_xor, ← Nat.xor_assoc, Rn_xor, run_xor, ← Rn_add]
      rfl
    | succ p =>
      simp only [List.length_cons, Nat.add_lt_add_iff_right] at h
      show run (Rn 8 (r ^^^ b.toNat)) (s.set p (s[p] ^^^ x)) = run (Rn 8 (r ^^^ b.toNat)) s ^^^ _
      rw [ih _ _ h, List.length_cons, Nat.add_sub_add_right]

theorem Rn_bit (n j : Nat) (h : j ≤ n) : Rn n (2 ^ j) = Rn (n - j) 1 := by
  conv => lhs; rw [show n = (n - j) + j by omega]
  rw [Rn_add]
  have := Rn_pow j 1
  rw [Nat.mul_one] at this
  rw [this]

theorem mod_succ_bit (b i : Nat) (h : b / 2 ^ i % 2 = 1) : b % 2 ^ (i + 1) = b % 2 ^ i ^^^ 2 ^ i := by
  have e : b % 2 ^ (i + 1) = 2 ^ i + b % 2 ^ i := by
    rw [Nat.pow_succ, Nat.mod_mul, h]; omega
  rw [e, Nat.xor_comm, pow_xor _ _ (Nat.mod_lt _ (Nat.two_pow_pos i))]
theorem mod_succ_none (b i : Nat) (h : b / 2 ^ i % 2 = 0) : b % 2 ^ (i + 1) = b % 2 ^ i := by
  rw [Nat.pow_succ, Nat.mod_mul, h]; omega

/-- One bit more that is turned, at place k + i of n. -/
theorem turn_step (r n k i b : Nat) (s s₀ : List UInt8) (hn : n = 8 * s.length) (hk : k + i < n) (hb : b / 2 ^ i % 2 = 1)
    (h : run r s = run r s₀ ^^^ Rn (n - k) (b % 2 ^ i)) (x : UInt8) (hx : x.toNat = 2 ^ ((k + i) % 8)) (hp : (k + i) / 8 < s.length) :
    run r (s.set ((k + i) / 8) (s[(k + i) / 8] ^^^ x)) = run r s₀ ^^^ Rn (n - k) (b % 2 ^ (i + 1)) := by
  rw [flip_run r s _ x hp, h, mod_succ_bit b i hb, Rn_xor, hx, Rn_bit _ _ (by omega), Rn_bit _ _ (by omega), Nat.xor_assoc]
  congr 3
  omega

theorem turned_iff {n k m : Nat} (r : Nat) (s s₀ : List UInt8) (hm : m < 4294967296) (h : run r s = run r s₀ ^^^ Rn (n - k) m) : run r s ^^^ M ≠ run r s₀ ^^^ M ↔ m ≠ 0 := by
  constructor
  · intro hne e
    subst e
    rw [Rn_zero, Nat.xor_zero] at h
    exact hne (by rw [h])
  · intro hne e
    have e' : run r s = run r s₀ := by
      have := congrArg (· ^^^ M) e
      simpa [xorMM] using this
    rw [e'] at h
    have : Rn (n - k) m = 0 := by
      have := congrArg (run r s₀ ^^^ ·) h
      simpa [← Nat.xor_assoc] using this.symm
    exact hne (Rn_inj _ hm this)

/-! ### The text of the chapter's example, and its parts -/
theorem ex9 : on 0 [49, 50, 51, 52, 53, 54, 55, 56, 57] = 3808858755 := by decide +kernel
end Go.Proofs.YtpmhpibbdcifnaaGreat.Crc
