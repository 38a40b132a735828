/-
  Plain maths: words of bits, the number of ones, the least one, elements in order, numbers of classes (namespace Bs; no program).
-/
namespace Bs

/-- The number whose n low bits are those of f. -/
def nb (f : Nat → Bool) : Nat → Nat
  | 0 => 0
  | n + 1 => (f 0).toNat + 2 * nb (fun j => f (j + 1)) n
theorem nb_lt : ∀ (n : Nat) (f : Nat → Bool), nb f n < 2 ^ n
  | 0, _ => by simp [nb]
  | n + 1, f => by
    have := nb_lt n (fun j => f (j + 1))
    have hb : (f 0).toNat ≤ 1 := Bool.toNat_le _
    rw [nb, Nat.pow_succ]; omega
theorem nb_bit : ∀ (n : Nat) (f : Nat → Bool) (j : Nat), (nb f n).testBit j = (decide (j < n) && f j)
  | 0, f, j => by simp [nb]
  | n + 1, f, 0 => by
    rw [nb, Nat.testBit_zero]
    cases f 0 <;> simp <;> omega
  | n + 1, f, j + 1 => by
    rw [nb, Nat.testBit_succ]
    have e : ((f 0).toNat + 2 * nb (fun j => f (j + 1)) n) / 2 = nb (fun j => f (j + 1)) n := by
      have hb : (f 0).toNat ≤ 1 := Bool.toNat_le _
      omega
    rw [e, nb_bit n]
    simp
theorem nb_self {n x : Nat} (h : x < 2 ^ n) : nb x.testBit n = x := by
  apply Nat.eq_of_testBit_eq
  intro j
  rw [nb_bit]
  by_cases hj : j < n
  · simp [hj]
  · rw [Nat.testBit_lt_two_pow (Nat.lt_of_lt_of_le h (Nat.pow_le_pow_right (by omega) (by omega)))]
    simp [hj]
theorem nb_congr {n : Nat} {f g : Nat → Bool} (h : ∀ j, j < n → f j = g j) : nb f n = nb g n := by
  apply Nat.eq_of_testBit_eq
  intro j
  rw [nb_bit, nb_bit]
  by_cases hj : j < n
  · rw [h j hj]
  · simp [hj]
theorem nb_or (f g : Nat → Bool) (n : Nat) : nb (fun j => f j || g j) n = nb f n ||| nb g n := by
  apply Nat.eq_of_testBit_eq
  intro j
  rw [Nat.testBit_or, nb_bit, nb_bit, nb_bit]
  cases decide (j < n) <;> simp
theorem nb_and (f g : Nat → Bool) (n : Nat) : nb (fun j => f j && g j) n = nb f n &&& nb g n := by
  apply Nat.eq_of_testBit_eq
  intro j
  rw [Nat.testBit_and, nb_bit, nb_bit, nb_bit]
  cases decide (j < n) <;> simp
theorem nb_not (f : Nat → Bool) (n : Nat) : nb (fun j => !f j) n = (2 ^ n - 1) ^^^ nb f n := by
  apply Nat.eq_of_testBit_eq
  intro j
  rw [Nat.testBit_xor, nb_bit, nb_bit, Nat.testBit_two_pow_sub_one]
  cases decide (j < n) <;> simp
theorem nb_one {n j : Nat} (h : j < n) : nb (fun i => i == j) n = 2 ^ j := by
  apply Nat.eq_of_testBit_eq
  intro i
  rw [nb_bit, Nat.testBit_two_pow]
  by_cases e : i = j
  · subst e; simp [h]
  · have e' : ¬ j = i := fun h => e h.symm
    simp [e, e']
theorem nb_has {n j : Nat} (f : Nat → Bool) (h : j < n) : nb f n / 2 ^ j % 2 = (f j).toNat := by
  have := nb_bit n f j
  rw [Nat.testBit_eq_decide_div_mod_eq] at this
  simp only [h, decide_true, Bool.true_and] at this
  cases hf : f j
  · rw [hf] at this; simp at this; simp; omega
  · rw [hf] at this; simp at this; simp; omega
theorem nb_zero (n : Nat) : nb (fun _ => false) n = 0 := by
  induction n with
  | zero => rfl
  | succ n ih => rw [nb, ih]; rfl
theorem nb_eq_zero {n : Nat} {f : Nat → Bool} (h : nb f n = 0) (j : Nat) (hj : j < n) : f j = false := by
  have := nb_bit n f j
  rw [h] at this
  simp [hj] at this
  exact this

/-- How many of the first n. -/
def cnt (f : Nat → Bool) : Nat → Nat
  | 0 => 0
  | n + 1 => cnt f n + (f n).toNat
theorem cnt_congr {n : Nat} {f g : Nat → Bool} (h : ∀ j, j < n → f j = g j) : cnt f n = cnt g n := by
  induction n with
  | zero => rfl
  | succ n ih => rw [cnt, cnt, ih (fun j hj => h j (by omega)), h n (by omega)]
theorem cnt_le (f : Nat → Bool) (n : Nat) : cnt f n ≤ n := by
  induction n with
  | zero => simp [cnt]
  | succ n ih =>
    have hb : (f n).toNat ≤ 1 := Bool.toNat_le _
    rw [cnt]; omega
theorem cnt_add (f : Nat → Bool) (m n : Nat) : cnt f (m + n) = cnt f m + cnt (fun j => f (m + j)) n := by
  induction n with
  | zero => simp [cnt]
  | succ n ih => rw [← Nat.add_assoc, cnt, cnt, ih]; omega
theorem cnt_cons (f : Nat → Bool) (n : Nat) : cnt f (n + 1) = (f 0).toNat + cnt (fun j => f (j + 1)) n := by
  rw [Nat.add_comm n 1, cnt_add]
  simp only [cnt, Nat.zero_add]
  congr 1
  exact cnt_congr fun j _ => by rw [Nat.add_comm]
theorem cnt_not (f : Nat → Bool) (n : Nat) : cnt (fun j => !f j) n + cnt f n = n := by
  induction n with
  | zero => rfl
  | succ n ih =>
    rw [cnt, cnt]
    cases f n <;> simp <;> omega
theorem cnt_or_and (f g : Nat → Bool) (n : Nat) : cnt (fun j => f j || g j) n + cnt (fun j => f j && g j) n = cnt f n + cnt g n := by
  induction n with
  | zero => rfl
  | succ n ih =>
    simp only [cnt]
    cases f n <;> cases g n <;> simp <;> omega
theorem cnt_false (n : Nat) : cnt (fun _ => false) n = 0 := by
  induction n with
  | zero => rfl
  | succ n ih => rw [cnt, ih]; rfl

/-- How many ones among the first n bits. -/
def pc : Nat → Nat → Nat
  | 0, _ => 0
  | n + 1, x => x % 2 + pc n (x / 2)
theorem pc_nb : ∀ (n : Nat) (f : Nat → Bool), pc n (nb f n) = cnt f n
  | 0, _ => rfl
  | n + 1, f => by
    have hb : (f 0).toNat ≤ 1 := Bool.toNat_le _
    rw [pc, nb, cnt_cons, show ((f 0).toNat + 2 * nb (fun j => f (j + 1)) n) % 2 = (f 0).toNat by omega, show ((f 0).toNat + 2 * nb (fun j => f (j + 1)) n) / 2 = nb (fun j => f (j + 1)) n by omega, pc_nb n]
theorem pc_add : ∀ (m n x : Nat), pc (m + n) x = pc m x + pc n (x / 2 ^ m)
  | 0, n, x => by simp [pc]
  | m + 1, n, x => by
    rw [show m + 1 + n = (m + n) + 1 by omega, pc, pc, pc_add m n, Nat.div_div_eq_div_mul, Nat.pow_succ, Nat.mul_comm 2]; omega
theorem pc_mod : ∀ (m x : Nat), pc m (x % 2 ^ m) = pc m x
  | 0, x => by simp [pc]
  | m + 1, x => by
    rw [pc, pc, Nat.pow_succ, Nat.mul_comm, show x % (2 * 2 ^ m) / 2 = (x / 2) % 2 ^ m from Nat.mod_mul_right_div_self x 2 (2 ^ m), pc_mod m]
    congr 1
    exact Nat.mod_mul_right_mod _ _ _

theorem and_parts {k d m : Nat} (hd : d < 2 ^ k) (hm : m < 2 ^ k) (y z : Nat) : (d + 2 ^ k * y) &&& (m + 2 ^ k * z) = (d &&& m) + 2 ^ k * (y &&& z) := by
  apply Nat.eq_of_testBit_eq
  intro j
  rw [Nat.testBit_and, Nat.add_comm d, Nat.add_comm m, Nat.add_comm (d &&& m), Nat.testBit_two_pow_mul_add _ hd, Nat.testBit_two_pow_mul_add _ hm, Nat.testBit_two_pow_mul_add _ (Nat.and_lt_two_pow _ hm), Nat.testBit_and, Nat.testBit_and]
  split <;> rfl
theorem and256 {d m : Nat} (hd : d < 256) (hm : m < 256) (y z : Nat) : (d + 256 * y) &&& (m + 256 * z) = (d &&& m) + 256 * (y &&& z) := and_parts (k := 8) hd hm y z
/-- A mask of n equal bytes. -/
def mk (m : Nat) : Nat → Nat
  | 0 => 0
  | n + 1 => m + 256 * mk m n
theorem mk85 : mk 85 8 = 6148914691236517205 := by decide
theorem mk51 : mk 51 8 = 3689348814741910323 := by decide
theorem mk15 : mk 15 8 = 1085102592571150095 := by decide
def s1 (n x : Nat) : Nat := (x / 2 &&& mk 85 n) + (x &&& mk 85 n)
def s2 (n x : Nat) : Nat := (x / 4 &&& mk 51 n) + (x &&& mk 51 n)
def s3 (n x : Nat) : Nat := (x / 16 + x) &&& mk 15 n
def g1 (d : Nat) : Nat := (d / 2 &&& 85) + (d &&& 85)
def g2 (d : Nat) : Nat := (d / 4 &&& 51) + (d &&& 51)
def g3 (d : Nat) : Nat := d / 16 + d % 16
theorem t1 : ∀ d : Fin 256, ∀ c : Fin 2, (d.1 / 2 + 128 * c.1) &&& 85 = d.1 / 2 &&& 85 := by decide +kernel
theorem t2 : ∀ d : Fin 256, ∀ c : Fin 4, (d.1 / 4 + 64 * c.1) &&& 51 = d.1 / 4 &&& 51 := by decide +kernel
theorem t3 : ∀ d : Fin 256, d.1 / 16 ≤ 4 → d.1 % 16 ≤ 4 → ∀ c : Fin 5, (d.1 / 16 + d.1 + 16 * c.1) &&& 15 = g3 d.1 := by decide +kernel
theorem t4 : ∀ d : Fin 256, g1 d.1 < 256 ∧ g2 (g1 d.1) < 256 ∧ g2 (g1 d.1) / 16 ≤ 4 ∧ g2 (g1 d.1) % 16 ≤ 4 ∧ g3 (g2 (g1 d.1)) = pc 8 d.1 ∧ pc 8 d.1 ≤ 8 := by decide +kernel
theorem s1_succ (n x : Nat) : s1 (n + 1) x = g1 (x % 256) + 256 * s1 n (x / 256) := by
  have hd : x % 256 < 256 := Nat.mod_lt _ (by decide)
  have e1 : x / 2 = (x % 256 / 2 + 128 * (x / 256 % 2)) + 256 * (x / 256 / 2) := by omega
  have e2 : x = x % 256 + 256 * (x / 256) := by omega
  have k1 : x / 2 &&& mk 85 (n + 1) = (x % 256 / 2 &&& 85) + 256 * (x / 256 / 2 &&& mk 85 n) := by
    rw [e1, mk, and256 (by omega) (by decide)]
    have := t1 ⟨x % 256, hd⟩ ⟨x / 256 % 2, Nat.mod_lt _ (by decide)⟩
    simp only at this
    rw [this]
  have k2 : x &&& mk 85 (n + 1) = (x % 256 &&& 85) + 256 * (x / 256 &&& mk 85 n) := by
    conv => lhs; rw [e2]
    rw [mk, and256 hd (by decide)]
  unfold s1 g1
  rw [k1, k2]; omega
theorem s2_succ (n x : Nat) : s2 (n + 1) x = g2 (x % 256) + 256 * s2 n (x / 256) := by
  have hd : x % 256 < 256 := Nat.mod_lt _ (by decide)
  have e1 : x / 4 = (x % 256 / 4 + 64 * (x / 256 % 4)) + 256 * (x / 256 / 4) := by omega
  have e2 : x = x % 256 + 256 * (x / 256) := by omega
  have k1 : x / 4 &&& mk 51 (n + 1) = (x % 256 / 4 &&& 51) + 256 * (x / 256 / 4 &&& mk 51 n) := by
    rw [e1, mk, and256 (by omega) (by decide)]
    have := t2 ⟨x % 256, hd⟩ ⟨x / 256 % 4, Nat.mod_lt _ (by decide)⟩
    simp only at this
    rw [this]
  have k2 : x &&& mk 51 (n + 1) = (x % 256 &&& 51) + 256 * (x / 256 &&& mk 51 n) := by
    conv => lhs; rw [e2]
    rw [mk, and256 hd (by decide)]
  unfold s2 g2
  rw [k1, k2]; omega
theorem s3_succ (n x : Nat) (h1 : x % 256 / 16 ≤ 4) (h2 : x % 16 ≤ 4) (h3 : x / 256 % 16 ≤ 4) : s3 (n + 1) x = g3 (x % 256) + 256 * s3 n (x / 256) := by
  have hd : x % 256 < 256 := Nat.mod_lt _ (by decide)
  have e1 : x / 16 + x = (x % 256 / 16 + x % 256 + 16 * (x / 256 % 16)) + 256 * (x / 256 / 16 + x / 256) := by omega
  unfold s3
  rw [e1, mk, and256 (by omega) (by decide)]
  have := t3 ⟨x % 256, hd⟩ h1 (by simp only; omega) ⟨x / 256 % 16, by omega⟩
  simp only at this
  rw [this]
/-- The numbers of ones of n bytes, a byte each. -/
def bp : Nat → Nat → Nat
  | 0, _ => 0
  | n + 1, x => pc 8 (x % 256) + 256 * bp n (x / 256)
theorem s123 : ∀ (n x : Nat), s3 n (s2 n (s1 n x)) = bp n x
  | 0, x => by simp [s3, mk, bp]
  | n + 1, x => by
    have hd : x % 256 < 256 := Nat.mod_lt _ (by decide)
    obtain ⟨b1, b2, b3, b4, b5, b6⟩ := t4 ⟨x % 256, hd⟩
    simp only at b1 b2 b3 b4 b5 b6
    have e1 : s1 (n + 1) x % 256 = g1 (x % 256) := by rw [s1_succ]; omega
    have e2 : s1 (n + 1) x / 256 = s1 n (x / 256) := by rw [s1_succ]; omega
    have f0 := s2_succ n (s1 (n + 1) x)
    rw [e1, e2] at f0
    have f1 : s2 (n + 1) (s1 (n + 1) x) % 256 = g2 (g1 (x % 256)) := by rw [f0]; omega
    have f2 : s2 (n + 1) (s1 (n + 1) x) / 256 = s2 n (s1 n (x / 256)) := by rw [f0]; omega
    have low : s2 n (s1 n (x / 256)) % 16 ≤ 4 := by
      cases n with
      | zero => simp [s1, s2, mk]
      | succ m =>
        have hd' : x / 256 % 256 < 256 := Nat.mod_lt _ (by decide)
        obtain ⟨c1, c2, c3, c4, _, _⟩ := t4 ⟨x / 256 % 256, hd'⟩
        simp only at c1 c2 c3 c4
        have e1 : s1 (m + 1) (x / 256) % 256 = g1 (x / 256 % 256) := by rw [s1_succ]; omega
        rw [s2_succ, e1]
        omega
    rw [s3_succ _ _ (by rw [f1]; exact b3) (by have : s2 (n + 1) (s1 (n + 1) x) % 16 = s2 (n + 1) (s1 (n + 1) x) % 256 % 16 := by omega
                                               rw [this, f1]; exact b4) (by rw [f2]; exact low), f1, f2, s123 n, b5]
    rfl
/-- What OnesCount64 reckons: the steps, and what they come to. -/
theorem ones {x : Nat} (y1 y2 y3 y4 y5 y6 : Nat) (h1 : y1 = (x / 2 &&& 6148914691236517205) + (x &&& 6148914691236517205)) (h2 : y2 = (y1 / 4 &&& 3689348814741910323) + (y1 &&& 3689348814741910323))
    (h3 : y3 = (y2 / 16 + y2) &&& 1085102592571150095) (h4 : y4 = y3 + y3 / 256) (h5 : y5 = y4 + y4 / 65536) (h6 : y6 = y5 + y5 / 4294967296) :
    y6 % 128 = pc 64 x ∧ y3 < 1000000000000000000 ∧ y6 < 2000000000000000000 := by
  have e : y3 = bp 8 x := by
    rw [h3, h2, h1, ← mk85, ← mk51, ← mk15, ← s123]; rfl
  have q : ∀ x, pc 8 (x % 256) ≤ 8 := fun x => (t4 ⟨x % 256, Nat.mod_lt _ (by decide)⟩).2.2.2.2.2
  have r : pc 64 x = pc 8 (x % 256) + (pc 8 (x / 256 % 256) + (pc 8 (x / 256 / 256 % 256) + (pc 8 (x / 256 / 256 / 256 % 256) + (pc 8 (x / 256 / 256 / 256 / 256 % 256) + (pc 8 (x / 256 / 256 / 256 / 256 / 256 % 256) + (pc 8 (x / 256 / 256 / 256 / 256 / 256 / 256 % 256) + pc 8 (x / 256 / 256 / 256 / 256 / 256 / 256 / 256 % 256))))))) := by
    have m : ∀ x, pc 8 (x % 256) = pc 8 x := fun x => pc_mod 8 x
    have a : ∀ n x, pc (8 + n) x = pc 8 x + pc n (x / 256) := fun n x => pc_add 8 n x
    rw [show 64 = 8 + (8 + (8 + (8 + (8 + (8 + (8 + 8)))))) from rfl, a, a, a, a, a, a, a]
    simp only [m]
  have q0 := q x; have q1 := q (x / 256); have q2 := q (x / 256 / 256); have q3 := q (x / 256 / 256 / 256); have q4 := q (x / 256 / 256 / 256 / 256); have q5 := q (x / 256 / 256 / 256 / 256 / 256); have q6 := q (x / 256 / 256 / 256 / 256 / 256 / 256); have q7 := q (x / 256 / 256 / 256 / 256 / 256 / 256 / 256)
  simp only [bp] at e
  rw [r]
  generalize pc 8 (x % 256) = a0 at *
  generalize pc 8 (x / 256 % 256) = a1 at *
  generalize pc 8 (x / 256 / 256 % 256) = a2 at *
  generalize pc 8 (x / 256 / 256 / 256 % 256) = a3 at *
  generalize pc 8 (x / 256 / 256 / 256 / 256 % 256) = a4 at *
  generalize pc 8 (x / 256 / 256 / 256 / 256 / 256 % 256) = a5 at *
  generalize pc 8 (x / 256 / 256 / 256 / 256 / 256 / 256 % 256) = a6 at *
  generalize pc 8 (x / 256 / 256 / 256 / 256 / 256 / 256 / 256 % 256) = a7 at *
  clear h1 h2 h3 r q
  have z4 : y3 / 256 = a1 + 256 * (a2 + 256 * (a3 + 256 * (a4 + 256 * (a5 + 256 * (a6 + 256 * a7))))) := by omega
  have w4 : y4 = (a0 + a1) + 256 * ((a1 + a2) + 256 * ((a2 + a3) + 256 * ((a3 + a4) + 256 * ((a4 + a5) + 256 * ((a5 + a6) + 256 * ((a6 + a7) + 256 * a7)))))) := by omega
  have z5 : y4 / 65536 = (a2 + a3) + 256 * ((a3 + a4) + 256 * ((a4 + a5) + 256 * ((a5 + a6) + 256 * ((a6 + a7) + 256 * a7)))) := by omega
  have w5 : y5 = (a0 + a1 + a2 + a3) + 256 * ((a1 + a2 + a3 + a4) + 256 * ((a2 + a3 + a4 + a5) + 256 * ((a3 + a4 + a5 + a6) + 256 * ((a4 + a5 + a6 + a7) + 256 * ((a5 + a6 + a7) + 256 * ((a6 + a7) + 256 * a7)))))) := by omega
  have z6 : y5 / 4294967296 = (a4 + a5 + a6 + a7) + 256 * ((a5 + a6 + a7) + 256 * ((a6 + a7) + 256 * a7)) := by omega
  refine ⟨by omega, by omega, by omega⟩

/-! The least one. -/
theorem odd_bit (z k : Nat) : (1 + 2 * z).testBit k = match k with | 0 => true | k + 1 => z.testBit k := by
  cases k with
  | zero => rw [Nat.testBit_zero]; simp
  | succ k => rw [Nat.testBit_succ, show (1 + 2 * z) / 2 = z by omega]
theorem low_and {j y : Nat} (h : 2 ^ j * (1 + 2 * y) < 2 ^ 64) : 2 ^ j * (1 + 2 * y) &&& (2 ^ 64 - 2 ^ j * (1 + 2 * y)) = 2 ^ j := by
  have hj : j < 64 := by
    apply Nat.lt_of_not_le
    intro hj
    have h1 := Nat.pow_le_pow_right (n := 2) (by omega) hj
    have h2 : 2 ^ j * 1 ≤ 2 ^ j * (1 + 2 * y) := Nat.mul_le_mul_left _ (by omega)
    omega
  have e : (2 : Nat) ^ 64 = 2 ^ j * (2 * 2 ^ (63 - j)) := by
    rw [← Nat.pow_succ', ← Nat.pow_add]; congr 1; omega
  have hy : y < 2 ^ (63 - j) := by
    rw [e] at h
    have := Nat.lt_of_mul_lt_mul_left h
    omega
  have e2 : 2 ^ 64 - 2 ^ j * (1 + 2 * y) = 2 ^ j * (1 + 2 * (2 ^ (63 - j) - (y + 1))) := by
    rw [e, ← Nat.mul_sub]
    congr 1
    omega
  rw [e2]
  apply Nat.eq_of_testBit_eq
  intro i
  rw [Nat.testBit_and, Nat.testBit_two_pow_mul, Nat.testBit_two_pow_mul, Nat.testBit_two_pow]
  by_cases hi : j ≤ i
  · obtain ⟨d, rfl⟩ : ∃ d, i = j + d := ⟨i - j, by omega⟩
    rw [show j + d - j = d by omega, odd_bit, odd_bit]
    cases d with
    | zero => simp
    | succ d =>
      simp only
      rw [Nat.testBit_two_pow_sub_succ hy]
      cases y.testBit d <;> simp
  · have : ¬ j = i := by omega
    simp [hi, this]
theorem clear_low {j y : Nat} (i : Nat) : (2 ^ j * (1 + 2 * y) &&& (2 ^ j * (1 + 2 * y) - 1)).testBit i = ((2 ^ j * (1 + 2 * y)).testBit i && decide (j < i)) := by
  have hp := Nat.two_pow_pos j
  have e : 2 ^ j * (1 + 2 * y) - 1 = 2 ^ j * (2 * y) + (2 ^ j - 1) := by
    rw [Nat.mul_add, Nat.mul_one]; omega
  rw [Nat.testBit_and, e, Nat.testBit_two_pow_mul_add _ (by omega), Nat.testBit_two_pow_mul]
  by_cases hi : j ≤ i
  · obtain ⟨d, rfl⟩ : ∃ d, i = j + d := ⟨i - j, by omega⟩
    rw [if_neg (by omega), show j + d - j = d by omega, odd_bit]
    cases d with
    | zero => simp
    | succ d => simp [Nat.testBit_succ]
  · simp [hi]
theorem nb_least : ∀ (j n : Nat) (f : Nat → Bool), j < n → (∀ i, i < j → f i = false) → f j = true → ∃ y, nb f n = 2 ^ j * (1 + 2 * y)
  | 0, n + 1, f, _, _, hf => ⟨nb (fun j => f (j + 1)) n, by rw [nb, hf]; simp⟩
  | j + 1, n + 1, f, hj, h0, hf => by
    obtain ⟨y, hy⟩ := nb_least j n (fun i => f (i + 1)) (by omega) (fun i hi => h0 (i + 1) (by omega)) hf
    refine ⟨y, ?_⟩
    rw [nb, hy, h0 0 (by omega), Nat.pow_succ, Nat.mul_comm (2 ^ j) 2, Nat.mul_assoc]
    simp
theorem nb_clear {n j : Nat} {f : Nat → Bool} (hj : j < n) (h0 : ∀ i, i < j → f i = false) (hf : f j = true) : nb f n &&& (nb f n - 1) = nb (fun i => f i && decide (j < i)) n := by
  obtain ⟨y, hy⟩ := nb_least j n f hj h0 hf
  apply Nat.eq_of_testBit_eq
  intro i
  have h1 := clear_low (j := j) (y := y) i
  rw [← hy] at h1
  rw [h1, nb_bit, nb_bit, Bool.and_assoc]
theorem nb_some : ∀ (n : Nat) (f : Nat → Bool), nb f n ≠ 0 → ∃ j, j < n ∧ f j = true ∧ ∀ i, i < j → f i = false
  | 0, f, h => by simp [nb] at h
  | n + 1, f, h => by
    by_cases h0 : f 0 = true
    · exact ⟨0, by omega, h0, fun i hi => by omega⟩
    · have h0' : f 0 = false := by simpa using h0
      obtain ⟨j, hj, hf, hl⟩ := nb_some n (fun i => f (i + 1)) (fun e => h (by rw [nb, h0', e]; rfl))
      refine ⟨j + 1, by omega, hf, fun i hi => ?_⟩
      cases i with
      | zero => exact h0'
      | succ i => exact hl i (by omega)

/-! The elements in order. -/
/-- The elements below n. -/
def els (p : Nat → Bool) : Nat → List (Fin 256)
  | 0 => []
  | n + 1 => els p n ++ (if p n then [⟨n % 256, Nat.mod_lt _ (by decide)⟩] else [])
theorem els_length (p : Nat → Bool) : ∀ n, (els p n).length = cnt p n
  | 0 => rfl
  | n + 1 => by
    rw [els, cnt, List.length_append, els_length p n]
    cases p n <;> simp
theorem els_skip {p : Nat → Bool} {m : Nat} : ∀ {m' : Nat}, m ≤ m' → (∀ j, m ≤ j → j < m' → p j = false) → els p m' = els p m
  | 0, h, _ => by obtain rfl : m = 0 := by omega
                  rfl
  | m' + 1, h, hp => by
    by_cases e : m = m' + 1
    · rw [e]
    · rw [els, els_skip (m' := m') (by omega) (fun j h1 h2 => hp j h1 (by omega)), hp m' (by omega) (by omega)]
      simp
theorem els_hit {p : Nat → Bool} {m : Nat} (hp : p m = true) (hm : m < 256) : els p (m + 1) = els p m ++ [⟨m, hm⟩] := by
  rw [els, hp]
  simp [Nat.mod_eq_of_lt hm]
theorem els_prefix {p : Nat → Bool} {m : Nat} : ∀ {n : Nat}, m ≤ n → els p m <+: els p n
  | 0, h => by obtain rfl : m = 0 := by omega
               exact List.prefix_rfl
  | n + 1, h => by
    by_cases e : m = n + 1
    · rw [e]; exact List.prefix_rfl
    · rw [els]; exact (els_prefix (n := n) (by omega)).trans (List.prefix_append _ _)
theorem els_mem {p : Nat → Bool} : ∀ {n : Nat} {x : Fin 256}, n ≤ 256 → x ∈ els p n → x.1 < n ∧ p x.1 = true
  | 0, x, _, h => by simp [els] at h
  | n + 1, x, hn, h => by
    rw [els, List.mem_append] at h
    rcases h with h | h
    · have := els_mem (n := n) (by omega) h
      exact ⟨by omega, this.2⟩
    · split at h
      · rename_i hp
        simp at h
        subst h
        simp only [Nat.mod_eq_of_lt (show n < 256 by omega)]
        exact ⟨by omega, hp⟩
      · simp at h
theorem els_sorted (p : Nat → Bool) : ∀ n, n ≤ 256 → (els p n).Pairwise (fun a b => a.1 < b.1)
  | 0, _ => by simp [els]
  | n + 1, hn => by
    rw [els, List.pairwise_append]
    refine ⟨els_sorted p n (by omega), ?_, ?_⟩
    · split <;> simp
    · intro a ha b hb
      have := els_mem (by omega) ha
      split at hb
      · simp at hb
        subst hb
        simp only [Nat.mod_eq_of_lt (show n < 256 by omega)]
        omega
      · simp at hb

/-! Numbers in the order of first occurrence. -/
/-- The least of the first n for which g holds, or n. -/
def lst (g : Nat → Bool) : Nat → Nat
  | 0 => 0
  | n + 1 => if lst g n < n then lst g n else if g n then n else n + 1
theorem lst_spec (g : Nat → Bool) : ∀ n, lst g n ≤ n ∧ (lst g n < n → g (lst g n) = true) ∧ ∀ a, a < lst g n → g a = false
  | 0 => ⟨by simp [lst], fun h => by simp [lst] at h, fun a h => by simp [lst] at h⟩
  | n + 1 => by
    obtain ⟨h1, h2, h3⟩ := lst_spec g n
    rw [lst]
    split
    · rename_i h
      exact ⟨by omega, fun _ => h2 h, h3⟩
    · rename_i h
      have e : lst g n = n := by omega
      rw [e] at h3
      split
      · rename_i hg
        exact ⟨by omega, fun _ => hg, h3⟩
      · rename_i hg
        refine ⟨by omega, fun h => by omega, fun a ha => ?_⟩
        by_cases ha' : a = n
        · rw [ha']; simpa using hg
        · exact h3 a (by omega)
theorem lst_eq {g : Nat → Bool} {n a : Nat} (ha : a ≤ n) (h1 : a < n → g a = true) (h2 : ∀ b, b < a → g b = false) : lst g n = a := by
  obtain ⟨k1, k2, k3⟩ := lst_spec g n
  rcases Nat.lt_trichotomy (lst g n) a with h | h | h
  · have := k2 (by omega)
    rw [h2 _ h] at this; cases this
  · exact h
  · have := k3 a h
    rw [h1 (by omega)] at this; cases this
/-- The first that is equivalent. -/
def fs (E : Nat → Nat → Bool) (b : Nat) : Nat := lst (fun a => E a b) b
/-- How many classes begin below n. -/
def cf (E : Nat → Nat → Bool) : Nat → Nat
  | 0 => 0
  | n + 1 => cf E n + (if fs E n = n then 1 else 0)
/-- The class number. -/
def num (E : Nat → Nat → Bool) (b : Nat) : Nat := cf E (fs E b)
/-- An equivalence of bytes. -/
structure Eqv (E : Nat → Nat → Bool) : Prop where
  refl : ∀ a, E a a = true
  symm : ∀ {a b}, E a b = true → E b a = true
  trans : ∀ {a b c}, E a b = true → E b c = true → E a c = true
theorem fs_le (E : Nat → Nat → Bool) (b : Nat) : fs E b ≤ b := (lst_spec _ b).1
theorem fs_eqv {E : Nat → Nat → Bool} (h : Eqv E) (b : Nat) : E (fs E b) b = true := by
  by_cases e : fs E b = b
  · rw [e]; exact h.refl b
  · exact (lst_spec (fun a => E a b) b).2.1 (by have := fs_le E b; unfold fs at *; omega)
theorem fs_least {E : Nat → Nat → Bool} {a b : Nat} (h : a < fs E b) : E a b = false := (lst_spec (fun a => E a b) b).2.2 a h
theorem fs_of {E : Nat → Nat → Bool} (h : Eqv E) {a b : Nat} (hab : E a b = true) : fs E a = fs E b := by
  have key : ∀ {a b}, E a b = true → fs E a ≤ fs E b := fun {a b} hab => by
    apply Nat.le_of_not_lt
    intro hl
    have h1 := fs_least hl
    rw [h.trans (fs_eqv h b) (h.symm hab)] at h1
    cases h1
  exact Nat.le_antisymm (key hab) (key (h.symm hab))
theorem fs_fs {E : Nat → Nat → Bool} (h : Eqv E) (b : Nat) : fs E (fs E b) = fs E b := fs_of h (fs_eqv h b)
theorem cf_mono (E : Nat → Nat → Bool) {m : Nat} : ∀ {n : Nat}, m ≤ n → cf E m ≤ cf E n
  | 0, h => by obtain rfl : m = 0 := by omega
               exact Nat.le_refl _
  | n + 1, h => by
    by_cases e : m = n + 1
    · rw [e]; exact Nat.le_refl _
    · have := cf_mono E (n := n) (m := m) (by omega)
      rw [cf]; omega
theorem cf_le (E : Nat → Nat → Bool) : ∀ n, cf E n ≤ n
  | 0 => by simp [cf]
  | n + 1 => by
    have := cf_le E n
    rw [cf]; split <;> omega
theorem cf_new {E : Nat → Nat → Bool} {m n : Nat} (hm : fs E m = m) (h : m < n) : cf E m < cf E n := by
  have := cf_mono E (m := m + 1) (n := n) (by omega)
  rw [cf, if_pos hm] at this
  omega
theorem num_le (E : Nat → Nat → Bool) (b : Nat) : num E b ≤ b := Nat.le_trans (cf_le E _) (fs_le E b)
theorem num_lt {E : Nat → Nat → Bool} {b : Nat} (h : fs E b ≠ b) (hE : Eqv E) : num E b < cf E b := cf_new (fs_fs hE b) (by have := fs_le E b; omega)
theorem num_new {E : Nat → Nat → Bool} {b : Nat} (h : fs E b = b) : num E b = cf E b := by unfold num; rw [h]
theorem num_of {E : Nat → Nat → Bool} (h : Eqv E) {a b : Nat} (hab : E a b = true) : num E a = num E b := by unfold num; rw [fs_of h hab]
theorem num_iff {E : Nat → Nat → Bool} (h : Eqv E) {a b : Nat} : num E a = num E b ↔ E a b = true := by
  refine ⟨fun he => ?_, num_of h⟩
  have e : fs E a = fs E b := by
    rcases Nat.lt_trichotomy (fs E a) (fs E b) with hl | hl | hl
    · have := cf_new (fs_fs h a) hl; unfold num at he; omega
    · exact hl
    · have := cf_new (fs_fs h b) hl; unfold num at he; omega
  have h1 := fs_eqv h a
  rw [e] at h1
  exact h.trans (h.symm h1) (fs_eqv h b)
theorem fs_congr {E E' : Nat → Nat → Bool} {b : Nat} (h : ∀ a, a < b → E a b = E' a b) : fs E b = fs E' b := by
  obtain ⟨k1, k2, k3⟩ := lst_spec (fun a => E a b) b
  refine (lst_eq k1 (fun hl => ?_) fun a ha => ?_).symm
  · rw [← h _ hl]; exact k2 hl
  · have := k3 a ha
    rw [← h a (by omega)]; exact this
theorem cf_congr {E E' : Nat → Nat → Bool} : ∀ {n : Nat}, (∀ a b, a < b → b < n → E a b = E' a b) → cf E n = cf E' n
  | 0, _ => rfl
  | n + 1, h => by rw [cf, cf, cf_congr (n := n) (fun a b h1 h2 => h a b h1 (by omega)), fs_congr (fun a ha => h a n ha (by omega))]
theorem num_congr {E E' : Nat → Nat → Bool} {b n : Nat} (hb : b < n) (h : ∀ a b, a < b → b < n → E a b = E' a b) : num E b = num E' b := by
  have hle := fs_le E b
  unfold num
  rw [← fs_congr (fun a ha => h a b ha hb), cf_congr (fun a c h1 h2 => h a c h1 (by omega))]

/-- Bytes that the same sets contain. -/
def Em (l : List (Nat → Bool)) (a b : Nat) : Bool := l.all fun s => s a == s b
theorem Em_eqv (l : List (Nat → Bool)) : Eqv (Em l) := by
  refine ⟨fun a => ?_, fun {a b} h => ?_, fun {a b c} h k => ?_⟩
  · simp [Em]
  · simp [Em] at h ⊢
    exact fun s hs => (h s hs).symm
  · simp [Em] at h k ⊢
    exact fun s hs => (h s hs).trans (k s hs)
/-- Bytes of one value. -/
def Ec (c : Nat → Nat) (a b : Nat) : Bool := c a == c b
theorem Ec_eqv (c : Nat → Nat) : Eqv (Ec c) := by
  refine ⟨fun a => ?_, fun {a b} h => ?_, fun {a b c} h k => ?_⟩
  · simp [Ec]
  · simp [Ec] at h ⊢; exact h.symm
  · simp [Ec] at h k ⊢; exact h.trans k
/-- One set more. -/
theorem num_add (l : List (Nat → Bool)) (s : Nat → Bool) {b : Nat} (hb : b < 256) : num (Ec fun x => num (Em l) x + 256 * (s x).toNat) b = num (Em (l ++ [s])) b := by
  refine num_congr hb fun x y hxy hy => ?_
  have h1 := num_le (Em l) x
  have h2 := num_le (Em l) y
  have h3 := num_iff (Em_eqv l) (a := x) (b := y)
  have e : Em (l ++ [s]) x y = (Em l x y && (s x == s y)) := by simp [Em, List.all_append]
  rw [e]
  unfold Ec
  rw [Bool.eq_iff_iff]
  simp only [beq_iff_eq, Bool.and_eq_true]
  rw [← h3]
  cases s x <;> cases s y <;> simp <;> omega
/-- The numbers that renumber has given out when it comes to b, by class. -/
def given (c : Nat → Nat) : Nat → Nat → Nat
  | 0, _ => 0
  | b + 1, v => if c b = v ∧ given c b v = 0 then cf (Ec c) b + 1 else given c b v
theorem given_spec (c : Nat → Nat) : ∀ (b v : Nat), (∀ a, a < b → c a ≠ v) ∧ given c b v = 0 ∨ ∃ a, a < b ∧ c a = v ∧ given c b v = num (Ec c) a + 1
  | 0, v => .inl ⟨fun a h => by omega, rfl⟩
  | b + 1, v => by
    rw [given]
    rcases given_spec c b v with ⟨h1, h2⟩ | ⟨a, ha, hc, hg⟩
    · by_cases hb : c b = v
      · rw [if_pos ⟨hb, h2⟩]
        refine .inr ⟨b, by omega, hb, ?_⟩
        rw [num_new]
        refine lst_eq (Nat.le_refl _) (fun h => by omega) fun a ha => ?_
        have := h1 a ha
        simp [Ec, hb, this]
      · rw [if_neg (by simp [hb])]
        refine .inl ⟨fun a ha => ?_, h2⟩
        by_cases e : a = b
        · rw [e]; exact hb
        · exact h1 a (by omega)
    · rw [if_neg (by omega)]
      exact .inr ⟨a, by omega, hc, hg⟩
/-- A class that has no number yet. -/
theorem given_new {c : Nat → Nat} {b : Nat} (h : given c b (c b) = 0) : fs (Ec c) b = b ∧ num (Ec c) b = cf (Ec c) b := by
  have hf : fs (Ec c) b = b := by
    rcases given_spec c b (c b) with ⟨h1, _⟩ | ⟨a, _, _, hg⟩
    · refine lst_eq (Nat.le_refl _) (fun h => by omega) fun a ha => ?_
      have := h1 a ha
      simp [Ec, this]
    · omega
  exact ⟨hf, num_new hf⟩
theorem given_old {c : Nat → Nat} {b : Nat} (h : given c b (c b) ≠ 0) : fs (Ec c) b ≠ b ∧ given c b (c b) = num (Ec c) b + 1 := by
  rcases given_spec c b (c b) with ⟨_, h2⟩ | ⟨a, ha, hc, hg⟩
  · exact absurd h2 h
  · have he : Ec c a b = true := by simp [Ec, hc]
    refine ⟨fun e => ?_, by rw [hg, num_of (Ec_eqv c) he]⟩
    have := fs_least (E := Ec c) (a := a) (b := b) (by omega)
    rw [he] at this; cases this
end Bs
