/-
  Plain maths: words of bits, the number of ones, the least one, elements in order, numbers of classes (namespace Bs; no program).
  The frame of a law, once for every seat: a walk that ends in 'true' with old memory as it was gives the law's row.
  Lemmas of every seat, without its program: blocks, cells, rows in memory, rows of the call's own (namespace Go.Frame; lies as <Seat>Ba).
  What a call that may write to blocks of a set leaves alone; boxes made and written; appends into rows of the call's own (no program; lies as <Seat>Kt, behind <Seat>Ba).
  Contracts: OnesCount64, TrailingZeros64; sets as values; with, Has.
-/
import Derived.SizedLaws
import Derived.Carry
import Derived.ChangeShapes
import Derived.ProofKit
import Derived.OpenShut
import Derived.ShutString
import Derived.BigQuiet
import Derived.Below
import Derived.WalkKit
import Derived.OneCell
import Derived.OwnWalk
import Derived.Laws.OwnMore
import Derived.Outline
import Derived.Deep.AppendLies
import Derived.Deep.Upon
import Derived.Test.YtogpnlkjcdedlaaDoorProg
import Derived.BigRegion
import Derived.Deep.RegionHeld3
import Derived.Deep.LoopGhost
import Derived.Laws.BitsAllLaws
section
namespace Bs

/-- The number whose n low bits are those of f. -/
def nb (f : Nat → Bool) : Nat → Nat
  | 0 => 0
  | n + 1 => (f 0).toNat + 2 * nb (fun j => f (j + 1)) n
theorem nb_lt : ∀ (n : Nat) (f : Nat → Bool), nb f n < 2 ^ n
  | 0, _ => by simp [nb]
  | n + 1, f => by
    have := nb_lt n (fun j => f (j + 1))
    have hb : (f 0).toNat ≤ 1 := Bool.toNat_le _
    rw [nb, Nat.pow_succ]; omega
theorem nb_bit : ∀ (n : Nat) (f : Nat → Bool) (j : Nat), (nb f n).testBit j = (decide (j < n) && f j)
  | 0, f, j => by simp [nb]
  | n + 1, f, 0 => by
    rw [nb, Nat.testBit_zero]
    cases f 0 <;> simp <;> omega
  | n + 1, f, j + 1 => by
    rw [nb, Nat.testBit_succ]
    have e : ((f 0).toNat + 2 * nb (fun j => f (j + 1)) n) / 2 = nb (fun j => f (j + 1)) n := by
      have hb : (f 0).toNat ≤ 1 := Bool.toNat_le _
      omega
    rw [e, nb_bit n]
    simp
theorem nb_self {n x : Nat} (h : x < 2 ^ n) : nb x.testBit n = x := by
  apply Nat.eq_of_testBit_eq
  intro j
  rw [nb_bit]
  by_cases hj : j < n
  · simp [hj]
  · rw [Nat.testBit_lt_two_pow (Nat.lt_of_lt_of_le h (Nat.pow_le_pow_right (by omega) (by omega)))]
    simp [hj]
theorem nb_congr {n : Nat} {f g : Nat → Bool} (h : ∀ j, j < n → f j = g j) : nb f n = nb g n := by
  apply Nat.eq_of_testBit_eq
  intro j
  rw [nb_bit, nb_bit]
  by_cases hj : j < n
  · rw [h j hj]
  · simp [hj]
theorem nb_or (f g : Nat → Bool) (n : Nat) : nb (fun j => f j || g j) n = nb f n ||| nb g n := by
  apply Nat.eq_of_testBit_eq
  intro j
  rw [Nat.testBit_or, nb_bit, nb_bit, nb_bit]
  cases decide (j < n) <;> simp
theorem nb_and (f g : Nat → Bool) (n : Nat) : nb (fun j => f j && g j) n = nb f n &&& nb g n := by
  apply Nat.eq_of_testBit_eq
  intro j
  rw [Nat.testBit_and, nb_bit, nb_bit, nb_bit]
  cases decide (j < n) <;> simp
theorem nb_not (f : Nat → Bool) (n : Nat) : nb (fun j => !f j) n = (2 ^ n - 1) ^^^ nb f n := by
  apply Nat.eq_of_testBit_eq
  intro j
  rw [Nat.testBit_xor, nb_bit, nb_bit, Nat.testBit_two_pow_sub_one]
  cases decide (j < n) <;> simp
theorem nb_one {n j : Nat} (h : j < n) : nb (fun i => i == j) n = 2 ^ j := by
  apply Nat.eq_of_testBit_eq
  intro i
  rw [nb_bit, Nat.testBit_two_pow]
  by_cases e : i = j
  · subst e; simp [h]
  · have e' : ¬ j = i := fun h => e h.symm
    simp [e, e']
theorem nb_has {n j : Nat} (f : Nat → Bool) (h : j < n) : nb f n / 2 ^ j % 2 = (f j).toNat := by
  have := nb_bit n f j
  rw [Nat.testBit_eq_decide_div_mod_eq] at this
  simp only [h, decide_true, Bool.true_and] at this
  cases hf : f j
  · rw [hf] at this; simp at this; simp; omega
  · rw [hf] at this; simp at this; simp; omega
theorem nb_zero (n : Nat) : nb (fun _ => false) n = 0 := by
  induction n with
  | zero => rfl
  | succ n ih => rw [nb, ih]; rfl
theorem nb_eq_zero {n : Nat} {f : Nat → Bool} (h : nb f n = 0) (j : Nat) (hj : j < n) : f j = false := by
  have := nb_bit n f j
  rw [h] at this
  simp [hj] at this
  exact this

/-- How many of the first n. -/
def cnt (f : Nat → Bool) : Nat → Nat
  | 0 => 0
  | n + 1 => cnt f n + (f n).toNat
theorem cnt_congr {n : Nat} {f g : Nat → Bool} (h : ∀ j, j < n → f j = g j) : cnt f n = cnt g n := by
  induction n with
  | zero => rfl
  | succ n ih => rw [cnt, cnt, ih (fun j hj => h j (by omega)), h n (by omega)]
theorem cnt_le (f : Nat → Bool) (n : Nat) : cnt f n ≤ n := by
  induction n with
  | zero => simp [cnt]
  | succ n ih =>
    have hb : (f n).toNat ≤ 1 := Bool.toNat_le _
    rw [cnt]; omega
theorem cnt_add (f : Nat → Bool) (m n : Nat) : cnt f (m + n) = cnt f m + cnt (fun j => f (m + j)) n := by
  induction n with
  | zero => simp [cnt]
  | succ n ih => rw [← Nat.add_assoc, cnt, cnt, ih]; omega
theorem cnt_cons (f : Nat → Bool) (n : Nat) : cnt f (n + 1) = (f 0).toNat + cnt (fun j => f (j + 1)) n := by
  rw [Nat.add_comm n 1, cnt_add]
  simp only [cnt, Nat.zero_add]
  congr 1
  exact cnt_congr fun j _ => by rw [Nat.add_comm]
theorem cnt_not (f : Nat → Bool) (n : Nat) : cnt (fun j => !f j) n + cnt f n = n := by
  induction n with
  | zero => rfl
  | succ n ih =>
    rw [cnt, cnt]
    cases f n <;> simp <;> omega
theorem cnt_or_and (f g : Nat → Bool) (n : Nat) : cnt (fun j => f j || g j) n + cnt (fun j => f j && g j) n = cnt f n + cnt g n := by
  induction n with
  | zero => rfl
  | succ n ih =>
    simp only [cnt]
    cases f n <;> cases g n <;> simp <;> omega
theorem cnt_false (n : Nat) : cnt (fun _ => false) n = 0 := by
  induction n with
  | zero => rfl
  | succ n ih => rw [cnt, ih]; rfl

/-- How many ones among the first n bits. -/
def pc : Nat → Nat → Nat
  | 0, _ => 0
  | n + 1, x => x % 2 + pc n (x / 2)
theorem pc_nb : ∀ (n : Nat) (f : Nat → Bool), pc n (nb f n) = cnt f n
  | 0, _ => rfl
  | n + 1, f => by
    have hb : (f 0).toNat ≤ 1 := Bool.toNat_le _
    rw [pc, nb, cnt_cons, show ((f 0).toNat + 2 * nb (fun j => f (j + 1)) n) % 2 = (f 0).toNat by omega, show ((f 0).toNat + 2 * nb (fun j => f (j + 1)) n) / 2 = nb (fun j => f (j + 1)) n by omega, pc_nb n]
theorem pc_add : ∀ (m n x : Nat), pc (m + n) x = pc m x + pc n (x / 2 ^ m)
  | 0, n, x => by simp [pc]
  | m + 1, n, x => by
    rw [show m + 1 + n = (m + n) + 1 by omega, pc, pc, pc_add m n, Nat.div_div_eq_div_mul, Nat.pow_succ, Nat.mul_comm 2]; omega
theorem pc_mod : ∀ (m x : Nat), pc m (x % 2 ^ m) = pc m x
  | 0, x => by simp [pc]
  | m + 1, x => by
    rw [pc, pc, Nat.pow_succ, Nat.mul_comm, show x % (2 * 2 ^ m) / 2 = (x / 2) % 2 ^ m from Nat.mod_mul_right_div_self x 2 (2 ^ m), pc_mod m]
    congr 1
    exact Nat.mod_mul_right_mod _ _ _

theorem and_parts {k d m : Nat} (hd : d < 2 ^ k) (hm : m < 2 ^ k) (y z : Nat) : (d + 2 ^ k * y) &&& (m + 2 ^ k * z) = (d &&& m) + 2 ^ k * (y &&& z) := by
  apply Nat.eq_of_testBit_eq
  intro j
  rw [Nat.testBit_and, Nat.add_comm d, Nat.add_comm m, Nat.add_comm (d &&& m), Nat.testBit_two_pow_mul_add _ hd, Nat.testBit_two_pow_mul_add _ hm, Nat.testBit_two_pow_mul_add _ (Nat.and_lt_two_pow _ hm), Nat.testBit_and, Nat.testBit_and]
  split <;> rfl
theorem and256 {d m : Nat} (hd : d < 256) (hm : m < 256) (y z : Nat) : (d + 256 * y) &&& (m + 256 * z) = (d &&& m) + 256 * (y &&& z) := and_parts (k := 8) hd hm y z
/-- A mask of n equal bytes. -/
def mk (m : Nat) : Nat → Nat
  | 0 => 0
  | n + 1 => m + 256 * mk m n
theorem mk85 : mk 85 8 = 6148914691236517205 := by decide
theorem mk51 : mk 51 8 = 3689348814741910323 := by decide
theorem mk15 : mk 15 8 = 1085102592571150095 := by decide
def s1 (n x : Nat) : Nat := (x / 2 &&& mk 85 n) + (x &&& mk 85 n)
def s2 (n x : Nat) : Nat := (x / 4 &&& mk 51 n) + (x &&& mk 51 n)
def s3 (n x : Nat) : Nat := (x / 16 + x) &&& mk 15 n
def g1 (d : Nat) : Nat := (d / 2 &&& 85) + (d &&& 85)
def g2 (d : Nat) : Nat := (d / 4 &&& 51) + (d &&& 51)
def g3 (d : Nat) : Nat := d / 16 + d % 16
theorem t1 : ∀ d : Fin 256, ∀ c : Fin 2, (d.1 / 2 + 128 * c.1) &&& 85 = d.1 / 2 &&& 85 := by decide +kernel
theorem t2 : ∀ d : Fin 256, ∀ c : Fin 4, (d.1 / 4 + 64 * c.1) &&& 51 = d.1 / 4 &&& 51 := by decide +kernel
theorem t3 : ∀ d : Fin 256, d.1 / 16 ≤ 4 → d.1 % 16 ≤ 4 → ∀ c : Fin 5, (d.1 / 16 + d.1 + 16 * c.1) &&& 15 = g3 d.1 := by decide +kernel
theorem t4 : ∀ d : Fin 256, g1 d.1 < 256 ∧ g2 (g1 d.1) < 256 ∧ g2 (g1 d.1) / 16 ≤ 4 ∧ g2 (g1 d.1) % 16 ≤ 4 ∧ g3 (g2 (g1 d.1)) = pc 8 d.1 ∧ pc 8 d.1 ≤ 8 := by decide +kernel
theorem s1_succ (n x : Nat) : s1 (n + 1) x = g1 (x % 256) + 256 * s1 n (x / 256) := by
  have hd : x % 256 < 256 := Nat.mod_lt _ (by decide)
  have e1 : x / 2 = (x % 256 / 2 + 128 * (x / 256 % 2)) + 256 * (x / 256 / 2) := by omega
  have e2 : x = x % 256 + 256 * (x / 256) := by omega
  have k1 : x / 2 &&& mk 85 (n + 1) = (x % 256 / 2 &&& 85) + 256 * (x / 256 / 2 &&& mk 85 n) := by
    rw [e1, mk, and256 (by omega) (by decide)]
    have := t1 ⟨x % 256, hd⟩ ⟨x / 256 % 2, Nat.mod_lt _ (by decide)⟩
    simp only at this
    rw [this]
  have k2 : x &&& mk 85 (n + 1) = (x % 256 &&& 85) + 256 * (x / 256 &&& mk 85 n) := by
    conv => lhs; rw [e2]
    rw [mk, and256 hd (by decide)]
  unfold s1 g1
  rw [k1, k2]; omega
theorem s2_succ (n x : Nat) : s2 (n + 1) x = g2 (x % 256) + 256 * s2 n (x / 256) := by
  have hd : x % 256 < 256 := Nat.mod_lt _ (by decide)
  have e1 : x / 4 = (x % 256 / 4 + 64 * (x / 256 % 4)) + 256 * (x / 256 / 4) := by omega
  have e2 : x = x % 256 + 256 * (x / 256) := by omega
  have k1 : x / 4 &&& mk 51 (n + 1) = (x % 256 / 4 &&& 51) + 256 * (x / 256 / 4 &&& mk 51 n) := by
    rw [e1, mk, and256 (by omega) (by decide)]
    have := t2 ⟨x % 256, hd⟩ ⟨x / 256 % 4, Nat.mod_lt _ (by decide)⟩
    simp only at this
    rw [this]
  have k2 : x &&& mk 51 (n + 1) = (x % 256 &&& 51) + 256 * (x / 256 &&& mk 51 n) := by
    conv => lhs; rw [e2]
    rw [mk, and256 hd (by decide)]
  unfold s2 g2
  rw [k1, k2]; omega
theorem s3_succ (n x : Nat) (h1 : x % 256 / 16 ≤ 4) (h2 : x % 16 ≤ 4) (h3 : x / 256 % 16 ≤ 4) : s3 (n + 1) x = g3 (x % 256) + 256 * s3 n (x / 256) := by
  have hd : x % 256 < 256 := Nat.mod_lt _ (by decide)
  have e1 : x / 16 + x = (x % 256 / 16 + x % 256 + 16 * (x / 256 % 16)) + 256 * (x / 256 / 16 + x / 256) := by omega
  unfold s3
  rw [e1, mk, and256 (by omega) (by decide)]
  have := t3 ⟨x % 256, hd⟩ h1 (by simp only; omega) ⟨x / 256 % 16, by omega⟩
  simp only at this
  rw [this]
/-- The numbers of ones of n bytes, a byte each. -/
def bp : Nat → Nat → Nat
  | 0, _ => 0
  | n + 1, x => pc 8 (x % 256) + 256 * bp n (x / 256)
theorem s123 : ∀ (n x : Nat), s3 n (s2 n (s1 n x)) = bp n x
  | 0, x => by simp [s3, mk, bp]
  | n + 1, x => by
    have hd : x % 256 < 256 := Nat.mod_lt _ (by decide)
    obtain ⟨b1, b2, b3, b4, b5, b6⟩ := t4 ⟨x % 256, hd⟩
    simp only at b1 b2 b3 b4 b5 b6
    have e1 : s1 (n + 1) x % 256 = g1 (x % 256) := by rw [s1_succ]; omega
    have e2 : s1 (n + 1) x / 256 = s1 n (x / 256) := by rw [s1_succ]; omega
    have f0 := s2_succ n (s1 (n + 1) x)
    rw [e1, e2] at f0
    have f1 : s2 (n + 1) (s1 (n + 1) x) % 256 = g2 (g1 (x % 256)) := by rw [f0]; omega
    have f2 : s2 (n + 1) (s1 (n + 1) x) / 256 = s2 n (s1 n (x / 256)) := by rw [f0]; omega
    have low : s2 n (s1 n (x / 256)) % 16 ≤ 4 := by
      cases n with
      | zero => simp [s1, s2, mk]
      | succ m =>
        have hd' : x / 256 % 256 < 256 := Nat.mod_lt _ (by decide)
        obtain ⟨c1, c2, c3, c4, _, _⟩ := t4 ⟨x / 256 % 256, hd'⟩
        simp only at c1 c2 c3 c4
        have e1 : s1 (m + 1) (x / 256) % 256 = g1 (x / 256 % 256) := by rw [s1_succ]; omega
        rw [s2_succ, e1]
        omega
    rw [s3_succ _ _ (by rw [f1]; exact b3) (by have : s2 (n + 1) (s1 (n + 1) x) % 16 = s2 (n + 1) (s1 (n + 1) x) % 256 % 16 := by omega
                                               rw [this, f1]; exact b4) (by rw [f2]; exact low), f1, f2, s123 n, b5]
    rfl
/-- What OnesCount64 reckons: the steps, and what they come to. -/
theorem ones {x : Nat} (y1 y2 y3 y4 y5 y6 : Nat) (h1 : y1 = (x / 2 &&& 6148914691236517205) + (x &&& 6148914691236517205)) (h2 : y2 = (y1 / 4 &&& 3689348814741910323) + (y1 &&& 3689348814741910323))
    (h3 : y3 = (y2 / 16 + y2) &&& 1085102592571150095) (h4 : y4 = y3 + y3 / 256) (h5 : y5 = y4 + y4 / 65536) (h6 : y6 = y5 + y5 / 4294967296) :
    y6 % 128 = pc 64 x ∧ y3 < 1000000000000000000 ∧ y6 < 2000000000000000000 := by
  have e : y3 = bp 8 x := by
    rw [h3, h2, h1, ← mk85, ← mk51, ← mk15, ← s123]; rfl
  have q : ∀ x, pc 8 (x % 256) ≤ 8 := fun x => (t4 ⟨x % 256, Nat.mod_lt _ (by decide)⟩).2.2.2.2.2
  have r : pc 64 x = pc 8 (x % 256) + (pc 8 (x / 256 % 256) + (pc 8 (x / 256 / 256 % 256) + (pc 8 (x / 256 / 256 / 256 % 256) + (pc 8 (x / 256 / 256 / 256 / 256 % 256) + (pc 8 (x / 256 / 256 / 256 / 256 / 256 % 256) + (pc 8 (x / 256 / 256 / 256 / 256 / 256 / 256 % 256) + pc 8 (x / 256 / 256 / 256 / 256 / 256 / 256 / 256 % 256))))))) := by
    have m : ∀ x, pc 8 (x % 256) = pc 8 x := fun x => pc_mod 8 x
    have a : ∀ n x, pc (8 + n) x = pc 8 x + pc n (x / 256) := fun n x => pc_add 8 n x
    rw [show 64 = 8 + (8 + (8 + (8 + (8 + (8 + (8 + 8)))))) from rfl, a, a, a, a, a, a, a]
    simp only [m]
  have q0 := q x; have q1 := q (x / 256); have q2 := q (x / 256 / 256); have q3 := q (x / 256 / 256 / 256); have q4 := q (x / 256 / 256 / 256 / 256); have q5 := q (x / 256 / 256 / 256 / 256 / 256); have q6 := q (x / 256 / 256 / 256 / 256 / 256 / 256); have q7 := q (x / 256 / 256 / 256 / 256 / 256 / 256 / 256)
  simp only [bp] at e
  rw [r]
  generalize pc 8 (x % 256) = a0 at *
  generalize pc 8 (x / 256 % 256) = a1 at *
  generalize pc 8 (x / 256 / 256 % 256) = a2 at *
  generalize pc 8 (x / 256 / 256 / 256 % 256) = a3 at *
  generalize pc 8 (x / 256 / 256 / 256 / 256 % 256) = a4 at *
  generalize pc 8 (x / 256 / 256 / 256 / 256 / 256 % 256) = a5 at *
  generalize pc 8 (x / 256 / 256 / 256 / 256 / 256 / 256 % 256) = a6 at *
  generalize pc 8 (x / 256 / 256 / 256 / 256 / 256 / 256 / 256 % 256) = a7 at *
  clear h1 h2 h3 r q
  have z4 : y3 / 256 = a1 + 256 * (a2 + 256 * (a3 + 256 * (a4 + 256 * (a5 + 256 * (a6 + 256 * a7))))) := by omega
  have w4 : y4 = (a0 + a1) + 256 * ((a1 + a2) + 256 * ((a2 + a3) + 256 * ((a3 + a4) + 256 * ((a4 + a5) + 256 * ((a5 + a6) + 256 * ((a6 + a7) + 256 * a7)))))) := by omega
  have z5 : y4 / 65536 = (a2 + a3) + 256 * ((a3 + a4) + 256 * ((a4 + a5) + 256 * ((a5 + a6) + 256 * ((a6 + a7) + 256 * a7)))) := by omega
  have w5 : y5 = (a0 + a1 + a2 + a3) + 256 * ((a1 + a2 + a3 + a4) + 256 * ((a2 + a3 + a4 + a5) + 256 * ((a3 + a4 + a5 + a6) + 256 * ((a4 + a5 + a6 + a7) + 256 * ((a5 + a6 + a7) + 256 * ((a6 + a7) + 256 * a7)))))) := by omega
  have z6 : y5 / 4294967296 = (a4 + a5 + a6 + a7) + 256 * ((a5 + a6 + a7) + 256 * ((a6 + a7) + 256 * a7)) := by omega
  refine ⟨by omega, by omega, by omega⟩

/-! The least one. -/
theorem odd_bit (z k : Nat) : (1 + 2 * z).testBit k = match k with | 0 => true | k + 1 => z.testBit k := by
  cases k with
  | zero => rw [Nat.testBit_zero]; simp
  | succ k => rw [Nat.testBit_succ, show (1 + 2 * z) / 2 = z by omega]
theorem low_and {j y : Nat} (h : 2 ^ j * (1 + 2 * y) < 2 ^ 64) : 2 ^ j * (1 + 2 * y) &&& (2 ^ 64 - 2 ^ j * (1 + 2 * y)) = 2 ^ j := by
  have hj : j < 64 := by
    apply Nat.lt_of_not_le
    intro hj
    have h1 := Nat.pow_le_pow_right (n := 2) (by omega) hj
    have h2 : 2 ^ j * 1 ≤ 2 ^ j * (1 + 2 * y) := Nat.mul_le_mul_left _ (by omega)
    omega
  have e : (2 : Nat) ^ 64 = 2 ^ j * (2 * 2 ^ (63 - j)) := by
    rw [← Nat.pow_succ', ← Nat.pow_add]; congr 1; omega
  have hy : y < 2 ^ (63 - j) := by
    rw [e] at h
    have := Nat.lt_of_mul_lt_mul_left h
    omega
  have e2 : 2 ^ 64 - 2 ^ j * (1 + 2 * y) = 2 ^ j * (1 + 2 * (2 ^ (63 - j) - (y + 1))) := by
    rw [e, ← Nat.mul_sub]
    congr 1
    omega
  rw [e2]
  apply Nat.eq_of_testBit_eq
  intro i
  rw [Nat.testBit_and, Nat.testBit_two_pow_mul, Nat.testBit_two_pow_mul, Nat.testBit_two_pow]
  by_cases hi : j ≤ i
  · obtain ⟨d, rfl⟩ : ∃ d, i = j + d := ⟨i - j, by omega⟩
    rw [show j + d - j = d by omega, odd_bit, odd_bit]
    cases d with
    | zero => simp
    | succ d =>
      simp only
      rw [Nat.testBit_two_pow_sub_succ hy]
      cases y.testBit d <;> simp
  · have : ¬ j = i := by omega
    simp [hi, this]
theorem clear_low {j y : Nat} (i : Nat) : (2 ^ j * (1 + 2 * y) &&& (2 ^ j * (1 + 2 * y) - 1)).testBit i = ((2 ^ j * (1 + 2 * y)).testBit i && decide (j < i)) := by
  have hp := Nat.two_pow_pos j
  have e : 2 ^ j * (1 + 2 * y) - 1 = 2 ^ j * (2 * y) + (2 ^ j - 1) := by
    rw [Nat.mul_add, Nat.mul_one]; omega
  rw [Nat.testBit_and, e, Nat.testBit_two_pow_mul_add _ (by omega), Nat.testBit_two_pow_mul]
  by_cases hi : j ≤ i
  · obtain ⟨d, rfl⟩ : ∃ d, i = j + d := ⟨i - j, by omega⟩
    rw [if_neg (by omega), show j + d - j = d by omega, odd_bit]
    cases d with
    | zero => simp
    | succ d => simp [Nat.testBit_succ]
  · simp [hi]
theorem nb_least : ∀ (j n : Nat) (f : Nat → Bool), j < n → (∀ i, i < j → f i = false) → f j = true → ∃ y, nb f n = 2 ^ j * (1 + 2 * y)
  | 0, n + 1, f, _, _, hf => ⟨nb (fun j => f (j + 1)) n, by rw [nb, hf]; simp⟩
  | j + 1, n + 1, f, hj, h0, hf => by
    obtain ⟨y, hy⟩ := nb_least j n (fun i => f (i + 1)) (by omega) (fun i hi => h0 (i + 1) (by omega)) hf
    refine ⟨y, ?_⟩
    rw [nb, hy, h0 0 (by omega), Nat.pow_succ, Nat.mul_comm (2 ^ j) 2, Nat.mul_assoc]
    simp
theorem nb_clear {n j : Nat} {f : Nat → Bool} (hj : j < n) (h0 : ∀ i, i < j → f i = false) (hf : f j = true) : nb f n &&& (nb f n - 1) = nb (fun i => f i && decide (j < i)) n := by
  obtain ⟨y, hy⟩ := nb_least j n f hj h0 hf
  apply Nat.eq_of_testBit_eq
  intro i
  have h1 := clear_low (j := j) (y := y) i
  rw [← hy] at h1
  rw [h1, nb_bit, nb_bit, Bool.and_assoc]
theorem nb_some : ∀ (n : Nat) (f : Nat → Bool), nb f n ≠ 0 → ∃ j, j < n ∧ f j = true ∧ ∀ i, i < j → f i = false
  | 0, f, h => by simp [nb] at h
  | n + 1, f, h => by
    by_cases h0 : f 0 = true
    · exact ⟨0, by omega, h0, fun i hi => by omega⟩
    · have h0' : f 0 = false := by simpa using h0
      obtain ⟨j, hj, hf, hl⟩ := nb_some n (fun i => f (i + 1)) (fun e => h (by rw [nb, h0', e]; rfl))
      refine ⟨j + 1, by omega, hf, fun i hi => ?_⟩
      cases i with
      | zero => exact h0'
      | succ i => exact hl i (by omega)

/-! The elements in order. -/
/-- The elements below n. -/
def els (p : Nat → Bool) : Nat → List (Fin 256)
  | 0 => []
  | n + 1 => els p n ++ (if p n then [⟨n % 256, Nat.mod_lt _ (by decide)⟩] else [])
theorem els_length (p : Nat → Bool) : ∀ n, (els p n).length = cnt p n
  | 0 => rfl
  | n + 1 => by
    rw [els, cnt, List.length_append, els_length p n]
    cases p n <;> simp
theorem els_skip {p : Nat → Bool} {m : Nat} : ∀ {m' : Nat}, m ≤ m' → (∀ j, m ≤ j → j < m' → p j = false) → els p m' = els p m
  | 0, h, _ => by obtain rfl : m = 0 := by omega
                  rfl
  | m' + 1, h, hp => by
    by_cases e : m = m' + 1
    · rw [e]
    · rw [els, els_skip (m' := m') (by omega) (fun j h1 h2 => hp j h1 (by omega)), hp m' (by omega) (by omega)]
      simp
theorem els_hit {p : Nat → Bool} {m : Nat} (hp : p m = true) (hm : m < 256) : els p (m + 1) = els p m ++ [⟨m, hm⟩] := by
  rw [els, hp]
  simp [Nat.mod_eq_of_lt hm]
theorem els_prefix {p : Nat → Bool} {m : Nat} : ∀ {n : Nat}, m ≤ n → els p m <+: els p n
  | 0, h => by obtain rfl : m = 0 := by omega
               exact List.prefix_rfl
  | n + 1, h => by
    by_cases e : m = n + 1
    · rw [e]; exact List.prefix_rfl
    · rw [els]; exact (els_prefix (n := n) (by omega)).trans (List.prefix_append _ _)
theorem els_mem {p : Nat → Bool} : ∀ {n : Nat} {x : Fin 256}, n ≤ 256 → x ∈ els p n → x.1 < n ∧ p x.1 = true
  | 0, x, _, h => by simp [els] at h
  | n + 1, x, hn, h => by
    rw [els, List.mem_append] at h
    rcases h with h | h
    · have := els_mem (n := n) (by omega) h
      exact ⟨by omega, this.2⟩
    · split at h
      · rename_i hp
        simp at h
        subst h
        simp only [Nat.mod_eq_of_lt (show n < 256 by omega)]
        exact ⟨by omega, hp⟩
      · simp at h
theorem els_sorted (p : Nat → Bool) : ∀ n, n ≤ 256 → (els p n).Pairwise (fun a b => a.1 < b.1)
  | 0, _ => by simp [els]
  | n + 1, hn => by
    rw [els, List.pairwise_append]
    refine ⟨els_sorted p n (by omega), ?_, ?_⟩
    · split <;> simp
    · intro a ha b hb
      have := els_mem (by omega) ha
      split at hb
      · simp at hb
        subst hb
        simp only [Nat.mod_eq_of_lt (show n < 256 by omega)]
        omega
      · simp at hb

/-! Numbers in the order of first occurrence. -/
/-- The least of the first n for which g holds, or n. -/
def lst (g : Nat → Bool) : Nat → Nat
  | 0 => 0
  | n + 1 => if lst g n < n then lst g n else if g n then n else n + 1
theorem lst_spec (g : Nat → Bool) : ∀ n, lst g n ≤ n ∧ (lst g n < n → g (lst g n) = true) ∧ ∀ a, a < lst g n → g a = false
  | 0 => ⟨by simp [lst], fun h => by simp [lst] at h, fun a h => by simp [lst] at h⟩
  | n + 1 => by
    obtain ⟨h1, h2, h3⟩ := lst_spec g n
    rw [lst]
    split
    · rename_i h
      exact ⟨by omega, fun _ => h2 h, h3⟩
    · rename_i h
      have e : lst g n = n := by omega
      rw [e] at h3
      split
      · rename_i hg
        exact ⟨by omega, fun _ => hg, h3⟩
      · rename_i hg
        refine ⟨by omega, fun h => by omega, fun a ha => ?_⟩
        by_cases ha' : a = n
        · rw [ha']; simpa using hg
        · exact h3 a (by omega)
theorem lst_eq {g : Nat → Bool} {n a : Nat} (ha : a ≤ n) (h1 : a < n → g a = true) (h2 : ∀ b, b < a → g b = false) : lst g n = a := by
  obtain ⟨k1, k2, k3⟩ := lst_spec g n
  rcases Nat.lt_trichotomy (lst g n) a with h | h | h
  · have := k2 (by omega)
    rw [h2 _ h] at this; cases this
  · exact h
  · have := k3 a h
    rw [h1 (by omega)] at this; cases this
/-- The first that is equivalent. -/
def fs (E : Nat → Nat → Bool) (b : Nat) : Nat := lst (fun a => E a b) b
/-- How many classes begin below n. -/
def cf (E : Nat → Nat → Bool) : Nat → Nat
  | 0 => 0
  | n + 1 => cf E n + (if fs E n = n then 1 else 0)
/-- The class number. -/
def num (E : Nat → Nat → Bool) (b : Nat) : Nat := cf E (fs E b)
/-- An equivalence of bytes. -/
structure Eqv (E : Nat → Nat → Bool) : Prop where
  refl : ∀ a, E a a = true
  symm : ∀ {a b}, E a b = true → E b a = true
  trans : ∀ {a b c}, E a b = true → E b c = true → E a c = true
theorem fs_le (E : Nat → Nat → Bool) (b : Nat) : fs E b ≤ b := (lst_spec _ b).1
theorem fs_eqv {E : Nat → Nat → Bool} (h : Eqv E) (b : Nat) : E (fs E b) b = true := by
  by_cases e : fs E b = b
  · rw [e]; exact h.refl b
  · exact (lst_spec (fun a => E a b) b).2.1 (by have := fs_le E b; unfold fs at *; omega)
theorem fs_least {E : Nat → Nat → Bool} {a b : Nat} (h : a < fs E b) : E a b = false := (lst_spec (fun a => E a b) b).2.2 a h
theorem fs_of {E : Nat → Nat → Bool} (h : Eqv E) {a b : Nat} (hab : E a b = true) : fs E a = fs E b := by
  have key : ∀ {a b}, E a b = true → fs E a ≤ fs E b := fun {a b} hab => by
    apply Nat.le_of_not_lt
    intro hl
    have h1 := fs_least hl
    rw [h.trans (fs_eqv h b) (h.symm hab)] at h1
    cases h1
  exact Nat.le_antisymm (key hab) (key (h.symm hab))
theorem fs_fs {E : Nat → Nat → Bool} (h : Eqv E) (b : Nat) : fs E (fs E b) = fs E b := fs_of h (fs_eqv h b)
theorem cf_mono (E : Nat → Nat → Bool) {m : Nat} : ∀ {n : Nat}, m ≤ n → cf E m ≤ cf E n
  | 0, h => by obtain rfl : m = 0 := by omega
               exact Nat.le_refl _
  | n + 1, h => by
    by_cases e : m = n + 1
    · rw [e]; exact Nat.le_refl _
    · have := cf_mono E (n := n) (m := m) (by omega)
      rw [cf]; omega
theorem cf_le (E : Nat → Nat → Bool) : ∀ n, cf E n ≤ n
  | 0 => by simp [cf]
  | n + 1 => by
    have := cf_le E n
    rw [cf]; split <;> omega
theorem cf_new {E : Nat → Nat → Bool} {m n : Nat} (hm : fs E m = m) (h : m < n) : cf E m < cf E n := by
  have := cf_mono E (m := m + 1) (n := n) (by omega)
  rw [cf, if_pos hm] at this
  omega
theorem num_le (E : Nat → Nat → Bool) (b : Nat) : num E b ≤ b := Nat.le_trans (cf_le E _) (fs_le E b)
theorem num_lt {E : Nat → Nat → Bool} {b : Nat} (h : fs E b ≠ b) (hE : Eqv E) : num E b < cf E b := cf_new (fs_fs hE b) (by have := fs_le E b; omega)
theorem num_new {E : Nat → Nat → Bool} {b : Nat} (h : fs E b = b) : num E b = cf E b := by unfold num; rw [h]
theorem num_of {E : Nat → Nat → Bool} (h : Eqv E) {a b : Nat} (hab : E a b = true) : num E a = num E b := by unfold num; rw [fs_of h hab]
theorem num_iff {E : Nat → Nat → Bool} (h : Eqv E) {a b : Nat} : num E a = num E b ↔ E a b = true := by
  refine ⟨fun he => ?_, num_of h⟩
  have e : fs E a = fs E b := by
    rcases Nat.lt_trichotomy (fs E a) (fs E b) with hl | hl | hl
    · have := cf_new (fs_fs h a) hl; unfold num at he; omega
    · exact hl
    · have := cf_new (fs_fs h b) hl; unfold num at he; omega
  have h1 := fs_eqv h a
  rw [e] at h1
  exact h.trans (h.symm h1) (fs_eqv h b)
theorem fs_congr {E E' : Nat → Nat → Bool} {b : Nat} (h : ∀ a, a < b → E a b = E' a b) : fs E b = fs E' b := by
  obtain ⟨k1, k2, k3⟩ := lst_spec (fun a => E a b) b
  refine (lst_eq k1 (fun hl => ?_) fun a ha => ?_).symm
  · rw [← h _ hl]; exact k2 hl
  · have := k3 a ha
    rw [← h a (by omega)]; exact this
theorem cf_congr {E E' : Nat → Nat → Bool} : ∀ {n : Nat}, (∀ a b, a < b → b < n → E a b = E' a b) → cf E n = cf E' n
  | 0, _ => rfl
  | n + 1, h => by rw [cf, cf, cf_congr (n := n) (fun a b h1 h2 => h a b h1 (by omega)), fs_congr (fun a ha => h a n ha (by omega))]
theorem num_congr {E E' : Nat → Nat → Bool} {b n : Nat} (hb : b < n) (h : ∀ a b, a < b → b < n → E a b = E' a b) : num E b = num E' b := by
  have hle := fs_le E b
  unfold num
  rw [← fs_congr (fun a ha => h a b ha hb), cf_congr (fun a c h1 h2 => h a c h1 (by omega))]

/-- Bytes that the same sets contain. -/
def Em (l : List (Nat → Bool)) (a b : Nat) : Bool := l.all fun s => s a == s b
theorem Em_eqv (l : List (Nat → Bool)) : Eqv (Em l) := by
  refine ⟨fun a => ?_, fun {a b} h => ?_, fun {a b c} h k => ?_⟩
  · simp [Em]
  · simp [Em] at h ⊢
    exact fun s hs => (h s hs).symm
  · simp [Em] at h k ⊢
    exact fun s hs => (h s hs).trans (k s hs)
/-- Bytes of one value. -/
def Ec (c : Nat → Nat) (a b : Nat) : Bool := c a == c b
theorem Ec_eqv (c : Nat → Nat) : Eqv (Ec c) := by
  refine ⟨fun a => ?_, fun {a b} h => ?_, fun {a b c} h k => ?_⟩
  · simp [Ec]
  · simp [Ec] at h ⊢; exact h.symm
  · simp [Ec] at h k ⊢; exact h.trans k
/-- One set more. -/
theorem num_add (l : List (Nat → Bool)) (s : Nat → Bool) {b : Nat} (hb : b < 256) : num (Ec fun x => num (Em l) x + 256 * (s x).toNat) b = num (Em (l ++ [s])) b := by
  refine num_congr hb fun x y hxy hy => ?_
  have h1 := num_le (Em l) x
  have h2 := num_le (Em l) y
  have h3 := num_iff (Em_eqv l) (a := x) (b := y)
  have e : Em (l ++ [s]) x y = (Em l x y && (s x == s y)) := by simp [Em, List.all_append]
  rw [e]
  unfold Ec
  rw [Bool.eq_iff_iff]
  simp only [beq_iff_eq, Bool.and_eq_true]
  rw [← h3]
  cases s x <;> cases s y <;> simp <;> omega
/-- The numbers that renumber has given out when it comes to b, by class. -/
def given (c : Nat → Nat) : Nat → Nat → Nat
  | 0, _ => 0
  | b + 1, v => if c b = v ∧ given c b v = 0 then cf (Ec c) b + 1 else given c b v
theorem given_spec (c : Nat → Nat) : ∀ (b v : Nat), (∀ a, a < b → c a ≠ v) ∧ given c b v = 0 ∨ ∃ a, a < b ∧ c a = v ∧ given c b v = num (Ec c) a + 1
  | 0, v => .inl ⟨fun a h => by omega, rfl⟩
  | b + 1, v => by
    rw [given]
    rcases given_spec c b v with ⟨h1, h2⟩ | ⟨a, ha, hc, hg⟩
    · by_cases hb : c b = v
      · rw [if_pos ⟨hb, h2⟩]
        refine .inr ⟨b, by omega, hb, ?_⟩
        rw [num_new]
        refine lst_eq (Nat.le_refl _) (fun h => by omega) fun a ha => ?_
        have := h1 a ha
        simp [Ec, hb, this]
      · rw [if_neg (by simp [hb])]
        refine .inl ⟨fun a ha => ?_, h2⟩
        by_cases e : a = b
        · rw [e]; exact hb
        · exact h1 a (by omega)
    · rw [if_neg (by omega)]
      exact .inr ⟨a, by omega, hc, hg⟩
/-- A class that has no number yet. -/
theorem given_new {c : Nat → Nat} {b : Nat} (h : given c b (c b) = 0) : fs (Ec c) b = b ∧ num (Ec c) b = cf (Ec c) b := by
  have hf : fs (Ec c) b = b := by
    rcases given_spec c b (c b) with ⟨h1, _⟩ | ⟨a, _, _, hg⟩
    · refine lst_eq (Nat.le_refl _) (fun h => by omega) fun a ha => ?_
      have := h1 a ha
      simp [Ec, this]
    · omega
  exact ⟨hf, num_new hf⟩
theorem given_old {c : Nat → Nat} {b : Nat} (h : given c b (c b) ≠ 0) : fs (Ec c) b ≠ b ∧ given c b (c b) = num (Ec c) b + 1 := by
  rcases given_spec c b (c b) with ⟨_, h2⟩ | ⟨a, ha, hc, hg⟩
  · exact absurd h2 h
  · have he : Ec c a b = true := by simp [Ec, hc]
    refine ⟨fun e => ?_, by rw [hg, num_of (Ec_eqv c) he]⟩
    have := fs_least (E := Ec c) (a := a) (b := b) (by omega)
    rw [he] at this; cases this
end Bs
end
section
namespace Go.Frame
open Go.ChangeShapes Go.WideShapes Go.ChangeAt Go.RowKit

theorem trodAll_below {H : Type} {enc : TypeId × Value → H} {P : Program} (hl : laidOutB P = true) {W W' : World} (hb : Below W.heap.size W W') : ∀ {ts : List TypeId} {vs : List Value} {ds : List (DataW H)} {ps : List MemPlace},
    (∀ t ∈ ts, P.readableRec t = true ∧ t < P.types.size) → DataW.TrodAll enc P W 0 (fun _ => true) true ts vs ds ps →
    DataW.TrodAll enc P W' 0 (fun b => decide (b < W.heap.size)) true ts vs ds ps := by
  intro ts
  induction ts with
  | nil =>
    intro vs ds ps _ h
    cases vs <;> cases ds <;> simp [DataW.TrodAll] at h ⊢
    exact h
  | cons t ts ih =>
    intro vs ds ps ht h
    obtain ⟨v, vs', d, ds', p, q, rfl, rfl, rfl, h1, h2⟩ := trodAll_cons h
    have hr := ht t (by simp)
    have lt : ∀ x ∈ p, x.block < W.heap.size := by obtain ⟨m, hm⟩ := h1; exact DataW.trod_lt m _ _ _ hm
    exact ⟨p, q, Below.trod hl hr.1 hr.2 h1 hb lt, ih (fun t' h' => ht t' (by simp [h'])) h2, rfl⟩

theorem trodAll_length {H : Type} {enc : TypeId × Value → H} {P : Program} {W : World} {base : Nat} {spare : Nat → Bool} {held : Bool} : ∀ {ts : List TypeId} {vs : List Value} {ds : List (DataW H)} {ps : List MemPlace},
    DataW.TrodAll enc P W base spare held ts vs ds ps → ds.length = ts.length ∧ vs.length = ts.length := by
  intro ts
  induction ts with
  | nil =>
    intro vs ds ps h
    cases vs <;> cases ds <;> simp [DataW.TrodAll] at h ⊢
  | cons t ts ih =>
    intro vs ds ps h
    obtain ⟨v, vs', d, ds', p, q, rfl, rfl, rfl, h1, h2⟩ := trodAll_cons h
    have := ih h2
    simp [this]

theorem lifted {C : Checked} {os : Os} {f : FuncId} {fn : Func} {s : ChangeSpec} {tb : TypeId} {H : Type} {enc : TypeId × Value → H}
    (own : ownKnob C.prog.godebug = none) (started : os.Started) (noInit : C.prog.inits.idxOf? f = none) (hfn : C.prog.funcs[f]? = some fn)
    (witness : ∃ (w : World) (tape : Tape) (i : Input), w.os = os ∧ (w.forCall tape i).Shaped C.prog ∧ i.vars = [] ∧ Input.okWide C.prog (w.forCall tape i) .any w.heap.size f i ∧
      s.pre6 enc C.prog fn [] false (w.forCall tape i).memory i.args ∧ ({} : Assume).holds C.prog (lone (Frame.enter C.prog f i.args .normal) [] (w.forCall tape i)))
    (hl : laidOutB C.prog = true) (hp : fn.params.toList.all (fun t => C.prog.readableRec t && decide (t < C.prog.types.size)) = true)
    (hres : fn.resultTypes = #[tb]) (hub : C.prog.underlying tb = some .bool) (hvars : s.vars = [])
    (hspec : ∀ ds : List (DataW H), ds.length = fn.params.toList.length → s.fn H ds = { results := [.lit (.bool true)], args := ds })
    (walk : ∀ (W : World) (base : Nat) (args : Array Value) (ds : List (DataW H)) (p : List MemPlace), args.toList.length = fn.params.toList.length →
      (∀ (j : Nat) t v, fn.params[j]? = some t → args[j]? = some v → Value.okWide C.prog W .any base t v) →
      DataW.TrodAll enc C.prog W 0 (fun _ => true) true fn.params.toList args.toList ds p →
      (DataW.weightsEach C.prog fn.params.toList ds).all (· ≤ reachBytes) = true →
      Calls C.prog f args W fun e W' => e = .returned (.bool true) ∧ Below W.heap.size W W') :
    ReturnsInHanded {} C os f .any (s.pre6 enc C.prog fn [] false) (s.post enc C.prog fn false true false false) := by
  refine returnsInHanded_of_change_sized own started noInit hfn witness ?_
  intro W base args ds gs before hval hW _ hsz _
  have hW' := hW
  obtain ⟨p, q, hA, hV, rfl, hfz, hnd⟩ := hW
  rw [hvars] at hV
  obtain ⟨rfl, rfl⟩ := trodVars_none hV
  obtain ⟨l1, l2⟩ := trodAll_length hA
  have hv : DataSpec.varTypes C.prog s.plain = [] := by simp [DataSpec.varTypes, ChangeSpec.plain, hvars]
  rw [hv] at hsz
  simp only [List.append_nil] at hsz hW'
  refine (walk W base args ds p l2 hval hA hsz).mono fun e W' ⟨he, bel⟩ => ?_
  subst he
  have hsp := hspec ds l1
  refine ⟨_, rfl, ds, [], _, [], p, [], hW', ?_, ?_, ?_, bel.frame _, fun h => by cases h⟩
  · rw [List.append_nil, hsp, hres]
    exact trodAll_mk1 (shut_bool hub _)
  · rw [List.append_nil, hsp]
    refine trodAll_below hl bel ?_ hA
    intro t ht
    have := List.all_eq_true.1 hp t ht
    simpa [Bool.and_eq_true] using this
  · rw [List.append_nil, hsp, hvars]
    simp [DataW.TrodVars]
theorem wp_region_below {P : Program} {id : Nat} {Q : Exit → Act → World → Prop} {a : Act} {w : World} {l : List Oper} (hm : P.follows .mixedOrders = true) (hB : Region.lexB .any l.toArray = true)
    (h : ∀ (X : Type) (f : X → World), Nonempty X → Hid (∀ x, Below w.heap.size w (f x)) → Hid (∀ w', Below w.heap.size w w' → ∃ x, w' = f x) →
      wpQuiet P l.toArray (fun w' => ∃ x, w' = f x) (fun a' => ∀ w', Below w.heap.size w w' → Q .normal a' w') l a) : (Code.region id l.toArray true).wp P Q a w := by
  have hd : Below w.heap.size w { w with drawn := w.drawn + 1 } := (Below.refl w.heap.size w).drew
  refine wp_region_quiet (C := fun w' => ∃ x : {w' : World // Below w.heap.size w w'}, w' = x.1) hm hB ⟨⟨_, hd⟩, rfl⟩ ?_
  have := h {w' : World // Below w.heap.size w w'} Subtype.val ⟨⟨_, hd⟩⟩ (fun x => x.2) (fun w' h' => ⟨⟨w', h'⟩, rfl⟩)
  have e : (fun a' => ∀ w', (∃ x : {w' : World // Below w.heap.size w w'}, w' = x.1) → Q .normal a' w') = fun a' => ∀ w', Below w.heap.size w w' → Q .normal a' w' := by
    funext a'
    refine propext ⟨fun h w' hw => h w' ⟨⟨w', hw⟩, rfl⟩, fun h w' ⟨x, hx⟩ => h w' (hx ▸ x.2)⟩
  rw [e]
  exact this

/-- A callee whose contract ends in 'Below', met inside such a region. -/
theorem calls_below {P : Program} {F : FuncId} {args : Array Value} {w : World} {v : Value} {X : Type} {f : X → World} (hf : Hid (∀ x, Below w.heap.size w (f x))) (hs : Hid (∀ w', Below w.heap.size w w' → ∃ x, w' = f x)) {x : X}
    (h : Calls P F args (f x) fun e w' => e = .returned v ∧ Below (f x).heap.size (f x) w') : Calls P F args (f x) fun e w'' => e = .returned v ∧ ∃ x, w'' = f x :=
  h.mono fun _ _ ⟨he, hb⟩ => ⟨he, hs _ ((hf x).trans (hb.mono (hf x).size))⟩
/-- .. of one that leaves the world alone. -/
theorem calls_same {P : Program} {F : FuncId} {args : Array Value} {v : Value} {X : Type} {f : X → World} {x : X}
    (h : Calls P F args (f x) fun e w' => e = .returned v ∧ f x = w') : Calls P F args (f x) fun e w'' => e = .returned v ∧ ∃ x, w'' = f x :=
  h.mono fun _ _ ⟨he, hb⟩ => ⟨he, x, hb.symm⟩
end Go.Frame
end
section
namespace Go.Frame
open Go.RowKit
theorem hid {p : Prop} (h : p) : Hid p := h
theorem alloc_new (w : World) (o : Obj) : (w.alloc o).heap[w.heap.size]? = some o := by
  show (w.heap.push o)[w.heap.size]? = some o
  exact Array.getElem?_push_size
theorem alloc_at (w : World) (o : Obj) {b : Nat} (h : w.heap.size = b) : (w.alloc o).heap[b]? = some o := by subst h; exact alloc_new _ _
theorem heap_lt {W : World} {b : Nat} {o : Obj} (h : W.heap[b]? = some o) : b < W.heap.size := (Array.getElem?_eq_some_iff.1 h).1
theorem blk_alloc {W : World} {b : Nat} {o o' : Obj} (h : W.heap[b]? = some o) : (W.alloc o').heap[b]? = some o := by
  have hb := heap_lt h
  show (W.heap.push o')[b]? = some o
  rw [Array.getElem?_push_lt hb]
  rw [Array.getElem?_eq_getElem hb] at h
  exact h
theorem cells1 {W : World} {b : Nat} {x : Value} {t : TypeId} (h : W.heap[b]? = some (.cells #[x] t (0, 0))) : W.cell? ⟨b, 0, none⟩ = some x := by simp [World.cell?, h]
theorem cells2 {W : World} {b : Nat} {x y : Value} {t : TypeId} (h : W.heap[b]? = some (.cells #[x, y] t (0, 0))) : W.cell? ⟨b, 0, none⟩ = some x ∧ W.cell? ⟨b, 1, none⟩ = some y := by
  refine ⟨?_, ?_⟩ <;> simp [World.cell?, h]
theorem cells3 {W : World} {b : Nat} {x y z : Value} {t : TypeId} (h : W.heap[b]? = some (.cells #[x, y, z] t (0, 0))) : W.cell? ⟨b, 0, none⟩ = some x ∧ W.cell? ⟨b, 1, none⟩ = some y ∧ W.cell? ⟨b, 2, none⟩ = some z := by
  refine ⟨?_, ?_, ?_⟩ <;> simp [World.cell?, h]
theorem cells4 {W : World} {b : Nat} {x y z v : Value} {t : TypeId} (h : W.heap[b]? = some (.cells #[x, y, z, v] t (0, 0))) : W.cell? ⟨b, 0, none⟩ = some x ∧ W.cell? ⟨b, 1, none⟩ = some y ∧ W.cell? ⟨b, 2, none⟩ = some z ∧ W.cell? ⟨b, 3, none⟩ = some v := by
  refine ⟨?_, ?_, ?_, ?_⟩ <;> simp [World.cell?, h]
/-- No cell of a block whose frozen range is empty is frozen. -/
theorem free {W : World} {b : Nat} {c : Array Value} {t : TypeId} (h : W.heap[b]? = some (.cells c t (0, 0))) (k : Nat) : W.frozen? ⟨b, k, none⟩ = false := by simp [World.frozen?, h]
/-- A store into a cell of a block. -/
theorem blk_put {W : World} {b k : Nat} {c : Array Value} {v : Value} {t : TypeId} (h : W.heap[b]? = some (.cells c t (0, 0))) : (W.setCell ⟨b, k, none⟩ v).heap[b]? = some (.cells (c.setIfInBounds k v) t (0, 0)) := by
  have hlt := heap_lt h
  have h' : W.heap[b] = .cells c t (0, 0) := by simpa [Array.getElem?_eq_getElem hlt] using h
  show (W.heap.modify b _)[b]? = _
  rw [Array.getElem?_eq_getElem (by simpa using hlt), Array.getElem_modify_self, h']
  rfl
theorem blk_set {W : World} {b : Nat} {o : Obj} {a : Addr} {v : Value} (h : W.heap[b]? = some o) (hn : b ≠ a.block) : (W.setCell a v).heap[b]? = some o := (heap_setCell_other W a b v hn).trans h
theorem wrapIn {a : Int} (h1 : -9223372036854775808 ≤ a) (h2 : a ≤ 9223372036854775807) : IntKind.i64.wrap a = a := IntWalk.i64_in _ (by omega)
theorem below_drewN {n : Nat} {A B : World} (h : Below n A B) (k : Nat) : Below n A (B.drewN k) := by
  induction k with
  | zero => exact h
  | succ k ih => exact ih.drew
/-- A slice of one-cell elements in memory. -/
def Row (W : World) (p : Option Addr) (n : Nat) (l : List Value) : Prop :=
  l.length = n ∧ (n = 0 ∨ ∃ b off, p = some ⟨b, off, none⟩ ∧ b < W.heap.size ∧ ∀ i (x : Value), l[i]? = some x → W.cell? ⟨b, off + i, none⟩ = some x)
theorem Row.below {W W' : World} {p : Option Addr} {n : Nat} {l : List Value} (h : Row W p n l) (hb : Below W.heap.size W W') : Row W' p n l := by
  refine ⟨h.1, h.2.imp id ?_⟩
  rintro ⟨b, off, rfl, hlt, hx⟩
  exact ⟨b, off, rfl, Nat.lt_of_lt_of_le hlt hb.size, fun i x hi => (hb.cell (p := ⟨b, _, none⟩) hlt).trans (hx i x hi)⟩
def ints (l : List Nat) : List Value := l.map fun (x : Nat) => Value.int .i64 (x : Int)
def strs (l : List ByteArray) : List Value := l.map .string
theorem ints_at {l : List Nat} {i x : Nat} (h : l[i]? = some x) : (ints l)[i]? = some (.int .i64 (x : Int)) := by unfold ints; rw [List.getElem?_map, h]; rfl
theorem strs_at {l : List ByteArray} {i : Nat} {x : ByteArray} (h : l[i]? = some x) : (strs l)[i]? = some (.string x) := by unfold strs; rw [List.getElem?_map, h]; rfl
theorem one_cell (w : World) (t : TypeId) (v u : Value) (j : Nat) (hj : ([v] : List Value)[j]? = some u) : (w.alloc (.cells #[v] t)).cell? ((⟨w.heap.size, 0, none⟩ : Addr).add j) = some u := by
  match j, hj with
  | 0, hj =>
    simp only [List.getElem?_cons_zero, Option.some.injEq] at hj
    subst hj
    show World.cell? _ ⟨w.heap.size, 0 + 0, none⟩ = _
    unfold World.cell?
    rw [alloc_new]
    rfl
  | j + 1, hj => simp at hj
theorem own_row {W : World} {base : Nat} {e : TypeId} {v : Value} {n : Nat} {l : List Value} (h : W.ownsRow base e 1 v n l) : ∃ p c, v = .slice p n c ∧ Row W p n l := by
  have hl : l.length = n := by have := h.1; omega
  rcases h.2 with ⟨rfl, rfl⟩ | ⟨g, cap, cur, rfl, hb, hg, hn, _, hc, ht⟩
  · exact ⟨none, 0, rfl, hl, .inl rfl⟩
  · refine ⟨_, cap, rfl, hl, .inr ⟨g, 0, rfl, heap_lt hg, fun i x hx => ?_⟩⟩
    have hi := (List.getElem?_eq_some_iff.1 hx).1
    rw [← ht, List.getElem?_take] at hx
    split at hx
    · simp [World.cell?, hg]
      simpa using hx
    · cases hx
theorem own_row' {W : World} {base : Nat} {e : TypeId} {p : Option Addr} {n c : Nat} {l : List Value} (h : W.ownsRow base e 1 (.slice p n c) n l) : Row W p n l := by
  obtain ⟨p', c', he, hr⟩ := own_row h
  simp only [Value.slice.injEq, true_and] at he
  rw [he.1]
  exact hr
theorem own_base {W : World} {base : Nat} {e : TypeId} {p : Option Addr} {n c : Nat} {l : List Value} (h : W.ownsRow base e 1 (.slice p n c) n l) : ∀ a, p = some a → base ≤ a.block := by
  intro a ha
  subst ha
  rcases h.2 with ⟨h1, _⟩ | ⟨g, cap, cur, h1, hb, _⟩
  · simp at h1
  · simp only [Value.slice.injEq, Option.some.injEq] at h1
    rw [h1.1]; exact hb
theorem Row.set {W : World} {p : Option Addr} {n : Nat} {l : List Value} (h : Row W p n l) {x : Addr} {v : Value} (hp : ∀ a, p = some a → a.block ≠ x.block) : Row (W.setCell x v) p n l := by
  refine ⟨h.1, h.2.imp id ?_⟩
  rintro ⟨b, off, rfl, hb, hx⟩
  refine ⟨b, off, rfl, by simpa using hb, fun i y hy => ?_⟩
  rw [World.cell?_setCell_other _ _ _ _ (fun e => hp _ rfl (by rw [e]))]
  exact hx i y hy
theorem weightsAll_mem {H : Type} {P : Program} {e : TypeId} : ∀ {l : List (DataW H)} {d : DataW H}, d ∈ l → ∀ n ∈ d.weights P e, n ∈ DataW.weightsAll P e l
  | d' :: r, d, hd, n, hn => by
    simp only [DataW.weightsAll, List.mem_append]
    rcases List.mem_cons.1 hd with rfl | h
    · exact Or.inl hn
    · exact Or.inr (weightsAll_mem h n hn)
theorem add_at (b off k : Nat) : (⟨b, off, none⟩ : Addr).add k = ⟨b, off + k, none⟩ := by
  unfold Addr.add
  split <;> simp_all
/-- A slice of edits in memory. -/
def ERow (W : World) (p : Option Addr) (n : Nat) (E : List (Int × Int × ByteArray)) : Prop :=
  E.length = n ∧ (n = 0 ∨ ∃ b off, p = some ⟨b, off, none⟩ ∧ b < W.heap.size ∧ ∀ i (x : Int × Int × ByteArray), E[i]? = some x →
    W.cell? ⟨b, off + i * 3, none⟩ = some (.int .i64 x.1) ∧ W.cell? ⟨b, off + i * 3 + 1, none⟩ = some (.int .i64 x.2.1) ∧ W.cell? ⟨b, off + i * 3 + 2, none⟩ = some (.string x.2.2))
theorem ERow.below {W W' : World} {p : Option Addr} {n : Nat} {E : List (Int × Int × ByteArray)} (h : ERow W p n E) (hb : Below W.heap.size W W') : ERow W' p n E := by
  refine ⟨h.1, h.2.imp id ?_⟩
  rintro ⟨b, off, rfl, hlt, hx⟩
  refine ⟨b, off, rfl, Nat.lt_of_lt_of_le hlt hb.size, fun i x hi => ?_⟩
  obtain ⟨h1, h2, h3⟩ := hx i x hi
  exact ⟨(hb.cell (p := ⟨b, _, none⟩) hlt).trans h1, (hb.cell (p := ⟨b, _, none⟩) hlt).trans h2, (hb.cell (p := ⟨b, _, none⟩) hlt).trans h3⟩
end Go.Frame
end
section
namespace Go.Frame
open Go.RowKit
/-- The blocks outside F are as they were. -/
structure Kept (F : Nat → Prop) (w w' : World) : Prop where
  os : w'.os = w.os
  tape : w'.tape = w.tape
  output : w'.output = w.output
  size : w.heap.size ≤ w'.heap.size
  block : ∀ k, ¬ F k → w'.heap[k]? = w.heap[k]?
/-- F bears all blocks that are not there yet. -/
def Up (F : Nat → Prop) (w : World) : Prop := ∀ b, w.heap.size ≤ b → F b
theorem Up.mono {F : Nat → Prop} {w w' : World} (h : Up F w) (hs : w.heap.size ≤ w'.heap.size) : Up F w' := fun b hb => h b (Nat.le_trans hs hb)
theorem Kept.refl (F : Nat → Prop) (w : World) : Kept F w w := ⟨rfl, rfl, rfl, Nat.le_refl _, fun _ _ => rfl⟩
theorem Kept.trans {F : Nat → Prop} {a b c : World} (h : Kept F a b) (k : Kept F b c) : Kept F a c :=
  ⟨k.os.trans h.os, k.tape.trans h.tape, k.output.trans h.output, Nat.le_trans h.size k.size, fun i hi => (k.block i hi).trans (h.block i hi)⟩
theorem Kept.mono {F G : Nat → Prop} {w w' : World} (h : Kept F w w') (hF : ∀ b, F b → G b) : Kept G w w' := ⟨h.os, h.tape, h.output, h.size, fun k hk => h.block k (fun hf => hk (hF k hf))⟩
theorem Kept.below {n : Nat} {F : Nat → Prop} {w w' : World} (h : Below n w w') (hF : ∀ b, n ≤ b → F b) : Kept F w w' :=
  ⟨h.os, h.tape, h.output, h.size, fun k hk => h.block k (by by_cases hn : n ≤ k; exact absurd (hF k hn) hk; omega)⟩
theorem Kept.toBelow {n : Nat} {F : Nat → Prop} {w w' : World} (h : Kept F w w') (hF : ∀ b, F b → n ≤ b) : Below n w w' :=
  ⟨h.os, h.tape, h.output, h.size, fun k hk => h.block k (fun hf => by have := hF k hf; omega)⟩
theorem Kept.alloc {F : Nat → Prop} {a w : World} (h : Kept F a w) (hu : Up F w) (o : Obj) : Kept F a (w.alloc o) :=
  h.trans (Kept.below ((Below.refl _ w).alloc (Nat.le_refl _) o) hu)
theorem Kept.drew {F : Nat → Prop} {a w : World} (h : Kept F a w) : Kept F a w.drew := ⟨h.os, h.tape, h.output, h.size, h.block⟩
theorem Kept.setCell {F : Nat → Prop} {a w : World} (h : Kept F a w) {p : Addr} (hp : F p.block) (u : Value) : Kept F a (w.setCell p u) :=
  h.trans ⟨rfl, rfl, rfl, by simp [World.setCell], fun k hk => heap_setCell_other _ _ _ _ (fun e => hk (e ▸ hp))⟩
theorem Kept.grown {F : Nat → Prop} {a w w' : World} {row : Option Nat} (h : Kept F a w) (hg : w.grownBy w' row) (hu : Up F w) (hr : ∀ k, row = some k → F k) : Kept F a w' :=
  h.trans ⟨hg.os, hg.tape, hg.output, hg.size, fun k hk => hg.block k (by by_cases hn : w.heap.size ≤ k; exact absurd (hu k hn) hk; omega) (fun e => hk (hr k e.symm))⟩
theorem below_grown {n : Nat} {a w w' : World} {row : Option Nat} (h : Below n a w) (hg : w.grownBy w' row) (hn : n ≤ w.heap.size) (hr : ∀ k, row = some k → n ≤ k) : Below n a w' :=
  h.trans ⟨hg.os, hg.tape, hg.output, hg.size, fun k hk => hg.block k (by omega) (fun e => by have := hr k e.symm; omega)⟩
/-! 'Below' step by step, for 'repeat (first | with_reducible refine ..)'. -/
theorem below_put {n : Nat} {a w : World} {b j : Nat} {u : Value} (h : Below n a w) (hb : n ≤ b) : Below n a (w.setCell ⟨b, j, none⟩ u) := h.setCell hb u
theorem below_made {n : Nat} {a w : World} {o : Obj} (h : Below n a w) (hb : n ≤ w.heap.size) : Below n a (w.alloc o) := h.alloc hb o
/-! Rows of the call's own. -/
theorem ownsRow_keep {w w' : World} {base : Nat} {e : TypeId} {size : Nat} {v : Value} {n : Nat} {xs : List Value} (h : w.ownsRow base e size v n xs) (hk : ∀ k, v.ownBlock = some k → w'.heap[k]? = w.heap[k]?) : w'.ownsRow base e size v n xs := by
  refine ⟨h.1, ?_⟩
  rcases h.2 with hn | ⟨g, cap, cur, rfl, hb, hg, rest⟩
  · exact .inl hn
  · exact .inr ⟨g, cap, cur, rfl, hb, (hk g rfl).trans hg, rest⟩
theorem own_alloc {W : World} {base e s : Nat} {v : Value} {n : Nat} {xs : List Value} (h : W.ownsRow base e s v n xs) (o : Obj) : (W.alloc o).ownsRow base e s v n xs := ownsRow_keep h fun k hk => ((Below.refl _ W).alloc (Nat.le_refl _) o).block k (h.lt k hk).2
theorem own_form {w : World} {base : Nat} {e : TypeId} {size : Nat} {v : Value} {n : Nat} {xs : List Value} (h : w.ownsRow base e size v n xs) : ∃ p c, v = .slice p n c := by
  rcases h.2 with ⟨rfl, h0⟩ | ⟨g, cap, cur, rfl, _⟩
  · exact ⟨none, 0, by rw [h0]⟩
  · exact ⟨_, cap, rfl⟩
/-- append of nothing, at a step of a drawn region. -/
theorem step_append_none {P : Program} {w : World} {ops : Array Oper} {o : Oper} {a : Act} {K : Act → World → Prop} {Q : Exit → Act → World → Prop} {E : Prop} (hgd : o.guard = none) (s x : Operand) (t : TypeId)
    (ho : o.op = .call { callee := .builtin .append, args := #[s, x], argTypes := #[t, t] }) (v u : Value) (hs : a.eval s = v) (hx : a.eval x = u)
    (hr : (Builtin.append_ #[t, t] o.type #[v, u]).run P w = .ok v w) (h : K (a.put o.dst v) w) : if Region.wanted o (yielded ops a.tmps) = true then Oper.wp P o a w K Q else E := by
  rw [if_pos (by unfold Region.wanted; rw [hgd])]
  unfold Oper.wp execOp
  simp only [ho, resolve, invoke, builtin, Sem.run_bind, Sem.run_pure, Result.andThen_ok, List.map_toArray, List.map_cons, List.map_nil, hs, hx, hr]
  exact h
/-! Boxes made one behind the other, written, kept. -/
theorem two (w : World) (o1 o2 : Obj) : ((w.alloc o1).alloc o2).heap[w.heap.size]? = some o1 ∧ ((w.alloc o1).alloc o2).heap[w.heap.size + 1]? = some o2 ∧ Below w.heap.size w ((w.alloc o1).alloc o2) ∧ ((w.alloc o1).alloc o2).heap.size = w.heap.size + 2 :=
  ⟨blk_alloc (alloc_new _ _), alloc_at _ _ (by simp), ((Below.refl _ _).alloc (Nat.le_refl _) _).alloc (by simp) _, by simp⟩
theorem three (w : World) (o1 o2 o3 : Obj) : (((w.alloc o1).alloc o2).alloc o3).heap[w.heap.size]? = some o1 ∧ (((w.alloc o1).alloc o2).alloc o3).heap[w.heap.size + 1]? = some o2 ∧ (((w.alloc o1).alloc o2).alloc o3).heap[w.heap.size + 1 + 1]? = some o3 ∧
    Below w.heap.size w (((w.alloc o1).alloc o2).alloc o3) ∧ (((w.alloc o1).alloc o2).alloc o3).heap.size = w.heap.size + 3 :=
  ⟨blk_alloc (blk_alloc (alloc_new _ _)), blk_alloc (alloc_at _ _ (by simp)), alloc_at _ _ (by simp), (((Below.refl _ _).alloc (Nat.le_refl _) _).alloc (by simp) _).alloc (by simp; omega) _, by simp⟩
theorem four (w : World) (o1 o2 o3 o4 : Obj) : ((((w.alloc o1).alloc o2).alloc o3).alloc o4).heap[w.heap.size]? = some o1 ∧ ((((w.alloc o1).alloc o2).alloc o3).alloc o4).heap[w.heap.size + 1]? = some o2 ∧ ((((w.alloc o1).alloc o2).alloc o3).alloc o4).heap[w.heap.size + 1 + 1]? = some o3 ∧ ((((w.alloc o1).alloc o2).alloc o3).alloc o4).heap[w.heap.size + 1 + 1 + 1]? = some o4 ∧
    Below w.heap.size w ((((w.alloc o1).alloc o2).alloc o3).alloc o4) ∧ ((((w.alloc o1).alloc o2).alloc o3).alloc o4).heap.size = w.heap.size + 4 := by
  obtain ⟨h1, h2, h3, h4, h5⟩ := three w o1 o2 o3
  exact ⟨blk_alloc h1, blk_alloc h2, blk_alloc h3, alloc_at _ _ (by rw [h5]), h4.alloc h4.size _, by simp⟩
theorem frozen3 {W : World} {b : Nat} {x y z : Value} {t : TypeId} (h : W.heap[b]? = some (.cells #[x, y, z] t (0, 0))) : W.frozen? ⟨b, 0, none⟩ = false ∧ W.frozen? ⟨b, 1, none⟩ = false ∧ W.frozen? ⟨b, 2, none⟩ = false := ⟨free h 0, free h 1, free h 2⟩
theorem frozen4 {W : World} {b : Nat} {x y z v : Value} {t : TypeId} (h : W.heap[b]? = some (.cells #[x, y, z, v] t (0, 0))) : W.frozen? ⟨b, 0, none⟩ = false ∧ W.frozen? ⟨b, 1, none⟩ = false ∧ W.frozen? ⟨b, 2, none⟩ = false ∧ W.frozen? ⟨b, 3, none⟩ = false :=
  ⟨free h 0, free h 1, free h 2, free h 3⟩
theorem three_set {W : World} {b : Nat} {x y z x' y' z' : Value} {t : TypeId} (h : W.heap[b]? = some (.cells #[x, y, z] t (0, 0))) : (((W.setCell ⟨b, 0, none⟩ x').setCell ⟨b, 1, none⟩ y').setCell ⟨b, 2, none⟩ z').heap[b]? = some (.cells #[x', y', z'] t (0, 0)) := by
  rw [blk_put (blk_put (blk_put h))]; rfl
theorem four_set {W : World} {b : Nat} {x y z u x' y' z' u' : Value} {t : TypeId} (h : W.heap[b]? = some (.cells #[x, y, z, u] t (0, 0))) : ((((W.setCell ⟨b, 0, none⟩ x').setCell ⟨b, 1, none⟩ y').setCell ⟨b, 2, none⟩ z').setCell ⟨b, 3, none⟩ u').heap[b]? = some (.cells #[x', y', z', u'] t (0, 0)) := by
  rw [blk_put (blk_put (blk_put (blk_put h)))]; rfl
theorem far3 {W : World} {b B : Nat} {o : Obj} {x' y' z' : Value} (h : W.heap[b]? = some o) (hn : b ≠ B) : (((W.setCell ⟨B, 0, none⟩ x').setCell ⟨B, 1, none⟩ y').setCell ⟨B, 2, none⟩ z').heap[b]? = some o := blk_set (blk_set (blk_set h hn) hn) hn
theorem far4 {W : World} {b B : Nat} {o : Obj} {x' y' z' u' : Value} (h : W.heap[b]? = some o) (hn : b ≠ B) : ((((W.setCell ⟨B, 0, none⟩ x').setCell ⟨B, 1, none⟩ y').setCell ⟨B, 2, none⟩ z').setCell ⟨B, 3, none⟩ u').heap[b]? = some o := blk_set (far3 h hn) hn
end Go.Frame
end
section
set_option linter.unusedSimpArgs false
set_option linter.unusedVariables false
namespace Go.Proofs.YtogpnlkjcdedlaaDoor
open Go.RowKit Bs Go.Frame

theorem wr64 {n : Nat} (h : n < 18446744073709551616) : IntKind.u64.wrap (n : Int) = (n : Int) := by rw [IntKind.wrap_u64]; omega
theorem uand {a b : Nat} (ha : a < 18446744073709551616) (hb : b < 18446744073709551616) : bits .and .u64 (a : Int) (b : Int) = ((a &&& b : Nat) : Int) := u64_and_nat a b ha hb

theorem im127 (x : Nat) (h : x < 4611686018427387904) : bits .and .i64 (x : Int) 127 = ((x % 128 : Nat) : Int) := by
  have e := bits_nat .i64 63 (by decide) (fun n h0 h1 => IntWalk.i64_in n ⟨by omega, by omega⟩) x 127 (by omega) (by decide)
  have e2 : x &&& 127 = x % 128 := Nat.and_two_pow_sub_one_eq_mod x 7
  rw [← e2]
  exact e.1
end Go.Proofs.YtogpnlkjcdedlaaDoor
end
