/-
  Maths: the order of strings by length and bytes.
-/
import Derived.Test.YtelbagaiijffdaaUs
import Derived.Laws.Cover1
set_option linter.unusedSimpArgs false
set_option linter.unusedVariables false
namespace Go.Proofs.Ytelbagaiijffdaa
open Go.RowKit Lx Go.Frame

theorem vl_fold : ∀ (u : List Nat) (z : Nat), u.foldl (fun x c => 256 * x + c + 1) z = 256 ^ u.length * z + Bf.vl u
  | [], z => by simp [Bf.vl]
  | c :: u, z => by
    have h1 := vl_fold u (256 * z + c + 1)
    have h2 : Bf.vl (c :: u) = 256 ^ u.length * (256 * 0 + c + 1) + Bf.vl u := vl_fold u (256 * 0 + c + 1)
    rw [List.foldl_cons, h1, h2, List.length_cons, Nat.pow_succ]
    generalize 256 ^ u.length = P
    simp only [Nat.mul_add, Nat.mul_zero, Nat.zero_add, Nat.mul_one, ← Nat.mul_assoc]
    omega
theorem vl_cons (c : Nat) (u : List Nat) : Bf.vl (c :: u) = 256 ^ u.length * (c + 1) + Bf.vl u := by
  have h : Bf.vl (c :: u) = 256 ^ u.length * (256 * 0 + c + 1) + Bf.vl u := vl_fold u (256 * 0 + c + 1)
  rw [Nat.mul_zero, Nat.zero_add] at h
  exact h
theorem vl_near : ∀ (u v : List Nat), u.length = v.length → (∀ x ∈ u, x < 256) → Bf.vl u < Bf.vl v + 256 ^ u.length
  | [], [], _, _ => by simp [Bf.vl]
  | [], y :: v, h, _ => by simp at h
  | x :: u, [], h, _ => by simp at h
  | c :: u, d :: v, h, hu => by
    have hl : u.length = v.length := by simpa using h
    have ih := vl_near u v hl fun x hx => hu x (by simp [hx])
    have hc := hu c (by simp)
    rw [vl_cons, vl_cons, List.length_cons, Nat.pow_succ, ← hl]
    generalize 256 ^ u.length = P at ih ⊢
    have h1 : P * (c + 1) ≤ P * 256 := Nat.mul_le_mul_left P (by omega)
    have h2 : P * 1 ≤ P * (d + 1) := Nat.mul_le_mul_left P (by omega)
    omega
theorem vl_len : ∀ (a b : List Nat), b.length < a.length → (∀ x ∈ b, x < 256) → Bf.vl b < Bf.vl a
  | [], b, h, _ => by simp at h
  | c :: u, b, h, hb => by
    rw [vl_cons]
    by_cases e : b.length = u.length
    · have := vl_near b u e hb
      rw [e] at this
      have h2 : 256 ^ u.length * 1 ≤ 256 ^ u.length * (c + 1) := Nat.mul_le_mul_left _ (by omega)
      omega
    · have := vl_len u b (by simp at h; omega) hb
      omega
theorem vl_lex : ∀ (a b : List UInt8), a.length = b.length → Bf.vl (nat8 a) ≤ Bf.vl (nat8 b) → (Op.bytesLess a b || a == b) = true
  | [], [], _, _ => by simp
  | [], y :: v, h, _ => by simp at h
  | x :: u, [], h, _ => by simp at h
  | c :: u, d :: v, h, hle => by
    have hl : u.length = v.length := by simpa using h
    have hle' : Bf.vl (c.toNat :: nat8 u) ≤ Bf.vl (d.toNat :: nat8 v) := hle
    have hnu : (nat8 u).length = (nat8 v).length := by simp [nat8, hl]
    rw [vl_cons, vl_cons, ← hnu] at hle'
    have hvu := vl_near (nat8 v) (nat8 u) hnu.symm (fun x hx => by obtain ⟨y, _, rfl⟩ := List.mem_map.1 hx; exact y.toNat_lt)
    rw [← hnu] at hvu
    generalize 256 ^ (nat8 u).length = P at hle' hvu
    have hcd : ¬ d.toNat < c.toNat := fun hlt => by
      have h3 : P * (d.toNat + 1 + 1) ≤ P * (c.toNat + 1) := Nat.mul_le_mul_left P (by omega)
      rw [Nat.mul_add P (d.toNat + 1) 1, Nat.mul_one] at h3
      omega
    rw [Op.bytesLess]
    by_cases e : c.toNat = d.toNat
    · have ec : c = d := UInt8.toNat_inj.1 e
      subst ec
      have ih := vl_lex u v hl (by omega)
      simp only [Bool.or_eq_true, beq_iff_eq] at ih ⊢
      rcases ih with ih | ih
      · left; simp [ih]
      · right; rw [ih]
    · have hlt : c < d := UInt8.lt_iff_toNat_lt.2 (by omega)
      simp [hlt]
theorem vl_order {a b : List UInt8} (h : Bf.vl (nat8 a) ≤ Bf.vl (nat8 b)) : a.length < b.length ∨ a.length = b.length ∧ (Op.bytesLess a b || a == b) = true := by
  by_cases h1 : b.length < a.length
  · have := vl_len (nat8 a) (nat8 b) (by simpa [nat8] using h1) (fun x hx => by obtain ⟨y, _, rfl⟩ := List.mem_map.1 hx; exact y.toNat_lt)
    omega
  · by_cases h2 : a.length < b.length
    · exact .inl h2
    · exact .inr ⟨by omega, vl_lex a b (by omega) h⟩
end Go.Proofs.Ytelbagaiijffdaa
