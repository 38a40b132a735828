/-
  Contract: newTable.
-/
import Derived.Test.YtahikgdgbgclkaaB
import Derived.Test.YtahikgdgbgclkaaRq
import Derived.Laws.MakeOwn
set_option linter.unusedSimpArgs false
set_option linter.unusedVariables false
namespace Go.Proofs.Ytahikgdgbgclkaa
open Go.RowKit Te Go.Frame

attribute [local go_sem] Oper.semAt_some

def upd (T : Nat → Int) (k : Nat) (z : Int) : Nat → Int := fun t => if t = k then z else T t
/-- The table when pairs have come. -/
def tabf (a b : ByteArray) (pre : List (Pr a.size b.size)) : Nat → Int := pre.foldl (fun T x => upd T (ix b x.1.1 x.1.2) (IntKind.i32.wrap (cmpv a b T x.1.1 x.1.2))) (fun _ => 0)
theorem tabf_snoc (a b : ByteArray) (pre : List (Pr a.size b.size)) (x : Pr a.size b.size) : tabf a b (pre ++ [x]) = upd (tabf a b pre) (ix b x.1.1 x.1.2) (IntKind.i32.wrap (cmpv a b (tabf a b pre) x.1.1 x.1.2)) := by
  unfold tabf; rw [List.foldl_append]; rfl
theorem wr32 (z : Int) : -2147483648 ≤ IntKind.i32.wrap z ∧ IntKind.i32.wrap z ≤ 2147483647 := by
  rw [IntKind.wrap_i32]; omega
theorem wr32_in {z : Int} (h1 : -2147483648 ≤ z) (h2 : z ≤ 2147483647) : IntKind.i32.wrap z = z := IntWalk.i32_in z ⟨h1, h2⟩
theorem tabf_in (a b : ByteArray) (pre : List (Pr a.size b.size)) : ∀ t, -2147483648 ≤ tabf a b pre t ∧ tabf a b pre t ≤ 2147483647 := by
  have key : ∀ (pre : List (Pr a.size b.size)) (T : Nat → Int), (∀ t, -2147483648 ≤ T t ∧ T t ≤ 2147483647) → ∀ t, -2147483648 ≤ pre.foldl (fun T x => upd T (ix b x.1.1 x.1.2) (IntKind.i32.wrap (cmpv a b T x.1.1 x.1.2))) T t ∧ pre.foldl (fun T x => upd T (ix b x.1.1 x.1.2) (IntKind.i32.wrap (cmpv a b T x.1.1 x.1.2))) T t ≤ 2147483647 := by
    intro pre
    induction pre with
    | nil => exact fun T h => h
    | cons x pre ih =>
      intro T h
      refine ih _ fun t => ?_
      show _ ≤ upd T _ _ t ∧ upd T _ _ t ≤ _
      unfold upd
      split
      · exact wr32 _
      · exact h t
  exact key pre _ (fun _ => by simp)
/-- The rank of a pair. -/
theorem rank_ix {m n i j : Nat} (hi : i ≤ m) (hj : j ≤ n) : (i * (n + 1) + j) + ((m - i) * (n + 1) + (n - j)) = m * (n + 1) + n := by
  have : i * (n + 1) + (m - i) * (n + 1) = m * (n + 1) := by rw [← Nat.add_mul]; congr 1; omega
  omega
theorem pr_rank {m n k : Nat} (hk : k < (m + 1) * (n + 1)) : (m - (pr m n k).1.1) * (n + 1) + (n - (pr m n k).1.2) = k := by
  have h1 : k / (n + 1) ≤ m := by have := Nat.div_lt_of_lt_mul (m := k) (n := n + 1) (k := m + 1) (by rw [Nat.mul_comm]; exact hk); omega
  have h2 := Nat.mod_lt k (show 0 < n + 1 by omega)
  have h3 := Nat.div_add_mod k (n + 1)
  unfold pr
  simp only
  generalize k / (n + 1) = q at *
  generalize k % (n + 1) = r at *
  rw [show m - (m - q) = q by omega, show n - (n - r) = r by omega, Nat.mul_comm]
  exact h3
theorem tabf_ok (a b : ByteArray) (ha : a.size ≤ 10000) (hb : b.size ≤ 10000) : ∀ k, k ≤ nn a b → ∀ i j, i ≤ a.size → j ≤ b.size → (a.size - i) * (b.size + 1) + (b.size - j) < k → tabf a b (prs a.size b.size k) (ix b i j) = (D a b i j : Int)
  | 0, _, _, _, _, _, h => by omega
  | k + 1, hk, i, j, hi, hj, h => by
    have ih := tabf_ok a b ha hb k (by omega)
    rw [prs_succ, tabf_snoc]
    unfold upd
    have hr := pr_rank (m := a.size) (n := b.size) (k := k) (by unfold nn at hk; omega)
    obtain ⟨⟨⟨i', j'⟩, hp1, hp2⟩, hp⟩ : ∃ p, p = pr a.size b.size k := ⟨_, rfl⟩
    rw [← hp] at hr ⊢
    simp only at hr hp1 hp2 ⊢
    have e1 := rank_ix (n := b.size) hp1 hp2
    have e2 := rank_ix (n := b.size) hi hj
    by_cases hq : (a.size - i) * (b.size + 1) + (b.size - j) = k
    · have hij : i' = i ∧ j' = j := by
        have := pr_at (m := a.size) (n := b.size) (u := a.size - i) (v := b.size - j) (i := i) (j := j) (by omega) (by omega) (by omega)
        rw [hq, ← hp] at this
        have := congrArg Subtype.val this
        simpa using this
      obtain ⟨rfl, rfl⟩ := hij
      rw [if_pos rfl]
      have hD := D_le a b i' j'
      have hv : cmpv a b (tabf a b (prs a.size b.size k)) i' j' = (D a b i' j' : Int) := by
        unfold cmpv
        by_cases h1 : i' = a.size
        · rw [if_pos h1, D_left _ (by omega)]; omega
        · rw [if_neg h1]
          by_cases h2 : j' = b.size
          · rw [if_pos h2, D_right _ (by omega)]; omega
          · rw [if_neg h2]
            have m1 : (a.size - (i' + 1)) * (b.size + 1) + (b.size + 1) = (a.size - i') * (b.size + 1) := by
              rw [show a.size - i' = a.size - (i' + 1) + 1 by omega, Nat.add_mul, Nat.one_mul]
            by_cases h3 : Mt a b i' j'
            · rw [if_pos h3, ih _ _ (by omega) (by omega) (by omega), ← D_mt h3]
            · rw [if_neg h3, ih _ _ (by omega) (by omega) (by omega), ih _ _ (by omega) (by omega) (by omega), D_no (by omega) (by omega) h3]
              omega
      rw [hv]
      exact wr32_in (by omega) (by omega)
    · rw [if_neg (by unfold ix; omega)]
      exact ih i j hi hj (by omega)
end Go.Proofs.Ytahikgdgbgclkaa
