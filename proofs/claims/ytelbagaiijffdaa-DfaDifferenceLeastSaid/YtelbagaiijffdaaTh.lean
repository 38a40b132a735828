/-
  Contract: slices.Max of ints.
-/
import Derived.Test.YtelbagaiijffdaaTg
set_option linter.unusedSimpArgs false
set_option linter.unusedVariables false
namespace Go.Proofs.Ytelbagaiijffdaa
open Go.RowKit Lx Go.Frame

/-- The greatest of the numbers up to the i-th. -/
def mxi (l : List Int) : Nat → Int
  | 0 => l.getD 0 0
  | i + 1 => max (mxi l i) (l.getD (i + 1) 0)
theorem mxi_ge (l : List Int) : ∀ (i j : Nat), j ≤ i → l.getD j 0 ≤ mxi l i
  | 0, j, h => by obtain rfl : j = 0 := by omega
                  exact Int.le_refl _
  | i + 1, j, h => by
    rw [mxi]
    by_cases e : j = i + 1
    · subst e; omega
    · have := mxi_ge l i j (by omega); omega
theorem mxi_is (l : List Int) : ∀ i : Nat, ∃ j, j ≤ i ∧ mxi l i = l.getD j 0
  | 0 => ⟨0, Nat.le_refl _, rfl⟩
  | i + 1 => by
    obtain ⟨j, h1, h2⟩ := mxi_is l i
    rw [mxi]
    by_cases e : mxi l i ≤ l.getD (i + 1) 0
    · exact ⟨i + 1, Nat.le_refl _, by omega⟩
    · exact ⟨j, by omega, by omega⟩
set_option maxRecDepth 100000 in
set_option maxHeartbeats 4000000 in
theorem max_any (w : World) (a1 : Option Addr) (n1 c1 : Nat) (l : List Int) (h1 : Row w a1 n1 (l.map iv)) (hn0 : 0 < n1) (hn1 : n1 ≤ 1000000) (out : Int) (hout : out = mxi l (n1 - 1)) :
    Calls Try.prog 49 #[.slice a1 n1 c1] w (fun e w' => e = .returned (.int .i64 out) ∧ w' = w) := by
  have HO := hid hout
  have H1 := hid h1
  obtain ⟨b, o, x0, rfl, _, hx0, p0⟩ := int_at h1 hn0
  have hm0 : mxi l 0 = x0 := by rw [mxi, List.getD_eq_getElem?_getD, hx0]; rfl
  have HM := hid hm0
  have hnp : ¬ (n1 : Int) < 1 := by omega
  have hn0' : (0 : Int) < (n1 : Int) := by omega
  rw [Nat.add_zero] at p0
  clear h1 hx0 hm0 hout
  go_enter Try.func49, Try.ntmps49
  go_wp2_with fail
  go_loopg [3, 4] n1 (fun kk s3 s4 wr => ∃ (j : Nat) (y : Int), s4 = .int .i64 (j : Int) ∧ 1 ≤ j ∧ j ≤ n1 ∧ j + kk = n1 + 1 ∧ s3 = .int .i64 y ∧ y = mxi l (j - 1) ∧ wr = w)
  case atStart => exact ⟨1, x0, rfl, Nat.le_refl _, hn0, by omega, rfl, HM.out.symm, rfl⟩
  case round =>
    obtain ⟨j, y, rfl, hj1, hj2, hik, rfl, hy, rfl⟩ := hrel
    have HY := hid hy
    clear hy
    by_cases hlt : j < n1
    · have hlt' : (j : Int) < (n1 : Int) := by omega
      have hi0 : (0 : Int) ≤ (j : Int) := by omega
      have hi1 : IntKind.i64.wrap ((j : Int) + 1) = (j : Int) + 1 := wrapIn (by omega) (by omega)
      obtain ⟨b', o', x, he, _, hx, p2⟩ := int_at H1.out hlt
      simp only [Option.some.injEq, Addr.mk.injEq, and_true] at he
      obtain ⟨rfl, rfl⟩ := he
      have hel : mxi l j = max y x := by
        obtain ⟨k, rfl⟩ : ∃ k, j = k + 1 := ⟨j - 1, by omega⟩
        rw [mxi, List.getD_eq_getElem?_getD, hx, HY.out]; rfl
      have HE := hid hel
      clear hel hx
      go_wp2_with fail
      all_goals
        go_roundg (gk - 1)
        case measure => omega
        case rel => exact ⟨j + 1, _, by go_num, by omega, by omega, by omega, rfl, by rw [Nat.add_sub_cancel, HE.out]; omega, rfl⟩
    · have hlt' : ¬ (j : Int) < (n1 : Int) := by omega
      obtain rfl : n1 = j := by omega
      go_wp2
      go_ret
      exact ⟨by rw [HO.out, HY.out]; rfl, rfl⟩
end Go.Proofs.Ytelbagaiijffdaa
