/-
  The table of TrailingZeros64 in memory; its contract; sets as values; with, Has.
-/
import Derived.Test.YtblcjjhjgoccgaaA7
set_option linter.unusedSimpArgs false
set_option linter.unusedVariables false
namespace Go.Proofs.Ytblcjjhjgoccgaa
open Go.RowKit Bs Go.Frame

def dbl : List Nat := [0, 1, 56, 2, 57, 49, 28, 3, 61, 58, 42, 50, 38, 29, 17, 4, 62, 47, 59, 36, 45, 43, 51, 22, 53, 39, 33, 30, 24, 18, 12, 5, 63, 55, 48, 27, 60, 41, 37, 16, 46, 35, 44, 21, 52, 32, 23, 11, 54, 26, 40, 15, 34, 20, 31, 10, 25, 14, 19, 9, 13, 8, 7, 6]
def db (i : Nat) : Nat := dbl.getD i 0
theorem db_ok : ∀ j : Fin 64, db (2 ^ j.1 * 285870213051353865 % 18446744073709551616 / 288230376151711744) = j.1 ∧ 2 ^ j.1 * 285870213051353865 % 18446744073709551616 / 288230376151711744 < 64 := by decide +kernel
/-- The table lies in block 0. -/
def Tb (W : World) : Prop := 0 < W.heap.size ∧ ∀ i, i < 64 → W.cell? ⟨0, i, none⟩ = some (.int .u8 (db i : Int))
theorem Tb.below {W W' : World} (h : Tb W) (hb : Below W.heap.size W W') : Tb W' := ⟨Nat.lt_of_lt_of_le h.1 hb.size, fun i hi => (hb.cell (p := ⟨0, i, none⟩) h.1).trans (h.2 i hi)⟩
theorem Tb.same {W W' : World} (h : Tb W) (hb : W'.heap[0]? = W.heap[0]?) : Tb W' := by
  refine ⟨?_, fun i hi => (World.cell?_of_block hb).trans (h.2 i hi)⟩
  have h0 := h.1
  rw [Array.getElem?_eq_getElem h0] at hb
  exact (Array.getElem?_eq_some_iff.1 hb).1

/-- A word of a set. -/
def wd (p : Nat → Bool) (k : Nat) : Nat := nb (fun j => p (64 * k + j)) 64
theorem wd_lt (p : Nat → Bool) (k : Nat) : wd p k < 18446744073709551616 := nb_lt 64 _
/-- A set's cells, as a value. -/
def sc7 (p : Nat → Bool) : Array Value := #[.int .u64 (wd p 0 : Int), .int .u64 (wd p 1 : Int), .int .u64 (wd p 2 : Int), .int .u64 (wd p 3 : Int)]
def sv (p : Nat → Bool) : Value := .agg #[.int .u64 (wd p 0 : Int), .int .u64 (wd p 1 : Int), .int .u64 (wd p 2 : Int), .int .u64 (wd p 3 : Int)]
theorem wd_congr {p q : Nat → Bool} {k : Nat} (hk : k < 4) (h : ∀ x, x < 256 → p x = q x) : wd p k = wd q k := nb_congr fun j hj => h _ (by omega)
theorem sv_congr {p q : Nat → Bool} (h : ∀ x, x < 256 → p x = q x) : sv p = sv q := by
  unfold sv; rw [wd_congr (by decide) h, wd_congr (by decide) h, wd_congr (by decide) h, wd_congr (by decide) h]
/-- The set of four words. -/
def ofw (a b c d : Nat) (x : Nat) : Bool := if x < 64 then a.testBit x else if x < 128 then b.testBit (x - 64) else if x < 192 then c.testBit (x - 128) else d.testBit (x - 192)
theorem wd_ofw {x : Nat} (f : Nat → Bool) (k : Nat) (hx : x < 2 ^ 64) (hf : ∀ j, j < 64 → f (64 * k + j) = x.testBit j) : wd f k = x := (nb_congr (n := 64) (g := x.testBit) hf).trans (nb_self hx)
theorem ofw0 (a b c d j : Nat) (hj : j < 64) : ofw a b c d (64 * 0 + j) = a.testBit j := by
  unfold ofw; rw [if_pos (by omega)]; exact congrArg _ (by omega)
theorem ofw1 (a b c d j : Nat) (hj : j < 64) : ofw a b c d (64 * 1 + j) = b.testBit j := by
  unfold ofw; rw [if_neg (by omega), if_pos (by omega)]; exact congrArg _ (by omega)
theorem ofw2 (a b c d j : Nat) (hj : j < 64) : ofw a b c d (64 * 2 + j) = c.testBit j := by
  unfold ofw; rw [if_neg (by omega), if_neg (by omega), if_pos (by omega)]; exact congrArg _ (by omega)
theorem ofw3 (a b c d j : Nat) (hj : j < 64) : ofw a b c d (64 * 3 + j) = d.testBit j := by
  unfold ofw; rw [if_neg (by omega), if_neg (by omega), if_neg (by omega)]; exact congrArg _ (by omega)
/-- Every four words are a set. -/
theorem sv_of {a b c d : Nat} (ha : a < 2 ^ 64) (hb : b < 2 ^ 64) (hc : c < 2 ^ 64) (hd : d < 2 ^ 64) : sv (ofw a b c d) = .agg #[.int .u64 (a : Int), .int .u64 (b : Int), .int .u64 (c : Int), .int .u64 (d : Int)] := by
  unfold sv
  rw [wd_ofw (ofw a b c d) 0 ha (ofw0 a b c d), wd_ofw (ofw a b c d) 1 hb (ofw1 a b c d), wd_ofw (ofw a b c d) 2 hc (ofw2 a b c d), wd_ofw (ofw a b c d) 3 hd (ofw3 a b c d)]
/-- One element more. -/
def add1 (p : Nat → Bool) (b : Nat) : Nat → Bool := fun x => p x || x == b
theorem wd_add_same (p : Nat → Bool) {k j : Nat} (hj : j < 64) : wd (add1 p (64 * k + j)) k = wd p k ||| 2 ^ j := by
  have e : wd (add1 p (64 * k + j)) k = nb (fun i => (fun i => p (64 * k + i)) i || (fun i => i == j) i) 64 := nb_congr (fun i hi => by unfold add1; congr 1; rw [Bool.eq_iff_iff]; simp)
  exact e.trans ((nb_or _ _ _).trans (congrArg (wd p k ||| ·) (nb_one hj)))
theorem wd_add_other (p : Nat → Bool) {k k' j : Nat} (hj : j < 64) (hk : k' ≠ k) : wd (add1 p (64 * k + j)) k' = wd p k' := by
  unfold wd add1
  exact nb_congr fun i hi => by
    have : ¬ 64 * k' + i = 64 * k + j := by omega
    simp [this]
theorem or_pow {p : Nat → Bool} {k j : Nat} (hj : j < 64) : bits .or .u64 (wd p k : Int) (IntKind.u64.wrap ((2 : Int) ^ j)) = (wd (add1 p (64 * k + j)) k : Int) := by
  have h2 : 2 ^ j < 18446744073709551616 := Nat.lt_of_lt_of_le (Nat.pow_lt_pow_right (by decide) hj) (by decide)
  rw [show (2 : Int) ^ j = ((2 ^ j : Nat) : Int) by simp, wr64 h2, u64_or_nat _ _ (wd_lt p k) h2, wd_add_same p hj]

end Go.Proofs.Ytblcjjhjgoccgaa
