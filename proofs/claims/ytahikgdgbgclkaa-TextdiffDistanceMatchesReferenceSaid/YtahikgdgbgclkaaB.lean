/-
  Contracts: suffixPairs, its iterator.
-/
import Derived.Test.YtahikgdgbgclkaaA
import Derived.RangeFuncNested
import Derived.RangeFuncBound
import Derived.RangeFuncCalls
import Derived.RangeFuncLeaves
import Derived.RangeFuncFrom
import Derived.OwnWalkIn
import Derived.TacticsInMore
import Derived.LoopNIn
import Derived.LoopIn
set_option linter.unusedSimpArgs false
set_option linter.unusedVariables false
namespace Go.Proofs.Ytahikgdgbgclkaa
open Go.RowKit Te Go.Frame

attribute [local go_sem] Oper.semAt_some

/-- A pair of offsets. -/
abbrev Pr (m n : Nat) := { x : Nat × Nat // x.1 ≤ m ∧ x.2 ≤ n }
def encP {m n : Nat} (x : Pr m n) : Array Value := #[.int .i64 (x.1.1 : Int), .int .i64 (x.1.2 : Int)]
/-- The pair of round r. -/
def pr (m n r : Nat) : Pr m n := ⟨(m - r / (n + 1), n - r % (n + 1)), Nat.sub_le _ _, Nat.sub_le _ _⟩
/-- What has come when k rounds are over. -/
def prs (m n k : Nat) : List (Pr m n) := (List.range k).map (pr m n)
theorem prs_succ (m n k : Nat) : prs m n (k + 1) = prs m n k ++ [pr m n k] := by simp [prs, List.range_succ]
theorem prs_length (m n k : Nat) : (prs m n k).length = k := by simp [prs]
theorem pr_at {m n u v i j : Nat} (hv : v ≤ n) (hi : i = m - u) (hj : j = n - v) : pr m n (u * (n + 1) + v) = ⟨(i, j), by omega, by omega⟩ := by
  have h1 : (u * (n + 1) + v) / (n + 1) = u := by
    rw [Nat.mul_comm, Nat.mul_add_div (by omega), Nat.div_eq_of_lt (by omega), Nat.add_zero]
  have h2 : (u * (n + 1) + v) % (n + 1) = v := by
    rw [Nat.mul_comm, Nat.mul_add_mod, Nat.mod_eq_of_lt (by omega)]
  unfold pr
  apply Subtype.ext
  simp only [h1, h2, hi, hj]

set_option maxHeartbeats 400000 in
theorem suffixPairs_any (a b : ByteArray) (w : World) :
    Calls Try.prog 30 #[.string a, .string b] w fun e w' => e = .returned (.func (.func 34) #[] #[.pointer (some ⟨w.heap.size, 0, none⟩), .pointer (some ⟨w.heap.size + 1, 0, none⟩)]) ∧ w' = (w.alloc (.cells #[.string a] 9)).alloc (.cells #[.string b] 9) := by
  go_enter Try.func30, Try.ntmps30
  go_wp2
  go_ret
  exact ⟨rfl, rfl⟩

/-- A round leaves two blocks alone. -/
def Two (A B : Nat) (W W' : World) : Prop := W'.heap[A]? = W.heap[A]? ∧ W'.heap[B]? = W.heap[B]?
theorem Two.trans {A B : Nat} {X Y Z : World} (h : Two A B X Y) (k : Two A B Y Z) : Two A B X Z := ⟨k.1.trans h.1, k.2.trans h.2⟩
theorem Two.refl (A B : Nat) (X : World) : Two A B X X := ⟨rfl, rfl⟩
set_option maxRecDepth 100000 in
set_option maxHeartbeats 2000000 in
theorem pairs_stops (k A B : Nat) (hk : 1 ≤ k) (w0 : World) (a b : ByteArray) (ha : a.size ≤ 10000) (hb : b.size ≤ 10000) (hA : A < w0.heap.size) (hB : B < w0.heap.size)
    (cA : w0.cell? ⟨A, 0, none⟩ = some (.string a)) (cB : w0.cell? ⟨B, 0, none⟩ = some (.string b)) :
    SeqStopsK Fence.wide k Try.prog 34 #[.pointer (some ⟨A, 0, none⟩), .pointer (some ⟨B, 0, none⟩)] (encP (m := a.size) (n := b.size)) (Two A B) (fun ys => ys = prs a.size b.size (nn a b)) (fun _ => True) (nn a b) w0 := by
  intro l J Jx W hW _ _ hY h0
  have dA : W.cell? ⟨A, 0, none⟩ = some (.string a) := (hW.cell (p := ⟨A, 0, none⟩) hA).trans cA
  have dB : W.cell? ⟨B, 0, none⟩ = some (.string b) := (hW.cell (p := ⟨B, 0, none⟩) hB).trans cB
  refine callsIn_of_wp Try.func34 rfl trivial ?_ rfl
  simp only [Try.ntmps34, List.size_toArray, List.length_cons, List.length_nil, Nat.reduceAdd, Nat.reduceSub, Array.replicate_succ, Array.replicate_zero, List.push_toArray, List.append_toArray, List.nil_append, List.cons_append]
  gi_wp2
  gi_loopw [4] (fun p wr => ∃ (u : Nat) (x : Int), p = .int .i64 x ∧ x = (a.size : Int) - u ∧ u ≤ a.size + 1 ∧ J (prs a.size b.size (u * (b.size + 1))) wr ∧ Two A B W wr)
    (fun p _ => (intOf p + 1).toNat)
  case atStart => exact ⟨0, _, rfl, by omega, by omega, by rw [Nat.zero_mul]; exact h0, Two.refl _ _ _⟩
  case round =>
    obtain ⟨u, x, rfl, hx, hu, hJ, hbw⟩ := hrel
    by_cases hx0 : 0 ≤ x
    · obtain ⟨i, rfl⟩ : ∃ i : Nat, x = i := ⟨x.toNat, by omega⟩
      have eB : wr.cell? ⟨B, 0, none⟩ = some (.string b) := (World.cell?_of_block hbw.2).trans dB
      have hiu : i = a.size - u := by omega
      have hX := hid hx
      have HI := hid hiu
      clear hiu
      have HJ := hid hJ
      have HB := hid hbw
      have HY := hid hY
      clear hx hJ hbw hY hW
      gi_wp2
      gi_loopw [5] (fun p wq => ∃ (v : Nat) (y : Int), p = .int .i64 y ∧ y = (b.size : Int) - v ∧ v ≤ b.size + 1 ∧ J (prs a.size b.size (u * (b.size + 1) + v)) wq ∧ Two A B W wq)
        (fun p _ => (intOf p + 1).toNat)
      case atStart => exact ⟨0, _, rfl, by omega, by omega, by rw [Nat.add_zero]; exact HJ.out, HB.out⟩
      case round =>
        obtain ⟨v, y, rfl, hy, hv, hJq, hbq⟩ := hrel
        by_cases hy0 : 0 ≤ y
        · obtain ⟨j, rfl⟩ : ∃ j : Nat, y = j := ⟨y.toNat, by omega⟩
          have hlen : (prs a.size b.size (u * (b.size + 1) + v)).length < nn a b := by
            rw [prs_length]
            have : u * (b.size + 1) ≤ a.size * (b.size + 1) := Nat.mul_le_mul_right _ (by have := hX.out; omega)
            unfold nn
            rw [Nat.add_mul a.size]
            omega
          obtain ⟨fn, tmps, assign, body, hyv, hR⟩ := HY.out _ (pr a.size b.size (u * (b.size + 1) + v)) _ hJq hlen
          rw [show encP (pr a.size b.size (u * (b.size + 1) + v)) = #[.int .i64 (i : Int), .int .i64 (j : Int)] by rw [pr_at (by omega) HI.out (show j = b.size - v by omega)]; rfl] at hyv
          have w1 : IntKind.i64.wrap ((j : Int) - 1) = (j : Int) - 1 := wrapIn (by omega) (by omega)
          have HQ := hid hbq
          have HV := hid hy
          have HL := hid hv
          clear hbq hy hv hlen
          gi_wp2
          refine hR.mono ?_
          rintro e W3 (⟨rfl, hJ3, hk3⟩ | ⟨rfl, hJx3⟩)
          · gi_wp2
            go_roundw
            case rel => exact ⟨v + 1, _, rfl, by have := HV.out; omega, by have := HV.out; omega, by rw [← Nat.add_assoc, prs_succ]; exact hJ3, HQ.out.trans hk3⟩
            case measure => simp only [intOf]; omega
          · gi_wp2
            refine bodyPost_ret (results_none rfl _ _ _) rfl ?_
            exact ⟨⟨_, rfl⟩, .inr ⟨_, trivial, hJx3⟩⟩
        · have hvn : v = b.size + 1 := by omega
          have w1 : IntKind.i64.wrap ((i : Int) - 1) = (i : Int) - 1 := wrapIn (by have := hX.out; omega) (by have := hX.out; omega)
          have HQ := hid hbq
          clear hbq
          gi_wp2
          go_roundw
          case rel => exact ⟨u + 1, _, rfl, by have := hX.out; omega, by have := hX.out; omega, by rw [show (u + 1) * (b.size + 1) = u * (b.size + 1) + v by rw [Nat.add_mul, Nat.one_mul, hvn]]; exact hJq, HQ.out⟩
          case measure => simp only [intOf]; omega
    · have hun : u = a.size + 1 := by omega
      gi_wp2
      go_end0
      exact ⟨⟨_, rfl⟩, .inl (by unfold nn; rw [← hun]; exact hJ)⟩
end Go.Proofs.Ytahikgdgbgclkaa
