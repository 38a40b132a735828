/-
  The table of TrailingZeros64 in memory; its contract; sets as values; with, Has.
  Contracts: the reference's with; Has and the reference's.
  A drawn region whose operations read and call, and that ends in operations that wait for all others (a store): one walk in the order of the text serves every order; plain and in a round of a range over a function (no program; lies as <Seat>Rq). The way: the tail is thought idle; the quiet walk's theorem speaks of that region; its orders are then followed in the real one.
  Contracts: Of and the reference's.
  Contracts: Range and the reference's.
-/
import Derived.Test.YtednoideboeehaaDoorZ01
import Derived.BigQuiet
import Derived.StillTail
import Derived.RangeFuncCalls
import Derived.OrdersIn
import Derived.TacticsIn
import Derived.Below
import Derived.Deep.LoopGhost
import Derived.LoopIn
import Derived.TacticsInMore
section
set_option linter.unusedSimpArgs false
set_option linter.unusedVariables false
namespace Go.Proofs.YtednoideboeehaaDoor
open Go.RowKit Bs Go.Frame

def dbl : List Nat := [0, 1, 56, 2, 57, 49, 28, 3, 61, 58, 42, 50, 38, 29, 17, 4, 62, 47, 59, 36, 45, 43, 51, 22, 53, 39, 33, 30, 24, 18, 12, 5, 63, 55, 48, 27, 60, 41, 37, 16, 46, 35, 44, 21, 52, 32, 23, 11, 54, 26, 40, 15, 34, 20, 31, 10, 25, 14, 19, 9, 13, 8, 7, 6]
def db (i : Nat) : Nat := dbl.getD i 0
theorem db_ok : ∀ j : Fin 64, db (2 ^ j.1 * 285870213051353865 % 18446744073709551616 / 288230376151711744) = j.1 ∧ 2 ^ j.1 * 285870213051353865 % 18446744073709551616 / 288230376151711744 < 64 := by decide +kernel
/-- The table lies in block 0. -/
def Tb (W : World) : Prop := 0 < W.heap.size ∧ ∀ i, i < 64 → W.cell? ⟨0, i, none⟩ = some (.int .u8 (db i : Int))
theorem Tb.below {W W' : World} (h : Tb W) (hb : Below W.heap.size W W') : Tb W' := ⟨Nat.lt_of_lt_of_le h.1 hb.size, fun i hi => (hb.cell (p := ⟨0, i, none⟩) h.1).trans (h.2 i hi)⟩
theorem Tb.same {W W' : World} (h : Tb W) (hb : W'.heap[0]? = W.heap[0]?) : Tb W' := by
  refine ⟨?_, fun i hi => (World.cell?_of_block hb).trans (h.2 i hi)⟩
  have h0 := h.1
  rw [Array.getElem?_eq_getElem h0] at hb
  exact (Array.getElem?_eq_some_iff.1 hb).1

set_option maxRecDepth 100000 in
set_option maxHeartbeats 2000000 in
/-- A number whose least one is bit j. -/
theorem tz_any (x j y : Nat) (w : World) (hx : x < 18446744073709551616) (hj : j < 64) (hxy : x = 2 ^ j * (1 + 2 * y)) (hT : Tb w) :
    Calls Tryd.prog 101 #[.int .u64 (x : Int)] w fun e w' => e = .returned (.int .i64 (j : Int)) ∧ w' = w := by
  have hp := Nat.two_pow_pos j
  have hx0 : 0 < x := by rw [hxy]; exact Nat.mul_pos hp (by omega)
  have n0 : ¬ (x : Int) = 0 := by omega
  have hl : x &&& (18446744073709551616 - x) = 2 ^ j := by
    have := low_and (j := j) (y := y) (by rw [← hxy]; exact hx)
    rw [← hxy] at this
    exact this
  have hj2 : 2 ^ j < 18446744073709551616 := by rw [← hl]; exact Nat.lt_of_le_of_lt Nat.and_le_left hx
  obtain ⟨d1, d2⟩ := db_ok ⟨j, hj⟩
  simp only at d1 d2
  obtain ⟨q, hq⟩ : ∃ q, q = 2 ^ j := ⟨_, rfl⟩
  rw [← hq] at d1 d2 hl hj2
  obtain ⟨r, hr⟩ : ∃ r, r = q * 285870213051353865 % 18446744073709551616 := ⟨_, rfl⟩
  obtain ⟨k, hk⟩ : ∃ k, k = r / 288230376151711744 := ⟨_, rfl⟩
  rw [← hr, ← hk] at d1 d2
  obtain ⟨z, hz⟩ : ∃ z, z = 18446744073709551616 - x := ⟨_, rfl⟩
  rw [← hz] at hl
  have e1 : IntKind.u64.wrap (-(x : Int)) = (z : Int) := by rw [IntKind.wrap_u64]; omega
  have e2 : bits .and .u64 (x : Int) (z : Int) = (q : Int) := by rw [uand hx (by omega), hl]
  have e3 : IntKind.u64.wrap ((q : Int) * 285870213051353865) = (r : Int) := by rw [IntKind.wrap_u64]; omega
  have e4 : (r : Int) / 288230376151711744 = (k : Int) := by omega
  have c0 := hT.2 k d2
  rw [d1] at c0
  have k1 : (k : Int) < 64 := by omega
  have k0 : (0 : Int) ≤ (k : Int) := by omega
  have e5 : IntKind.i64.wrap (j : Int) = (j : Int) := wrapIn (by omega) (by omega)
  clear hT hl hj2 d1 hk hxy hp hz hr hq
  go_enter Tryd.func101, Tryd.ntmps101
  go_wp2
  go_ret
  exact ⟨rfl, rfl⟩

/-- A word of a set. -/
def wd (p : Nat → Bool) (k : Nat) : Nat := nb (fun j => p (64 * k + j)) 64
theorem wd_lt (p : Nat → Bool) (k : Nat) : wd p k < 18446744073709551616 := nb_lt 64 _
/-- A set's cells, as a value. -/
def sc (p : Nat → Bool) : Array Value := #[.int .u64 (wd p 0 : Int), .int .u64 (wd p 1 : Int), .int .u64 (wd p 2 : Int), .int .u64 (wd p 3 : Int)]
def sv (p : Nat → Bool) : Value := .agg #[.int .u64 (wd p 0 : Int), .int .u64 (wd p 1 : Int), .int .u64 (wd p 2 : Int), .int .u64 (wd p 3 : Int)]
theorem wd_congr {p q : Nat → Bool} {k : Nat} (hk : k < 4) (h : ∀ x, x < 256 → p x = q x) : wd p k = wd q k := nb_congr fun j hj => h _ (by omega)
theorem sv_congr {p q : Nat → Bool} (h : ∀ x, x < 256 → p x = q x) : sv p = sv q := by
  unfold sv; rw [wd_congr (by decide) h, wd_congr (by decide) h, wd_congr (by decide) h, wd_congr (by decide) h]
/-- The set of four words. -/
def ofw (a b c d : Nat) (x : Nat) : Bool := if x < 64 then a.testBit x else if x < 128 then b.testBit (x - 64) else if x < 192 then c.testBit (x - 128) else d.testBit (x - 192)
theorem wd_ofw {x : Nat} (f : Nat → Bool) (k : Nat) (hx : x < 2 ^ 64) (hf : ∀ j, j < 64 → f (64 * k + j) = x.testBit j) : wd f k = x := (nb_congr (n := 64) (g := x.testBit) hf).trans (nb_self hx)
theorem ofw0 (a b c d j : Nat) (hj : j < 64) : ofw a b c d (64 * 0 + j) = a.testBit j := by
  unfold ofw; rw [if_pos (by omega)]; exact congrArg _ (by omega)
theorem ofw1 (a b c d j : Nat) (hj : j < 64) : ofw a b c d (64 * 1 + j) = b.testBit j := by
  unfold ofw; rw [if_neg (by omega), if_pos (by omega)]; exact congrArg _ (by omega)
theorem ofw2 (a b c d j : Nat) (hj : j < 64) : ofw a b c d (64 * 2 + j) = c.testBit j := by
  unfold ofw; rw [if_neg (by omega), if_neg (by omega), if_pos (by omega)]; exact congrArg _ (by omega)
theorem ofw3 (a b c d j : Nat) (hj : j < 64) : ofw a b c d (64 * 3 + j) = d.testBit j := by
  unfold ofw; rw [if_neg (by omega), if_neg (by omega), if_neg (by omega)]; exact congrArg _ (by omega)
/-- Every four words are a set. -/
theorem sv_of {a b c d : Nat} (ha : a < 2 ^ 64) (hb : b < 2 ^ 64) (hc : c < 2 ^ 64) (hd : d < 2 ^ 64) : sv (ofw a b c d) = .agg #[.int .u64 (a : Int), .int .u64 (b : Int), .int .u64 (c : Int), .int .u64 (d : Int)] := by
  unfold sv
  rw [wd_ofw (ofw a b c d) 0 ha (ofw0 a b c d), wd_ofw (ofw a b c d) 1 hb (ofw1 a b c d), wd_ofw (ofw a b c d) 2 hc (ofw2 a b c d), wd_ofw (ofw a b c d) 3 hd (ofw3 a b c d)]
/-- One element more. -/
def add1 (p : Nat → Bool) (b : Nat) : Nat → Bool := fun x => p x || x == b
theorem wd_add_same (p : Nat → Bool) {k j : Nat} (hj : j < 64) : wd (add1 p (64 * k + j)) k = wd p k ||| 2 ^ j := by
  have e : wd (add1 p (64 * k + j)) k = nb (fun i => (fun i => p (64 * k + i)) i || (fun i => i == j) i) 64 := nb_congr (fun i hi => by unfold add1; congr 1; rw [Bool.eq_iff_iff]; simp)
  exact e.trans ((nb_or _ _ _).trans (congrArg (wd p k ||| ·) (nb_one hj)))
theorem wd_add_other (p : Nat → Bool) {k k' j : Nat} (hj : j < 64) (hk : k' ≠ k) : wd (add1 p (64 * k + j)) k' = wd p k' := by
  unfold wd add1
  exact nb_congr fun i hi => by
    have : ¬ 64 * k' + i = 64 * k + j := by omega
    simp [this]
theorem or_pow {p : Nat → Bool} {k j : Nat} (hj : j < 64) : bits .or .u64 (wd p k : Int) (IntKind.u64.wrap ((2 : Int) ^ j)) = (wd (add1 p (64 * k + j)) k : Int) := by
  have h2 : 2 ^ j < 18446744073709551616 := Nat.lt_of_lt_of_le (Nat.pow_lt_pow_right (by decide) hj) (by decide)
  rw [show (2 : Int) ^ j = ((2 ^ j : Nat) : Int) by simp, wr64 h2, u64_or_nat _ _ (wd_lt p k) h2, wd_add_same p hj]

set_option maxRecDepth 100000 in
set_option maxHeartbeats 2000000 in
theorem with_any (p : Nat → Bool) (b : Nat) (w : World) (hb : b < 256) :
    Calls Tryd.prog 97 #[sv p, .int .u8 (b : Int)] w fun e w' => e = .returned (sv (add1 p b)) ∧ Below w.heap.size w w' := by
  obtain ⟨k, j, hk, hj, rfl⟩ : ∃ k j, k < 4 ∧ j < 64 ∧ b = 64 * k + j := ⟨b / 64, b % 64, by omega, by omega, by omega⟩
  obtain ⟨b, hb'⟩ : ∃ b, b = 64 * k + j := ⟨_, rfl⟩
  have q1 : (b : Int) / 64 = (k : Int) := by omega
  have q2 : (b : Int) % 64 = (j : Int) := by omega
  have q3 : b / 64 = k := by omega
  have q4 : b % 64 = j := by omega
  have H : ∀ k' : Nat, k' ≠ k → wd (add1 p b) k' = wd p k' := fun k' h => by rw [hb']; exact wd_add_other p hj h
  have E := or_pow (p := p) (k := k) hj
  rw [← hb'] at E ⊢
  clear hb' hb hj
  unfold sv
  have hk4 : k = 0 ∨ k = 1 ∨ k = 2 ∨ k = 3 := by omega
  rcases hk4 with rfl | rfl | rfl | rfl
  · rw [H 1 (by decide), H 2 (by decide), H 3 (by decide)]
    have H' := hid H; clear H
    go_enter Tryd.func97, Tryd.ntmps97
    go_wp2
    refine bodyPost_ret (v := .agg #[.int .u64 (wd (add1 p b) 0 : Int), .int .u64 (wd p 1 : Int), .int .u64 (wd p 2 : Int), .int .u64 (wd p 3 : Int)]) ?_ rfl ⟨rfl, ?_⟩
    · simp [results, Tryd.results97, go_sem]
    · exact ((Below.refl _ _).alloc (Nat.le_refl _) _).alloc (by simp) _
  · rw [H 0 (by decide), H 2 (by decide), H 3 (by decide)]
    have H' := hid H; clear H
    go_enter Tryd.func97, Tryd.ntmps97
    go_wp2
    refine bodyPost_ret (v := .agg #[.int .u64 (wd p 0 : Int), .int .u64 (wd (add1 p b) 1 : Int), .int .u64 (wd p 2 : Int), .int .u64 (wd p 3 : Int)]) ?_ rfl ⟨rfl, ?_⟩
    · simp [results, Tryd.results97, go_sem]
    · exact ((Below.refl _ _).alloc (Nat.le_refl _) _).alloc (by simp) _
  · rw [H 0 (by decide), H 1 (by decide), H 3 (by decide)]
    have H' := hid H; clear H
    go_enter Tryd.func97, Tryd.ntmps97
    go_wp2
    refine bodyPost_ret (v := .agg #[.int .u64 (wd p 0 : Int), .int .u64 (wd p 1 : Int), .int .u64 (wd (add1 p b) 2 : Int), .int .u64 (wd p 3 : Int)]) ?_ rfl ⟨rfl, ?_⟩
    · simp [results, Tryd.results97, go_sem]
    · exact ((Below.refl _ _).alloc (Nat.le_refl _) _).alloc (by simp) _
  · rw [H 0 (by decide), H 1 (by decide), H 2 (by decide)]
    have H' := hid H; clear H
    go_enter Tryd.func97, Tryd.ntmps97
    go_wp2
    refine bodyPost_ret (v := .agg #[.int .u64 (wd p 0 : Int), .int .u64 (wd p 1 : Int), .int .u64 (wd p 2 : Int), .int .u64 (wd (add1 p b) 3 : Int)]) ?_ rfl ⟨rfl, ?_⟩
    · simp [results, Tryd.results97, go_sem]
    · exact ((Below.refl _ _).alloc (Nat.le_refl _) _).alloc (by simp) _

end Go.Proofs.YtednoideboeehaaDoor
end
section
set_option linter.unusedSimpArgs false
set_option linter.unusedVariables false
namespace Go.Proofs.YtednoideboeehaaDoor
open Go.RowKit Bs Go.Frame
theorem has_bit {p : Nat → Bool} {k j : Nat} (hj : j < 64) : bits .and .u64 ((wd p k : Int) / (2 : Int) ^ j) 1 = ((p (64 * k + j)).toNat : Int) := by
  have h := nb_has (fun i => p (64 * k + i)) hj
  have e : (wd p k : Int) / (2 : Int) ^ j = ((wd p k / 2 ^ j : Nat) : Int) := by simp
  have k1 := uand (a := wd p k / 2 ^ j) (b := 1) (Nat.lt_of_le_of_lt (Nat.div_le_self _ _) (wd_lt p k)) (by decide)
  rw [e]
  refine k1.trans ?_
  rw [Nat.and_one_is_mod]
  exact congrArg _ h

set_option maxRecDepth 100000 in
set_option maxHeartbeats 2000000 in
theorem Has_any (p : Nat → Bool) (b : Nat) (w : World) (hb : b < 256) :
    Calls Tryd.prog 67 #[sv p, .int .u8 (b : Int)] w fun e w' => e = .returned (.bool (p b)) ∧ Below w.heap.size w w' := by
  obtain ⟨k, j, hk, hj, rfl⟩ : ∃ k j, k < 4 ∧ j < 64 ∧ b = 64 * k + j := ⟨b / 64, b % 64, by omega, by omega, by omega⟩
  obtain ⟨b, hb'⟩ : ∃ b, b = 64 * k + j := ⟨_, rfl⟩
  have q1 : (b : Int) / 64 = (k : Int) := by omega
  have q2 : (b : Int) % 64 = (j : Int) := by omega
  have q3 : b / 64 = k := by omega
  have q4 : b % 64 = j := by omega
  have E := has_bit (p := p) (k := k) hj
  rw [← hb'] at E ⊢
  clear hb' hb hj
  unfold sv
  have hk4 : k = 0 ∨ k = 1 ∨ k = 2 ∨ k = 3 := by omega
  cases hp : p b
  all_goals (
    rw [hp] at E
    simp only [Bool.toNat_false, Bool.toNat_true, Int.natCast_zero, Int.natCast_one] at E
    clear hp
    rcases hk4 with rfl | rfl | rfl | rfl
    all_goals (
      go_enter Tryd.func67, Tryd.ntmps67
      go_wp2
      go_ret
      exact ⟨rfl, (Below.refl _ _).alloc (Nat.le_refl _) _⟩))

end Go.Proofs.YtednoideboeehaaDoor
end
section
namespace Go.Frame
open Go.RowKit

/-- A fence that lets every call through. -/
structure Free (F : Fence) : Prop where
  fn : ∀ f, F.fn f
  depth : F.depth = none
  calls : ∀ {P : Program} {n : Nat} {f : FuncId} {args : Array Value} {w : World} {R : Ending → World → Prop}, Calls P f args w R → CallsIn F n P f args w R
theorem free_wide : Free Fence.wide := ⟨fun _ => trivial, rfl, fun h => callsIn_wide.2 h⟩
theorem free_round (l : Nat) : Free (Fence.wide.inRound l) := ⟨fun _ => trivial, rfl, fun h => CallsIn.inRound l (callsIn_wide.2 h)⟩
/-- An operation that comes to nothing, where another stood. -/
def idle (o : Oper) : Oper := { o with dst := none, op := .move (.const undef), guard := none }
/-- The tail from n on idle. -/
def mask (n : Nat) (l : List Oper) : List Oper := l.take n ++ (l.drop n).map idle
theorem mask_len (n : Nat) (l : List Oper) : (mask n l).length = l.length := by
  unfold mask
  rw [List.length_append, List.length_map, List.length_take, List.length_drop]
  omega
theorem mask_at (n : Nat) (l : List Oper) (i : Nat) : (mask n l)[i]? = (l[i]?).map fun o => if i < n then o else idle o := by
  by_cases hl : i < l.length
  · unfold mask
    by_cases h : i < n
    · rw [List.getElem?_append_left (by rw [List.length_take]; omega), List.getElem?_take, if_pos h]
      simp [h]
    · rw [List.getElem?_append_right (by rw [List.length_take]; omega), List.getElem?_map, List.getElem?_drop, List.length_take, Nat.min_eq_left (by omega), show n + (i - n) = i by omega]
      simp [h]
  · rw [List.getElem?_eq_none (by rw [mask_len]; omega), List.getElem?_eq_none (by omega)]
    rfl
theorem mask_head {n i : Nat} (l : List Oper) (h : i < n) : (mask n l)[i]? = l[i]? := by
  rw [mask_at]
  simp [h]
theorem mask_ready (md : Region.Mode) (n : Nat) (l : List Oper) (listed : Array Bool) : Region.ready md (mask n l).toArray listed = Region.ready md l.toArray listed := by
  have hs : (mask n l).toArray.size = l.toArray.size := mask_len n l
  unfold Region.ready
  rw [hs]
  refine List.filter_congr fun i _ => ?_
  have : ((mask n l).toArray[i]?).map (·.after.all fun e => !Region.binds md e || listed.getD e.on false) = (l.toArray[i]?).map (·.after.all fun e => !Region.binds md e || listed.getD e.on false) := by
    rw [List.getElem?_toArray, List.getElem?_toArray, mask_at]
    cases l[i]? with
    | none => rfl
    | some o =>
      simp only [Option.map_some]
      split <;> rfl
  rw [this]
theorem mask_yielded {n j : Nat} (l : List Oper) (h : j < n) (tmps : Array Value) : yielded (mask n l).toArray tmps j = yielded l.toArray tmps j := by
  unfold yielded
  rw [List.getElem?_toArray, List.getElem?_toArray, mask_head l h]
/-- The guards of the head look at the head. -/
def guardsB (n : Nat) (l : List Oper) : Bool := (l.take n).all fun o => match o.guard with
  | some (j, _) => decide (j < n)
  | none => true
theorem mask_wanted {n : Nat} {l : List Oper} (h : guardsB n l = true) {o : Oper} (ho : o ∈ l.take n) (tmps : Array Value) : Region.wanted o (yielded (mask n l).toArray tmps) = Region.wanted o (yielded l.toArray tmps) := by
  have := List.all_eq_true.1 h o ho
  unfold Region.wanted
  cases hg : o.guard with
  | none => rfl
  | some g =>
    obtain ⟨j, b⟩ := g
    rw [hg] at this
    simp only at this ⊢
    rw [mask_yielded l (of_decide_eq_true this)]
section
variable {P : Program} {C : World → Prop}
theorem idle_quiet (o : Oper) (a : Act) : (idle o).quiet P a C fun a' => a' = a := by
  refine ⟨undef, fun w _ => ?_, rfl⟩
  unfold Oper.quietAt idle execOp
  simp [go_sem, Oper.quietUpon]
/-- The quiet walk of the head is one of the masked region. -/
theorem quiet_idle (ops : Array Oper) (Q : Act → Prop) {a : Act} (h : Q a) : ∀ R : List Oper, wpQuiet P ops C Q (R.map idle) a
  | [] => h
  | o :: R => by
    have hw : Region.wanted (idle o) (yielded ops a.tmps) = true := rfl
    show if Region.wanted (idle o) (yielded ops a.tmps) then (idle o).quiet P a C (wpQuiet P ops C Q (R.map idle)) else _
    rw [if_pos hw]
    obtain ⟨v, hv, hn⟩ := idle_quiet (P := P) (C := C) o a
    exact ⟨v, hv, by rw [hn]; exact quiet_idle ops Q h R⟩
theorem quiet_mask {n : Nat} {l : List Oper} {Q : Act → Prop} : ∀ (L : List Oper), (∀ o ∈ L, ∀ tmps, Region.wanted o (yielded (mask n l).toArray tmps) = Region.wanted o (yielded l.toArray tmps)) → ∀ (R : List Oper) (a : Act),
    wpQuiet P l.toArray C Q L a → wpQuiet P (mask n l).toArray C Q (L ++ R.map idle) a
  | [], _, R, a, h => quiet_idle _ Q h R
  | o :: L, hL, R, a, h => by
    have ih := quiet_mask (n := n) (l := l) (Q := Q) L (fun o' ho' => hL o' (List.mem_cons_of_mem _ ho')) R
    simp only [List.cons_append, wpQuiet] at h ⊢
    rw [hL o (by simp)]
    split at h
    · rename_i hw
      rw [if_pos hw]
      obtain ⟨v, hv, hn⟩ := h
      exact ⟨v, hv, ih _ hn⟩
    · rename_i hw
      rw [if_neg hw]
      exact ih _ h
/-- No statement 'defer' is among the operations. -/
def noDefer (l : List Oper) : Bool := l.all fun o => match o.op with
  | .defer _ => false
  | _ => true
theorem semAt_any {l : List Oper} (h : noDefer l = true) {o : Oper} (ho : o ∈ l) (r : Option Nat) (ρ : Operand → Value) : o.semAt r ρ = execOp ρ o := by
  cases r with
  | none => rfl
  | some k =>
    refine Oper.semAt_some k ρ o fun c hc => ?_
    have := List.all_eq_true.1 h o ho
    rw [hc] at this
    cases this
variable {F : Fence} {m : Nat}
/-- A quiet operation, in a fence that lets every call through. -/
theorem quiet_in {l : List Oper} {o : Oper} {a : Act} {w : World} {K : Act → Prop} {K' : Act → World → Prop} {Q : Exit → Act → World → Prop} (hF : Free F) (hd : noDefer l = true) (ho : o ∈ l) (hw : C w)
    (hK : ∀ a' w', C w' → K a' → K' a' w') (h : o.quiet P a C K) : o.wpIn F m P a w K' Q := by
  obtain ⟨v, hv, hn⟩ := h
  refine ⟨fun f _ => hF.fn f, ?_⟩
  rw [semAt_any hd ho]
  have hq : Oper.quietUpon P C w v ((execOp a.eval o).run P w) := hv w hw
  match hr : (execOp a.eval o).run P w, hq with
  | .ok (.value u) w1, hq =>
    obtain ⟨rfl, rfl⟩ := hq
    exact hK _ _ hw hn
  | .ok .skip w1, hq =>
    obtain ⟨rfl, rfl⟩ := hq
    exact hK _ _ hw hn
  | .ok (.enter f args) w1, hq =>
    obtain ⟨rfl, hc⟩ := hq
    refine ⟨fun hs => ?_, (hF.calls hc).mono ?_⟩
    · rw [hF.depth] at hs; cases hs
    · rintro e w2 ⟨rfl, hw2⟩
      exact hK _ _ hw2 hn
theorem comes_up {l : List Oper} {o : Oper} {i : Nat} {a : Act} {w : World} {K : Act → Prop} {K' : Act → World → Prop} {Q : Exit → Act → World → Prop} (hF : Free F) (hd : noDefer l = true) (hi : l[i]? = some o) (hw : C w)
    (hK : ∀ a' w', C w' → K a' → K' a' w') (h : if Region.wanted o (yielded l.toArray a.tmps) then o.quiet P a C K else K (a.put o.dst undef)) : wpOpIn F m P l.toArray Q i K' a w := by
  unfold wpOpIn
  rw [List.getElem?_toArray, hi]
  show if _ then _ else _
  split
  · rename_i hq
    rw [if_pos hq] at h
    exact quiet_in hF hd (List.mem_of_getElem? hi) hw hK h
  · rename_i hq
    rw [if_neg hq] at h
    exact ⟨fun f _ => hF.fn f, hK _ _ hw h⟩
variable {md : Region.Mode}
/-- The tail alone is left: what the masked region's walk says there. -/
theorem tail_ends {n : Nat} {l : List Oper} {Q : Act → Prop} : ∀ (g k fuel : Nat) (listed : Array Bool) (a : Act), n ≤ k → k + g = l.length → Region.seqB md l.toArray g k listed = true →
    wpAnyQ P md (mask n l).toArray C Q fuel listed a → g ≤ fuel ∧ Q a
  | 0, k, fuel, listed, a, _, _, hB, h => by
    have he : Region.ready md (mask n l).toArray listed = [] := by rw [mask_ready]; simpa [Region.seqB] using hB
    cases fuel with
    | zero => exact ⟨Nat.le_refl _, h.2⟩
    | succ f => exact ⟨Nat.zero_le _, h.1 he⟩
  | g + 1, k, fuel, listed, a, hn, hk, hB, h => by
    simp only [Region.seqB, Bool.and_eq_true, decide_eq_true_eq] at hB
    have hr : Region.ready md (mask n l).toArray listed = [k] := by rw [mask_ready]; exact hB.1
    cases fuel with
    | zero => have := h.1; rw [hr] at this; cases this
    | succ f =>
      have h1 := h.2 k (by rw [hr]; simp)
      obtain ⟨o, ho⟩ : ∃ o, l[k]? = some o := ⟨_, List.getElem?_eq_getElem (by omega)⟩
      have hm : (mask n l).toArray[k]? = some (idle o) := by
        rw [List.getElem?_toArray, mask_at, ho]
        simp [show ¬ k < n by omega]
      unfold qOp at h1
      rw [hm] at h1
      have hw : Region.wanted (idle o) (yielded (mask n l).toArray a.tmps) = true := rfl
      simp only [hw, if_true] at h1
      obtain ⟨v, _, h2⟩ := h1
      have := tail_ends g (k + 1) f _ _ (by omega) (by omega) hB.2 h2
      exact ⟨by omega, this.2⟩
/-- The tail, carried out: each of its operations comes up alone. -/
theorem tail_runs {ops : Array Oper} {Q : Exit → Act → World → Prop} : ∀ (t : List Oper) (k fuel : Nat) (listed : Array Bool) (a : Act) (w : World), (∀ j, t[j]? = ops[k + j]?) → t.length ≤ fuel → Region.seqB md ops t.length k listed = true →
    wpListIn F m P ops Q t a w → wpAnyIn F m P md ops Q fuel listed a w
  | [], k, fuel, listed, a, w, _, _, hB, h => by
    have he : Region.ready md ops listed = [] := by simpa [Region.seqB] using hB
    cases fuel with
    | zero => exact ⟨he, h⟩
    | succ f => exact ⟨fun _ => h, fun i hi => by rw [he] at hi; cases hi⟩
  | o :: t, k, 0, listed, a, w, _, hf, _, _ => by simp at hf
  | o :: t, k, f + 1, listed, a, w, ht, hf, hB, h => by
    have h0 : ops[k]? = some o := by rw [← Nat.add_zero k, ← ht 0]; rfl
    simp only [List.length_cons, Region.seqB, Bool.and_eq_true, decide_eq_true_eq] at hB
    have hlen : t.length ≤ f := by simpa using hf
    refine ⟨fun he => (by rw [hB.1] at he; cases he), fun i hi => ?_⟩
    rw [hB.1, List.mem_singleton] at hi
    subst hi
    refine wpOpIn_mono (K := wpListIn F m P ops Q t) (fun a' w' h' => tail_runs t (i + 1) f _ a' w' (fun j => ?_) hlen hB.2 h') ?_
    · have := ht (j + 1)
      rw [List.getElem?_cons_succ] at this
      rw [this]
      congr 1
      omega
    · unfold wpOpIn
      rw [h0]
      exact h
/-- Every dependence of the head points back. -/
def backB (md : Region.Mode) (n : Nat) (l : List Oper) : Bool := (List.range n).all fun i => match l[i]? with
  | some o => o.after.all fun e => !Region.binds md e || decide (e.on < i)
  | none => true
/-- As long as one of the head has not come up, one of the head may. -/
theorem some_ready {n : Nat} {l : List Oper} (hb : backB md n l = true) (hn : n ≤ l.length) {listed : Array Bool} (hs : listed.size = l.length) : ∀ i, i < n → listed.getD i true = false → ∃ j, j < n ∧ j ∈ Region.ready md l.toArray listed := by
  intro i
  induction i using Nat.strongRecOn with
  | _ i ih =>
    intro hi hun
    obtain ⟨o, ho⟩ : ∃ o, l[i]? = some o := ⟨_, List.getElem?_eq_getElem (by omega)⟩
    by_cases hall : ∀ e ∈ o.after, Region.binds md e = true → listed.getD e.on false = true
    · exact ⟨i, hi, mem_ready.2 ⟨hun, o, by rw [List.getElem?_toArray]; exact ho, hall⟩⟩
    · obtain ⟨e, he⟩ := Classical.not_forall.1 hall
      simp only [Classical.not_imp] at he
      obtain ⟨he, hbi, hno⟩ := he
      have h1 := List.all_eq_true.1 hb i (List.mem_range.2 hi)
      rw [ho] at h1
      have h2 := Array.all_eq_true'.1 h1 e he
      rw [hbi] at h2
      have h3 : e.on < i := by simpa using h2
      exact ih e.on h3 (by omega) (getD_in (by omega) (by simpa using hno))
/-- The head has come up, the tail has not. -/
def lit (n : Nat) (l : List Oper) : Array Bool := (List.replicate n true ++ List.replicate (l.length - n) false).toArray
theorem is_lit {n : Nat} {l : List Oper} {listed : Array Bool} (hn : n ≤ l.length) (hs : listed.size = l.length) (h1 : ∀ i, i < n → listed.getD i true = true) (h2 : ∀ i, n ≤ i → i < l.length → listed.getD i true = false) : listed = lit n l := by
  have hz : (lit n l).size = l.length := by unfold lit; simp; omega
  apply Array.ext (by rw [hs, hz])
  intro i hi hi'
  have hil : i < l.length := by omega
  have hg : listed.getD i true = listed[i] := by simp [hi]
  rw [← hg]
  by_cases h : i < n
  · rw [h1 i h]
    simp [lit, h]
  · rw [h2 i (by omega) hil]
    simp [lit, List.getElem_append, h]
variable {Q : Exit → Act → World → Prop} {Q' : Act → Prop}
/-- Whatever order the head takes. -/
theorem head_runs {n : Nat} {l : List Oper} (hF : Free F) (hd : noDefer l = true) (hg : guardsB n l = true) (hn : n < l.length) (hs : Region.sinkB md l.toArray n = true) (hc : Region.chainB md l.toArray n = true) (hb : backB md n l = true)
    (ht : Region.seqB md l.toArray (l.length - n) n (lit n l) = true) (hQ : ∀ a w, C w → Q' a → wpListIn F m P l.toArray Q (l.drop n) a w) :
    ∀ (fuel : Nat) (listed : Array Bool) (a : Act) (w : World), HeadInv md l.toArray n listed → C w → wpAnyQ P md (mask n l).toArray C Q' fuel listed a → wpAnyIn F m P md l.toArray Q fuel listed a w := by
  intro fuel
  induction fuel with
  | zero =>
    intro listed a w inv hw h
    by_cases hex : ∃ i, i < n ∧ listed.getD i true = false
    · obtain ⟨i, hi, hun⟩ := hex
      obtain ⟨j, _, hj⟩ := some_ready hb (by omega) inv.size i hi hun
      rw [← mask_ready md n, h.1] at hj
      cases hj
    · have he := is_lit (Nat.le_of_lt hn) inv.size (fun i hi => by by_cases e : listed.getD i true = false; exact absurd ⟨i, hi, e⟩ hex; simpa using e) inv.tail
      obtain ⟨h1, h2⟩ := tail_ends (l.length - n) n 0 listed a (Nat.le_refl _) (by omega) (by rw [he]; exact ht) h
      exact tail_runs (l.drop n) n 0 listed a w (fun j => by rw [List.getElem?_drop, List.getElem?_toArray]) (by rw [List.length_drop]; exact h1) (by rw [List.length_drop, he]; exact ht) (hQ a w hw h2)
  | succ f ih =>
    intro listed a w inv hw h
    by_cases hex : ∃ i, i < n ∧ listed.getD i true = false
    · obtain ⟨i, hi, hun⟩ := hex
      obtain ⟨j, _, hj⟩ := some_ready hb (by omega) inv.size i hi hun
      refine ⟨fun h0 => (by rw [h0] at hj; cases hj), fun k hk => ?_⟩
      have hkn : k < n := by
        by_cases e : k < n
        · exact e
        · exact absurd hk (tail_waits hs hc hn inv _ i rfl hi hun k (by omega))
      obtain ⟨o, ho⟩ : ∃ o, l[k]? = some o := ⟨_, List.getElem?_eq_getElem (by omega)⟩
      have hot : o ∈ l.take n := List.mem_of_getElem? (i := k) (by rw [List.getElem?_take, if_pos hkn]; exact ho)
      have h1 := h.2 k (by rw [mask_ready]; exact hk)
      unfold qOp at h1
      rw [List.getElem?_toArray, mask_head l hkn, ho] at h1
      simp only [mask_wanted hg hot] at h1
      exact comes_up hF hd ho hw (fun a' w' hw' h' => ih _ a' w' (inv.set hk hkn) hw' h') h1
    · have he := is_lit (Nat.le_of_lt hn) inv.size (fun i hi => by by_cases e : listed.getD i true = false; exact absurd ⟨i, hi, e⟩ hex; simpa using e) inv.tail
      obtain ⟨h1, h2⟩ := tail_ends (l.length - n) n (f + 1) listed a (Nat.le_refl _) (by omega) (by rw [he]; exact ht) h
      exact tail_runs (l.drop n) n (f + 1) listed a w (fun j => by rw [List.getElem?_drop, List.getElem?_toArray]) (by rw [List.length_drop]; exact h1) (by rw [List.length_drop, he]; exact ht) (hQ a w hw h2)
end
/-- What the kernel is asked of a region. -/
def tailB (n : Nat) (l : List Oper) : Bool :=
  Region.lexB .any (mask n l).toArray && (guardsB n l && (decide (n < l.length) && (Region.sinkB .any l.toArray n && (Region.chainB .any l.toArray n && (backB .any n l && Region.seqB .any l.toArray (l.length - n) n (lit n l))))))
section
variable {P : Program} {F : Fence} {m : Nat} {C : World → Prop}
theorem wpIn_region_quiet_tail {id : Nat} {Q : Exit → Act → World → Prop} {a : Act} {w : World} {l : List Oper} (n : Nat) (hF : Free F) (hm : P.follows .mixedOrders = true) (hd : noDefer l = true) (hB : tailB n l = true)
    (hC : C { w with drawn := w.drawn + 1 }) (h : wpQuiet P l.toArray C (fun a' => ∀ w', C w' → wpListIn F m P l.toArray Q (l.drop n) a' w') (l.take n) a) : (Code.region id l.toArray true).wpIn F m P Q a w := by
  unfold tailB at hB
  simp only [Bool.and_eq_true, decide_eq_true_eq] at hB
  obtain ⟨hlex, hg, hn, hs, hc, hb, ht⟩ := hB
  unfold Region.lexB at hlex
  rw [Bool.and_eq_true] at hlex
  have hq := quiet_mask (n := n) (l := l) (l.take n) (fun o ho tmps => mask_wanted hg ho tmps) (l.drop n) a h
  have hsz : (mask n l).toArray.size = (mask n l).length := rfl
  have hany := wpAnyQ_lex (md := .any) hlex.1 (mask n l) 0 (Array.replicate (mask n l).length false) a (fun j => by rw [Nat.zero_add, List.getElem?_toArray]) hlex.2 hq
  rw [mask_len] at hany
  have inv : HeadInv .any l.toArray n (Array.replicate l.length false) := by
    refine ⟨by simp, fun j oj _ hl => ?_, fun t _ ht' => getD_in (by simpa using ht') (getD_replicate_false _ _)⟩
    rw [getD_replicate_false] at hl
    cases hl
  exact wpIn_region_any hm (head_runs hF hd hg hn hs hc hb ht (fun a' w' hw' hq' => hq' w' hw') _ _ _ _ inv hC hany)
/-- The class 'Below', every world of it as f x. -/
theorem wpIn_region_below_tail {id : Nat} {Q : Exit → Act → World → Prop} {a : Act} {w : World} {l : List Oper} (n : Nat) (hF : Free F) (hm : P.follows .mixedOrders = true) (hd : noDefer l = true) (hB : tailB n l = true)
    (h : ∀ (X : Type) (f : X → World), Nonempty X → Hid (∀ x, Below w.heap.size w (f x)) → Hid (∀ w', Below w.heap.size w w' → ∃ x, w' = f x) →
      wpQuiet P l.toArray (fun w' => ∃ x, w' = f x) (fun a' => ∀ w', Below w.heap.size w w' → wpListIn F m P l.toArray Q (l.drop n) a' w') (l.take n) a) : (Code.region id l.toArray true).wpIn F m P Q a w := by
  have hdr : Below w.heap.size w { w with drawn := w.drawn + 1 } := (Below.refl w.heap.size w).drew
  refine wpIn_region_quiet_tail (C := fun w' => ∃ x : {w' : World // Below w.heap.size w w'}, w' = x.1) n hF hm hd hB ⟨⟨_, hdr⟩, rfl⟩ ?_
  have := h {w' : World // Below w.heap.size w w'} Subtype.val ⟨⟨_, hdr⟩⟩ (fun x => x.2) (fun w' h' => ⟨⟨w', h'⟩, rfl⟩)
  have e : (fun a' => ∀ w', (∃ x : {w' : World // Below w.heap.size w w'}, w' = x.1) → wpListIn F m P l.toArray Q (l.drop n) a' w') = fun a' => ∀ w', Below w.heap.size w w' → wpListIn F m P l.toArray Q (l.drop n) a' w' := by
    funext a'
    refine propext ⟨fun h w' hw => h w' ⟨⟨w', hw⟩, rfl⟩, fun h w' ⟨x, hx⟩ => h w' (hx ▸ x.2)⟩
  rw [e]
  exact this
end
end Go.Frame
end
section
set_option linter.unusedSimpArgs false
set_option linter.unusedVariables false
namespace Go.Proofs.YtednoideboeehaaDoor
open Go.RowKit Bs Go.Frame

/-- A box that holds a set. -/
def SB (W : World) (b : Nat) (p : Nat → Bool) : Prop := W.heap[b]? = some (.cells #[.int .u64 (wd p 0 : Int), .int .u64 (wd p 1 : Int), .int .u64 (wd p 2 : Int), .int .u64 (wd p 3 : Int)] 24 (0, 0))
theorem wd_false (k : Nat) : wd (fun _ => false) k = 0 := nb_zero 64
theorem zcells : (#[.int .u64 (wd (fun _ => false) 0 : Int), .int .u64 (wd (fun _ => false) 1 : Int), .int .u64 (wd (fun _ => false) 2 : Int), .int .u64 (wd (fun _ => false) 3 : Int)] : Array Value) = #[.int .u64 0, .int .u64 0, .int .u64 0, .int .u64 0] := by
  rw [wd_false, wd_false, wd_false, wd_false]; rfl
theorem sb_zero {W : World} {b : Nat} (h : W.heap[b]? = some (.cells #[.int .u64 0, .int .u64 0, .int .u64 0, .int .u64 0] 24 (0, 0))) : SB W b (fun _ => false) := by unfold SB; rw [zcells]; exact h
def zset : Obj := .cells #[.int .u64 0, .int .u64 0, .int .u64 0, .int .u64 0] 24
/-- The bytes of the first i. -/
def ofp (s : ByteArray) : Nat → Nat → Bool
  | 0 => fun _ => false
  | i + 1 => if h : i < s.size then add1 (ofp s i) s[i].toNat else ofp s i
theorem ofp_next (s : ByteArray) {i : Nat} (h : i < s.size) : ofp s (i + 1) = add1 (ofp s i) s[i].toNat := by
  rw [ofp]; simp only [h, dite_true]

set_option maxRecDepth 100000 in
set_option maxHeartbeats 4000000 in
theorem Of_any (s : ByteArray) (w : World) (hs : s.size ≤ 1000000) :
    Calls Tryd.prog 79 #[.string s] w fun e w' => e = .returned (sv (ofp s s.size)) ∧ Below w.heap.size w w' := by
  obtain ⟨W, hW⟩ : ∃ W, W = (w.alloc zset).alloc zset := ⟨_, rfl⟩
  obtain ⟨x0, x1, bW, hsz⟩ := two w zset zset
  rw [← hW] at x0 x1 bW hsz
  have HW := hid hW
  unfold zset at hW x0 x1
  go_enter Tryd.func79, Tryd.ntmps79
  go_wp2_with fail
  rw [← hW]
  clear hW
  go_loopg [7] s.size (fun k sl wr => ∃ i : Nat, sl = .int .i64 i ∧ i + k = s.size ∧ SB wr (w.heap.size + 1) (ofp s i) ∧ SB wr w.heap.size (fun _ => false) ∧ Below w.heap.size w wr)
  case atStart => exact ⟨0, rfl, by omega, sb_zero x1, sb_zero x0, bW⟩
  case round =>
    obtain ⟨i, rfl, hk, hB, hA, hbw⟩ := hrel
    by_cases hlt : i < s.size
    · have hlt' : (i : Int) < (s.size : Int) := by omega
      have hi0 : (0 : Int) ≤ (i : Int) := by omega
      have hby : s[i].toNat < 256 := UInt8.toNat_lt _
      have E := hid (ofp_next s hlt)
      have HH := hid (And.intro hB (And.intro hA hbw))
      have CW := hid (show ∀ V, Below wr.heap.size wr V → Calls Tryd.prog 97 #[.agg #[.int .u64 (wd (ofp s i) 0 : Int), .int .u64 (wd (ofp s i) 1 : Int), .int .u64 (wd (ofp s i) 2 : Int), .int .u64 (wd (ofp s i) 3 : Int)], .int .u8 (s[i].toNat : Int)] V fun e w'' => e = .returned (.agg #[.int .u64 (wd (ofp s (i + 1)) 0 : Int), .int .u64 (wd (ofp s (i + 1)) 1 : Int), .int .u64 (wd (ofp s (i + 1)) 2 : Int), .int .u64 (wd (ofp s (i + 1)) 3 : Int)]) ∧ Below V.heap.size V w'' from
        fun V _ => by rw [E.out]; exact with_any (ofp s i) s[i].toNat V hby)
      clear hB hA hbw x0 x1 bW
      go_wp2_with fail
      refine (wpIn_wide (n := 0)).1 (wpIn_region_below_tail 5 free_wide (by kernel_rfl) (by kernel_rfl) (by kernel_rfl) ?_)
      intro X f _ hf hs
      have lB := heap_lt HH.out.1
      have k0 := fun x => (cells4 (((hf.out x).block _ lB).trans HH.out.1)).1
      have k1 := fun x => (cells4 (((hf.out x).block _ lB).trans HH.out.1)).2.1
      have k2 := fun x => (cells4 (((hf.out x).block _ lB).trans HH.out.1)).2.2.1
      have k3 := fun x => (cells4 (((hf.out x).block _ lB).trans HH.out.1)).2.2.2
      simp only [List.take_succ_cons, List.take_zero, List.drop_succ_cons, List.drop_zero]
      repeat (go_big_quiet_step (first | (go_at_call 97; with_reducible exact calls_below hf hs (CW.out _ (hf.out _)))))
      refine wpQuiet_nil ?_
      intro Y hY
      have yB := (hY.block _ lB).trans HH.out.1
      have HY := hid hY
      obtain ⟨c0, c1, c2, c3⟩ := cells4 yB
      obtain ⟨f0, f1, f2, f3⟩ := frozen4 yB
      have HYB := hid yB
      clear yB hY k0 k1 k2 k3 hf hs lB
      gi_wp2
      go_wp2
      go_roundg (gk - 1)
      case measure => omega
      case rel =>
        have h2 := HH.out.2.2
        have h3 := h2.size
        refine ⟨i + 1, by go_num, by omega, ?_, ?_, ?_⟩
        · unfold SB; exact four_set HYB.out
        · unfold SB; exact far4 ((HY.out.block _ (heap_lt HH.out.2.1)).trans HH.out.2.1) (by omega)
        · exact below_put (below_put (below_put (below_put (h2.trans (HY.out.mono h2.size)) (by omega)) (by omega)) (by omega)) (by omega)
    · have hin : ¬ (i : Int) < (s.size : Int) := by omega
      obtain rfl : i = s.size := by omega
      obtain ⟨c0, c1, c2, c3⟩ := cells4 hB
      obtain ⟨a0, a1, a2, a3⟩ := cells4 hA
      obtain ⟨f0, f1, f2, f3⟩ := frozen4 hA
      have HA := hid hA
      have HB := hid hbw
      clear hA hB hbw x0 x1 bW
      go_wp2
      have z := four_set (x' := .int .u64 (wd (ofp s s.size) 0 : Int)) (y' := .int .u64 (wd (ofp s s.size) 1 : Int)) (z' := .int .u64 (wd (ofp s s.size) 2 : Int)) (u' := .int .u64 (wd (ofp s s.size) 3 : Int)) HA.out
      obtain ⟨r0, r1, r2, r3⟩ := cells4 z
      refine bodyPost_ret (v := sv (ofp s s.size)) ?_ rfl ⟨rfl, ?_⟩
      · unfold sv; simp [results, Tryd.results79, go_sem, r0, r1, r2, r3]
      · exact below_put (below_put (below_put (below_put HB.out (Nat.le_refl _)) (Nat.le_refl _)) (Nat.le_refl _)) (Nat.le_refl _)

end Go.Proofs.YtednoideboeehaaDoor
end
section
set_option linter.unusedSimpArgs false
set_option linter.unusedVariables false
namespace Go.Proofs.YtednoideboeehaaDoor
open Go.RowKit Bs Go.Frame

theorem SB_congr {W : World} {b : Nat} {p q : Nat → Bool} (h : ∀ x, x < 256 → p x = q x) (hs : SB W b p) : SB W b q := by
  unfold SB at hs ⊢
  rw [← wd_congr (by decide) h, ← wd_congr (by decide) h, ← wd_congr (by decide) h, ← wd_congr (by decide) h]
  exact hs
/-- The bytes from lo to hi, hi not among them. -/
def rgp (lo hi x : Nat) : Bool := decide (lo ≤ x) && decide (x < hi)
theorem rgp_empty {lo hi : Nat} (h : hi ≤ lo) (x : Nat) : rgp lo hi x = false := by
  unfold rgp
  rw [Bool.eq_false_iff]
  simp
  omega
theorem rgp_next {lo i : Nat} (h : lo ≤ i) : rgp lo (i + 1) = add1 (rgp lo i) i := by
  funext x
  unfold rgp add1
  rw [Bool.eq_iff_iff]
  simp
  omega
theorem rgp_end {lo hi i : Nat} (h1 : i = lo ∨ i ≤ hi + 1) (h2 : hi < i) (x : Nat) : rgp lo i x = rgp lo (hi + 1) x := by
  rcases h1 with rfl | h1
  · rw [rgp_empty (Nat.le_refl _), rgp_empty (by omega)]
  · rw [show i = hi + 1 by omega]

set_option maxRecDepth 100000 in
set_option maxHeartbeats 4000000 in
theorem Range_any (lo hi : Nat) (w : World) (hlo : lo < 256) (hhi : hi < 256) :
    Calls Tryd.prog 78 #[.int .u8 (lo : Int), .int .u8 (hi : Int)] w fun e w' => e = .returned (sv (rgp lo (hi + 1))) ∧ Below w.heap.size w w' := by
  obtain ⟨W, hW⟩ : ∃ W, W = (w.alloc zset).alloc zset := ⟨_, rfl⟩
  obtain ⟨x0, x1, bW, hsz⟩ := two w zset zset
  rw [← hW] at x0 x1 bW hsz
  have HW := hid hW
  unfold zset at hW x0 x1
  have e1 : IntKind.i64.wrap (lo : Int) = (lo : Int) := wrapIn (by omega) (by omega)
  have e2 : IntKind.i64.wrap (hi : Int) = (hi : Int) := wrapIn (by omega) (by omega)
  go_enter Tryd.func78, Tryd.ntmps78
  go_wp2_with fail
  rw [← hW]
  clear hW
  go_loopg [6] (hi + 1 - lo) (fun k sl wr => ∃ i : Nat, sl = .int .i64 i ∧ k = hi + 1 - i ∧ lo ≤ i ∧ (i = lo ∨ i ≤ hi + 1) ∧ SB wr (w.heap.size + 1) (rgp lo i) ∧ SB wr w.heap.size (fun _ => false) ∧ Below w.heap.size w wr)
  case atStart => exact ⟨lo, rfl, rfl, Nat.le_refl _, .inl rfl, SB_congr (fun x _ => (rgp_empty (Nat.le_refl _) x).symm) (sb_zero x1), sb_zero x0, bW⟩
  case round =>
    obtain ⟨i, rfl, hk, hi0, hi1, hB, hA, hbw⟩ := hrel
    by_cases hlt : i ≤ hi
    · have hlt' : (i : Int) ≤ (hi : Int) := by omega
      have hby : i < 256 := by omega
      have e3 : IntKind.u8.wrap (i : Int) = (i : Int) := by rw [IntKind.wrap_u8]; omega
      have HH := hid (And.intro hB (And.intro hA hbw))
      have HI := hid (And.intro hi0 (And.intro hi1 hlt))
      have CW := hid (show Calls Tryd.prog 97 #[.agg #[.int .u64 (wd (rgp lo i) 0 : Int), .int .u64 (wd (rgp lo i) 1 : Int), .int .u64 (wd (rgp lo i) 2 : Int), .int .u64 (wd (rgp lo i) 3 : Int)], .int .u8 (i : Int)] wr fun e w'' => e = .returned (.agg #[.int .u64 (wd (rgp lo (i + 1)) 0 : Int), .int .u64 (wd (rgp lo (i + 1)) 1 : Int), .int .u64 (wd (rgp lo (i + 1)) 2 : Int), .int .u64 (wd (rgp lo (i + 1)) 3 : Int)]) ∧ Below wr.heap.size wr w'' from
        by rw [rgp_next hi0]; exact with_any (rgp lo i) i wr hby)
      obtain ⟨d0, d1, d2, d3⟩ := cells4 hB
      clear hB hA hbw x0 x1 bW hi0 hi1 hlt
      go_wp2_with fail
      refine CW.out.mono ?_
      rintro e Y ⟨rfl, hY⟩
      have yB := (hY.block _ (heap_lt HH.out.1)).trans HH.out.1
      have HY := hid hY
      obtain ⟨c0, c1, c2, c3⟩ := cells4 yB
      obtain ⟨f0, f1, f2, f3⟩ := frozen4 yB
      have HYB := hid yB
      clear yB hY d0 d1 d2 d3
      go_wp2
      go_roundg (gk - 1)
      case measure => have := HI.out; omega
      case rel =>
        have h2 := HH.out.2.2
        have h3 := h2.size
        have h4 := HI.out
        refine ⟨i + 1, by go_num, by omega, by omega, .inr (by omega), ?_, ?_, ?_⟩
        · unfold SB; exact four_set HYB.out
        · unfold SB; exact far4 ((HY.out.block _ (heap_lt HH.out.2.1)).trans HH.out.2.1) (by omega)
        · exact below_put (below_put (below_put (below_put (h2.trans (HY.out.mono h2.size)) (by omega)) (by omega)) (by omega)) (by omega)
    · have hin : ¬ (i : Int) ≤ (hi : Int) := by omega
      have hB' : SB wr (w.heap.size + 1) (rgp lo (hi + 1)) := SB_congr (fun x _ => rgp_end (by omega) (by omega) x) hB
      obtain ⟨c0, c1, c2, c3⟩ := cells4 hB'
      obtain ⟨a0, a1, a2, a3⟩ := cells4 hA
      obtain ⟨f0, f1, f2, f3⟩ := frozen4 hA
      have HA := hid hA
      have HB := hid hbw
      clear hA hB hB' hbw x0 x1 bW
      go_wp2
      have z := four_set (x' := .int .u64 (wd (rgp lo (hi + 1)) 0 : Int)) (y' := .int .u64 (wd (rgp lo (hi + 1)) 1 : Int)) (z' := .int .u64 (wd (rgp lo (hi + 1)) 2 : Int)) (u' := .int .u64 (wd (rgp lo (hi + 1)) 3 : Int)) HA.out
      obtain ⟨r0, r1, r2, r3⟩ := cells4 z
      refine bodyPost_ret (v := sv (rgp lo (hi + 1))) ?_ rfl ⟨rfl, ?_⟩
      · unfold sv; simp [results, Tryd.results78, go_sem, r0, r1, r2, r3]
      · exact below_put (below_put (below_put (below_put HB.out (Nat.le_refl _)) (Nat.le_refl _)) (Nat.le_refl _)) (Nat.le_refl _)

end Go.Proofs.YtednoideboeehaaDoor
end
