/-
  The table of TrailingZeros64 in memory; its contract; sets as values; with, Has.
  Contracts: the reference's with; Has and the reference's.
  A drawn region whose operations read and call, and that ends in operations that wait for all others (a store): one walk in the order of the text serves every order; plain and in a round of a range over a function (no program; lies as <Seat>Rq). The way: the tail is thought idle; the quiet walk's theorem speaks of that region; its orders are then followed in the real one.
  Contracts: Of and the reference's.
  Contracts: Range and the reference's.
  Contracts: Union, Intersect, Complement.
  Plain maths: sets of bytes, expressions, their shapes, parts and depth, what they match (namespace Rg; no program).
  Sets compared; expressions in memory.
  Contracts: shaped.
-/
import Derived.Test.YtogpnlkjcdedlaaDoorZ01
import Derived.BigQuiet
import Derived.StillTail
import Derived.RangeFuncCalls
import Derived.OrdersIn
import Derived.TacticsIn
import Derived.Below
import Derived.Deep.LoopGhost
import Derived.LoopIn
import Derived.TacticsInMore
import Derived.Laws.StructEq
import Derived.ChangeKeysEq
section
set_option linter.unusedSimpArgs false
set_option linter.unusedVariables false
namespace Go.Proofs.YtogpnlkjcdedlaaDoor
open Go.RowKit Bs Go.Frame

def dbl : List Nat := [0, 1, 56, 2, 57, 49, 28, 3, 61, 58, 42, 50, 38, 29, 17, 4, 62, 47, 59, 36, 45, 43, 51, 22, 53, 39, 33, 30, 24, 18, 12, 5, 63, 55, 48, 27, 60, 41, 37, 16, 46, 35, 44, 21, 52, 32, 23, 11, 54, 26, 40, 15, 34, 20, 31, 10, 25, 14, 19, 9, 13, 8, 7, 6]
def db (i : Nat) : Nat := dbl.getD i 0
theorem db_ok : ∀ j : Fin 64, db (2 ^ j.1 * 285870213051353865 % 18446744073709551616 / 288230376151711744) = j.1 ∧ 2 ^ j.1 * 285870213051353865 % 18446744073709551616 / 288230376151711744 < 64 := by decide +kernel
/-- The table lies in block 0. -/
def Tb (W : World) : Prop := 0 < W.heap.size ∧ ∀ i, i < 64 → W.cell? ⟨0, i, none⟩ = some (.int .u8 (db i : Int))
theorem Tb.below {W W' : World} (h : Tb W) (hb : Below W.heap.size W W') : Tb W' := ⟨Nat.lt_of_lt_of_le h.1 hb.size, fun i hi => (hb.cell (p := ⟨0, i, none⟩) h.1).trans (h.2 i hi)⟩
theorem Tb.same {W W' : World} (h : Tb W) (hb : W'.heap[0]? = W.heap[0]?) : Tb W' := by
  refine ⟨?_, fun i hi => (World.cell?_of_block hb).trans (h.2 i hi)⟩
  have h0 := h.1
  rw [Array.getElem?_eq_getElem h0] at hb
  exact (Array.getElem?_eq_some_iff.1 hb).1

set_option maxRecDepth 100000 in
set_option maxHeartbeats 2000000 in
/-- A number whose least one is bit j. -/
theorem tz_any (x j y : Nat) (w : World) (hx : x < 18446744073709551616) (hj : j < 64) (hxy : x = 2 ^ j * (1 + 2 * y)) (hT : Tb w) :
    Calls Tryd.prog 59 #[.int .u64 (x : Int)] w fun e w' => e = .returned (.int .i64 (j : Int)) ∧ w' = w := by
  have hp := Nat.two_pow_pos j
  have hx0 : 0 < x := by rw [hxy]; exact Nat.mul_pos hp (by omega)
  have n0 : ¬ (x : Int) = 0 := by omega
  have hl : x &&& (18446744073709551616 - x) = 2 ^ j := by
    have := low_and (j := j) (y := y) (by rw [← hxy]; exact hx)
    rw [← hxy] at this
    exact this
  have hj2 : 2 ^ j < 18446744073709551616 := by rw [← hl]; exact Nat.lt_of_le_of_lt Nat.and_le_left hx
  obtain ⟨d1, d2⟩ := db_ok ⟨j, hj⟩
  simp only at d1 d2
  obtain ⟨q, hq⟩ : ∃ q, q = 2 ^ j := ⟨_, rfl⟩
  rw [← hq] at d1 d2 hl hj2
  obtain ⟨r, hr⟩ : ∃ r, r = q * 285870213051353865 % 18446744073709551616 := ⟨_, rfl⟩
  obtain ⟨k, hk⟩ : ∃ k, k = r / 288230376151711744 := ⟨_, rfl⟩
  rw [← hr, ← hk] at d1 d2
  obtain ⟨z, hz⟩ : ∃ z, z = 18446744073709551616 - x := ⟨_, rfl⟩
  rw [← hz] at hl
  have e1 : IntKind.u64.wrap (-(x : Int)) = (z : Int) := by rw [IntKind.wrap_u64]; omega
  have e2 : bits .and .u64 (x : Int) (z : Int) = (q : Int) := by rw [uand hx (by omega), hl]
  have e3 : IntKind.u64.wrap ((q : Int) * 285870213051353865) = (r : Int) := by rw [IntKind.wrap_u64]; omega
  have e4 : (r : Int) / 288230376151711744 = (k : Int) := by omega
  have c0 := hT.2 k d2
  rw [d1] at c0
  have k1 : (k : Int) < 64 := by omega
  have k0 : (0 : Int) ≤ (k : Int) := by omega
  have e5 : IntKind.i64.wrap (j : Int) = (j : Int) := wrapIn (by omega) (by omega)
  clear hT hl hj2 d1 hk hxy hp hz hr hq
  go_enter Tryd.func59, Tryd.ntmps59
  go_wp2
  go_ret
  exact ⟨rfl, rfl⟩

/-- A word of a set. -/
def wd (p : Nat → Bool) (k : Nat) : Nat := nb (fun j => p (64 * k + j)) 64
theorem wd_lt (p : Nat → Bool) (k : Nat) : wd p k < 18446744073709551616 := nb_lt 64 _
/-- A set's cells, as a value. -/
def sc (p : Nat → Bool) : Array Value := #[.int .u64 (wd p 0 : Int), .int .u64 (wd p 1 : Int), .int .u64 (wd p 2 : Int), .int .u64 (wd p 3 : Int)]
def sv (p : Nat → Bool) : Value := .agg #[.int .u64 (wd p 0 : Int), .int .u64 (wd p 1 : Int), .int .u64 (wd p 2 : Int), .int .u64 (wd p 3 : Int)]
theorem wd_congr {p q : Nat → Bool} {k : Nat} (hk : k < 4) (h : ∀ x, x < 256 → p x = q x) : wd p k = wd q k := nb_congr fun j hj => h _ (by omega)
theorem sv_congr {p q : Nat → Bool} (h : ∀ x, x < 256 → p x = q x) : sv p = sv q := by
  unfold sv; rw [wd_congr (by decide) h, wd_congr (by decide) h, wd_congr (by decide) h, wd_congr (by decide) h]
/-- The set of four words. -/
def ofw (a b c d : Nat) (x : Nat) : Bool := if x < 64 then a.testBit x else if x < 128 then b.testBit (x - 64) else if x < 192 then c.testBit (x - 128) else d.testBit (x - 192)
theorem wd_ofw {x : Nat} (f : Nat → Bool) (k : Nat) (hx : x < 2 ^ 64) (hf : ∀ j, j < 64 → f (64 * k + j) = x.testBit j) : wd f k = x := (nb_congr (n := 64) (g := x.testBit) hf).trans (nb_self hx)
theorem ofw0 (a b c d j : Nat) (hj : j < 64) : ofw a b c d (64 * 0 + j) = a.testBit j := by
  unfold ofw; rw [if_pos (by omega)]; exact congrArg _ (by omega)
theorem ofw1 (a b c d j : Nat) (hj : j < 64) : ofw a b c d (64 * 1 + j) = b.testBit j := by
  unfold ofw; rw [if_neg (by omega), if_pos (by omega)]; exact congrArg _ (by omega)
theorem ofw2 (a b c d j : Nat) (hj : j < 64) : ofw a b c d (64 * 2 + j) = c.testBit j := by
  unfold ofw; rw [if_neg (by omega), if_neg (by omega), if_pos (by omega)]; exact congrArg _ (by omega)
theorem ofw3 (a b c d j : Nat) (hj : j < 64) : ofw a b c d (64 * 3 + j) = d.testBit j := by
  unfold ofw; rw [if_neg (by omega), if_neg (by omega), if_neg (by omega)]; exact congrArg _ (by omega)
/-- Every four words are a set. -/
theorem sv_of {a b c d : Nat} (ha : a < 2 ^ 64) (hb : b < 2 ^ 64) (hc : c < 2 ^ 64) (hd : d < 2 ^ 64) : sv (ofw a b c d) = .agg #[.int .u64 (a : Int), .int .u64 (b : Int), .int .u64 (c : Int), .int .u64 (d : Int)] := by
  unfold sv
  rw [wd_ofw (ofw a b c d) 0 ha (ofw0 a b c d), wd_ofw (ofw a b c d) 1 hb (ofw1 a b c d), wd_ofw (ofw a b c d) 2 hc (ofw2 a b c d), wd_ofw (ofw a b c d) 3 hd (ofw3 a b c d)]
/-- One element more. -/
def add1 (p : Nat → Bool) (b : Nat) : Nat → Bool := fun x => p x || x == b
theorem wd_add_same (p : Nat → Bool) {k j : Nat} (hj : j < 64) : wd (add1 p (64 * k + j)) k = wd p k ||| 2 ^ j := by
  have e : wd (add1 p (64 * k + j)) k = nb (fun i => (fun i => p (64 * k + i)) i || (fun i => i == j) i) 64 := nb_congr (fun i hi => by unfold add1; congr 1; rw [Bool.eq_iff_iff]; simp)
  exact e.trans ((nb_or _ _ _).trans (congrArg (wd p k ||| ·) (nb_one hj)))
theorem wd_add_other (p : Nat → Bool) {k k' j : Nat} (hj : j < 64) (hk : k' ≠ k) : wd (add1 p (64 * k + j)) k' = wd p k' := by
  unfold wd add1
  exact nb_congr fun i hi => by
    have : ¬ 64 * k' + i = 64 * k + j := by omega
    simp [this]
theorem or_pow {p : Nat → Bool} {k j : Nat} (hj : j < 64) : bits .or .u64 (wd p k : Int) (IntKind.u64.wrap ((2 : Int) ^ j)) = (wd (add1 p (64 * k + j)) k : Int) := by
  have h2 : 2 ^ j < 18446744073709551616 := Nat.lt_of_lt_of_le (Nat.pow_lt_pow_right (by decide) hj) (by decide)
  rw [show (2 : Int) ^ j = ((2 ^ j : Nat) : Int) by simp, wr64 h2, u64_or_nat _ _ (wd_lt p k) h2, wd_add_same p hj]

end Go.Proofs.YtogpnlkjcdedlaaDoor
end
section
set_option linter.unusedSimpArgs false
set_option linter.unusedVariables false
namespace Go.Proofs.YtogpnlkjcdedlaaDoor
open Go.RowKit Bs Go.Frame
theorem has_bit {p : Nat → Bool} {k j : Nat} (hj : j < 64) : bits .and .u64 ((wd p k : Int) / (2 : Int) ^ j) 1 = ((p (64 * k + j)).toNat : Int) := by
  have h := nb_has (fun i => p (64 * k + i)) hj
  have e : (wd p k : Int) / (2 : Int) ^ j = ((wd p k / 2 ^ j : Nat) : Int) := by simp
  have k1 := uand (a := wd p k / 2 ^ j) (b := 1) (Nat.lt_of_le_of_lt (Nat.div_le_self _ _) (wd_lt p k)) (by decide)
  rw [e]
  refine k1.trans ?_
  rw [Nat.and_one_is_mod]
  exact congrArg _ h

set_option maxRecDepth 100000 in
set_option maxHeartbeats 2000000 in
theorem Has_any (p : Nat → Bool) (b : Nat) (w : World) (hb : b < 256) :
    Calls Tryd.prog 74 #[sv p, .int .u8 (b : Int)] w fun e w' => e = .returned (.bool (p b)) ∧ Below w.heap.size w w' := by
  obtain ⟨k, j, hk, hj, rfl⟩ : ∃ k j, k < 4 ∧ j < 64 ∧ b = 64 * k + j := ⟨b / 64, b % 64, by omega, by omega, by omega⟩
  obtain ⟨b, hb'⟩ : ∃ b, b = 64 * k + j := ⟨_, rfl⟩
  have q1 : (b : Int) / 64 = (k : Int) := by omega
  have q2 : (b : Int) % 64 = (j : Int) := by omega
  have q3 : b / 64 = k := by omega
  have q4 : b % 64 = j := by omega
  have E := has_bit (p := p) (k := k) hj
  rw [← hb'] at E ⊢
  clear hb' hb hj
  unfold sv
  have hk4 : k = 0 ∨ k = 1 ∨ k = 2 ∨ k = 3 := by omega
  cases hp : p b
  all_goals (
    rw [hp] at E
    simp only [Bool.toNat_false, Bool.toNat_true, Int.natCast_zero, Int.natCast_one] at E
    clear hp
    rcases hk4 with rfl | rfl | rfl | rfl
    all_goals (
      go_enter Tryd.func74, Tryd.ntmps74
      go_wp2
      go_ret
      exact ⟨rfl, (Below.refl _ _).alloc (Nat.le_refl _) _⟩))


end Go.Proofs.YtogpnlkjcdedlaaDoor
end
section
namespace Go.Frame
open Go.RowKit

/-- A fence that lets every call through. -/
structure Free (F : Fence) : Prop where
  fn : ∀ f, F.fn f
  depth : F.depth = none
  calls : ∀ {P : Program} {n : Nat} {f : FuncId} {args : Array Value} {w : World} {R : Ending → World → Prop}, Calls P f args w R → CallsIn F n P f args w R
theorem free_wide : Free Fence.wide := ⟨fun _ => trivial, rfl, fun h => callsIn_wide.2 h⟩
theorem free_round (l : Nat) : Free (Fence.wide.inRound l) := ⟨fun _ => trivial, rfl, fun h => CallsIn.inRound l (callsIn_wide.2 h)⟩
/-- An operation that comes to nothing, where another stood. -/
def idle (o : Oper) : Oper := { o with dst := none, op := .move (.const undef), guard := none }
/-- The tail from n on idle. -/
def mask (n : Nat) (l : List Oper) : List Oper := l.take n ++ (l.drop n).map idle
theorem mask_len (n : Nat) (l : List Oper) : (mask n l).length = l.length := by
  unfold mask
  rw [List.length_append, List.length_map, List.length_take, List.length_drop]
  omega
theorem mask_at (n : Nat) (l : List Oper) (i : Nat) : (mask n l)[i]? = (l[i]?).map fun o => if i < n then o else idle o := by
  by_cases hl : i < l.length
  · unfold mask
    by_cases h : i < n
    · rw [List.getElem?_append_left (by rw [List.length_take]; omega), List.getElem?_take, if_pos h]
      simp [h]
    · rw [List.getElem?_append_right (by rw [List.length_take]; omega), List.getElem?_map, List.getElem?_drop, List.length_take, Nat.min_eq_left (by omega), show n + (i - n) = i by omega]
      simp [h]
  · rw [List.getElem?_eq_none (by rw [mask_len]; omega), List.getElem?_eq_none (by omega)]
    rfl
theorem mask_head {n i : Nat} (l : List Oper) (h : i < n) : (mask n l)[i]? = l[i]? := by
  rw [mask_at]
  simp [h]
theorem mask_ready (md : Region.Mode) (n : Nat) (l : List Oper) (listed : Array Bool) : Region.ready md (mask n l).toArray listed = Region.ready md l.toArray listed := by
  have hs : (mask n l).toArray.size = l.toArray.size := mask_len n l
  unfold Region.ready
  rw [hs]
  refine List.filter_congr fun i _ => ?_
  have : ((mask n l).toArray[i]?).map (·.after.all fun e => !Region.binds md e || listed.getD e.on false) = (l.toArray[i]?).map (·.after.all fun e => !Region.binds md e || listed.getD e.on false) := by
    rw [List.getElem?_toArray, List.getElem?_toArray, mask_at]
    cases l[i]? with
    | none => rfl
    | some o =>
      simp only [Option.map_some]
      split <;> rfl
  rw [this]
theorem mask_yielded {n j : Nat} (l : List Oper) (h : j < n) (tmps : Array Value) : yielded (mask n l).toArray tmps j = yielded l.toArray tmps j := by
  unfold yielded
  rw [List.getElem?_toArray, List.getElem?_toArray, mask_head l h]
/-- The guards of the head look at the head. -/
def guardsB (n : Nat) (l : List Oper) : Bool := (l.take n).all fun o => match o.guard with
  | some (j, _) => decide (j < n)
  | none => true
theorem mask_wanted {n : Nat} {l : List Oper} (h : guardsB n l = true) {o : Oper} (ho : o ∈ l.take n) (tmps : Array Value) : Region.wanted o (yielded (mask n l).toArray tmps) = Region.wanted o (yielded l.toArray tmps) := by
  have := List.all_eq_true.1 h o ho
  unfold Region.wanted
  cases hg : o.guard with
  | none => rfl
  | some g =>
    obtain ⟨j, b⟩ := g
    rw [hg] at this
    simp only at this ⊢
    rw [mask_yielded l (of_decide_eq_true this)]
section
variable {P : Program} {C : World → Prop}
theorem idle_quiet (o : Oper) (a : Act) : (idle o).quiet P a C fun a' => a' = a := by
  refine ⟨undef, fun w _ => ?_, rfl⟩
  unfold Oper.quietAt idle execOp
  simp [go_sem, Oper.quietUpon]
/-- The quiet walk of the head is one of the masked region. -/
theorem quiet_idle (ops : Array Oper) (Q : Act → Prop) {a : Act} (h : Q a) : ∀ R : List Oper, wpQuiet P ops C Q (R.map idle) a
  | [] => h
  | o :: R => by
    have hw : Region.wanted (idle o) (yielded ops a.tmps) = true := rfl
    show if Region.wanted (idle o) (yielded ops a.tmps) then (idle o).quiet P a C (wpQuiet P ops C Q (R.map idle)) else _
    rw [if_pos hw]
    obtain ⟨v, hv, hn⟩ := idle_quiet (P := P) (C := C) o a
    exact ⟨v, hv, by rw [hn]; exact quiet_idle ops Q h R⟩
theorem quiet_mask {n : Nat} {l : List Oper} {Q : Act → Prop} : ∀ (L : List Oper), (∀ o ∈ L, ∀ tmps, Region.wanted o (yielded (mask n l).toArray tmps) = Region.wanted o (yielded l.toArray tmps)) → ∀ (R : List Oper) (a : Act),
    wpQuiet P l.toArray C Q L a → wpQuiet P (mask n l).toArray C Q (L ++ R.map idle) a
  | [], _, R, a, h => quiet_idle _ Q h R
  | o :: L, hL, R, a, h => by
    have ih := quiet_mask (n := n) (l := l) (Q := Q) L (fun o' ho' => hL o' (List.mem_cons_of_mem _ ho')) R
    simp only [List.cons_append, wpQuiet] at h ⊢
    rw [hL o (by simp)]
    split at h
    · rename_i hw
      rw [if_pos hw]
      obtain ⟨v, hv, hn⟩ := h
      exact ⟨v, hv, ih _ hn⟩
    · rename_i hw
      rw [if_neg hw]
      exact ih _ h
/-- No statement 'defer' is among the operations. -/
def noDefer (l : List Oper) : Bool := l.all fun o => match o.op with
  | .defer _ => false
  | _ => true
theorem semAt_any {l : List Oper} (h : noDefer l = true) {o : Oper} (ho : o ∈ l) (r : Option Nat) (ρ : Operand → Value) : o.semAt r ρ = execOp ρ o := by
  cases r with
  | none => rfl
  | some k =>
    refine Oper.semAt_some k ρ o fun c hc => ?_
    have := List.all_eq_true.1 h o ho
    rw [hc] at this
    cases this
variable {F : Fence} {m : Nat}
/-- A quiet operation, in a fence that lets every call through. -/
theorem quiet_in {l : List Oper} {o : Oper} {a : Act} {w : World} {K : Act → Prop} {K' : Act → World → Prop} {Q : Exit → Act → World → Prop} (hF : Free F) (hd : noDefer l = true) (ho : o ∈ l) (hw : C w)
    (hK : ∀ a' w', C w' → K a' → K' a' w') (h : o.quiet P a C K) : o.wpIn F m P a w K' Q := by
  obtain ⟨v, hv, hn⟩ := h
  refine ⟨fun f _ => hF.fn f, ?_⟩
  rw [semAt_any hd ho]
  have hq : Oper.quietUpon P C w v ((execOp a.eval o).run P w) := hv w hw
  match hr : (execOp a.eval o).run P w, hq with
  | .ok (.value u) w1, hq =>
    obtain ⟨rfl, rfl⟩ := hq
    exact hK _ _ hw hn
  | .ok .skip w1, hq =>
    obtain ⟨rfl, rfl⟩ := hq
    exact hK _ _ hw hn
  | .ok (.enter f args) w1, hq =>
    obtain ⟨rfl, hc⟩ := hq
    refine ⟨fun hs => ?_, (hF.calls hc).mono ?_⟩
    · rw [hF.depth] at hs; cases hs
    · rintro e w2 ⟨rfl, hw2⟩
      exact hK _ _ hw2 hn
theorem comes_up {l : List Oper} {o : Oper} {i : Nat} {a : Act} {w : World} {K : Act → Prop} {K' : Act → World → Prop} {Q : Exit → Act → World → Prop} (hF : Free F) (hd : noDefer l = true) (hi : l[i]? = some o) (hw : C w)
    (hK : ∀ a' w', C w' → K a' → K' a' w') (h : if Region.wanted o (yielded l.toArray a.tmps) then o.quiet P a C K else K (a.put o.dst undef)) : wpOpIn F m P l.toArray Q i K' a w := by
  unfold wpOpIn
  rw [List.getElem?_toArray, hi]
  show if _ then _ else _
  split
  · rename_i hq
    rw [if_pos hq] at h
    exact quiet_in hF hd (List.mem_of_getElem? hi) hw hK h
  · rename_i hq
    rw [if_neg hq] at h
    exact ⟨fun f _ => hF.fn f, hK _ _ hw h⟩
variable {md : Region.Mode}
/-- The tail alone is left: what the masked region's walk says there. -/
theorem tail_ends {n : Nat} {l : List Oper} {Q : Act → Prop} : ∀ (g k fuel : Nat) (listed : Array Bool) (a : Act), n ≤ k → k + g = l.length → Region.seqB md l.toArray g k listed = true →
    wpAnyQ P md (mask n l).toArray C Q fuel listed a → g ≤ fuel ∧ Q a
  | 0, k, fuel, listed, a, _, _, hB, h => by
    have he : Region.ready md (mask n l).toArray listed = [] := by rw [mask_ready]; simpa [Region.seqB] using hB
    cases fuel with
    | zero => exact ⟨Nat.le_refl _, h.2⟩
    | succ f => exact ⟨Nat.zero_le _, h.1 he⟩
  | g + 1, k, fuel, listed, a, hn, hk, hB, h => by
    simp only [Region.seqB, Bool.and_eq_true, decide_eq_true_eq] at hB
    have hr : Region.ready md (mask n l).toArray listed = [k] := by rw [mask_ready]; exact hB.1
    cases fuel with
    | zero => have := h.1; rw [hr] at this; cases this
    | succ f =>
      have h1 := h.2 k (by rw [hr]; simp)
      obtain ⟨o, ho⟩ : ∃ o, l[k]? = some o := ⟨_, List.getElem?_eq_getElem (by omega)⟩
      have hm : (mask n l).toArray[k]? = some (idle o) := by
        rw [List.getElem?_toArray, mask_at, ho]
        simp [show ¬ k < n by omega]
      unfold qOp at h1
      rw [hm] at h1
      have hw : Region.wanted (idle o) (yielded (mask n l).toArray a.tmps) = true := rfl
      simp only [hw, if_true] at h1
      obtain ⟨v, _, h2⟩ := h1
      have := tail_ends g (k + 1) f _ _ (by omega) (by omega) hB.2 h2
      exact ⟨by omega, this.2⟩
/-- The tail, carried out: each of its operations comes up alone. -/
theorem tail_runs {ops : Array Oper} {Q : Exit → Act → World → Prop} : ∀ (t : List Oper) (k fuel : Nat) (listed : Array Bool) (a : Act) (w : World), (∀ j, t[j]? = ops[k + j]?) → t.length ≤ fuel → Region.seqB md ops t.length k listed = true →
    wpListIn F m P ops Q t a w → wpAnyIn F m P md ops Q fuel listed a w
  | [], k, fuel, listed, a, w, _, _, hB, h => by
    have he : Region.ready md ops listed = [] := by simpa [Region.seqB] using hB
    cases fuel with
    | zero => exact ⟨he, h⟩
    | succ f => exact ⟨fun _ => h, fun i hi => by rw [he] at hi; cases hi⟩
  | o :: t, k, 0, listed, a, w, _, hf, _, _ => by simp at hf
  | o :: t, k, f + 1, listed, a, w, ht, hf, hB, h => by
    have h0 : ops[k]? = some o := by rw [← Nat.add_zero k, ← ht 0]; rfl
    simp only [List.length_cons, Region.seqB, Bool.and_eq_true, decide_eq_true_eq] at hB
    have hlen : t.length ≤ f := by simpa using hf
    refine ⟨fun he => (by rw [hB.1] at he; cases he), fun i hi => ?_⟩
    rw [hB.1, List.mem_singleton] at hi
    subst hi
    refine wpOpIn_mono (K := wpListIn F m P ops Q t) (fun a' w' h' => tail_runs t (i + 1) f _ a' w' (fun j => ?_) hlen hB.2 h') ?_
    · have := ht (j + 1)
      rw [List.getElem?_cons_succ] at this
      rw [this]
      congr 1
      omega
    · unfold wpOpIn
      rw [h0]
      exact h
/-- Every dependence of the head points back. -/
def backB (md : Region.Mode) (n : Nat) (l : List Oper) : Bool := (List.range n).all fun i => match l[i]? with
  | some o => o.after.all fun e => !Region.binds md e || decide (e.on < i)
  | none => true
/-- As long as one of the head has not come up, one of the head may. -/
theorem some_ready {n : Nat} {l : List Oper} (hb : backB md n l = true) (hn : n ≤ l.length) {listed : Array Bool} (hs : listed.size = l.length) : ∀ i, i < n → listed.getD i true = false → ∃ j, j < n ∧ j ∈ Region.ready md l.toArray listed := by
  intro i
  induction i using Nat.strongRecOn with
  | _ i ih =>
    intro hi hun
    obtain ⟨o, ho⟩ : ∃ o, l[i]? = some o := ⟨_, List.getElem?_eq_getElem (by omega)⟩
    by_cases hall : ∀ e ∈ o.after, Region.binds md e = true → listed.getD e.on false = true
    · exact ⟨i, hi, mem_ready.2 ⟨hun, o, by rw [List.getElem?_toArray]; exact ho, hall⟩⟩
    · obtain ⟨e, he⟩ := Classical.not_forall.1 hall
      simp only [Classical.not_imp] at he
      obtain ⟨he, hbi, hno⟩ := he
      have h1 := List.all_eq_true.1 hb i (List.mem_range.2 hi)
      rw [ho] at h1
      have h2 := Array.all_eq_true'.1 h1 e he
      rw [hbi] at h2
      have h3 : e.on < i := by simpa using h2
      exact ih e.on h3 (by omega) (getD_in (by omega) (by simpa using hno))
/-- The head has come up, the tail has not. -/
def lit (n : Nat) (l : List Oper) : Array Bool := (List.replicate n true ++ List.replicate (l.length - n) false).toArray
theorem is_lit {n : Nat} {l : List Oper} {listed : Array Bool} (hn : n ≤ l.length) (hs : listed.size = l.length) (h1 : ∀ i, i < n → listed.getD i true = true) (h2 : ∀ i, n ≤ i → i < l.length → listed.getD i true = false) : listed = lit n l := by
  have hz : (lit n l).size = l.length := by unfold lit; simp; omega
  apply Array.ext (by rw [hs, hz])
  intro i hi hi'
  have hil : i < l.length := by omega
  have hg : listed.getD i true = listed[i] := by simp [hi]
  rw [← hg]
  by_cases h : i < n
  · rw [h1 i h]
    simp [lit, h]
  · rw [h2 i (by omega) hil]
    simp [lit, List.getElem_append, h]
variable {Q : Exit → Act → World → Prop} {Q' : Act → Prop}
/-- Whatever order the head takes. -/
theorem head_runs {n : Nat} {l : List Oper} (hF : Free F) (hd : noDefer l = true) (hg : guardsB n l = true) (hn : n < l.length) (hs : Region.sinkB md l.toArray n = true) (hc : Region.chainB md l.toArray n = true) (hb : backB md n l = true)
    (ht : Region.seqB md l.toArray (l.length - n) n (lit n l) = true) (hQ : ∀ a w, C w → Q' a → wpListIn F m P l.toArray Q (l.drop n) a w) :
    ∀ (fuel : Nat) (listed : Array Bool) (a : Act) (w : World), HeadInv md l.toArray n listed → C w → wpAnyQ P md (mask n l).toArray C Q' fuel listed a → wpAnyIn F m P md l.toArray Q fuel listed a w := by
  intro fuel
  induction fuel with
  | zero =>
    intro listed a w inv hw h
    by_cases hex : ∃ i, i < n ∧ listed.getD i true = false
    · obtain ⟨i, hi, hun⟩ := hex
      obtain ⟨j, _, hj⟩ := some_ready hb (by omega) inv.size i hi hun
      rw [← mask_ready md n, h.1] at hj
      cases hj
    · have he := is_lit (Nat.le_of_lt hn) inv.size (fun i hi => by by_cases e : listed.getD i true = false; exact absurd ⟨i, hi, e⟩ hex; simpa using e) inv.tail
      obtain ⟨h1, h2⟩ := tail_ends (l.length - n) n 0 listed a (Nat.le_refl _) (by omega) (by rw [he]; exact ht) h
      exact tail_runs (l.drop n) n 0 listed a w (fun j => by rw [List.getElem?_drop, List.getElem?_toArray]) (by rw [List.length_drop]; exact h1) (by rw [List.length_drop, he]; exact ht) (hQ a w hw h2)
  | succ f ih =>
    intro listed a w inv hw h
    by_cases hex : ∃ i, i < n ∧ listed.getD i true = false
    · obtain ⟨i, hi, hun⟩ := hex
      obtain ⟨j, _, hj⟩ := some_ready hb (by omega) inv.size i hi hun
      refine ⟨fun h0 => (by rw [h0] at hj; cases hj), fun k hk => ?_⟩
      have hkn : k < n := by
        by_cases e : k < n
        · exact e
        · exact absurd hk (tail_waits hs hc hn inv _ i rfl hi hun k (by omega))
      obtain ⟨o, ho⟩ : ∃ o, l[k]? = some o := ⟨_, List.getElem?_eq_getElem (by omega)⟩
      have hot : o ∈ l.take n := List.mem_of_getElem? (i := k) (by rw [List.getElem?_take, if_pos hkn]; exact ho)
      have h1 := h.2 k (by rw [mask_ready]; exact hk)
      unfold qOp at h1
      rw [List.getElem?_toArray, mask_head l hkn, ho] at h1
      simp only [mask_wanted hg hot] at h1
      exact comes_up hF hd ho hw (fun a' w' hw' h' => ih _ a' w' (inv.set hk hkn) hw' h') h1
    · have he := is_lit (Nat.le_of_lt hn) inv.size (fun i hi => by by_cases e : listed.getD i true = false; exact absurd ⟨i, hi, e⟩ hex; simpa using e) inv.tail
      obtain ⟨h1, h2⟩ := tail_ends (l.length - n) n (f + 1) listed a (Nat.le_refl _) (by omega) (by rw [he]; exact ht) h
      exact tail_runs (l.drop n) n (f + 1) listed a w (fun j => by rw [List.getElem?_drop, List.getElem?_toArray]) (by rw [List.length_drop]; exact h1) (by rw [List.length_drop, he]; exact ht) (hQ a w hw h2)
end
/-- What the kernel is asked of a region. -/
def tailB (n : Nat) (l : List Oper) : Bool :=
  Region.lexB .any (mask n l).toArray && (guardsB n l && (decide (n < l.length) && (Region.sinkB .any l.toArray n && (Region.chainB .any l.toArray n && (backB .any n l && Region.seqB .any l.toArray (l.length - n) n (lit n l))))))
section
variable {P : Program} {F : Fence} {m : Nat} {C : World → Prop}
theorem wpIn_region_quiet_tail {id : Nat} {Q : Exit → Act → World → Prop} {a : Act} {w : World} {l : List Oper} (n : Nat) (hF : Free F) (hm : P.follows .mixedOrders = true) (hd : noDefer l = true) (hB : tailB n l = true)
    (hC : C { w with drawn := w.drawn + 1 }) (h : wpQuiet P l.toArray C (fun a' => ∀ w', C w' → wpListIn F m P l.toArray Q (l.drop n) a' w') (l.take n) a) : (Code.region id l.toArray true).wpIn F m P Q a w := by
  unfold tailB at hB
  simp only [Bool.and_eq_true, decide_eq_true_eq] at hB
  obtain ⟨hlex, hg, hn, hs, hc, hb, ht⟩ := hB
  unfold Region.lexB at hlex
  rw [Bool.and_eq_true] at hlex
  have hq := quiet_mask (n := n) (l := l) (l.take n) (fun o ho tmps => mask_wanted hg ho tmps) (l.drop n) a h
  have hsz : (mask n l).toArray.size = (mask n l).length := rfl
  have hany := wpAnyQ_lex (md := .any) hlex.1 (mask n l) 0 (Array.replicate (mask n l).length false) a (fun j => by rw [Nat.zero_add, List.getElem?_toArray]) hlex.2 hq
  rw [mask_len] at hany
  have inv : HeadInv .any l.toArray n (Array.replicate l.length false) := by
    refine ⟨by simp, fun j oj _ hl => ?_, fun t _ ht' => getD_in (by simpa using ht') (getD_replicate_false _ _)⟩
    rw [getD_replicate_false] at hl
    cases hl
  exact wpIn_region_any hm (head_runs hF hd hg hn hs hc hb ht (fun a' w' hw' hq' => hq' w' hw') _ _ _ _ inv hC hany)
/-- The class 'Below', every world of it as f x. -/
theorem wpIn_region_below_tail {id : Nat} {Q : Exit → Act → World → Prop} {a : Act} {w : World} {l : List Oper} (n : Nat) (hF : Free F) (hm : P.follows .mixedOrders = true) (hd : noDefer l = true) (hB : tailB n l = true)
    (h : ∀ (X : Type) (f : X → World), Nonempty X → Hid (∀ x, Below w.heap.size w (f x)) → Hid (∀ w', Below w.heap.size w w' → ∃ x, w' = f x) →
      wpQuiet P l.toArray (fun w' => ∃ x, w' = f x) (fun a' => ∀ w', Below w.heap.size w w' → wpListIn F m P l.toArray Q (l.drop n) a' w') (l.take n) a) : (Code.region id l.toArray true).wpIn F m P Q a w := by
  have hdr : Below w.heap.size w { w with drawn := w.drawn + 1 } := (Below.refl w.heap.size w).drew
  refine wpIn_region_quiet_tail (C := fun w' => ∃ x : {w' : World // Below w.heap.size w w'}, w' = x.1) n hF hm hd hB ⟨⟨_, hdr⟩, rfl⟩ ?_
  have := h {w' : World // Below w.heap.size w w'} Subtype.val ⟨⟨_, hdr⟩⟩ (fun x => x.2) (fun w' h' => ⟨⟨w', h'⟩, rfl⟩)
  have e : (fun a' => ∀ w', (∃ x : {w' : World // Below w.heap.size w w'}, w' = x.1) → wpListIn F m P l.toArray Q (l.drop n) a' w') = fun a' => ∀ w', Below w.heap.size w w' → wpListIn F m P l.toArray Q (l.drop n) a' w' := by
    funext a'
    refine propext ⟨fun h w' hw => h w' ⟨⟨w', hw⟩, rfl⟩, fun h w' ⟨x, hx⟩ => h w' (hx ▸ x.2)⟩
  rw [e]
  exact this
end
end Go.Frame
end
section
set_option linter.unusedSimpArgs false
set_option linter.unusedVariables false
namespace Go.Proofs.YtogpnlkjcdedlaaDoor
open Go.RowKit Bs Go.Frame

/-- A box that holds a set. -/
def SB (W : World) (b : Nat) (p : Nat → Bool) : Prop := W.heap[b]? = some (.cells #[.int .u64 (wd p 0 : Int), .int .u64 (wd p 1 : Int), .int .u64 (wd p 2 : Int), .int .u64 (wd p 3 : Int)] 48 (0, 0))
theorem wd_false (k : Nat) : wd (fun _ => false) k = 0 := nb_zero 64
theorem zcells : (#[.int .u64 (wd (fun _ => false) 0 : Int), .int .u64 (wd (fun _ => false) 1 : Int), .int .u64 (wd (fun _ => false) 2 : Int), .int .u64 (wd (fun _ => false) 3 : Int)] : Array Value) = #[.int .u64 0, .int .u64 0, .int .u64 0, .int .u64 0] := by
  rw [wd_false, wd_false, wd_false, wd_false]; rfl
theorem sb_zero {W : World} {b : Nat} (h : W.heap[b]? = some (.cells #[.int .u64 0, .int .u64 0, .int .u64 0, .int .u64 0] 48 (0, 0))) : SB W b (fun _ => false) := by unfold SB; rw [zcells]; exact h
def zset : Obj := .cells #[.int .u64 0, .int .u64 0, .int .u64 0, .int .u64 0] 48
/-- The bytes of the first i. -/
def ofp (s : ByteArray) : Nat → Nat → Bool
  | 0 => fun _ => false
  | i + 1 => if h : i < s.size then add1 (ofp s i) s[i].toNat else ofp s i
theorem ofp_next (s : ByteArray) {i : Nat} (h : i < s.size) : ofp s (i + 1) = add1 (ofp s i) s[i].toNat := by
  rw [ofp]; simp only [h, dite_true]

end Go.Proofs.YtogpnlkjcdedlaaDoor
end
section
set_option linter.unusedSimpArgs false
set_option linter.unusedVariables false
namespace Go.Proofs.YtogpnlkjcdedlaaDoor
open Go.RowKit Bs Go.Frame

theorem SB_congr {W : World} {b : Nat} {p q : Nat → Bool} (h : ∀ x, x < 256 → p x = q x) (hs : SB W b p) : SB W b q := by
  unfold SB at hs ⊢
  rw [← wd_congr (by decide) h, ← wd_congr (by decide) h, ← wd_congr (by decide) h, ← wd_congr (by decide) h]
  exact hs
/-- The bytes from lo to hi, hi not among them. -/
def rgp (lo hi x : Nat) : Bool := decide (lo ≤ x) && decide (x < hi)
theorem rgp_empty {lo hi : Nat} (h : hi ≤ lo) (x : Nat) : rgp lo hi x = false := by
  unfold rgp
  rw [Bool.eq_false_iff]
  simp
  omega
theorem rgp_next {lo i : Nat} (h : lo ≤ i) : rgp lo (i + 1) = add1 (rgp lo i) i := by
  funext x
  unfold rgp add1
  rw [Bool.eq_iff_iff]
  simp
  omega
theorem rgp_end {lo hi i : Nat} (h1 : i = lo ∨ i ≤ hi + 1) (h2 : hi < i) (x : Nat) : rgp lo i x = rgp lo (hi + 1) x := by
  rcases h1 with rfl | h1
  · rw [rgp_empty (Nat.le_refl _), rgp_empty (by omega)]
  · rw [show i = hi + 1 by omega]

end Go.Proofs.YtogpnlkjcdedlaaDoor
end
section
set_option linter.unusedSimpArgs false
set_option linter.unusedVariables false
namespace Go.Proofs.YtogpnlkjcdedlaaDoor
open Go.RowKit Bs Go.Frame

/-- The first i words of g, the others of p. -/
def mix (g p : Nat → Bool) (i x : Nat) : Bool := if x < 64 * i then g x else p x
theorem mix_zero (g p : Nat → Bool) (x : Nat) : mix g p 0 x = p x := by unfold mix; rw [if_neg (by omega)]
theorem mix_four (g p : Nat → Bool) {x : Nat} (h : x < 256) : mix g p 4 x = g x := by unfold mix; rw [if_pos (by omega)]
theorem wd_mix_lt (g p : Nat → Bool) {i k : Nat} (h : k < i) : wd (mix g p i) k = wd g k := nb_congr fun j hj => by unfold mix; rw [if_pos (by omega)]
theorem wd_mix_ge (g p : Nat → Bool) {i k : Nat} (h : i ≤ k) : wd (mix g p i) k = wd p k := nb_congr fun j hj => by unfold mix; rw [if_neg (by omega)]
theorem or_wd (p q : Nat → Bool) (k : Nat) : bits .or .u64 (wd p k : Int) (wd q k : Int) = (wd (fun x => p x || q x) k : Int) :=
  (u64_or_nat _ _ (wd_lt p k) (wd_lt q k)).trans (congrArg _ (nb_or (fun j => p (64 * k + j)) (fun j => q (64 * k + j)) 64).symm)
theorem and_wd (p q : Nat → Bool) (k : Nat) : bits .and .u64 (wd p k : Int) (wd q k : Int) = (wd (fun x => p x && q x) k : Int) :=
  (u64_and_nat _ _ (wd_lt p k) (wd_lt q k)).trans (congrArg _ (nb_and (fun j => p (64 * k + j)) (fun j => q (64 * k + j)) 64).symm)
theorem not_wd (p : Nat → Bool) (k : Nat) : bits .xor .u64 18446744073709551615 (wd p k : Int) = (wd (fun x => !p x) k : Int) :=
  (u64_xor_nat 18446744073709551615 _ (by decide) (wd_lt p k)).trans (congrArg _ (nb_not (fun j => p (64 * k + j)) 64).symm)

end Go.Proofs.YtogpnlkjcdedlaaDoor
end
section
namespace Rg

/-- A set of bytes. -/
abbrev BS := UInt8 → Bool
def emp (s : BS) : Bool := (List.range 256).all fun i => !s (UInt8.ofNat i)
def none8 : BS := fun _ => false
theorem emp_iff {s : BS} : emp s = true ↔ s = none8 := by
  constructor
  · intro h
    funext b
    unfold emp at h
    rw [List.all_eq_true] at h
    have := h b.toNat (by simpa using b.toNat_lt)
    simp at this
    exact this
  · rintro rfl
    simp [emp, none8]

/-- An expression: kind, set, kids. -/
inductive Rx where
  | mk (k : Int) (s : BS) (l : List Rx)
def Rx.k : Rx → Int | .mk k _ _ => k
def Rx.s : Rx → BS | .mk _ s _ => s
def Rx.l : Rx → List Rx | .mk _ _ l => l

theorem Rx.ind {P : Rx → Prop} (h : ∀ k s l, (∀ x ∈ l, P x) → P (.mk k s l)) : ∀ r, P r
  | .mk k s l => h k s l fun x _ => Rx.ind h x
decreasing_by
  simp_wf
  have := List.sizeOf_lt_of_mem ‹x ∈ l›
  omega

/-- Kind, set and number of kids are right. -/
def shaped (k : Int) (s : BS) (n : Nat) : Bool :=
  if k = 1 ∨ k = 2 then n == 0 && emp s
  else if k = 3 then n == 0 && !emp s
  else if k = 4 ∨ k = 5 then decide (2 ≤ n) && emp s
  else if k = 6 then n == 1 && emp s
  else false
mutual
/-- Shaped throughout, no path longer than d. -/
def fits : Rx → Nat → Bool
  | .mk k s l, d => match d with
    | 0 => false
    | d + 1 => shaped k s l.length && fitsL l d
def fitsL : List Rx → Nat → Bool
  | [], _ => true
  | x :: l, d => fits x d && fitsL l d
end
theorem fitsL_iff {l : List Rx} {d : Nat} : fitsL l d = true ↔ ∀ x ∈ l, fits x d = true := by
  induction l with
  | nil => simp [fitsL]
  | cons x l ih => simp [fitsL, ih]
theorem fits_mk {k : Int} {s : BS} {l : List Rx} {d : Nat} : fits (.mk k s l) (d + 1) = (shaped k s l.length && fitsL l d) := by rw [fits]
theorem fits_zero {r : Rx} : fits r 0 = false := by cases r; rw [fits]
theorem fits_mono {r : Rx} : ∀ {d d' : Nat}, d ≤ d' → fits r d = true → fits r d' = true := by
  induction r using Rx.ind with
  | h k s l ih =>
    intro d d' hd h
    cases d with
    | zero => rw [fits_zero] at h; cases h
    | succ d =>
      obtain ⟨d', rfl⟩ : ∃ e, d' = e + 1 := ⟨d' - 1, by omega⟩
      rw [fits_mk, Bool.and_eq_true, fitsL_iff] at h ⊢
      exact ⟨h.1, fun x hx => ih x hx (by omega) (h.2 x hx)⟩
/-- Of the shapes that are allowed. -/
def Vd (r : Rx) : Prop := ∃ d, fits r d = true
theorem Vd.kid {k : Int} {s : BS} {l : List Rx} (h : Vd (.mk k s l)) {x : Rx} (hx : x ∈ l) : Vd x := by
  obtain ⟨d, h⟩ := h
  cases d with
  | zero => rw [fits_zero] at h; cases h
  | succ d => rw [fits_mk, Bool.and_eq_true, fitsL_iff] at h; exact ⟨d, h.2 x hx⟩
theorem Vd.shaped {k : Int} {s : BS} {l : List Rx} (h : Vd (.mk k s l)) : shaped k s l.length = true := by
  obtain ⟨d, h⟩ := h
  cases d with
  | zero => rw [fits_zero] at h; cases h
  | succ d => rw [fits_mk, Bool.and_eq_true] at h; exact h.1
theorem shaped_kind {k : Int} {s : BS} {n : Nat} (h : shaped k s n = true) : k = 1 ∨ k = 2 ∨ k = 3 ∨ k = 4 ∨ k = 5 ∨ k = 6 := by
  unfold shaped at h
  split at h
  · omega
  split at h
  · omega
  split at h
  · omega
  split at h
  · omega
  · cases h
theorem shaped_star {s : BS} {n : Nat} (h : shaped 6 s n = true) : n = 1 := by
  unfold shaped at h; simp at h; exact h.1
theorem shaped_leaf {k : Int} {s : BS} {n : Nat} (h : shaped k s n = true) (hk : k = 1 ∨ k = 2 ∨ k = 3) : n = 0 := by
  unfold shaped at h
  rcases hk with rfl | rfl | rfl <;> simp at h <;> exact h.1
theorem shaped_two {k : Int} {s : BS} {n : Nat} (h : shaped k s n = true) (hk : k = 4 ∨ k = 5) : 2 ≤ n := by
  unfold shaped at h
  rcases hk with rfl | rfl <;> simp at h <;> exact h.1
theorem shaped_emp {k : Int} {s : BS} {n : Nat} (h : shaped k s n = true) (hk : k ≠ 3) : s = none8 := by
  refine emp_iff.1 ?_
  rcases shaped_kind h with rfl | rfl | rfl | rfl | rfl | rfl
  · simp [shaped] at h; exact h.2
  · simp [shaped] at h; exact h.2
  · exact absurd rfl hk
  · simp [shaped] at h; exact h.2
  · simp [shaped] at h; exact h.2
  · simp [shaped] at h; exact h.2

mutual
/-- Number of parts. -/
def parts : Rx → Nat
  | .mk _ _ l => partsL l + 1
def partsL : List Rx → Nat
  | [] => 0
  | x :: l => parts x + partsL l
end
mutual
/-- Number of levels. -/
def depth : Rx → Nat
  | .mk _ _ l => depthL l + 1
def depthL : List Rx → Nat
  | [] => 0
  | x :: l => max (depth x) (depthL l)
end
theorem depthL_le {l : List Rx} {d : Nat} : depthL l ≤ d ↔ ∀ x ∈ l, depth x ≤ d := by
  induction l with
  | nil => simp [depthL]
  | cons x l ih => simp [depthL, Nat.max_le, ih]
theorem depth_pos (r : Rx) : 1 ≤ depth r := by cases r; rw [depth]; omega
/-- Shaped throughout. -/
theorem fits_depth {r : Rx} (h : Vd r) : ∀ {d : Nat}, fits r d = true ↔ depth r ≤ d := by
  induction r using Rx.ind with
  | h k s l ih =>
    intro d
    cases d with
    | zero => rw [fits_zero, depth]; simp
    | succ d =>
      rw [fits_mk, depth, h.shaped, Bool.true_and, fitsL_iff, Nat.add_le_add_iff_right, depthL_le]
      exact ⟨fun h' x hx => (ih x hx (h.kid hx)).1 (h' x hx), fun h' x hx => (ih x hx (h.kid hx)).2 (h' x hx)⟩
theorem Vd.mk {k : Int} {s : BS} {l : List Rx} (h : Rg.shaped k s l.length = true) (hl : ∀ x ∈ l, Vd x) : Vd (.mk k s l) := by
  refine ⟨depthL l + 1, ?_⟩
  rw [fits_mk, h, Bool.true_and, fitsL_iff]
  exact fun x hx => (fits_depth (hl x hx)).2 (depthL_le.1 (Nat.le_refl _) x hx)

mutual
/-- What 'shallow' reckons. -/
def sh : Rx → Nat → Int → Int
  | .mk _ _ l, lv, left => if 50 < lv ∨ left ≤ 0 then -1 else shL l (lv + 1) (left - 1)
def shL : List Rx → Nat → Int → Int
  | [], _, left => left
  | x :: l, lv, left => if left < 0 then left else shL l lv (sh x lv left)
end
theorem sh_parts {r : Rx} : ∀ {lv : Nat} {left : Int}, -1 ≤ sh r lv left ∧ (0 ≤ sh r lv left → sh r lv left = left - parts r) := by
  induction r using Rx.ind with
  | h k s l ih =>
    intro lv left
    rw [sh, parts]
    split
    · omega
    · rename_i hn
      have key : ∀ (m : List Rx), (∀ x ∈ m, x ∈ l) → ∀ left : Int, -1 ≤ left → -1 ≤ shL m (lv + 1) left ∧ (0 ≤ shL m (lv + 1) left → shL m (lv + 1) left = left - partsL m) := by
        intro m
        induction m with
        | nil => intro _ left h; rw [shL, partsL]; omega
        | cons x m ihm =>
          intro hm left h
          rw [shL, partsL]
          split
          · omega
          · have h1 := ih x (hm x (by simp)) (lv := lv + 1) (left := left)
            have h2 := ihm (fun y hy => hm y (by simp [hy])) (sh x (lv + 1) left) h1.1
            refine ⟨h2.1, fun h3 => ?_⟩
            have h4 := h2.2 h3
            by_cases h5 : 0 ≤ sh x (lv + 1) left
            · have := h1.2 h5; omega
            · exfalso
              have : sh x (lv + 1) left = -1 := by omega
              rw [this] at h3 h4
              omega
      have := key l (fun x hx => hx) (left - 1) (by omega)
      omega
theorem sh_le {r : Rx} {lv : Nat} {left : Int} : sh r lv left ≤ max left (-1) := by
  have := @sh_parts r lv left
  omega
def few (r : Rx) (most : Int) : Bool := decide (0 ≤ sh r 0 (most + 1))
theorem few_parts {r : Rx} {most : Nat} (h : few r most = true) : parts r ≤ most + 1 := by
  unfold few at h
  rw [decide_eq_true_eq] at h
  have := (@sh_parts r 0 ((most : Int) + 1)).2 h
  omega
/-- The law's 'small'. -/
def small (r : Rx) (most : Int) : Bool := few r most && (fits r 30 && decide (depth r ≤ 8))
theorem small_of {r : Rx} {most : Nat} (h : small r most = true) : parts r ≤ most + 1 ∧ Vd r ∧ depth r ≤ 8 := by
  unfold small at h
  simp only [Bool.and_eq_true, decide_eq_true_eq] at h
  exact ⟨few_parts h.1, ⟨30, h.2.1⟩, h.2.2⟩

/-! What an expression matches. -/
/-- Any number of strings that A holds of, one behind the other. -/
inductive Rep (A : List UInt8 → Prop) : List UInt8 → Prop
  | nil : Rep A []
  | cons {u v} : u ≠ [] → A u → Rep A v → Rep A (u ++ v)
mutual
def L : Rx → List UInt8 → Prop
  | .mk k s l => fun t => (k = 2 ∧ t = []) ∨ (k = 3 ∧ ∃ b, t = [b] ∧ s b = true) ∨ (k = 4 ∧ LC l t) ∨ (k = 5 ∧ LU l t) ∨ (k = 6 ∧ Rep (LU l) t)
def LC : List Rx → List UInt8 → Prop
  | [] => fun t => t = []
  | x :: l => fun t => ∃ u v, t = u ++ v ∧ L x u ∧ LC l v
def LU : List Rx → List UInt8 → Prop
  | [] => fun _ => False
  | x :: l => fun t => L x t ∨ LU l t
end
theorem L_mk {k : Int} {s : BS} {l : List Rx} {t : List UInt8} : L (.mk k s l) t ↔ (k = 2 ∧ t = []) ∨ (k = 3 ∧ ∃ b, t = [b] ∧ s b = true) ∨ (k = 4 ∧ LC l t) ∨ (k = 5 ∧ LU l t) ∨ (k = 6 ∧ Rep (LU l) t) := by rw [L]
theorem LC_cons {x : Rx} {l : List Rx} {t : List UInt8} : LC (x :: l) t ↔ ∃ u v, t = u ++ v ∧ L x u ∧ LC l v := by rw [LC]
theorem LC_nil {t : List UInt8} : LC [] t ↔ t = [] := by rw [LC]
theorem LU_cons {x : Rx} {l : List Rx} {t : List UInt8} : LU (x :: l) t ↔ L x t ∨ LU l t := by rw [LU]
theorem LU_nil {t : List UInt8} : LU [] t ↔ False := by rw [LU]
theorem LU_iff {l : List Rx} {t : List UInt8} : LU l t ↔ ∃ x ∈ l, L x t := by
  induction l with
  | nil => simp [LU_nil]
  | cons x l ih => simp [LU_cons, ih]
theorem LC_append {l m : List Rx} {t : List UInt8} : LC (l ++ m) t ↔ ∃ u v, t = u ++ v ∧ LC l u ∧ LC m v := by
  induction l generalizing t with
  | nil =>
    simp only [List.nil_append, LC_nil]
    exact ⟨fun h => ⟨[], t, rfl, rfl, h⟩, fun ⟨u, v, h, hu, hv⟩ => by subst hu; simpa [h] using hv⟩
  | cons x l ih =>
    simp only [List.cons_append, LC_cons, ih]
    constructor
    · rintro ⟨u, _, rfl, hx, v, w, rfl, h1, h2⟩
      exact ⟨u ++ v, w, by simp, ⟨u, v, rfl, hx, h1⟩, h2⟩
    · rintro ⟨_, w, rfl, ⟨u, v, rfl, hx, h1⟩, h2⟩
      exact ⟨u, v ++ w, by simp, hx, v, w, rfl, h1, h2⟩
theorem LC_one {x : Rx} {t : List UInt8} : LC [x] t ↔ L x t := by
  simp [LC_cons, LC_nil]
theorem LU_one {x : Rx} {t : List UInt8} : LU [x] t ↔ L x t := by simp [LU_cons, LU_nil]
theorem Rep.congr {A B : List UInt8 → Prop} (h : ∀ t, A t ↔ B t) {t : List UInt8} : Rep A t ↔ Rep B t := by
  constructor
  · intro k; induction k with
    | nil => exact .nil
    | cons h1 h2 _ ih => exact .cons h1 ((h _).1 h2) ih
  · intro k; induction k with
    | nil => exact .nil
    | cons h1 h2 _ ih => exact .cons h1 ((h _).2 h2) ih
theorem Rep.app {A : List UInt8 → Prop} {u v : List UInt8} (h : Rep A u) (k : Rep A v) : Rep A (u ++ v) := by
  induction h with
  | nil => exact k
  | cons h1 h2 _ ih => rw [List.append_assoc]; exact .cons h1 h2 ih
theorem Rep.one {A : List UInt8 → Prop} {u : List UInt8} (h : A u) : Rep A u := by
  by_cases e : u = []
  · rw [e]; exact .nil
  · simpa using Rep.cons e h .nil
/-- From the other end. -/
theorem Rep.last {A : List UInt8 → Prop} {t : List UInt8} : Rep A t ↔ t = [] ∨ ∃ u v, t = u ++ v ∧ v ≠ [] ∧ Rep A u ∧ A v := by
  constructor
  · intro h
    induction h with
    | nil => exact .inl rfl
    | @cons u v h1 h2 h3 ih =>
      refine .inr ?_
      rcases ih with rfl | ⟨x, y, rfl, hy, h4, h5⟩
      · exact ⟨[], u, by simp, h1, .nil, h2⟩
      · exact ⟨u ++ x, y, by simp, hy, .cons h1 h2 h4, h5⟩
  · rintro (rfl | ⟨u, v, rfl, _, h1, h2⟩)
    · exact .nil
    · exact h1.app (.one h2)
/-- From the front. -/
theorem Rep.first {A : List UInt8 → Prop} {b : UInt8} {t : List UInt8} : Rep A (b :: t) ↔ ∃ u v, t = u ++ v ∧ A (b :: u) ∧ Rep A v := by
  constructor
  · intro h
    generalize hz : b :: t = z at h
    cases h with
    | nil => cases hz
    | @cons u v h1 h2 h3 =>
      cases u with
      | nil => exact absurd rfl h1
      | cons c u =>
        simp at hz
        obtain ⟨rfl, rfl⟩ := hz
        exact ⟨u, v, rfl, h2, h3⟩
  · rintro ⟨u, v, rfl, h1, h2⟩
    exact Rep.cons (u := b :: u) (by simp) h1 h2

mutual
/-- Whether the empty string is matched. -/
def nul : Rx → Bool
  | .mk k _ l => if k = 2 ∨ k = 6 then true else if k = 4 then nulC l else if k = 5 then nulU l else false
def nulC : List Rx → Bool
  | [] => true
  | x :: l => nul x && nulC l
def nulU : List Rx → Bool
  | [] => false
  | x :: l => nul x || nulU l
end
theorem nulC_iff {l : List Rx} : nulC l = true ↔ ∀ x ∈ l, nul x = true := by
  induction l with
  | nil => simp [nulC]
  | cons x l ih => simp [nulC, ih]
theorem nulU_iff {l : List Rx} : nulU l = true ↔ ∃ x ∈ l, nul x = true := by
  induction l with
  | nil => simp [nulU]
  | cons x l ih => simp [nulU, ih]
theorem LC_nil_iff {l : List Rx} : LC l [] ↔ ∀ x ∈ l, L x [] := by
  induction l with
  | nil => simp [LC_nil]
  | cons x l ih =>
    rw [LC_cons]
    constructor
    · rintro ⟨u, v, h, h1, h2⟩
      simp at h
      obtain ⟨rfl, rfl⟩ := h
      have := ih.1 h2
      simp [h1]
      exact this
    · intro h
      exact ⟨[], [], rfl, h x (by simp), ih.2 fun y hy => h y (by simp [hy])⟩
theorem nul_iff {r : Rx} : nul r = true ↔ L r [] := by
  induction r using Rx.ind with
  | h k s l ih =>
    rw [nul, L_mk]
    by_cases h1 : k = 2 ∨ k = 6
    · rw [if_pos h1]
      rcases h1 with rfl | rfl
      · simp
      · simp; exact .nil
    · rw [if_neg h1]
      by_cases h4 : k = 4
      · rw [if_pos h4]; subst h4
        simp [nulC_iff, LC_nil_iff]
        exact ⟨fun h x hx => (ih x hx).1 (h x hx), fun h x hx => (ih x hx).2 (h x hx)⟩
      · rw [if_neg h4]
        by_cases h5 : k = 5
        · rw [if_pos h5]; subst h5
          simp [nulU_iff, LU_iff]
          exact ⟨fun ⟨x, hx, h⟩ => ⟨x, hx, (ih x hx).1 h⟩, fun ⟨x, hx, h⟩ => ⟨x, hx, (ih x hx).2 h⟩⟩
        · rw [if_neg h5]
          simp [h4, h5, show ¬ k = 2 by omega, show ¬ k = 6 by omega]
end Rg
end
section
set_option linter.unusedSimpArgs false
set_option linter.unusedVariables false
namespace Go.Proofs.YtogpnlkjcdedlaaDoor
open Go.RowKit Bs Rg Go.Frame

/-- A set of bytes as a predicate on numbers. -/
def lf (s : BS) (n : Nat) : Bool := s (UInt8.ofNat n)
/-- Word k of a set. -/
def ws (s : BS) (k : Nat) : Nat := wd (lf s) k
theorem ws_lt (s : BS) (k : Nat) : ws s k < 18446744073709551616 := wd_lt _ _
theorem sv_lf (s : BS) : sv (lf s) = .agg #[.int .u64 (ws s 0 : Int), .int .u64 (ws s 1 : Int), .int .u64 (ws s 2 : Int), .int .u64 (ws s 3 : Int)] := rfl
theorem ws_none (k : Nat) : ws none8 k = 0 := wd_false k
theorem ws_inj {s s' : BS} (h : ∀ k, k < 4 → ws s k = ws s' k) : s = s' := by
  funext b
  have hb := b.toNat_lt
  have h1 := h (b.toNat / 64) (by omega)
  have h2 := congrArg (fun x => x.testBit (b.toNat % 64)) h1
  unfold ws wd at h2
  simp only [nb_bit, show b.toNat % 64 < 64 from Nat.mod_lt _ (by decide), decide_true, Bool.true_and] at h2
  rw [show 64 * (b.toNat / 64) + b.toNat % 64 = b.toNat by omega] at h2
  unfold lf at h2
  simpa using h2
def eqs (s s' : BS) : Bool := (List.range 256).all fun i => s (UInt8.ofNat i) == s' (UInt8.ofNat i)
theorem eqs_iff {s s' : BS} : eqs s s' = true ↔ s = s' := by
  constructor
  · intro h
    funext b
    unfold eqs at h
    rw [List.all_eq_true] at h
    have := h b.toNat (by simpa using b.toNat_lt)
    simpa using this
  · rintro rfl
    simp [eqs]
theorem eqs_false {s s' : BS} : eqs s s' = false ↔ s ≠ s' := by rw [← Bool.not_eq_true, eqs_iff]
theorem emp_eqs (s : BS) : emp s = eqs s none8 := by
  rw [Bool.eq_iff_iff, emp_iff, eqs_iff]

theorem info46 : (Tryd.prog.info? 46).isSome = true := by kernel_rfl
theorem cells46 : Tryd.prog.cellsOf 46 = 1 := by kernel_rfl
theorem part0 (a b c d : Int) (w : World) : (Go.part 46 #[Value.int .u64 a, .int .u64 b, .int .u64 c, .int .u64 d] 0).run Tryd.prog w = .ok (.int .u64 a) w := by kernel_rfl
theorem part1 (a b c d : Int) (w : World) : (Go.part 46 #[Value.int .u64 a, .int .u64 b, .int .u64 c, .int .u64 d] 1).run Tryd.prog w = .ok (.int .u64 b) w := by kernel_rfl
theorem part2 (a b c d : Int) (w : World) : (Go.part 46 #[Value.int .u64 a, .int .u64 b, .int .u64 c, .int .u64 d] 2).run Tryd.prog w = .ok (.int .u64 c) w := by kernel_rfl
theorem part3 (a b c d : Int) (w : World) : (Go.part 46 #[Value.int .u64 a, .int .u64 b, .int .u64 c, .int .u64 d] 3).run Tryd.prog w = .ok (.int .u64 d) w := by kernel_rfl
theorem eqIn (a b c d a' b' c' d' : Int) (w : World) : (Op.equalIn 10000 48 (.agg #[.int .u64 a, .int .u64 b, .int .u64 c, .int .u64 d]) (.agg #[.int .u64 a', .int .u64 b', .int .u64 c', .int .u64 d'])).run Tryd.prog w = .ok (decide (a = a' ∧ b = b' ∧ c = c' ∧ d = d')) w := by
  obtain ⟨i, hi⟩ := Option.isSome_iff_exists.1 info46
  rw [show (10000 : Nat) = 9999 + 1 from rfl, run_equalIn_array w 9999 _ _ Tryd.underlying48 hi, cells46]
  have he : ∀ (x y : Int) (w : World), (Op.equalIn 9999 46 (.int .u64 x) (.int .u64 y)).run Tryd.prog w = .ok (decide (x = y)) w := fun x y w => by
    rw [run_equalIn_int w 9998 46 .u64 .u64 x y Tryd.underlying46]
    by_cases h : x = y <;> simp [h]
  rw [show List.range 4 = [0, 1, 2, 3] from rfl]
  by_cases h0 : a = a'
  · by_cases h1 : b = b'
    · by_cases h2 : c = c'
      · by_cases h3 : d = d' <;> simp [Op.eqItems, Sem.run_bind, part0, part1, part2, part3, he, h0, h1, h2, h3]
      · simp [Op.eqItems, Sem.run_bind, part0, part1, part2, part3, he, h0, h1, h2]
    · simp [Op.eqItems, Sem.run_bind, part0, part1, part2, part3, he, h0, h1]
  · simp [Op.eqItems, Sem.run_bind, part0, part1, part2, part3, he, h0]
theorem words_eqs (s s' : BS) : decide ((ws s 0 : Int) = (ws s' 0 : Int) ∧ (ws s 1 : Int) = (ws s' 1 : Int) ∧ (ws s 2 : Int) = (ws s' 2 : Int) ∧ (ws s 3 : Int) = (ws s' 3 : Int)) = eqs s s' := by
  rw [Bool.eq_iff_iff, decide_eq_true_eq, eqs_iff]
  constructor
  · rintro ⟨h0, h1, h2, h3⟩
    refine ws_inj fun k hk => ?_
    have : k = 0 ∨ k = 1 ∨ k = 2 ∨ k = 3 := by omega
    rcases this with rfl | rfl | rfl | rfl <;> omega
  · rintro rfl
    exact ⟨rfl, rfl, rfl, rfl⟩
theorem eq_set (s s' : BS) (w : World) : (Op.equalIn 10000 48 (.agg #[.int .u64 (ws s 0 : Int), .int .u64 (ws s 1 : Int), .int .u64 (ws s 2 : Int), .int .u64 (ws s 3 : Int)]) (.agg #[.int .u64 (ws s' 0 : Int), .int .u64 (ws s' 1 : Int), .int .u64 (ws s' 2 : Int), .int .u64 (ws s' 3 : Int)])).run Tryd.prog w = .ok (eqs s s') w := by
  rw [eqIn, words_eqs]
theorem eq_zero (s : BS) (w : World) : (Op.equalIn 10000 48 (.agg #[.int .u64 (ws s 0 : Int), .int .u64 (ws s 1 : Int), .int .u64 (ws s 2 : Int), .int .u64 (ws s 3 : Int)]) (.agg #[.int .u64 0, .int .u64 0, .int .u64 0, .int .u64 0])).run Tryd.prog w = .ok (emp s) w := by
  have := eq_set s none8 w
  rw [ws_none, ws_none, ws_none, ws_none] at this
  rw [emp_eqs]; exact this

/-! Expressions in memory. -/
/-- The cells of an expression. -/
def rcs (k : Int) (s : BS) (v : Value) : List Value := [.int .i64 k, .int .u64 (ws s 0 : Int), .int .u64 (ws s 1 : Int), .int .u64 (ws s 2 : Int), .int .u64 (ws s 3 : Int), v]
mutual
/-- Cells that are an expression, its rows of kids in blocks of g. -/
def RC (g : Nat → Prop) (W : World) : Rx → List Value → Prop
  | .mk k s l, cs => ∃ a n c, cs = rcs k s (.slice a n c) ∧ l.length = n ∧ n < 140737488355328 ∧ (n = 0 ∨ ∃ b off, a = some ⟨b, off, none⟩ ∧ g b ∧ b < W.heap.size ∧ RK g W b l off)
/-- A row of them. -/
def RK (g : Nat → Prop) (W : World) (b : Nat) : List Rx → Nat → Prop
  | [], _ => True
  | x :: l, off => (∃ cs, (∀ j v, cs[j]? = some v → W.cell? ⟨b, off + j, none⟩ = some v) ∧ RC g W x cs) ∧ RK g W b l (off + 6)
end
/-- A slice of expressions. -/
def Kd (g : Nat → Prop) (W : World) (a : Option Addr) (n : Nat) (l : List Rx) : Prop :=
  l.length = n ∧ n < 140737488355328 ∧ (n = 0 ∨ ∃ b off, a = some ⟨b, off, none⟩ ∧ g b ∧ b < W.heap.size ∧ RK g W b l off)
theorem RC_mk {g : Nat → Prop} {W : World} {k : Int} {s : BS} {l : List Rx} {cs : List Value} : RC g W (.mk k s l) cs ↔ ∃ a n c, cs = rcs k s (.slice a n c) ∧ Kd g W a n l := by rw [RC]; rfl
theorem RK_get {g : Nat → Prop} {W : World} {b : Nat} : ∀ {l : List Rx} {off i : Nat} {x : Rx}, RK g W b l off → l[i]? = some x → ∃ cs, (∀ j v, cs[j]? = some v → W.cell? ⟨b, off + i * 6 + j, none⟩ = some v) ∧ RC g W x cs
  | y :: l, off, 0, x, h, hi => by
    rw [RK] at h
    simp at hi; subst hi
    simpa using h.1
  | y :: l, off, i + 1, x, h, hi => by
    rw [RK] at h
    obtain ⟨cs, h1, h2⟩ := RK_get (i := i) h.2 (by simpa using hi)
    exact ⟨cs, fun j v hj => by rw [show off + (i + 1) * 6 + j = off + 6 + i * 6 + j by omega]; exact h1 j v hj, h2⟩
theorem RK_of {g : Nat → Prop} {W : World} {b : Nat} : ∀ {l : List Rx} {off : Nat}, (∀ i x, l[i]? = some x → ∃ cs, (∀ j v, cs[j]? = some v → W.cell? ⟨b, off + i * 6 + j, none⟩ = some v) ∧ RC g W x cs) → RK g W b l off
  | [], off, _ => by rw [RK]; trivial
  | y :: l, off, h => by
    rw [RK]
    refine ⟨by simpa using h 0 y rfl, RK_of fun i x hi => ?_⟩
    obtain ⟨cs, h1, h2⟩ := h (i + 1) x (by simpa using hi)
    exact ⟨cs, fun j v hj => by rw [show off + 6 + i * 6 + j = off + (i + 1) * 6 + j by omega]; exact h1 j v hj, h2⟩
/-- Where the blocks of g are as they were. -/
theorem RC.keep {g g' : Nat → Prop} {W W' : World} (hs : W.heap.size ≤ W'.heap.size) (hk : ∀ b, g b → b < W.heap.size → W'.heap[b]? = W.heap[b]?) (hg : ∀ b, g b → g' b) (r : Rx) : ∀ {cs : List Value}, RC g W r cs → RC g' W' r cs := by
  induction r using Rx.ind with
  | h k s l ih =>
    intro cs h
    rw [RC_mk] at h ⊢
    obtain ⟨a, n, c, rfl, h1, h2, h3⟩ := h
    refine ⟨a, n, c, rfl, h1, h2, h3.imp id ?_⟩
    rintro ⟨b, off, rfl, hb, hlt, hK⟩
    refine ⟨b, off, rfl, hg b hb, Nat.lt_of_lt_of_le hlt hs, RK_of fun i x hi => ?_⟩
    obtain ⟨cs, h4, h5⟩ := RK_get hK hi
    refine ⟨cs, fun j v hj => ?_, ih x (List.mem_of_getElem? hi) h5⟩
    rw [← h4 j v hj]
    exact World.cell?_of_block (hk b hb hlt)
theorem Kd.keep {g g' : Nat → Prop} {W W' : World} {a : Option Addr} {n : Nat} {l : List Rx} (h : Kd g W a n l) (hs : W.heap.size ≤ W'.heap.size) (hk : ∀ b, g b → b < W.heap.size → W'.heap[b]? = W.heap[b]?) (hg : ∀ b, g b → g' b) : Kd g' W' a n l := by
  have h1 : RC g W (.mk 0 none8 l) (rcs 0 none8 (.slice a n 0)) := RC_mk.2 ⟨a, n, 0, rfl, h⟩
  obtain ⟨a', n', c', e, h2⟩ := RC_mk.1 (RC.keep hs hk hg _ h1)
  simp [rcs] at e
  obtain ⟨rfl, rfl, rfl⟩ := e
  exact h2
theorem Kd.below {g : Nat → Prop} {W W' : World} {a : Option Addr} {n : Nat} {l : List Rx} (h : Kd g W a n l) (hb : Below W.heap.size W W') : Kd g W' a n l := h.keep hb.size (fun b _ hlt => hb.block b hlt) fun _ h => h
theorem RC.below {g : Nat → Prop} {W W' : World} {r : Rx} {cs : List Value} (h : RC g W r cs) (hb : Below W.heap.size W W') : RC g W' r cs := RC.keep hb.size (fun b _ hlt => hb.block b hlt) (fun _ h => h) r h
theorem Kd.len {g : Nat → Prop} {W : World} {a : Option Addr} {n : Nat} {l : List Rx} (h : Kd g W a n l) : l.length = n := h.1
theorem Kd.lt {g : Nat → Prop} {W : World} {a : Option Addr} {n : Nat} {l : List Rx} (h : Kd g W a n l) : n < 140737488355328 := h.2.1
/-- A kid, with its cells. -/
theorem Kd.get {g : Nat → Prop} {W : World} {a : Option Addr} {n : Nat} {l : List Rx} (h : Kd g W a n l) {i : Nat} (hi : i < n) : ∃ b off k s l' a' n' c', a = some ⟨b, off, none⟩ ∧ g b ∧ b < W.heap.size ∧ l[i]? = some (.mk k s l') ∧ Kd g W a' n' l' ∧
    W.cell? ⟨b, off + i * 6, none⟩ = some (.int .i64 k) ∧ W.cell? ⟨b, off + i * 6 + 1, none⟩ = some (.int .u64 (ws s 0 : Int)) ∧ W.cell? ⟨b, off + i * 6 + 2, none⟩ = some (.int .u64 (ws s 1 : Int)) ∧ W.cell? ⟨b, off + i * 6 + 3, none⟩ = some (.int .u64 (ws s 2 : Int)) ∧ W.cell? ⟨b, off + i * 6 + 4, none⟩ = some (.int .u64 (ws s 3 : Int)) ∧ W.cell? ⟨b, off + i * 6 + 5, none⟩ = some (.slice a' n' c') := by
  obtain ⟨h1, h2, h3⟩ := h
  rcases h3 with h0 | ⟨b, off, rfl, hb, hlt, hK⟩
  · omega
  · have hx : l[i]? = some (l[i]'(by omega)) := List.getElem?_eq_getElem _
    obtain ⟨cs, h4, h5⟩ := RK_get hK hx
    rw [hx]
    generalize l[i]'(by omega) = x at h5
    obtain ⟨k, s, l'⟩ := x
    obtain ⟨a', n', c', rfl, h6⟩ := RC_mk.1 h5
    exact ⟨b, off, k, s, l', a', n', c', rfl, hb, hlt, rfl, h6, h4 0 _ rfl, h4 1 _ rfl, h4 2 _ rfl, h4 3 _ rfl, h4 4 _ rfl, h4 5 _ rfl⟩

end Go.Proofs.YtogpnlkjcdedlaaDoor
end
section
set_option linter.unusedSimpArgs false
set_option linter.unusedVariables false
namespace Go.Proofs.YtogpnlkjcdedlaaDoor
open Go.RowKit Bs Rg Go.Frame
attribute [local go_sem] eq_zero eq_set

set_option maxRecDepth 100000 in
set_option maxHeartbeats 4000000 in
theorem shaped_any (k : Int) (s : BS) (a : Option Addr) (n c : Nat) (w : World) (hn : n < 140737488355328) :
    Calls Tryd.prog 75 #[.agg #[.int .i64 k, .int .u64 (ws s 0 : Int), .int .u64 (ws s 1 : Int), .int .u64 (ws s 2 : Int), .int .u64 (ws s 3 : Int), .slice a n c]] w fun e w' => e = .returned (.bool (shaped k s n)) ∧ Below w.heap.size w w' := by
  have hk : k = 1 ∨ k = 2 ∨ k = 3 ∨ k = 4 ∨ k = 5 ∨ k = 6 ∨ (k ≠ 1 ∧ k ≠ 2 ∧ k ≠ 3 ∧ k ≠ 4 ∧ k ≠ 5 ∧ k ≠ 6) := by omega
  have hn : n = 0 ∨ n = 1 ∨ ((2 : Int) ≤ n ∧ ¬ (n : Int) = 0 ∧ ¬ (n : Int) = 1 ∧ ¬ n = 0 ∧ ¬ n = 1 ∧ 2 ≤ n) := by omega
  rcases hk with rfl | rfl | rfl | rfl | rfl | rfl | ⟨h1, h2, h3, h4, h5, h6⟩ <;> rcases hn with rfl | rfl | ⟨n1, n2, n3, n4, n5, n6⟩
  all_goals
    go_enter Tryd.func75, Tryd.ntmps75
    go_wp2_with fail
    go_quiet (fail)
    go_wp2
  all_goals
    go_ret
    refine ⟨?_, below_drewN ((Below.refl _ _).alloc (Nat.le_refl _) _) _⟩
    simp [shaped, *]

end Go.Proofs.YtogpnlkjcdedlaaDoor
end
