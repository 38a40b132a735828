/-
  Sets compared; expressions in memory.
-/
import Derived.Test.YtogpnlkjcdedlaaDoorF
import Derived.Test.YtogpnlkjcdedlaaDoorN
import Derived.Laws.StructEq
import Derived.ChangeKeysEq
set_option linter.unusedSimpArgs false
set_option linter.unusedVariables false
namespace Go.Proofs.YtogpnlkjcdedlaaDoor
open Go.RowKit Bs Rg Go.Frame

/-- A set of bytes as a predicate on numbers. -/
def lf (s : BS) (n : Nat) : Bool := s (UInt8.ofNat n)
/-- Word k of a set. -/
def ws (s : BS) (k : Nat) : Nat := wd (lf s) k
theorem ws_lt (s : BS) (k : Nat) : ws s k < 18446744073709551616 := wd_lt _ _
theorem sv_lf (s : BS) : sv (lf s) = .agg #[.int .u64 (ws s 0 : Int), .int .u64 (ws s 1 : Int), .int .u64 (ws s 2 : Int), .int .u64 (ws s 3 : Int)] := rfl
theorem ws_none (k : Nat) : ws none8 k = 0 := wd_false k
theorem ws_inj {s s' : BS} (h : ∀ k, k < 4 → ws s k = ws s' k) : s = s' := by
  funext b
  have hb := b.toNat_lt
  have h1 := h (b.toNat / 64) (by omega)
  have h2 := congrArg (fun x => x.testBit (b.toNat % 64)) h1
  unfold ws wd at h2
  simp only [nb_bit, show b.toNat % 64 < 64 from Nat.mod_lt _ (by decide), decide_true, Bool.true_and] at h2
  rw [show 64 * (b.toNat / 64) + b.toNat % 64 = b.toNat by omega] at h2
  unfold lf at h2
  simpa using h2
def eqs (s s' : BS) : Bool := (List.range 256).all fun i => s (UInt8.ofNat i) == s' (UInt8.ofNat i)
theorem eqs_iff {s s' : BS} : eqs s s' = true ↔ s = s' := by
  constructor
  · intro h
    funext b
    unfold eqs at h
    rw [List.all_eq_true] at h
    have := h b.toNat (by simpa using b.toNat_lt)
    simpa using this
  · rintro rfl
    simp [eqs]
theorem eqs_false {s s' : BS} : eqs s s' = false ↔ s ≠ s' := by rw [← Bool.not_eq_true, eqs_iff]
theorem emp_eqs (s : BS) : emp s = eqs s none8 := by
  rw [Bool.eq_iff_iff, emp_iff, eqs_iff]

theorem info46 : (Tryd.prog.info? 46).isSome = true := by kernel_rfl
theorem cells46 : Tryd.prog.cellsOf 46 = 1 := by kernel_rfl
theorem part0 (a b c d : Int) (w : World) : (Go.part 46 #[Value.int .u64 a, .int .u64 b, .int .u64 c, .int .u64 d] 0).run Tryd.prog w = .ok (.int .u64 a) w := by kernel_rfl
theorem part1 (a b c d : Int) (w : World) : (Go.part 46 #[Value.int .u64 a, .int .u64 b, .int .u64 c, .int .u64 d] 1).run Tryd.prog w = .ok (.int .u64 b) w := by kernel_rfl
theorem part2 (a b c d : Int) (w : World) : (Go.part 46 #[Value.int .u64 a, .int .u64 b, .int .u64 c, .int .u64 d] 2).run Tryd.prog w = .ok (.int .u64 c) w := by kernel_rfl
theorem part3 (a b c d : Int) (w : World) : (Go.part 46 #[Value.int .u64 a, .int .u64 b, .int .u64 c, .int .u64 d] 3).run Tryd.prog w = .ok (.int .u64 d) w := by kernel_rfl
theorem eqIn (a b c d a' b' c' d' : Int) (w : World) : (Op.equalIn 10000 48 (.agg #[.int .u64 a, .int .u64 b, .int .u64 c, .int .u64 d]) (.agg #[.int .u64 a', .int .u64 b', .int .u64 c', .int .u64 d'])).run Tryd.prog w = .ok (decide (a = a' ∧ b = b' ∧ c = c' ∧ d = d')) w := by
  obtain ⟨i, hi⟩ := Option.isSome_iff_exists.1 info46
  rw [show (10000 : Nat) = 9999 + 1 from rfl, run_equalIn_array w 9999 _ _ Tryd.underlying48 hi, cells46]
  have he : ∀ (x y : Int) (w : World), (Op.equalIn 9999 46 (.int .u64 x) (.int .u64 y)).run Tryd.prog w = .ok (decide (x = y)) w := fun x y w => by
    rw [run_equalIn_int w 9998 46 .u64 .u64 x y Tryd.underlying46]
    by_cases h : x = y <;> simp [h]
  rw [show List.range 4 = [0, 1, 2, 3] from rfl]
  by_cases h0 : a = a'
  · by_cases h1 : b = b'
    · by_cases h2 : c = c'
      · by_cases h3 : d = d' <;> simp [Op.eqItems, Sem.run_bind, part0, part1, part2, part3, he, h0, h1, h2, h3]
      · simp [Op.eqItems, Sem.run_bind, part0, part1, part2, part3, he, h0, h1, h2]
    · simp [Op.eqItems, Sem.run_bind, part0, part1, part2, part3, he, h0, h1]
  · simp [Op.eqItems, Sem.run_bind, part0, part1, part2, part3, he, h0]
theorem words_eqs (s s' : BS) : decide ((ws s 0 : Int) = (ws s' 0 : Int) ∧ (ws s 1 : Int) = (ws s' 1 : Int) ∧ (ws s 2 : Int) = (ws s' 2 : Int) ∧ (ws s 3 : Int) = (ws s' 3 : Int)) = eqs s s' := by
  rw [Bool.eq_iff_iff, decide_eq_true_eq, eqs_iff]
  constructor
  · rintro ⟨h0, h1, h2, h3⟩
    refine ws_inj fun k hk => ?_
    have : k = 0 ∨ k = 1 ∨ k = 2 ∨ k = 3 := by omega
    rcases this with rfl | rfl | rfl | rfl <;> omega
  · rintro rfl
    exact ⟨rfl, rfl, rfl, rfl⟩
theorem eq_set (s s' : BS) (w : World) : (Op.equalIn 10000 48 (.agg #[.int .u64 (ws s 0 : Int), .int .u64 (ws s 1 : Int), .int .u64 (ws s 2 : Int), .int .u64 (ws s 3 : Int)]) (.agg #[.int .u64 (ws s' 0 : Int), .int .u64 (ws s' 1 : Int), .int .u64 (ws s' 2 : Int), .int .u64 (ws s' 3 : Int)])).run Tryd.prog w = .ok (eqs s s') w := by
  rw [eqIn, words_eqs]
theorem eq_zero (s : BS) (w : World) : (Op.equalIn 10000 48 (.agg #[.int .u64 (ws s 0 : Int), .int .u64 (ws s 1 : Int), .int .u64 (ws s 2 : Int), .int .u64 (ws s 3 : Int)]) (.agg #[.int .u64 0, .int .u64 0, .int .u64 0, .int .u64 0])).run Tryd.prog w = .ok (emp s) w := by
  have := eq_set s none8 w
  rw [ws_none, ws_none, ws_none, ws_none] at this
  rw [emp_eqs]; exact this

/-! Expressions in memory. -/
/-- The cells of an expression. -/
def rcs (k : Int) (s : BS) (v : Value) : List Value := [.int .i64 k, .int .u64 (ws s 0 : Int), .int .u64 (ws s 1 : Int), .int .u64 (ws s 2 : Int), .int .u64 (ws s 3 : Int), v]
mutual
/-- Cells that are an expression, its rows of kids in blocks of g. -/
def RC (g : Nat → Prop) (W : World) : Rx → List Value → Prop
  | .mk k s l, cs => ∃ a n c, cs = rcs k s (.slice a n c) ∧ l.length = n ∧ n < 140737488355328 ∧ (n = 0 ∨ ∃ b off, a = some ⟨b, off, none⟩ ∧ g b ∧ b < W.heap.size ∧ RK g W b l off)
/-- A row of them. -/
def RK (g : Nat → Prop) (W : World) (b : Nat) : List Rx → Nat → Prop
  | [], _ => True
  | x :: l, off => (∃ cs, (∀ j v, cs[j]? = some v → W.cell? ⟨b, off + j, none⟩ = some v) ∧ RC g W x cs) ∧ RK g W b l (off + 6)
end
/-- A slice of expressions. -/
def Kd (g : Nat → Prop) (W : World) (a : Option Addr) (n : Nat) (l : List Rx) : Prop :=
  l.length = n ∧ n < 140737488355328 ∧ (n = 0 ∨ ∃ b off, a = some ⟨b, off, none⟩ ∧ g b ∧ b < W.heap.size ∧ RK g W b l off)
theorem RC_mk {g : Nat → Prop} {W : World} {k : Int} {s : BS} {l : List Rx} {cs : List Value} : RC g W (.mk k s l) cs ↔ ∃ a n c, cs = rcs k s (.slice a n c) ∧ Kd g W a n l := by rw [RC]; rfl
theorem RK_get {g : Nat → Prop} {W : World} {b : Nat} : ∀ {l : List Rx} {off i : Nat} {x : Rx}, RK g W b l off → l[i]? = some x → ∃ cs, (∀ j v, cs[j]? = some v → W.cell? ⟨b, off + i * 6 + j, none⟩ = some v) ∧ RC g W x cs
  | y :: l, off, 0, x, h, hi => by
    rw [RK] at h
    simp at hi; subst hi
    simpa using h.1
  | y :: l, off, i + 1, x, h, hi => by
    rw [RK] at h
    obtain ⟨cs, h1, h2⟩ := RK_get (i := i) h.2 (by simpa using hi)
    exact ⟨cs, fun j v hj => by rw [show off + (i + 1) * 6 + j = off + 6 + i * 6 + j by omega]; exact h1 j v hj, h2⟩
theorem RK_of {g : Nat → Prop} {W : World} {b : Nat} : ∀ {l : List Rx} {off : Nat}, (∀ i x, l[i]? = some x → ∃ cs, (∀ j v, cs[j]? = some v → W.cell? ⟨b, off + i * 6 + j, none⟩ = some v) ∧ RC g W x cs) → RK g W b l off
  | [], off, _ => by rw [RK]; trivial
  | y :: l, off, h => by
    rw [RK]
    refine ⟨by simpa using h 0 y rfl, RK_of fun i x hi => ?_⟩
    obtain ⟨cs, h1, h2⟩ := h (i + 1) x (by simpa using hi)
    exact ⟨cs, fun j v hj => by rw [show off + 6 + i * 6 + j = off + (i + 1) * 6 + j by omega]; exact h1 j v hj, h2⟩
/-- Where the blocks of g are as they were. -/
theorem RC.keep {g g' : Nat → Prop} {W W' : World} (hs : W.heap.size ≤ W'.heap.size) (hk : ∀ b, g b → b < W.heap.size → W'.heap[b]? = W.heap[b]?) (hg : ∀ b, g b → g' b) (r : Rx) : ∀ {cs : List Value}, RC g W r cs → RC g' W' r cs := by
  induction r using Rx.ind with
  | h k s l ih =>
    intro cs h
    rw [RC_mk] at h ⊢
    obtain ⟨a, n, c, rfl, h1, h2, h3⟩ := h
    refine ⟨a, n, c, rfl, h1, h2, h3.imp id ?_⟩
    rintro ⟨b, off, rfl, hb, hlt, hK⟩
    refine ⟨b, off, rfl, hg b hb, Nat.lt_of_lt_of_le hlt hs, RK_of fun i x hi => ?_⟩
    obtain ⟨cs, h4, h5⟩ := RK_get hK hi
    refine ⟨cs, fun j v hj => ?_, ih x (List.mem_of_getElem? hi) h5⟩
    rw [← h4 j v hj]
    exact World.cell?_of_block (hk b hb hlt)
theorem Kd.keep {g g' : Nat → Prop} {W W' : World} {a : Option Addr} {n : Nat} {l : List Rx} (h : Kd g W a n l) (hs : W.heap.size ≤ W'.heap.size) (hk : ∀ b, g b → b < W.heap.size → W'.heap[b]? = W.heap[b]?) (hg : ∀ b, g b → g' b) : Kd g' W' a n l := by
  have h1 : RC g W (.mk 0 none8 l) (rcs 0 none8 (.slice a n 0)) := RC_mk.2 ⟨a, n, 0, rfl, h⟩
  obtain ⟨a', n', c', e, h2⟩ := RC_mk.1 (RC.keep hs hk hg _ h1)
  simp [rcs] at e
  obtain ⟨rfl, rfl, rfl⟩ := e
  exact h2
theorem Kd.below {g : Nat → Prop} {W W' : World} {a : Option Addr} {n : Nat} {l : List Rx} (h : Kd g W a n l) (hb : Below W.heap.size W W') : Kd g W' a n l := h.keep hb.size (fun b _ hlt => hb.block b hlt) fun _ h => h
theorem RC.below {g : Nat → Prop} {W W' : World} {r : Rx} {cs : List Value} (h : RC g W r cs) (hb : Below W.heap.size W W') : RC g W' r cs := RC.keep hb.size (fun b _ hlt => hb.block b hlt) (fun _ h => h) r h
theorem Kd.len {g : Nat → Prop} {W : World} {a : Option Addr} {n : Nat} {l : List Rx} (h : Kd g W a n l) : l.length = n := h.1
theorem Kd.lt {g : Nat → Prop} {W : World} {a : Option Addr} {n : Nat} {l : List Rx} (h : Kd g W a n l) : n < 140737488355328 := h.2.1
/-- A kid, with its cells. -/
theorem Kd.get {g : Nat → Prop} {W : World} {a : Option Addr} {n : Nat} {l : List Rx} (h : Kd g W a n l) {i : Nat} (hi : i < n) : ∃ b off k s l' a' n' c', a = some ⟨b, off, none⟩ ∧ g b ∧ b < W.heap.size ∧ l[i]? = some (.mk k s l') ∧ Kd g W a' n' l' ∧
    W.cell? ⟨b, off + i * 6, none⟩ = some (.int .i64 k) ∧ W.cell? ⟨b, off + i * 6 + 1, none⟩ = some (.int .u64 (ws s 0 : Int)) ∧ W.cell? ⟨b, off + i * 6 + 2, none⟩ = some (.int .u64 (ws s 1 : Int)) ∧ W.cell? ⟨b, off + i * 6 + 3, none⟩ = some (.int .u64 (ws s 2 : Int)) ∧ W.cell? ⟨b, off + i * 6 + 4, none⟩ = some (.int .u64 (ws s 3 : Int)) ∧ W.cell? ⟨b, off + i * 6 + 5, none⟩ = some (.slice a' n' c') := by
  obtain ⟨h1, h2, h3⟩ := h
  rcases h3 with h0 | ⟨b, off, rfl, hb, hlt, hK⟩
  · omega
  · have hx : l[i]? = some (l[i]'(by omega)) := List.getElem?_eq_getElem _
    obtain ⟨cs, h4, h5⟩ := RK_get hK hx
    rw [hx]
    generalize l[i]'(by omega) = x at h5
    obtain ⟨k, s, l'⟩ := x
    obtain ⟨a', n', c', rfl, h6⟩ := RC_mk.1 h5
    exact ⟨b, off, k, s, l', a', n', c', rfl, hb, hlt, rfl, h6, h4 0 _ rfl, h4 1 _ rfl, h4 2 _ rfl, h4 3 _ rfl, h4 4 _ rfl, h4 5 _ rfl⟩

end Go.Proofs.YtogpnlkjcdedlaaDoor
