/-
  The arguments opened: automata, lists of states, lists of expressions.
-/
import Derived.Test.YtogpnlkjcdedlaaDoorP
import Derived.Test.YtogpnlkjcdedlaaDoorVa
set_option linter.unusedSimpArgs false
set_option linter.unusedVariables false
namespace Go.Proofs.YtogpnlkjcdedlaaDoor
open Go.RowKit Bs Rg Nf Go.Frame Go.WideShapes Go.ChangeShapes Go.ChangeAt
attribute [local go_sem] eq_zero eq_set

theorem cells55 : Tryd.prog.cellsOf 55 = 7 := by kernel_rfl
theorem bytes55 : Tryd.prog.bytesOf 55 = 56 := by kernel_rfl
theorem bytes3 : Tryd.prog.bytesOf 3 = 8 := by kernel_rfl
theorem cT4 : Tryd.prog.cellsOf 4 = 1 := by kernel_rfl
section
variable {H : Type} {enc : TypeId × Value → H} {w : World} {base : Nat} {sp : Nat → Bool} {held : Bool}
/-- A slice's length, capacity, address. -/
theorem slice_shape {t e : TypeId} {fuel : Nat} {a : Option Addr} {len cap : Nat} {x : DataW H × List MemPlace} (ht : Tryd.prog.underlying t = some (.slice e)) (h : DataW.trod enc Tryd.prog w base sp held fuel t [.slice a len cap] = some x) : len ≤ cap ∧ cap ≤ maxLen ∧ (a = none → cap = 0) := by
  rcases Go.Deep.open_slice ht h with ⟨hc, _⟩ | ⟨y, l, c, m, n, D, Pl, hc', _, hl, hm, _⟩
  · simp at hc
    obtain ⟨rfl, rfl, rfl⟩ := hc
    exact ⟨Nat.le_refl _, Nat.zero_le _, fun _ => rfl⟩
  · simp at hc'
    obtain ⟨rfl, rfl, rfl⟩ := hc'
    exact ⟨hl, hm, fun h => by cases h⟩
theorem CRow.one {W : World} {p : Option Addr} {n : Nat} {l : List Value} (h : CRow 1 W p n (l.map fun v => [v])) : Row W p n l := by
  refine ⟨by have := h.1; simpa using this, h.2.imp id ?_⟩
  rintro ⟨b, off, rfl, hb, hx⟩
  refine ⟨b, off, rfl, hb, fun i x hi => ?_⟩
  have := hx i [x] (by rw [List.getElem?_map, hi]; rfl) 0 x rfl
  rw [Nat.mul_one] at this
  exact this
/-- A slice of ints. -/
theorem read_ints {fuel : Nat} {a : Option Addr} {len cap : Nat} {x : DataW H × List MemPlace} (h : DataW.trod enc Tryd.prog w base sp held fuel 23 [.slice a len cap] = some x) (hz : ∀ n ∈ x.1.weights Tryd.prog 23, n ≤ reachBytes) :
    ∃ E : List Int, Row w a len (E.map iv) ∧ len ≤ 140737488355328 ∧ ∀ e ∈ E, -9223372036854775808 ≤ e ∧ e ≤ 9223372036854775807 := by
  obtain ⟨C, hC, ⟨k, hk, hkl⟩, hd⟩ := open_rows Tryd.underlying23 (by rw [cells3]; decide) h
  rw [cells3] at hC hd
  have hlen : len ≤ 140737488355328 := by
    rw [bytes3] at hkl
    rcases hk with rfl | hk
    · omega
    · have := hz k hk
      unfold reachBytes at this
      omega
  have hdata := hC.data (fun e : Int => [iv e]) (fun e => -9223372036854775808 ≤ e ∧ e ≤ 9223372036854775807) fun cs hcs => ?_
  · obtain ⟨E, h1, h2⟩ := hdata
    refine ⟨E, CRow.one ?_, hlen, h2⟩
    rw [List.map_map]
    exact h1
  obtain ⟨hl, n, y, hy, hw⟩ := hd cs hcs
  match cs, hl with
  | [v0], _ =>
    obtain ⟨q, hq, _, hi⟩ := DataW.trod_int Tryd.underlying3 hy
    obtain rfl : v0 = .int .i64 q := by simpa using hq
    exact ⟨q, rfl, (bounds_i64 hi).1, (bounds_i64 hi).2⟩
/-- A slice of arcs. -/
theorem read_arcs {fuel : Nat} {a : Option Addr} {len cap : Nat} {x : DataW H × List MemPlace} (h : DataW.trod enc Tryd.prog w base sp held fuel 22 [.slice a len cap] = some x) (hz : ∀ n ∈ x.1.weights Tryd.prog 22, n ≤ reachBytes) :
    ∃ E : List Arc, CRow 7 w a len (E.map acs) ∧ len ≤ 140737488355328 ∧ ∀ e ∈ E, (-9223372036854775808 ≤ e.f ∧ e.f ≤ 9223372036854775807) ∧ -9223372036854775808 ≤ e.t ∧ e.t ≤ 9223372036854775807 := by
  obtain ⟨C, hC, ⟨k, hk, hkl⟩, hd⟩ := open_rows Tryd.underlying22 (by rw [cells55]; decide) h
  rw [cells55] at hC hd
  have hlen : len ≤ 140737488355328 := by
    rw [bytes55] at hkl
    rcases hk with rfl | hk
    · omega
    · have := hz k hk
      unfold reachBytes at this
      omega
  have hdata := hC.data acs (fun e => (-9223372036854775808 ≤ e.f ∧ e.f ≤ 9223372036854775807) ∧ -9223372036854775808 ≤ e.t ∧ e.t ≤ 9223372036854775807) fun cs hcs => ?_
  · obtain ⟨E, h1, h2⟩ := hdata
    exact ⟨E, h1, hlen, h2⟩
  obtain ⟨hl, n, y, hy, hw⟩ := hd cs hcs
  match cs, hl with
  | [v0, v1, v2, v3, v4, v5, v6], _ =>
    obtain ⟨y0, y1, y2, y3, k, hD, _, g0, g1, g2, g3⟩ := Go.Joins.trod_struct4 Tryd.underlying55 hy
    simp [cells3] at g0 g1
    simp [cT4] at g2
    simp [cells48] at g3
    obtain ⟨q0, hq0, _, hi0⟩ := DataW.trod_int Tryd.underlying3 g0
    obtain ⟨q1, hq1, _, hi1⟩ := DataW.trod_int Tryd.underlying3 g1
    obtain ⟨q2, hq2, _⟩ := DataW.trod_bool Tryd.underlying4 g2
    obtain ⟨s, hs⟩ := read_set (by rfl) g3
    obtain rfl : v0 = .int .i64 q0 := by simpa using hq0
    obtain rfl : v1 = .int .i64 q1 := by simpa using hq1
    obtain rfl : v2 = .bool q2 := by simpa using hq2
    simp at hs
    obtain ⟨rfl, rfl, rfl, rfl⟩ := hs
    exact ⟨⟨q0, q1, q2, s⟩, rfl, ⟨(bounds_i64 hi0).1, (bounds_i64 hi0).2⟩, (bounds_i64 hi1).1, (bounds_i64 hi1).2⟩
/-- What is known of an automaton that came in. -/
structure InN (W : World) (N : Nfa) (a1 : Option Addr) (m c1 : Nat) (a2 : Option Addr) (k c2 : Nat) : Prop where
  na : NA W N a1 m a2 k
  mc : m ≤ c1
  cc : c1 ≤ maxLen
  nil1 : a1 = none → c1 = 0
  hn : -9223372036854775808 ≤ N.n ∧ N.n ≤ 9223372036854775807
  hst : -9223372036854775808 ≤ N.st ∧ N.st ≤ 9223372036854775807
  kc : k ≤ c2
  cc2 : c2 ≤ maxLen
set_option maxRecDepth 100000 in
theorem open_nfa {r : Reach} {b0 : Nat} {v : Value} {d : DataW H} {p : List MemPlace} (hv : Value.okWide Tryd.prog w r b0 25 v) (h : DataW.Trod enc Tryd.prog w base sp held 25 v d p) (hz : ∀ n ∈ d.weights Tryd.prog 25, n ≤ reachBytes) :
    ∃ (N : Nfa) (a1 : Option Addr) (m c1 : Nat) (a2 : Option Addr) (k c2 : Nat), v = .agg #[.int .i64 N.n, .int .i64 N.st, .slice a1 m c1, .slice a2 k c2] ∧ InN w N a1 m c1 a2 k c2 := by
  obtain ⟨v0, v1, v2, v3, y0, y1, y2, y3, n, rfl, hD, _, e0, e1, e2, e3⟩ := Go.Joins.open_agg4 Tryd.underlying25 (by kernel_rfl) (by kernel_rfl) hv h
  obtain ⟨q0, hq0, _, hi0⟩ := DataW.trod_int Tryd.underlying3 e0
  obtain ⟨q1, hq1, _, hi1⟩ := DataW.trod_int Tryd.underlying3 e1
  obtain rfl : v0 = .int .i64 q0 := by simpa using hq0
  obtain rfl : v1 = .int .i64 q1 := by simpa using hq1
  obtain ⟨a1, m, c1, f2⟩ := Go.Joins.slice_form Tryd.underlying22 e2
  obtain rfl : v2 = .slice a1 m c1 := by simpa using f2
  obtain ⟨a2, k, c2, f3⟩ := Go.Joins.slice_form Tryd.underlying23 e3
  obtain rfl : v3 = .slice a2 k c2 := by simpa using f3
  obtain ⟨E, hE, hm, _⟩ := read_arcs e2 (fun n hn => hz n (by rw [hD]; simp [DataW.weights, Tryd.underlying25, DataW.weightsEach]; exact .inr (.inr (.inl hn))))
  obtain ⟨A, hA, hk, _⟩ := read_ints e3 (fun n hn => hz n (by rw [hD]; simp [DataW.weights, Tryd.underlying25, DataW.weightsEach]; exact .inr (.inr (.inr hn))))
  obtain ⟨s1, s2, s3⟩ := slice_shape Tryd.underlying22 e2
  obtain ⟨r1, r2, _⟩ := slice_shape Tryd.underlying23 e3
  exact ⟨⟨q0, q1, E, A⟩, a1, m, c1, a2, k, c2, rfl, ⟨hE, hA, hm, hk⟩, s1, s2, s3, bounds_i64 hi0, bounds_i64 hi1, r1, r2⟩
set_option maxRecDepth 100000 in
theorem open_ints {r : Reach} {b0 : Nat} {v : Value} {d : DataW H} {p : List MemPlace} (hv : Value.okWide Tryd.prog w r b0 23 v) (h : DataW.Trod enc Tryd.prog w base sp held 23 v d p) (hz : ∀ n ∈ d.weights Tryd.prog 23, n ≤ reachBytes) :
    ∃ (E : List Int) (a : Option Addr) (n c : Nat), v = .slice a n c ∧ Row w a n (E.map iv) ∧ n ≤ 140737488355328 ∧ n ≤ c ∧ c ≤ maxLen ∧ (a = none → c = 0) ∧ ∀ e ∈ E, -9223372036854775808 ≤ e ∧ e ≤ 9223372036854775807 := by
  obtain ⟨a, n, c, rfl⟩ := okWide_slice Tryd.underlying23 hv
  obtain ⟨fuel, hf⟩ := h
  obtain ⟨E, hE, hn, hb⟩ := read_ints (x := (d, p)) (by simpa [Value.cells] using hf) hz
  obtain ⟨r1, r2, r3⟩ := slice_shape (x := (d, p)) Tryd.underlying23 (by simpa [Value.cells] using hf)
  exact ⟨E, a, n, c, rfl, hE, hn, r1, r2, r3, hb⟩
set_option maxRecDepth 100000 in
theorem open_rxs {r : Reach} {b0 : Nat} {v : Value} {d : DataW H} {p : List MemPlace} (hv : Value.okWide Tryd.prog w r b0 37 v) (h : DataW.Trod enc Tryd.prog w base sp held 37 v d p) (hz : ∀ n ∈ d.weights Tryd.prog 37, n ≤ reachBytes) :
    ∃ (l : List Rx) (a : Option Addr) (n c : Nat), v = .slice a n c ∧ Kd (fun _ => True) w a n l ∧ n ≤ c ∧ c ≤ maxLen := by
  obtain ⟨a, n, c, rfl⟩ := okWide_slice Tryd.underlying37 hv
  obtain ⟨fuel, hf⟩ := h
  have hf' : DataW.trod enc Tryd.prog w base sp held fuel 37 [.slice a n c] = some (d, p) := by simpa [Value.cells] using hf
  obtain ⟨r1, r2, _⟩ := slice_shape Tryd.underlying37 hf'
  obtain ⟨C, hC, ⟨k, hk, hkl⟩, hd⟩ := open_rows Tryd.underlying37 (by rw [cells50]; decide) hf'
  rw [cells50] at hC hd
  have hlen : n < 140737488355328 := by
    rw [bytes50] at hkl
    rcases hk with rfl | hk
    · omega
    · have := hz k hk
      unfold reachBytes at this
      omega
  obtain ⟨E, hEl, hE⟩ := choose_list (R := fun cs (q : Rx) => RC (fun _ => True) w q cs) C (fun cs hcs => by
    obtain ⟨hl, m, y, hy, hw⟩ := hd cs hcs
    exact read_rx (SizeOf.sizeOf y.1 + 1) (Nat.lt_succ_self _) hl hy (fun k hk => hz k (hw k hk)))
  have hCl := hC.1
  refine ⟨E, a, n, c, rfl, ⟨by omega, hlen, ?_⟩, r1, r2⟩
  rcases hC.2 with h0 | ⟨b, off, rfl, hb, hx⟩
  · exact .inl h0
  · refine .inr ⟨b, off, rfl, trivial, hb, RK_of fun i q hi => ?_⟩
    have hil := (List.getElem?_eq_some_iff.1 hi).1
    have hCi : C[i]? = some (C[i]'(by omega)) := List.getElem?_eq_getElem _
    obtain ⟨q', h1, h2⟩ := hE i _ hCi
    rw [hi] at h1
    simp only [Option.some.injEq] at h1
    exact ⟨_, fun j v hj => hx i _ hCi j v hj, h1 ▸ h2⟩
end
end Go.Proofs.YtogpnlkjcdedlaaDoor
