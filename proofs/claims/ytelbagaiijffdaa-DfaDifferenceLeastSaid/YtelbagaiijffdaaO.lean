/-
  The arguments opened: automata, tokens, definitions of tokens, bytes.
-/
import Derived.Test.YtelbagaiijffdaaOp
import Derived.Test.YtelbagaiijffdaaA
import Derived.Test.YtelbagaiijffdaaRows
set_option linter.unusedSimpArgs false
set_option linter.unusedVariables false
namespace Go.Proofs.Ytelbagaiijffdaa
open Go.ChangeShapes Go.WideShapes Go.ChangeAt Go.RowKit Lx Go.Frame
open Go.ChangeMaps (open_string shut_string)

theorem own : ownKnob Try.prog.godebug = none := by kernel_rfl
theorem laidOut : laidOutB Try.prog = true := by kernel_rfl
theorem cT3 : Try.prog.cellsOf 3 = 1 := by kernel_rfl
theorem cT4 : Try.prog.cellsOf 4 = 1 := by kernel_rfl
theorem cT9 : Try.prog.cellsOf 9 = 1 := by kernel_rfl
theorem cT22 : Try.prog.cellsOf 22 = 1 := by kernel_rfl
theorem bT3 : Try.prog.bytesOf 3 = 8 := by kernel_rfl
theorem bT22 : Try.prog.bytesOf 22 = 24 := by kernel_rfl
theorem u8_nat {x : Int} (h : (Lit.int .u8 x : Lit).wf = true) : ∃ n : Nat, x = n ∧ n < 256 := by
  have := bounds_u8 h
  exact ⟨x.toNat, by omega, by omega⟩
section
variable {H : Type} {enc : TypeId × Value → H} {w : World} {base : Nat} {sp : Nat → Bool} {held : Bool}
theorem CRow.one {W : World} {p : Option Addr} {n : Nat} {l : List Value} (h : CRow 1 W p n (l.map fun v => [v])) : Row W p n l := by
  refine ⟨by have := h.1; simpa using this, h.2.imp id ?_⟩
  rintro ⟨b, off, rfl, hb, hx⟩
  refine ⟨b, off, rfl, hb, fun i x hi => ?_⟩
  have := hx i [x] (by rw [List.getElem?_map, hi]; rfl) 0 x rfl
  rw [Nat.mul_one] at this
  exact this
/-- A slice of ints. -/
theorem read_ints {fuel : Nat} {a : Option Addr} {len cap : Nat} {x : DataW H × List MemPlace} (h : DataW.trod enc Try.prog w base sp held fuel 22 [.slice a len cap] = some x) (hz : ∀ n ∈ x.1.weights Try.prog 22, n ≤ reachBytes) :
    ∃ E : List Int, Row w a len (E.map iv) ∧ len ≤ 140737488355328 ∧ ∀ e ∈ E, -9223372036854775808 ≤ e ∧ e ≤ 9223372036854775807 := by
  obtain ⟨C, hC, ⟨k, hk, hkl⟩, hd⟩ := open_rows Try.underlying22 (by rw [cT3]; decide) h
  rw [cT3] at hC hd
  have hlen : len ≤ 140737488355328 := by
    rw [bT3] at hkl
    rcases hk with rfl | hk
    · omega
    · have := hz k hk
      unfold reachBytes at this
      omega
  have hdata := hC.data (fun e : Int => [iv e]) (fun e => -9223372036854775808 ≤ e ∧ e ≤ 9223372036854775807) fun cs hcs => ?_
  · obtain ⟨E, h1, h2⟩ := hdata
    refine ⟨E, CRow.one ?_, hlen, h2⟩
    rw [List.map_map]
    exact h1
  obtain ⟨hl, n, y, hy, hw⟩ := hd cs hcs
  match cs, hl with
  | [v0], _ =>
    obtain ⟨q, hq, _, hi⟩ := DataW.trod_int Try.underlying3 hy
    obtain rfl : v0 = .int .i64 q := by simpa using hq
    exact ⟨q, rfl, (bounds_i64 hi).1, (bounds_i64 hi).2⟩
/-- A slice of rows of ints. -/
theorem read_rows {fuel : Nat} {a : Option Addr} {len cap : Nat} {x : DataW H × List MemPlace} (h : DataW.trod enc Try.prog w base sp held fuel 23 [.slice a len cap] = some x) (hz : ∀ n ∈ x.1.weights Try.prog 23, n ≤ reachBytes) :
    ∃ E : List (List Int), Rows2 w a len E ∧ len ≤ 140737488355328 := by
  obtain ⟨C, hC, ⟨k, hk, hkl⟩, hd⟩ := open_rows Try.underlying23 (by rw [cT22]; decide) h
  rw [cT22] at hC hd
  have hlen : len ≤ 140737488355328 := by
    rw [bT22] at hkl
    rcases hk with rfl | hk
    · omega
    · have := hz k hk
      unfold reachBytes at this
      omega
  have hdata := hC.data (fun e : Option Addr × Nat × List Int => [.slice e.1 e.2.2.length e.2.1]) (fun e => Row w e.1 e.2.2.length (e.2.2.map iv) ∧ e.2.2.length ≤ 140737488355328) fun cs hcs => ?_
  · obtain ⟨E, h1, h2⟩ := hdata
    refine ⟨E.map fun e => e.2.2, ⟨by have := h1.1; simpa using this, h1.2.imp id ?_⟩, hlen⟩
    rintro ⟨b, off, rfl, hb, hx⟩
    refine ⟨b, off, rfl, hb, fun i r hi => ?_⟩
    rw [List.getElem?_map] at hi
    obtain ⟨e, he, rfl⟩ := Option.map_eq_some_iff.1 hi
    have h3 := hx i [.slice e.1 e.2.2.length e.2.1] (by rw [List.getElem?_map, he]; rfl) 0 _ rfl
    rw [Nat.mul_one] at h3
    obtain ⟨h4, h5⟩ := h2 e (List.mem_of_getElem? he)
    exact ⟨e.1, e.2.1, h3, h4, h5⟩
  obtain ⟨hl, n, y, hy, hw⟩ := hd cs hcs
  match cs, hl with
  | [v0], _ =>
    obtain ⟨ra, m, rc, f0⟩ := Go.Joins.slice_form Try.underlying22 hy
    obtain rfl : v0 = .slice ra m rc := by simpa using f0
    obtain ⟨E, hE, hm, _⟩ := read_ints hy (fun n hn => hz n (hw n hn))
    have hl : E.length = m := by have := hE.1; simpa using this
    exact ⟨(ra, rc, E), by rw [hl], by rw [hl]; exact hE, by rw [hl]; exact hm⟩
/-- An automaton. -/
theorem open_dfa {r : Reach} {b0 : Nat} {v : Value} {d : DataW H} {p : List MemPlace} (hv : Value.okWide Try.prog w r b0 25 v) (h : DataW.Trod enc Try.prog w base sp held 25 v d p) (hz : ∀ n ∈ d.weights Try.prog 25, n ≤ reachBytes) :
    ∃ (D : Df) (a1 : Option Addr) (n1 c1 : Nat) (a2 : Option Addr) (n2 c2 : Nat) (a3 : Option Addr) (n3 c3 : Nat), v = .agg #[.slice a1 n1 c1, .slice a2 n2 c2, .slice a3 n3 c3] ∧ DA w D a1 n1 a2 n2 a3 n3 := by
  obtain ⟨v0, v1, v2, y0, y1, y2, n, rfl, hD, _, e0, e1, e2⟩ := Go.Joins.open_agg3 Try.underlying25 (by kernel_rfl) (by kernel_rfl) hv h
  obtain ⟨a1, n1, c1, f0⟩ := Go.Joins.slice_form Try.underlying22 e0
  obtain rfl : v0 = .slice a1 n1 c1 := by simpa using f0
  obtain ⟨a2, n2, c2, f1⟩ := Go.Joins.slice_form Try.underlying23 e1
  obtain rfl : v1 = .slice a2 n2 c2 := by simpa using f1
  obtain ⟨a3, n3, c3, f2⟩ := Go.Joins.slice_form Try.underlying22 e2
  obtain rfl : v2 = .slice a3 n3 c3 := by simpa using f2
  obtain ⟨C, hC, h1, _⟩ := read_ints e0 (fun n hn => hz n (by rw [hD]; simp [DataW.weights, Try.underlying25, DataW.weightsEach]; exact .inl hn))
  obtain ⟨N, hN, h2⟩ := read_rows e1 (fun n hn => hz n (by rw [hD]; simp [DataW.weights, Try.underlying25, DataW.weightsEach]; exact .inr (.inl hn)))
  obtain ⟨A, hA, h3, hmx⟩ := read_ints e2 (fun n hn => hz n (by rw [hD]; simp [DataW.weights, Try.underlying25, DataW.weightsEach]; exact .inr (.inr hn)))
  exact ⟨⟨C, N, A⟩, a1, n1, c1, a2, n2, c2, a3, n3, c3, rfl, ⟨hC, hN, hA, h1, h2, h3, fun x hx => (hmx x hx).2⟩⟩
theorem open_u8 {r : Reach} {b0 : Nat} {v : Value} {d : DataW H} {p : List MemPlace} (hv : Value.okWide Try.prog w r b0 5 v) (h : DataW.Trod enc Try.prog w base sp held 5 v d p) : ∃ n : Nat, v = .int .u8 (n : Int) ∧ n < 256 := by
  obtain ⟨x, rfl, _, _, w0⟩ := open_int Try.underlying5 hv h
  obtain ⟨a, rfl, ha⟩ := u8_nat w0
  exact ⟨a, rfl, ha⟩
end
end Go.Proofs.Ytelbagaiijffdaa
