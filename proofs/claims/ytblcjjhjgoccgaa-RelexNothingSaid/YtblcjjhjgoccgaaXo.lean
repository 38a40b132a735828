/-
  The arguments opened: Ask, edits, two bytes.
-/
import Derived.Test.YtblcjjhjgoccgaaO
import Derived.Test.YtblcjjhjgoccgaaM6
set_option linter.unusedSimpArgs false
set_option linter.unusedVariables false
namespace Go.Proofs.Ytblcjjhjgoccgaa
open Go.ChangeShapes Go.WideShapes Go.ChangeAt Go.RowKit Lx Go.Frame
open Go.ChangeMaps (open_string shut_string)

theorem cT25 : Try.prog.cellsOf 25 = 3 := by kernel_rfl
theorem cT27 : Try.prog.cellsOf 27 = 3 := by kernel_rfl
theorem cT29 : Try.prog.cellsOf 29 = 7 := by kernel_rfl
theorem cT23 : Try.prog.cellsOf 23 = 1 := by kernel_rfl
theorem cT5 : Try.prog.cellsOf 5 = 1 := by kernel_rfl
theorem cT48 : Try.prog.cellsOf 48 = 2 := by kernel_rfl
theorem bT27 : Try.prog.bytesOf 27 = 32 := by kernel_rfl
/-- An edit's numbers are numbers, its text is short. -/
def In (e : Te.Ed) : Prop := -9223372036854775808 ≤ e.1 ∧ e.1 ≤ 9223372036854775807 ∧ -9223372036854775808 ≤ e.2.1 ∧ e.2.1 ≤ 9223372036854775807 ∧ e.2.2.size ≤ 140737488351232
def edl (e : Te.Ed) : List Value := [.int .i64 e.1, .int .i64 e.2.1, .string e.2.2]
/-- A slice of edits in memory. -/
def QRow (W : World) (p : Option Addr) (n : Nat) (E : List Te.Ed) : Prop := CRow 3 W p n (E.map edl)
theorem QRow.below {W W' : World} {p : Option Addr} {n : Nat} {E : List Te.Ed} (h : QRow W p n E) (hb : Below W.heap.size W W') : QRow W' p n E := CRow.below h hb
theorem QRow.len {W : World} {p : Option Addr} {n : Nat} {E : List Te.Ed} (h : QRow W p n E) : E.length = n := by have := h.1; simpa using this
theorem qrow_at {W : World} {p : Option Addr} {n i : Nat} {E : List Te.Ed} (h : QRow W p n E) (hi : i < n) : ∃ b off e, p = some ⟨b, off, none⟩ ∧ b < W.heap.size ∧ E[i]? = some e ∧ W.cell? ⟨b, off + i * 3, none⟩ = some (.int .i64 e.1) ∧ W.cell? ⟨b, off + i * 3 + 1, none⟩ = some (.int .i64 e.2.1) ∧ W.cell? ⟨b, off + i * 3 + 2, none⟩ = some (.string e.2.2) := by
  have hl := h.len
  rcases h.2 with h0 | ⟨b, off, rfl, hb, hx⟩
  · omega
  · have hil : i < E.length := by omega
    have hc : (E.map edl)[i]? = some (edl E[i]) := by rw [List.getElem?_map, List.getElem?_eq_getElem hil]; rfl
    exact ⟨b, off, E[i], rfl, hb, List.getElem?_eq_getElem hil, hx i _ hc 0 _ rfl, hx i _ hc 1 _ rfl, hx i _ hc 2 _ rfl⟩
section
variable {H : Type} {enc : TypeId × Value → H} {w : World} {base : Nat} {sp : Nat → Bool} {held : Bool}
theorem read_edit {n : Nat} {v0 v1 v2 : Value} {y : DataW H × List MemPlace} (hy : DataW.trod enc Try.prog w base sp held n 27 [v0, v1, v2] = some y) (hz : ∀ n ∈ y.1.weights Try.prog 27, n ≤ reachBytes) :
    ∃ e : Te.Ed, v0 = .int .i64 e.1 ∧ v1 = .int .i64 e.2.1 ∧ v2 = .string e.2.2 ∧ In e := by
  obtain ⟨z0, z1, z2, k, hD, _, g0, g1, g2⟩ := Go.Deep.trod_struct3 Try.underlying27 hy
  simp [cT3] at g0 g1
  simp [cT3, cT9] at g2
  obtain ⟨q0, hq0, _, hi0⟩ := DataW.trod_int Try.underlying3 g0
  obtain ⟨q1, hq1, _, hi1⟩ := DataW.trod_int Try.underlying3 g1
  obtain ⟨q2, hq2, hy2, _⟩ := DataW.trod_string Try.underlying9 g2
  refine ⟨(q0, q1, q2), by simpa using hq0, by simpa using hq1, by simpa using hq2, (bounds_i64 hi0).1, (bounds_i64 hi0).2, (bounds_i64 hi1).1, (bounds_i64 hi1).2, hz _ ?_⟩
  rw [hD]
  simp [DataW.weights, Try.underlying27, DataW.weightsEach, hy2]
/-- A slice of edits. -/
theorem open_edits {r : Reach} {b0 : Nat} {v : Value} {d : DataW H} {p : List MemPlace} (hv : Value.okWide Try.prog w r b0 40 v) (h : DataW.Trod enc Try.prog w base sp held 40 v d p) (hz : ∀ n ∈ d.weights Try.prog 40, n ≤ reachBytes) :
    ∃ (E : List Te.Ed) (a : Option Addr) (n c : Nat), v = .slice a n c ∧ QRow w a n E ∧ n ≤ 140737488355328 ∧ ∀ t ∈ E, In t := by
  obtain ⟨a, len, cap, rfl⟩ := okWide_slice Try.underlying40 hv
  obtain ⟨fuel, hf⟩ := h
  have hf' : DataW.trod enc Try.prog w base sp held fuel 40 [.slice a len cap] = some (d, p) := by simpa [Value.cells] using hf
  obtain ⟨C, hC, ⟨k, hk, hkl⟩, hd⟩ := open_rows Try.underlying40 (by rw [cT27]; decide) hf'
  rw [cT27] at hC hd
  have hlen : len ≤ 140737488355328 := by
    rw [bT27] at hkl
    rcases hk with rfl | hk
    · omega
    · have := hz k hk
      unfold reachBytes at this
      omega
  have hdata := hC.data edl In fun cs hcs => ?_
  · obtain ⟨E, h1, h2⟩ := hdata
    exact ⟨E, a, len, cap, rfl, h1, hlen, h2⟩
  obtain ⟨hl, n, y, hy, hw⟩ := hd cs hcs
  match cs, hl with
  | [v0, v1, v2], _ =>
    obtain ⟨e, rfl, rfl, rfl, he⟩ := read_edit hy (fun n hn => hz n (hw n hn))
    exact ⟨e, rfl, he⟩
theorem read_dfa {n : Nat} {v0 v1 v2 : Value} {y : DataW H × List MemPlace} (hy : DataW.trod enc Try.prog w base sp held n 25 [v0, v1, v2] = some y) (hz : ∀ n ∈ y.1.weights Try.prog 25, n ≤ reachBytes) :
    ∃ (D : Df) (a1 : Option Addr) (n1 c1 : Nat) (a2 : Option Addr) (n2 c2 : Nat) (a3 : Option Addr) (n3 c3 : Nat), v0 = .slice a1 n1 c1 ∧ v1 = .slice a2 n2 c2 ∧ v2 = .slice a3 n3 c3 ∧ DA w D a1 n1 a2 n2 a3 n3 := by
  obtain ⟨z0, z1, z2, k, hD, _, e0, e1, e2⟩ := Go.Deep.trod_struct3 Try.underlying25 hy
  simp [cT22] at e0 e2
  simp [cT22, cT23] at e1 e2
  obtain ⟨a1, n1, c1, f0⟩ := Go.Joins.slice_form Try.underlying22 e0
  obtain rfl : v0 = .slice a1 n1 c1 := by simpa using f0
  obtain ⟨a2, n2, c2, f1⟩ := Go.Joins.slice_form Try.underlying23 e1
  obtain rfl : v1 = .slice a2 n2 c2 := by simpa using f1
  obtain ⟨a3, n3, c3, f2⟩ := Go.Joins.slice_form Try.underlying22 e2
  obtain rfl : v2 = .slice a3 n3 c3 := by simpa using f2
  obtain ⟨C, hC, h1, _⟩ := read_ints e0 (fun n hn => hz n (by rw [hD]; simp [DataW.weights, Try.underlying25, DataW.weightsEach]; exact .inl hn))
  obtain ⟨N, hN, h2⟩ := read_rows e1 (fun n hn => hz n (by rw [hD]; simp [DataW.weights, Try.underlying25, DataW.weightsEach]; exact .inr (.inl hn)))
  obtain ⟨A, hA, h3, hmx⟩ := read_ints e2 (fun n hn => hz n (by rw [hD]; simp [DataW.weights, Try.underlying25, DataW.weightsEach]; exact .inr (.inr hn)))
  exact ⟨⟨C, N, A⟩, a1, n1, c1, a2, n2, c2, a3, n3, c3, rfl, rfl, rfl, ⟨hC, hN, hA, h1, h2, h3, fun x hx => (hmx x hx).2⟩⟩
/-- An automaton, a text and an edit. -/
theorem open_ask {r : Reach} {b0 : Nat} {v : Value} {d : DataW H} {p : List MemPlace} (hv : Value.okWide Try.prog w r b0 29 v) (h : DataW.Trod enc Try.prog w base sp held 29 v d p) (hz : ∀ n ∈ d.weights Try.prog 29, n ≤ reachBytes) :
    ∃ (D : Df) (a1 : Option Addr) (n1 c1 : Nat) (a2 : Option Addr) (n2 c2 : Nat) (a3 : Option Addr) (n3 c3 : Nat) (s : ByteArray) (e : Te.Ed), v = .agg #[.slice a1 n1 c1, .slice a2 n2 c2, .slice a3 n3 c3, .string s, .int .i64 e.1, .int .i64 e.2.1, .string e.2.2] ∧ DA w D a1 n1 a2 n2 a3 n3 ∧ s.size ≤ 140737488351232 ∧ In e := by
  obtain ⟨cs, rfl, hsz⟩ := okWide_struct Try.underlying29 hv
  rw [cT29] at hsz
  obtain ⟨l⟩ := cs
  obtain ⟨c0, c1, c2, c3, c4, c5, c6, rfl⟩ : ∃ c0 c1 c2 c3 c4 c5 c6, l = [c0, c1, c2, c3, c4, c5, c6] := by
    match l, hsz with
    | [c0, c1, c2, c3, c4, c5, c6], _ => exact ⟨c0, c1, c2, c3, c4, c5, c6, rfl⟩
  obtain ⟨fuel, hf⟩ := h
  obtain ⟨y0, y1, y2, n, hx, _, h0, h1, h2⟩ := Go.Deep.trod_struct3 Try.underlying29 hf
  simp [cT25, Value.cells] at h0
  simp [cT9, Value.cells] at h1
  simp [cT27, Value.cells] at h2
  simp only [Prod.mk.injEq] at hx
  obtain ⟨D, a1, n1, k1, a2, n2, k2, a3, n3, k3, rfl, rfl, rfl, hD⟩ := read_dfa h0 (fun n hn => hz n (by rw [hx.1]; simp [DataW.weights, Try.underlying29, DataW.weightsEach]; exact .inl hn))
  obtain ⟨s, hs, hy1, _⟩ := DataW.trod_string Try.underlying9 h1
  obtain rfl : c3 = .string s := by simpa using hs
  obtain ⟨e, rfl, rfl, rfl, he⟩ := read_edit h2 (fun n hn => hz n (by rw [hx.1]; simp [DataW.weights, Try.underlying29, DataW.weightsEach]; exact .inr (.inr hn)))
  refine ⟨D, a1, n1, k1, a2, n2, k2, a3, n3, k3, s, e, rfl, hD, hz _ ?_, he⟩
  rw [hx.1]
  simp [DataW.weights, Try.underlying29, DataW.weightsEach, hy1]
theorem open_two {r : Reach} {b0 : Nat} {v : Value} {d : DataW H} {p : List MemPlace} (hv : Value.okWide Try.prog w r b0 48 v) (h : DataW.Trod enc Try.prog w base sp held 48 v d p) : ∃ x y : Nat, v = .agg #[.int .u8 (x : Int), .int .u8 (y : Int)] ∧ x < 256 ∧ y < 256 := by
  obtain ⟨cs, rfl, hsz, _⟩ : ∃ cs, v = .agg cs ∧ cs.size = Try.prog.cellsOf 48 ∧ Row.okWide Try.prog w r b0 48 cs := by
    simpa [Value.okWide, Try.underlying48] using hv
  obtain ⟨fuel, hf⟩ := h
  obtain ⟨l⟩ := cs
  rw [cT48] at hsz
  obtain ⟨c0, c1, rfl⟩ : ∃ c0 c1, l = [c0, c1] := by
    match l, hsz with
    | [c0, c1], _ => exact ⟨c0, c1, rfl⟩
  obtain ⟨xs, m, _, _, _, hxl, hall⟩ := DataW.trod_array Try.underlying48 hf
  have h0 := hall 0 (by decide)
  have h1 := hall 1 (by decide)
  rw [cT5] at h0 h1
  obtain ⟨y0, y1, rfl⟩ : ∃ y0 y1, xs = [y0, y1] := by
    match xs, hxl with
    | [y0, y1], _ => exact ⟨y0, y1, rfl⟩
  have g0 : DataW.trod enc Try.prog w base sp held m 5 [c0] = some y0 := by simpa [Value.cells] using h0
  have g1 : DataW.trod enc Try.prog w base sp held m 5 [c1] = some y1 := by simpa [Value.cells] using h1
  obtain ⟨q0, hq0, _, hi0⟩ := DataW.trod_int Try.underlying5 g0
  obtain ⟨q1, hq1, _, hi1⟩ := DataW.trod_int Try.underlying5 g1
  obtain rfl : c0 = .int .u8 q0 := by simpa using hq0
  obtain rfl : c1 = .int .u8 q1 := by simpa using hq1
  obtain ⟨x, rfl, hx⟩ := u8_nat hi0
  obtain ⟨y, rfl, hy⟩ := u8_nat hi1
  exact ⟨x, y, rfl, hx, hy⟩
end
end Go.Proofs.Ytblcjjhjgoccgaa
