/-
  What the laws share: the arguments opened.
-/
import Derived.Test.YtclebcpapcoafaaG
import Derived.Test.YtclebcpapcoafaaRows
import Derived.ChangeOld
import Derived.Lib.SmallJoins
namespace Go.Proofs.Ytclebcpapcoafaa
open Go.ChangeShapes Go.WideShapes Go.ChangeAt Go.RowKit Go.Frame Te
open Go.ChangeMaps (open_string shut_string)

theorem own : ownKnob Try.prog.godebug = none := by kernel_rfl
theorem laidOut : laidOutB Try.prog = true := by kernel_rfl

/-- What came in of an edit: numbers that are ints, a string that a machine can hold. -/
def In (e : Ed) : Prop := -9223372036854775808 ≤ e.1 ∧ e.1 ≤ 9223372036854775807 ∧ -9223372036854775808 ≤ e.2.1 ∧ e.2.1 ≤ 9223372036854775807 ∧ e.2.2.size ≤ 140737488351232

theorem open_edit {H : Type} {enc : TypeId × Value → H} {w : World} {r : Reach} {b0 base : Nat} {sp : Nat → Bool} {held : Bool} {v : Value} {d : DataW H} {p : List MemPlace} (hv : Value.okWide Try.prog w r b0 23 v) (h : DataW.Trod enc Try.prog w base sp held 23 v d p)
    (hz : ∀ n ∈ d.weights Try.prog 23, n ≤ reachBytes) : ∃ (a d : Int) (s : ByteArray), v = .agg #[.int .i64 a, .int .i64 d, .string s] ∧ In (a, d, s) := by
  obtain ⟨c0, c1, c2, y0, y1, y2, m, rfl, hD, _, e0, e1, e2⟩ := Go.Joins.open_agg3 Try.underlying23 (by kernel_rfl) (by kernel_rfl) hv h
  obtain ⟨a, ha, _, ha'⟩ := DataW.trod_int Try.underlying3 e0
  obtain ⟨d, hd, _, hd'⟩ := DataW.trod_int Try.underlying3 e1
  obtain ⟨s, hs, hy2, _⟩ := DataW.trod_string Try.underlying9 e2
  obtain rfl : c0 = .int .i64 a := by simpa using ha
  obtain rfl : c1 = .int .i64 d := by simpa using hd
  obtain rfl : c2 = .string s := by simpa using hs
  refine ⟨a, d, s, rfl, (bounds_i64 ha').1, (bounds_i64 ha').2, (bounds_i64 hd').1, (bounds_i64 hd').2, ?_⟩
  refine hz _ ?_
  rw [hD]
  simp [DataW.weights, Try.underlying23, DataW.weightsEach, hy2]

theorem weightsAll_mem {H : Type} {P : Program} {e : TypeId} : ∀ {l : List (DataW H)} {d : DataW H}, d ∈ l → ∀ n ∈ d.weights P e, n ∈ DataW.weightsAll P e l
  | d' :: r, d, hd, n, hn => by
    simp only [DataW.weightsAll, List.mem_append]
    rcases List.mem_cons.1 hd with rfl | h
    · exact Or.inl hn
    · exact Or.inr (weightsAll_mem h n hn)
theorem add_at (b off k : Nat) : (⟨b, off, none⟩ : Addr).add k = ⟨b, off + k, none⟩ := by
  unfold Addr.add
  split <;> simp_all
theorem open_edits {H : Type} {enc : TypeId × Value → H} {w : World} {base : Nat} {spare : Nat → Bool} {held : Bool} {fuel : Nat} {a : Option Addr} {len cap : Nat} {x : DataW H × List MemPlace}
    (h : DataW.trod enc Try.prog w base spare held fuel 26 [.slice a len cap] = some x) (hz : ∀ n ∈ x.1.weights Try.prog 26, n ≤ reachBytes) : ∃ E : List Ed, Row w a len E ∧ ∀ e ∈ E, In e := by
  rcases Go.Deep.open_slice Try.underlying26 h with ⟨hc, _⟩ | ⟨y, l, c, m, n, D, Pl, hc, _, hl, hm, hmm, hxe, hx⟩
  · simp at hc
    exact ⟨[], ⟨hc.2.1.symm, .inl hc.2.1⟩, by simp⟩
  · simp at hc
    obtain ⟨rfl, rfl, rfl⟩ := hc
    by_cases h0 : len = 0
    · exact ⟨[], ⟨h0.symm, .inl h0⟩, by simp⟩
    have c32 : Try.prog.cellsOf 23 = 3 := by kernel_rfl
    have hlm : len ≤ m := by rw [hmm]; split <;> omega
    have each : ∀ i, i < len → ∃ q : Ed, (w.cell? (y.add (i * 3)) = some (.int .i64 q.1) ∧ w.cell? (y.add (i * 3 + 1)) = some (.int .i64 q.2.1) ∧ w.cell? (y.add (i * 3 + 2)) = some (.string q.2.2)) ∧ In q := by
      intro i hi
      obtain ⟨cs', h1, h2⟩ := hx i (by omega)
      rw [c32] at h1
      obtain ⟨_, hlen, hcell⟩ := World.cells?_some h1
      match cs', hlen with
      | [v0, v1, v2], _ =>
        obtain ⟨y0, y1, y2, k, hD, _, g0, g1, g2⟩ := Go.Deep.trod_struct3 Try.underlying23 h2
        have e3 : Try.prog.cellsOf 3 = 1 := by kernel_rfl
        have e9 : Try.prog.cellsOf 9 = 1 := by kernel_rfl
        simp [e3] at g0 g1
        simp [e9] at g2
        obtain ⟨q0, hq0, _, hi0⟩ := DataW.trod_int Try.underlying3 g0
        obtain ⟨q1, hq1, _, hi1⟩ := DataW.trod_int Try.underlying3 g1
        obtain ⟨q2, hq2, hy2, _⟩ := DataW.trod_string Try.underlying9 g2
        obtain rfl : v0 = .int .i64 q0 := by simpa using hq0
        obtain rfl : v1 = .int .i64 q1 := by simpa using hq1
        obtain rfl : v2 = .string q2 := by simpa using hq2
        have u0 := hcell 0 (by omega)
        have u1 := hcell 1 (by omega)
        have u2 := hcell 2 (by omega)
        rw [Go.Deep.add_add] at u0 u1 u2
        have hz2 : q2.size ≤ 140737488351232 := by
          subst hxe
          simp only [Prod.mk.injEq] at hD
          refine hz _ ?_
          have hmem : D i ∈ (List.range len).map D := List.mem_map.2 ⟨i, by simpa using hi, rfl⟩
          have e : q2.size ∈ (D i).weights Try.prog 23 := by
            rw [hD.1]
            simp [DataW.weights, Try.underlying23, DataW.weightsEach, hy2]
          simp only [DataW.weights, Try.underlying26, List.mem_cons, List.mem_append]
          exact .inr (.inl (weightsAll_mem hmem _ e))
        exact ⟨(q0, q1, q2), ⟨by simpa using u0, by simpa using u1, by simpa using u2⟩, (bounds_i64 hi0).1, (bounds_i64 hi0).2, (bounds_i64 hi1).1, (bounds_i64 hi1).2, hz2⟩
    obtain ⟨f, hf⟩ : ∃ f : Nat → Ed, ∀ i, i < len → (w.cell? (y.add (i * 3)) = some (.int .i64 (f i).1) ∧ w.cell? (y.add (i * 3 + 1)) = some (.int .i64 (f i).2.1) ∧ w.cell? (y.add (i * 3 + 2)) = some (.string (f i).2.2)) ∧ In (f i) :=
      ⟨fun i => if h : i < len then Classical.choose (each i h) else (0, 0, .empty), fun i hi => by simp only [hi, dif_pos]; exact Classical.choose_spec (each i hi)⟩
    obtain ⟨b, off, spot⟩ := y
    have hs0 := (hf 0 (by omega)).1.1
    obtain rfl : spot = none := by simpa [Addr.add] using World.cell?_spot hs0
    have hb : b < w.heap.size := by
      by_cases hb : b < w.heap.size
      · exact hb
      · exfalso
        have : w.cell? ⟨b, off, none⟩ = none := by unfold World.cell?; rw [Array.getElem?_eq_none (by simpa using hb)]
        simp [Addr.add] at hs0
        rw [this] at hs0; cases hs0
    refine ⟨(List.range len).map f, ⟨by simp, .inr ⟨b, off, rfl, hb, fun i x hi => ?_⟩⟩, ?_⟩
    · have hil := (List.getElem?_eq_some_iff.1 hi).1
      simp at hil
      simp [hil] at hi
      subst hi
      have := (hf i hil).1
      rw [add_at, add_at, add_at] at this
      exact this
    · intro e he
      obtain ⟨i, hi, rfl⟩ := List.mem_map.1 he
      exact (hf i (by simpa using hi)).2

theorem In.big {E : List Ed} (h : ∀ e ∈ E, In e) : Big E := fun x hx => (h x hx).2.1
theorem In.sum : ∀ {E : List Ed}, (∀ e ∈ E, In e) → sz E ≤ E.length * 140737488351232
  | [], _ => by simp [sz]
  | e :: E, h => by
    have h1 := (h e (by simp)).2.2.2.2
    have h2 := In.sum (fun x hx => h x (List.mem_cons_of_mem _ hx))
    simp only [sz, List.length_cons]
    rw [Nat.add_mul]
    omega
theorem In.few {E : List Ed} (h : ∀ e ∈ E, In e) : E.length ≤ 12 → sz E ≤ 1000000000000000000 := fun hl => by
  have := In.sum h
  have : E.length * 140737488351232 ≤ 12 * 140737488351232 := Nat.mul_le_mul_right _ hl
  omega
theorem apAll_size : ∀ {E : List Ed} {s t : ByteArray}, apAll s E = some t → t.size ≤ s.size + sz E
  | [], s, t, h => by simp [apAll] at h; subst h; simp [sz]
  | e :: E, s, t, h => by
    simp only [apAll] at h
    by_cases hf : Fit s.size e
    · rw [if_pos hf] at h
      have h1 := apAll_size h
      have h2 := ap_le hf
      simp only [sz]
      omega
    · rw [if_neg hf] at h; cases h
theorem ivs_big : ∀ {E : List Ed} {s t : ByteArray}, apAll s E = some t → s.size + sz E ≤ 1000000 → Big (ivs s E)
  | [], s, t, h, hz => by intro x hx; simp [ivs] at hx
  | e :: E, s, t, h, hz => by
    simp only [apAll] at h
    simp only [sz] at hz
    by_cases hf : Fit s.size e
    · rw [if_pos hf] at h
      have h2 := ap_le hf
      have h1 := ivs_big h (by omega)
      intro x hx
      simp only [ivs, List.mem_append, List.mem_singleton] at hx
      rcases hx with hx | rfl
      · exact h1 x hx
      · have e1 := hf.2.2
        have e2 := hf.2.1
        simp only [inv]
        omega
    · rw [if_neg hf] at h; cases h
theorem Few.sum {s : ByteArray} {E : List Ed} (h : Few s E) : s.size + sz E ≤ 1000000 := by have := h.1; have := h.2.2; omega
end Go.Proofs.Ytclebcpapcoafaa
