/-
  What the laws share: the arguments opened.
-/
import Derived.Test.YtcmoehjalgppmaaH
import Derived.Test.YtcmoehjalgppmaaRows
import Derived.ChangeOld
import Derived.Lib.SmallJoins
namespace Go.Proofs.Ytcmoehjalgppmaa
open Go.ChangeShapes Go.WideShapes Go.ChangeAt Go.RowKit Go.Frame Te
open Go.ChangeMaps (open_string shut_string)

/-- A slice of edits in memory. -/
def ERow (W : World) (p : Option Addr) (n : Nat) (E : List Ed) : Prop :=
  E.length = n ∧ (n = 0 ∨ ∃ b off, p = some ⟨b, off, none⟩ ∧ b < W.heap.size ∧ ∀ i (x : Ed), E[i]? = some x →
    W.cell? ⟨b, off + i * 3, none⟩ = some (.int .i64 x.1) ∧ W.cell? ⟨b, off + i * 3 + 1, none⟩ = some (.int .i64 x.2.1) ∧ W.cell? ⟨b, off + i * 3 + 2, none⟩ = some (.string x.2.2))
theorem ERow.below {W W' : World} {p : Option Addr} {n : Nat} {E : List Ed} (h : ERow W p n E) (hb : Below W.heap.size W W') : ERow W' p n E := by
  refine ⟨h.1, h.2.imp id ?_⟩
  rintro ⟨b, off, rfl, hlt, hx⟩
  refine ⟨b, off, rfl, Nat.lt_of_lt_of_le hlt hb.size, fun i x hi => ?_⟩
  obtain ⟨h1, h2, h3⟩ := hx i x hi
  exact ⟨(hb.cell (p := ⟨b, _, none⟩) hlt).trans h1, (hb.cell (p := ⟨b, _, none⟩) hlt).trans h2, (hb.cell (p := ⟨b, _, none⟩) hlt).trans h3⟩
theorem own : ownKnob Try.prog.godebug = none := by kernel_rfl
theorem laidOut : laidOutB Try.prog = true := by kernel_rfl

/-- What came in of an edit: numbers that are ints, a string that a machine can hold. -/
def In (e : Ed) : Prop := -9223372036854775808 ≤ e.1 ∧ e.1 ≤ 9223372036854775807 ∧ -9223372036854775808 ≤ e.2.1 ∧ e.2.1 ≤ 9223372036854775807 ∧ e.2.2.size ≤ 140737488351232

theorem open_edit {H : Type} {enc : TypeId × Value → H} {w : World} {r : Reach} {b0 base : Nat} {sp : Nat → Bool} {held : Bool} {v : Value} {d : DataW H} {p : List MemPlace} (hv : Value.okWide Try.prog w r b0 45 v) (h : DataW.Trod enc Try.prog w base sp held 45 v d p)
    (hz : ∀ n ∈ d.weights Try.prog 45, n ≤ reachBytes) : ∃ (a d : Int) (s : ByteArray), v = .agg #[.int .i64 a, .int .i64 d, .string s] ∧ In (a, d, s) := by
  obtain ⟨c0, c1, c2, y0, y1, y2, m, rfl, hD, _, e0, e1, e2⟩ := Go.Joins.open_agg3 Try.underlying45 (by kernel_rfl) (by kernel_rfl) hv h
  obtain ⟨a, ha, _, ha'⟩ := DataW.trod_int Try.underlying3 e0
  obtain ⟨d, hd, _, hd'⟩ := DataW.trod_int Try.underlying3 e1
  obtain ⟨s, hs, hy2, _⟩ := DataW.trod_string Try.underlying9 e2
  obtain rfl : c0 = .int .i64 a := by simpa using ha
  obtain rfl : c1 = .int .i64 d := by simpa using hd
  obtain rfl : c2 = .string s := by simpa using hs
  refine ⟨a, d, s, rfl, (bounds_i64 ha').1, (bounds_i64 ha').2, (bounds_i64 hd').1, (bounds_i64 hd').2, ?_⟩
  refine hz _ ?_
  rw [hD]
  simp [DataW.weights, Try.underlying45, DataW.weightsEach, hy2]

theorem weightsAll_mem {H : Type} {P : Program} {e : TypeId} : ∀ {l : List (DataW H)} {d : DataW H}, d ∈ l → ∀ n ∈ d.weights P e, n ∈ DataW.weightsAll P e l
  | d' :: r, d, hd, n, hn => by
    simp only [DataW.weightsAll, List.mem_append]
    rcases List.mem_cons.1 hd with rfl | h
    · exact Or.inl hn
    · exact Or.inr (weightsAll_mem h n hn)
theorem add_at (b off k : Nat) : (⟨b, off, none⟩ : Addr).add k = ⟨b, off + k, none⟩ := by
  unfold Addr.add
  split <;> simp_all
theorem open_edits {H : Type} {enc : TypeId × Value → H} {w : World} {base : Nat} {spare : Nat → Bool} {held : Bool} {fuel : Nat} {a : Option Addr} {len cap : Nat} {x : DataW H × List MemPlace}
    (h : DataW.trod enc Try.prog w base spare held fuel 43 [.slice a len cap] = some x) (hz : ∀ n ∈ x.1.weights Try.prog 43, n ≤ reachBytes) : ∃ E : List Ed, ERow w a len E ∧ ∀ e ∈ E, In e := by
  rcases Go.Deep.open_slice Try.underlying43 h with ⟨hc, _⟩ | ⟨y, l, c, m, n, D, Pl, hc, _, hl, hm, hmm, hxe, hx⟩
  · simp at hc
    exact ⟨[], ⟨hc.2.1.symm, .inl hc.2.1⟩, by simp⟩
  · simp at hc
    obtain ⟨rfl, rfl, rfl⟩ := hc
    by_cases h0 : len = 0
    · exact ⟨[], ⟨h0.symm, .inl h0⟩, by simp⟩
    have c32 : Try.prog.cellsOf 45 = 3 := by kernel_rfl
    have hlm : len ≤ m := by rw [hmm]; split <;> omega
    have each : ∀ i, i < len → ∃ q : Ed, (w.cell? (y.add (i * 3)) = some (.int .i64 q.1) ∧ w.cell? (y.add (i * 3 + 1)) = some (.int .i64 q.2.1) ∧ w.cell? (y.add (i * 3 + 2)) = some (.string q.2.2)) ∧ In q := by
      intro i hi
      obtain ⟨cs', h1, h2⟩ := hx i (by omega)
      rw [c32] at h1
      obtain ⟨_, hlen, hcell⟩ := World.cells?_some h1
      match cs', hlen with
      | [v0, v1, v2], _ =>
        obtain ⟨y0, y1, y2, k, hD, _, g0, g1, g2⟩ := Go.Deep.trod_struct3 Try.underlying45 h2
        have e3 : Try.prog.cellsOf 3 = 1 := by kernel_rfl
        have e9 : Try.prog.cellsOf 9 = 1 := by kernel_rfl
        simp [e3] at g0 g1
        simp [e9] at g2
        obtain ⟨q0, hq0, _, hi0⟩ := DataW.trod_int Try.underlying3 g0
        obtain ⟨q1, hq1, _, hi1⟩ := DataW.trod_int Try.underlying3 g1
        obtain ⟨q2, hq2, hy2, _⟩ := DataW.trod_string Try.underlying9 g2
        obtain rfl : v0 = .int .i64 q0 := by simpa using hq0
        obtain rfl : v1 = .int .i64 q1 := by simpa using hq1
        obtain rfl : v2 = .string q2 := by simpa using hq2
        have u0 := hcell 0 (by omega)
        have u1 := hcell 1 (by omega)
        have u2 := hcell 2 (by omega)
        rw [Go.Deep.add_add] at u0 u1 u2
        have hz2 : q2.size ≤ 140737488351232 := by
          subst hxe
          simp only [Prod.mk.injEq] at hD
          refine hz _ ?_
          have hmem : D i ∈ (List.range len).map D := List.mem_map.2 ⟨i, by simpa using hi, rfl⟩
          have e : q2.size ∈ (D i).weights Try.prog 45 := by
            rw [hD.1]
            simp [DataW.weights, Try.underlying45, DataW.weightsEach, hy2]
          simp only [DataW.weights, Try.underlying43, List.mem_cons, List.mem_append]
          exact .inr (.inl (weightsAll_mem hmem _ e))
        exact ⟨(q0, q1, q2), ⟨by simpa using u0, by simpa using u1, by simpa using u2⟩, (bounds_i64 hi0).1, (bounds_i64 hi0).2, (bounds_i64 hi1).1, (bounds_i64 hi1).2, hz2⟩
    obtain ⟨f, hf⟩ : ∃ f : Nat → Ed, ∀ i, i < len → (w.cell? (y.add (i * 3)) = some (.int .i64 (f i).1) ∧ w.cell? (y.add (i * 3 + 1)) = some (.int .i64 (f i).2.1) ∧ w.cell? (y.add (i * 3 + 2)) = some (.string (f i).2.2)) ∧ In (f i) :=
      ⟨fun i => if h : i < len then Classical.choose (each i h) else (0, 0, .empty), fun i hi => by simp only [hi, dif_pos]; exact Classical.choose_spec (each i hi)⟩
    obtain ⟨b, off, spot⟩ := y
    have hs0 := (hf 0 (by omega)).1.1
    obtain rfl : spot = none := by simpa [Addr.add] using World.cell?_spot hs0
    have hb : b < w.heap.size := by
      by_cases hb : b < w.heap.size
      · exact hb
      · exfalso
        have : w.cell? ⟨b, off, none⟩ = none := by unfold World.cell?; rw [Array.getElem?_eq_none (by simpa using hb)]
        simp [Addr.add] at hs0
        rw [this] at hs0; cases hs0
    refine ⟨(List.range len).map f, ⟨by simp, .inr ⟨b, off, rfl, hb, fun i x hi => ?_⟩⟩, ?_⟩
    · have hil := (List.getElem?_eq_some_iff.1 hi).1
      simp at hil
      simp [hil] at hi
      subst hi
      have := (hf i hil).1
      rw [add_at, add_at, add_at] at this
      exact this
    · intro e he
      obtain ⟨i, hi, rfl⟩ := List.mem_map.1 he
      exact (hf i (by simpa using hi)).2


theorem open_pos {H : Type} {enc : TypeId × Value → H} {w : World} {r : Reach} {b0 base : Nat} {sp : Nat → Bool} {held : Bool} {v : Value} {d : DataW H} {p : List MemPlace} (hv : Value.okWide Try.prog w r b0 30 v) (h : DataW.Trod enc Try.prog w base sp held 30 v d p) :
    ∃ (a d : Int), v = .agg #[.int .i64 a, .int .i64 d] ∧ (-9223372036854775808 ≤ a ∧ a ≤ 9223372036854775807) ∧ -9223372036854775808 ≤ d ∧ d ≤ 9223372036854775807 := by
  obtain ⟨c0, c1, y0, y1, m, rfl, hD, _, e0, e1⟩ := Go.Joins.open_agg2 Try.underlying30 (by kernel_rfl) (by kernel_rfl) hv h
  obtain ⟨a, ha, _, ha'⟩ := DataW.trod_int Try.underlying3 e0
  obtain ⟨d, hd, _, hd'⟩ := DataW.trod_int Try.underlying3 e1
  obtain rfl : c0 = .int .i64 a := by simpa using ha
  obtain rfl : c1 = .int .i64 d := by simpa using hd
  exact ⟨a, d, rfl, bounds_i64 ha', bounds_i64 hd'⟩
end Go.Proofs.Ytcmoehjalgppmaa
