/-
  Arguments opened, whatever the seat: a slice whose elements take several cells; what each element is (no program; lies as <Seat>Op, behind <Seat>Ba).
-/
import Derived.Test.YtelbagaiijffdaaBa
import Derived.ChangeOld
import Derived.Deep.Slices
import Derived.Deep.Strs
import Derived.Lib.SmallJoins
namespace Go.Frame
open Go.RowKit Go.WideShapes Go.ChangeShapes Go.ChangeAt

/-- A slice in memory: the cells of each element, c to an element. -/
def CRow (c : Nat) (W : World) (p : Option Addr) (n : Nat) (C : List (List Value)) : Prop :=
  C.length = n ∧ (n = 0 ∨ ∃ b off, p = some ⟨b, off, none⟩ ∧ b < W.heap.size ∧ ∀ i cs, C[i]? = some cs → ∀ j (v : Value), cs[j]? = some v → W.cell? ⟨b, off + i * c + j, none⟩ = some v)
theorem CRow.below {c : Nat} {W W' : World} {p : Option Addr} {n : Nat} {C : List (List Value)} (h : CRow c W p n C) (hb : Below W.heap.size W W') : CRow c W' p n C := by
  refine ⟨h.1, h.2.imp id ?_⟩
  rintro ⟨b, off, rfl, hlt, hx⟩
  exact ⟨b, off, rfl, Nat.lt_of_lt_of_le hlt hb.size, fun i cs hi j v hj => (hb.cell (p := ⟨b, _, none⟩) hlt).trans (hx i cs hi j v hj)⟩
theorem CRow.set {c : Nat} {W : World} {p : Option Addr} {n : Nat} {C : List (List Value)} (h : CRow c W p n C) {x : Addr} {v : Value} (hp : ∀ a, p = some a → a.block ≠ x.block) : CRow c (W.setCell x v) p n C := by
  refine ⟨h.1, h.2.imp id ?_⟩
  rintro ⟨b, off, rfl, hb, hx⟩
  refine ⟨b, off, rfl, by simpa using hb, fun i cs hi j y hy => ?_⟩
  rw [World.cell?_setCell_other _ _ _ _ (fun e => hp _ rfl (by rw [e]))]
  exact hx i cs hi j y hy
/-- What is known of every element's cells is known of a list of data. -/
theorem choose_list {α β : Type} {R : β → α → Prop} : ∀ (C : List β), (∀ c ∈ C, ∃ e, R c e) → ∃ E : List α, E.length = C.length ∧ ∀ (i : Nat) (c : β), C[i]? = some c → ∃ e : α, E[i]? = some e ∧ R c e
  | [], _ => ⟨[], rfl, fun i c h => by simp at h⟩
  | c :: C, h => by
    obtain ⟨e, he⟩ := h c (by simp)
    obtain ⟨E, hl, hE⟩ := choose_list C (fun c' hc' => h c' (by simp [hc']))
    refine ⟨e :: E, by simp [hl], fun i c' hi => ?_⟩
    cases i with
    | zero => simp at hi; subst hi; exact ⟨e, rfl, he⟩
    | succ i => simpa using hE i c' (by simpa using hi)
theorem open_rows {H : Type} {enc : TypeId × Value → H} {P : Program} {t e : TypeId} {w : World} {base : Nat} {spare : Nat → Bool} {held : Bool} {fuel : Nat} {a : Option Addr} {len cap : Nat} {x : DataW H × List MemPlace} (ht : P.underlying t = some (.slice e)) (hc : 0 < P.cellsOf e)
    (h : DataW.trod enc P w base spare held fuel t [.slice a len cap] = some x) :
    ∃ C : List (List Value), CRow (P.cellsOf e) w a len C ∧ (∃ k, (k = 0 ∨ k ∈ x.1.weights P t) ∧ len * P.bytesOf e ≤ k) ∧ ∀ cs ∈ C, cs.length = P.cellsOf e ∧ ∃ n y, DataW.trod enc P w base spare held n e cs = some y ∧ ∀ k ∈ y.1.weights P e, k ∈ x.1.weights P t := by
  rcases Go.Deep.open_slice ht h with ⟨hc, _⟩ | ⟨y, l, c, m, n, D, Pl, hc', _, hl, hm, hmm, hxe, hx⟩
  · simp at hc
    exact ⟨[], ⟨hc.2.1.symm, .inl hc.2.1⟩, ⟨0, .inl rfl, by simp [hc.2.1]⟩, by simp⟩
  · simp at hc'
    obtain ⟨rfl, rfl, rfl⟩ := hc'
    by_cases h0 : len = 0
    · exact ⟨[], ⟨h0.symm, .inl h0⟩, ⟨0, .inl rfl, by simp [h0]⟩, by simp⟩
    have hlm : len ≤ m := by rw [hmm]; split <;> omega
    have each : ∀ i ∈ List.range len, ∃ cs', w.cells? base (y.add (i * P.cellsOf e)) (P.cellsOf e) = some cs' ∧ DataW.trod enc P w base spare held n e cs' = some (D i, Pl i) := fun i hi => hx i (by have := List.mem_range.1 hi; omega)
    obtain ⟨C, hCl, hC⟩ := choose_list (List.range len) each
    have hlen : C.length = len := by rw [hCl, List.length_range]
    have hi' : ∀ i, i < len → ∃ cs', C[i]? = some cs' ∧ w.cells? base (y.add (i * P.cellsOf e)) (P.cellsOf e) = some cs' ∧ DataW.trod enc P w base spare held n e cs' = some (D i, Pl i) := fun i hi => hC i i (by simp [hi])
    obtain ⟨b, off, spot⟩ := y
    have hcell0 : ∃ v, w.cell? ((⟨b, off, spot⟩ : Addr)) = some v := by
      obtain ⟨cs', _, h1, _⟩ := hi' 0 (by omega)
      obtain ⟨_, hl', hcell⟩ := World.cells?_some h1
      have h3 := hcell 0 (by omega)
      refine ⟨cs'[0]'(by omega), ?_⟩
      rw [Go.Deep.add_add, List.getElem?_eq_getElem (by omega)] at h3
      simpa [Addr.add] using h3
    obtain ⟨v0, hv0⟩ := hcell0
    obtain rfl : spot = none := World.cell?_spot hv0
    have hb : b < w.heap.size := World.block_lt_of_cell? w _ hv0
    refine ⟨C, ⟨hlen, .inr ⟨b, off, rfl, hb, fun i cs hi j v hj => ?_⟩⟩, ?_, fun cs hcs => ?_⟩
    · have hil : i < len := by have := (List.getElem?_eq_some_iff.1 hi).1; omega
      obtain ⟨cs', h1, h2, _⟩ := hi' i hil
      rw [hi] at h1
      simp only [Option.some.injEq] at h1
      subst h1
      obtain ⟨_, hl', hcell⟩ := World.cells?_some h2
      have hjl := (List.getElem?_eq_some_iff.1 hj).1
      have h3 := hcell j (by omega)
      rw [Go.Deep.add_add, add_at] at h3
      rw [show off + i * P.cellsOf e + j = off + (i * P.cellsOf e + j) by omega]
      rw [← hj]
      simpa using h3
    · refine ⟨(len + (m - len)) * P.bytesOf e, .inr ?_, Nat.mul_le_mul_right _ (by omega)⟩
      subst hxe
      simp only [DataW.weights, ht, List.mem_cons, List.length_map, List.length_range]
      exact .inl trivial
    · obtain ⟨i, hi⟩ := List.getElem?_of_mem hcs
      have hil : i < len := by have := (List.getElem?_eq_some_iff.1 hi).1; omega
      obtain ⟨cs', h1, h2, h3⟩ := hi' i hil
      rw [hi] at h1
      simp only [Option.some.injEq] at h1
      subst h1
      obtain ⟨_, hl', _⟩ := World.cells?_some h2
      refine ⟨hl', n, _, h3, fun k hk => ?_⟩
      subst hxe
      have hmem : D i ∈ (List.range len).map D := List.mem_map.2 ⟨i, by simpa using hil, rfl⟩
      simp only [DataW.weights, ht, List.mem_cons, List.mem_append]
      exact .inr (.inl (weightsAll_mem hmem _ hk))
/-- The elements as data of a type of our own: each element's cells are those of a datum with a property. -/
theorem CRow.data {α : Type} (f : α → List Value) (Q : α → Prop) {c : Nat} {W : World} {p : Option Addr} {n : Nat} {C : List (List Value)} (h : CRow c W p n C) (hd : ∀ cs ∈ C, ∃ e, cs = f e ∧ Q e) : ∃ E : List α, CRow c W p n (E.map f) ∧ ∀ e ∈ E, Q e := by
  obtain ⟨E, hl, hE⟩ := choose_list C hd
  have hm : C = E.map f := by
    apply List.ext_getElem?
    intro i
    rw [List.getElem?_map]
    cases hc : C[i]? with
    | none => rw [List.getElem?_eq_none_iff] at hc; rw [List.getElem?_eq_none (by omega)]; rfl
    | some c => obtain ⟨e, he, hfe, _⟩ := hE i c hc; rw [he, hfe]; rfl
  refine ⟨E, hm ▸ h, fun e he => ?_⟩
  obtain ⟨i, hi⟩ := List.getElem?_of_mem he
  have hil : i < C.length := by have := (List.getElem?_eq_some_iff.1 hi).1; omega
  obtain ⟨e', he', _, hq⟩ := hE i _ (List.getElem?_eq_getElem hil)
  rw [hi] at he'
  simp only [Option.some.injEq] at he'
  exact he' ▸ hq
end Go.Frame
