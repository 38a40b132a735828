/-
  Automata in memory; contracts: isState, fits, Valid.
  The arguments opened: automata, lists of states, lists of expressions.
  The arguments opened, their bulk bounded: lists of expressions.
  The frame of a law in its second form (what comes in is of bounded bulk), its row listing variables or none (no program; lies as <Seat>Up, behind <Seat>Fr).
  Contracts: fits, ContainsFunc, Valid; the reference's Valid.
  Contracts: ContainsFunc, Valid.
-/
import Derived.Test.YtogpnlkjcdedlaaDoorZ03
import Derived.Deep.LoopGhost
import Derived.LoopIn
import Derived.TacticsInMore
import Derived.Deep.Cut
import Derived.Test.YtogpnlkjcdedlaaDoorZ01
import Derived.LaidMore
import Derived.Stop.Joined
import Derived.SevenTiedAt
import Derived.Deep.DeepHandedRow
import Derived.JoinedCond
section
set_option linter.unusedSimpArgs false
set_option linter.unusedVariables false
namespace Go.Proofs.YtogpnlkjcdedlaaDoor
open Go.RowKit Bs Rg Nf Go.Frame
attribute [local go_sem] eq_zero eq_set

theorem cells7a {W : World} {b : Nat} {x0 x1 x2 x3 x4 x5 x6 : Value} {t : TypeId} (h : W.heap[b]? = some (.cells #[x0, x1, x2, x3, x4, x5, x6] t (0, 0))) : W.cell? ⟨b, 0, none⟩ = some x0 ∧ W.cell? ⟨b, 1, none⟩ = some x1 ∧ W.cell? ⟨b, 2, none⟩ = some x2 ∧ W.cell? ⟨b, 3, none⟩ = some x3 ∧ W.cell? ⟨b, 4, none⟩ = some x4 ∧ W.cell? ⟨b, 5, none⟩ = some x5 ∧ W.cell? ⟨b, 6, none⟩ = some x6 := by
  refine ⟨?_, ?_, ?_, ?_, ?_, ?_, ?_⟩ <;> simp [World.cell?, h]
/-- The cells of an arc. -/
def acs (a : Arc) : List Value := [.int .i64 a.f, .int .i64 a.t, .bool a.e, .int .u64 (ws a.s 0 : Int), .int .u64 (ws a.s 1 : Int), .int .u64 (ws a.s 2 : Int), .int .u64 (ws a.s 3 : Int)]
def iv (x : Int) : Value := .int .i64 x
/-- An automaton's arcs and numbers in memory. -/
structure NA (W : World) (N : Nfa) (a1 : Option Addr) (m : Nat) (a2 : Option Addr) (k : Nat) : Prop where
  arcs : CRow 7 W a1 m (N.arcs.map acs)
  acc : Row W a2 k (N.acc.map iv)
  hm : m ≤ 140737488355328
  hk : k ≤ 140737488355328
theorem NA.below {W W' : World} {N : Nfa} {a1 a2 : Option Addr} {m k : Nat} (h : NA W N a1 m a2 k) (hb : Below W.heap.size W W') : NA W' N a1 m a2 k := ⟨h.arcs.below hb, h.acc.below hb, h.hm, h.hk⟩
theorem NA.lm {W : World} {N : Nfa} {a1 a2 : Option Addr} {m k : Nat} (h : NA W N a1 m a2 k) : N.arcs.length = m := by have := h.arcs.1; simpa using this
theorem NA.lk {W : World} {N : Nfa} {a1 a2 : Option Addr} {m k : Nat} (h : NA W N a1 m a2 k) : N.acc.length = k := by have := h.acc.1; simpa using this
/-- An arc's cells. -/
theorem arc_at {W : World} {l : List Arc} {a1 : Option Addr} {m i : Nat} (h : CRow 7 W a1 m (l.map acs)) (hi : i < m) : ∃ b off f t e s, a1 = some ⟨b, off, none⟩ ∧ b < W.heap.size ∧ l[i]? = some ⟨f, t, e, s⟩ ∧ W.cell? ⟨b, off + i * 7, none⟩ = some (.int .i64 f) ∧ W.cell? ⟨b, off + i * 7 + 1, none⟩ = some (.int .i64 t) ∧ W.cell? ⟨b, off + i * 7 + 2, none⟩ = some (.bool e) ∧ W.cell? ⟨b, off + i * 7 + 3, none⟩ = some (.int .u64 (ws s 0 : Int)) ∧ W.cell? ⟨b, off + i * 7 + 4, none⟩ = some (.int .u64 (ws s 1 : Int)) ∧ W.cell? ⟨b, off + i * 7 + 5, none⟩ = some (.int .u64 (ws s 2 : Int)) ∧ W.cell? ⟨b, off + i * 7 + 6, none⟩ = some (.int .u64 (ws s 3 : Int)) := by
  obtain ⟨h1, h2⟩ := h
  rcases h2 with h2 | ⟨b, off, rfl, hb, h2⟩
  · omega
  · have hl : i < l.length := by simp at h1; omega
    obtain ⟨a, ha⟩ : ∃ a, l[i]? = some a := ⟨l[i], List.getElem?_eq_getElem hl⟩
    obtain ⟨f, t, e, s⟩ := a
    have hc := h2 i (acs ⟨f, t, e, s⟩) (by rw [List.getElem?_map, ha]; rfl)
    exact ⟨b, off, f, t, e, s, rfl, hb, ha, hc 0 _ rfl, hc 1 _ rfl, hc 2 _ rfl, hc 3 _ rfl, hc 4 _ rfl, hc 5 _ rfl, hc 6 _ rfl⟩
theorem int_at {W : World} {l : List Int} {a1 : Option Addr} {m i : Nat} (h : Row W a1 m (l.map iv)) (hi : i < m) : ∃ b off x, a1 = some ⟨b, off, none⟩ ∧ b < W.heap.size ∧ l[i]? = some x ∧ W.cell? ⟨b, off + i, none⟩ = some (.int .i64 x) := by
  obtain ⟨h1, h2⟩ := h
  rcases h2 with h2 | ⟨b, off, rfl, hb, h2⟩
  · omega
  · have hl : i < l.length := by simp at h1; omega
    exact ⟨b, off, l[i], rfl, hb, List.getElem?_eq_getElem hl, h2 i _ (by rw [List.getElem?_map, List.getElem?_eq_getElem hl]; rfl)⟩
set_option maxRecDepth 100000 in
set_option maxHeartbeats 4000000 in
theorem isState_any (w : World) (n st x : Int) (a1 a2 : Option Addr) (m c1 k c2 : Nat) :
    Calls Tryd.prog 30 #[.agg #[.int .i64 n, .int .i64 st, .slice a1 m c1, .slice a2 k c2], .int .i64 x] w fun e w' => e = .returned (.bool (isS n x)) ∧ Below w.heap.size w w' := by
  obtain ⟨W, hW⟩ : ∃ W, W = w.alloc (.cells #[.int .i64 n, .int .i64 st, .slice a1 m c1, .slice a2 k c2] 25) := ⟨_, rfl⟩
  have hb : Below w.heap.size w W := by rw [hW]; exact bel1 _ _
  obtain ⟨d0, d1, d2, d3⟩ := cells4 (hW ▸ alloc_new w (.cells #[.int .i64 n, .int .i64 st, .slice a1 m c1, .slice a2 k c2] 25))
  have HB := hid hb
  clear hb
  by_cases h0 : 0 ≤ x
  · by_cases h1 : x < n
    · rw [show isS n x = true from isS_iff.2 ⟨h0, h1⟩]
      go_enter Tryd.func30, Tryd.ntmps30
      go_wp2
      go_ret
      exact ⟨rfl, hW ▸ HB.out⟩
    · rw [show isS n x = false from by rw [← Bool.not_eq_true, isS_iff]; exact fun h => h1 h.2]
      go_enter Tryd.func30, Tryd.ntmps30
      go_wp2
      go_ret
      exact ⟨rfl, hW ▸ HB.out⟩
  · rw [show isS n x = false from by rw [← Bool.not_eq_true, isS_iff]; exact fun h => h0 h.1]
    go_enter Tryd.func30, Tryd.ntmps30
    go_wp2
    go_ret
    exact ⟨rfl, hW ▸ HB.out⟩
end Go.Proofs.YtogpnlkjcdedlaaDoor
end
section
set_option linter.unusedSimpArgs false
set_option linter.unusedVariables false
namespace Go.Proofs.YtogpnlkjcdedlaaDoor
open Go.RowKit Bs Rg Nf Go.Frame Go.WideShapes Go.ChangeShapes Go.ChangeAt
attribute [local go_sem] eq_zero eq_set

theorem cells55 : Tryd.prog.cellsOf 55 = 7 := by kernel_rfl
theorem bytes55 : Tryd.prog.bytesOf 55 = 56 := by kernel_rfl
theorem bytes3 : Tryd.prog.bytesOf 3 = 8 := by kernel_rfl
theorem cT4 : Tryd.prog.cellsOf 4 = 1 := by kernel_rfl
section
variable {H : Type} {enc : TypeId × Value → H} {w : World} {base : Nat} {sp : Nat → Bool} {held : Bool}
/-- A slice's length, capacity, address. -/
theorem slice_shape {t e : TypeId} {fuel : Nat} {a : Option Addr} {len cap : Nat} {x : DataW H × List MemPlace} (ht : Tryd.prog.underlying t = some (.slice e)) (h : DataW.trod enc Tryd.prog w base sp held fuel t [.slice a len cap] = some x) : len ≤ cap ∧ cap ≤ maxLen ∧ (a = none → cap = 0) := by
  rcases Go.Deep.open_slice ht h with ⟨hc, _⟩ | ⟨y, l, c, m, n, D, Pl, hc', _, hl, hm, _⟩
  · simp at hc
    obtain ⟨rfl, rfl, rfl⟩ := hc
    exact ⟨Nat.le_refl _, Nat.zero_le _, fun _ => rfl⟩
  · simp at hc'
    obtain ⟨rfl, rfl, rfl⟩ := hc'
    exact ⟨hl, hm, fun h => by cases h⟩
theorem CRow.one {W : World} {p : Option Addr} {n : Nat} {l : List Value} (h : CRow 1 W p n (l.map fun v => [v])) : Row W p n l := by
  refine ⟨by have := h.1; simpa using this, h.2.imp id ?_⟩
  rintro ⟨b, off, rfl, hb, hx⟩
  refine ⟨b, off, rfl, hb, fun i x hi => ?_⟩
  have := hx i [x] (by rw [List.getElem?_map, hi]; rfl) 0 x rfl
  rw [Nat.mul_one] at this
  exact this
/-- A slice of ints. -/
theorem read_ints {fuel : Nat} {a : Option Addr} {len cap : Nat} {x : DataW H × List MemPlace} (h : DataW.trod enc Tryd.prog w base sp held fuel 23 [.slice a len cap] = some x) (hz : ∀ n ∈ x.1.weights Tryd.prog 23, n ≤ reachBytes) :
    ∃ E : List Int, Row w a len (E.map iv) ∧ len ≤ 140737488355328 ∧ ∀ e ∈ E, -9223372036854775808 ≤ e ∧ e ≤ 9223372036854775807 := by
  obtain ⟨C, hC, ⟨k, hk, hkl⟩, hd⟩ := open_rows Tryd.underlying23 (by rw [cT3]; decide) h
  rw [cT3] at hC hd
  have hlen : len ≤ 140737488355328 := by
    rw [bytes3] at hkl
    rcases hk with rfl | hk
    · omega
    · have := hz k hk
      unfold reachBytes at this
      omega
  have hdata := hC.data (fun e : Int => [iv e]) (fun e => -9223372036854775808 ≤ e ∧ e ≤ 9223372036854775807) fun cs hcs => ?_
  · obtain ⟨E, h1, h2⟩ := hdata
    refine ⟨E, CRow.one ?_, hlen, h2⟩
    rw [List.map_map]
    exact h1
  obtain ⟨hl, n, y, hy, hw⟩ := hd cs hcs
  match cs, hl with
  | [v0], _ =>
    obtain ⟨q, hq, _, hi⟩ := DataW.trod_int Tryd.underlying3 hy
    obtain rfl : v0 = .int .i64 q := by simpa using hq
    exact ⟨q, rfl, (bounds_i64 hi).1, (bounds_i64 hi).2⟩
/-- A slice of arcs. -/
theorem read_arcs {fuel : Nat} {a : Option Addr} {len cap : Nat} {x : DataW H × List MemPlace} (h : DataW.trod enc Tryd.prog w base sp held fuel 22 [.slice a len cap] = some x) (hz : ∀ n ∈ x.1.weights Tryd.prog 22, n ≤ reachBytes) :
    ∃ E : List Arc, CRow 7 w a len (E.map acs) ∧ len ≤ 140737488355328 ∧ ∀ e ∈ E, (-9223372036854775808 ≤ e.f ∧ e.f ≤ 9223372036854775807) ∧ -9223372036854775808 ≤ e.t ∧ e.t ≤ 9223372036854775807 := by
  obtain ⟨C, hC, ⟨k, hk, hkl⟩, hd⟩ := open_rows Tryd.underlying22 (by rw [cells55]; decide) h
  rw [cells55] at hC hd
  have hlen : len ≤ 140737488355328 := by
    rw [bytes55] at hkl
    rcases hk with rfl | hk
    · omega
    · have := hz k hk
      unfold reachBytes at this
      omega
  have hdata := hC.data acs (fun e => (-9223372036854775808 ≤ e.f ∧ e.f ≤ 9223372036854775807) ∧ -9223372036854775808 ≤ e.t ∧ e.t ≤ 9223372036854775807) fun cs hcs => ?_
  · obtain ⟨E, h1, h2⟩ := hdata
    exact ⟨E, h1, hlen, h2⟩
  obtain ⟨hl, n, y, hy, hw⟩ := hd cs hcs
  match cs, hl with
  | [v0, v1, v2, v3, v4, v5, v6], _ =>
    obtain ⟨y0, y1, y2, y3, k, hD, _, g0, g1, g2, g3⟩ := Go.Joins.trod_struct4 Tryd.underlying55 hy
    simp [cT3] at g0 g1
    simp [cT4] at g2
    simp [cells48] at g3
    obtain ⟨q0, hq0, _, hi0⟩ := DataW.trod_int Tryd.underlying3 g0
    obtain ⟨q1, hq1, _, hi1⟩ := DataW.trod_int Tryd.underlying3 g1
    obtain ⟨q2, hq2, _⟩ := DataW.trod_bool Tryd.underlying4 g2
    obtain ⟨s, hs⟩ := read_set (by rfl) g3
    obtain rfl : v0 = .int .i64 q0 := by simpa using hq0
    obtain rfl : v1 = .int .i64 q1 := by simpa using hq1
    obtain rfl : v2 = .bool q2 := by simpa using hq2
    simp at hs
    obtain ⟨rfl, rfl, rfl, rfl⟩ := hs
    exact ⟨⟨q0, q1, q2, s⟩, rfl, ⟨(bounds_i64 hi0).1, (bounds_i64 hi0).2⟩, (bounds_i64 hi1).1, (bounds_i64 hi1).2⟩
/-- What is known of an automaton that came in. -/
structure InN (W : World) (N : Nfa) (a1 : Option Addr) (m c1 : Nat) (a2 : Option Addr) (k c2 : Nat) : Prop where
  na : NA W N a1 m a2 k
  mc : m ≤ c1
  cc : c1 ≤ maxLen
  nil1 : a1 = none → c1 = 0
  hn : -9223372036854775808 ≤ N.n ∧ N.n ≤ 9223372036854775807
  hst : -9223372036854775808 ≤ N.st ∧ N.st ≤ 9223372036854775807
  kc : k ≤ c2
  cc2 : c2 ≤ maxLen
set_option maxRecDepth 100000 in
theorem open_nfa {r : Reach} {b0 : Nat} {v : Value} {d : DataW H} {p : List MemPlace} (hv : Value.okWide Tryd.prog w r b0 25 v) (h : DataW.Trod enc Tryd.prog w base sp held 25 v d p) (hz : ∀ n ∈ d.weights Tryd.prog 25, n ≤ reachBytes) :
    ∃ (N : Nfa) (a1 : Option Addr) (m c1 : Nat) (a2 : Option Addr) (k c2 : Nat), v = .agg #[.int .i64 N.n, .int .i64 N.st, .slice a1 m c1, .slice a2 k c2] ∧ InN w N a1 m c1 a2 k c2 := by
  obtain ⟨v0, v1, v2, v3, y0, y1, y2, y3, n, rfl, hD, _, e0, e1, e2, e3⟩ := Go.Joins.open_agg4 Tryd.underlying25 (by kernel_rfl) (by kernel_rfl) hv h
  obtain ⟨q0, hq0, _, hi0⟩ := DataW.trod_int Tryd.underlying3 e0
  obtain ⟨q1, hq1, _, hi1⟩ := DataW.trod_int Tryd.underlying3 e1
  obtain rfl : v0 = .int .i64 q0 := by simpa using hq0
  obtain rfl : v1 = .int .i64 q1 := by simpa using hq1
  obtain ⟨a1, m, c1, f2⟩ := Go.Joins.slice_form Tryd.underlying22 e2
  obtain rfl : v2 = .slice a1 m c1 := by simpa using f2
  obtain ⟨a2, k, c2, f3⟩ := Go.Joins.slice_form Tryd.underlying23 e3
  obtain rfl : v3 = .slice a2 k c2 := by simpa using f3
  obtain ⟨E, hE, hm, _⟩ := read_arcs e2 (fun n hn => hz n (by rw [hD]; simp [DataW.weights, Tryd.underlying25, DataW.weightsEach]; exact .inr (.inr (.inl hn))))
  obtain ⟨A, hA, hk, _⟩ := read_ints e3 (fun n hn => hz n (by rw [hD]; simp [DataW.weights, Tryd.underlying25, DataW.weightsEach]; exact .inr (.inr (.inr hn))))
  obtain ⟨s1, s2, s3⟩ := slice_shape Tryd.underlying22 e2
  obtain ⟨r1, r2, _⟩ := slice_shape Tryd.underlying23 e3
  exact ⟨⟨q0, q1, E, A⟩, a1, m, c1, a2, k, c2, rfl, ⟨hE, hA, hm, hk⟩, s1, s2, s3, bounds_i64 hi0, bounds_i64 hi1, r1, r2⟩
set_option maxRecDepth 100000 in
theorem open_ints {r : Reach} {b0 : Nat} {v : Value} {d : DataW H} {p : List MemPlace} (hv : Value.okWide Tryd.prog w r b0 23 v) (h : DataW.Trod enc Tryd.prog w base sp held 23 v d p) (hz : ∀ n ∈ d.weights Tryd.prog 23, n ≤ reachBytes) :
    ∃ (E : List Int) (a : Option Addr) (n c : Nat), v = .slice a n c ∧ Row w a n (E.map iv) ∧ n ≤ 140737488355328 ∧ n ≤ c ∧ c ≤ maxLen ∧ (a = none → c = 0) ∧ ∀ e ∈ E, -9223372036854775808 ≤ e ∧ e ≤ 9223372036854775807 := by
  obtain ⟨a, n, c, rfl⟩ := okWide_slice Tryd.underlying23 hv
  obtain ⟨fuel, hf⟩ := h
  obtain ⟨E, hE, hn, hb⟩ := read_ints (x := (d, p)) (by simpa [Value.cells] using hf) hz
  obtain ⟨r1, r2, r3⟩ := slice_shape (x := (d, p)) Tryd.underlying23 (by simpa [Value.cells] using hf)
  exact ⟨E, a, n, c, rfl, hE, hn, r1, r2, r3, hb⟩
set_option maxRecDepth 100000 in
theorem open_rxs {r : Reach} {b0 : Nat} {v : Value} {d : DataW H} {p : List MemPlace} (hv : Value.okWide Tryd.prog w r b0 37 v) (h : DataW.Trod enc Tryd.prog w base sp held 37 v d p) (hz : ∀ n ∈ d.weights Tryd.prog 37, n ≤ reachBytes) :
    ∃ (l : List Rx) (a : Option Addr) (n c : Nat), v = .slice a n c ∧ Kd (fun _ => True) w a n l ∧ n ≤ c ∧ c ≤ maxLen := by
  obtain ⟨a, n, c, rfl⟩ := okWide_slice Tryd.underlying37 hv
  obtain ⟨fuel, hf⟩ := h
  have hf' : DataW.trod enc Tryd.prog w base sp held fuel 37 [.slice a n c] = some (d, p) := by simpa [Value.cells] using hf
  obtain ⟨r1, r2, _⟩ := slice_shape Tryd.underlying37 hf'
  obtain ⟨C, hC, ⟨k, hk, hkl⟩, hd⟩ := open_rows Tryd.underlying37 (by rw [cells50]; decide) hf'
  rw [cells50] at hC hd
  have hlen : n < 140737488355328 := by
    rw [bytes50] at hkl
    rcases hk with rfl | hk
    · omega
    · have := hz k hk
      unfold reachBytes at this
      omega
  obtain ⟨E, hEl, hE⟩ := choose_list (R := fun cs (q : Rx) => RC (fun _ => True) w q cs) C (fun cs hcs => by
    obtain ⟨hl, m, y, hy, hw⟩ := hd cs hcs
    exact read_rx (SizeOf.sizeOf y.1 + 1) (Nat.lt_succ_self _) hl hy (fun k hk => hz k (hw k hk)))
  have hCl := hC.1
  refine ⟨E, a, n, c, rfl, ⟨by omega, hlen, ?_⟩, r1, r2⟩
  rcases hC.2 with h0 | ⟨b, off, rfl, hb, hx⟩
  · exact .inl h0
  · refine .inr ⟨b, off, rfl, trivial, hb, RK_of fun i q hi => ?_⟩
    have hil := (List.getElem?_eq_some_iff.1 hi).1
    have hCi : C[i]? = some (C[i]'(by omega)) := List.getElem?_eq_getElem _
    obtain ⟨q', h1, h2⟩ := hE i _ hCi
    rw [hi] at h1
    simp only [Option.some.injEq] at h1
    exact ⟨_, fun j v hj => hx i _ hCi j v hj, h1 ▸ h2⟩
end
end Go.Proofs.YtogpnlkjcdedlaaDoor
end
section
set_option linter.unusedSimpArgs false
set_option linter.unusedVariables false
namespace Go.Proofs.YtogpnlkjcdedlaaDoor
open Go.RowKit Bs Rg Nf Go.Frame Go.WideShapes Go.ChangeShapes Go.ChangeAt
attribute [local go_sem] eq_zero eq_set

theorem partsL_bulk {H : Type} : ∀ (l : List Rx) (ds : List (DataW H)), l.length = ds.length → (∀ (i : Nat) (r : Rx) (d : DataW H), l[i]? = some r → ds[i]? = some d → parts r ≤ Rows.uptoBulk d) → partsL l ≤ Rows.uptoBulkAll ds
  | [], ds, _, _ => by rw [partsL]; exact Nat.zero_le _
  | r :: l, [], h, _ => by simp at h
  | r :: l, d :: ds, h, hi => by
    have h1 := hi 0 r d rfl rfl
    have h2 := partsL_bulk l ds (by simpa using h) fun i r' d' a b => hi (i + 1) r' d' (by simpa using a) (by simpa using b)
    rw [partsL]
    simp only [Rows.uptoBulkAll]
    omega
section
variable {H : Type} {enc : TypeId × Value → H} {w : World} {base : Nat} {sp : Nat → Bool} {held : Bool}
/-- Six cells that read as an expression. -/
theorem read_rxb (N : Nat) : ∀ {fuel : Nat} {cs : List Value} {x : DataW H × List MemPlace}, SizeOf.sizeOf x.1 < N → cs.length = 6 → DataW.trod enc Tryd.prog w base sp held fuel 50 cs = some x → (∀ n ∈ x.1.weights Tryd.prog 50, n ≤ reachBytes) → ∃ r : Rx, RC (fun _ => True) w r cs ∧ parts r ≤ Rows.uptoBulk x.1 := by
  induction N with
  | zero => intro _ _ x h; omega
  | succ N ih =>
  intro fuel cs x hN hl h hz
  obtain ⟨v0, v1, v2, v3, v4, v5, rfl⟩ : ∃ v0 v1 v2 v3 v4 v5, cs = [v0, v1, v2, v3, v4, v5] := by
    match cs, hl with
    | [v0, v1, v2, v3, v4, v5], _ => exact ⟨v0, v1, v2, v3, v4, v5, rfl⟩
  obtain ⟨y0, y1, y2, m, hx, _, g0, g1, g2⟩ := Go.Deep.trod_struct3 Tryd.underlying50 h
  simp [cT3] at g0
  simp [cells48] at g1
  simp [cells37] at g2
  obtain ⟨k, hk, _, _⟩ := DataW.trod_int Tryd.underlying3 g0
  obtain rfl : v0 = .int .i64 k := by simpa using hk
  obtain ⟨s, hs⟩ := read_set (by rfl) g1
  simp at hs
  obtain ⟨rfl, rfl, rfl, rfl⟩ := hs
  have hw2 : ∀ n ∈ y2.1.weights Tryd.prog 37, n ≤ reachBytes := fun n hn => hz n (by
    rw [hx]
    simp [DataW.weights, Tryd.underlying50, DataW.weightsEach]
    exact .inr (.inr hn))
  have hN2 : SizeOf.sizeOf y2.1 < N := by
    rw [hx] at hN
    simp at hN
    omega
  have hxv : x.1 = .agg [y0.1, y1.1, y2.1] := by rw [hx]
  clear hz hN h g0 g1 hk hx
  rcases Go.Deep.open_slice Tryd.underlying37 g2 with ⟨hc, _⟩ | ⟨a, len, cap, m', n, D, Pl, hc', _, hlc, hm, hmm, hxe, hxx⟩
  · simp at hc
    subst hc
    refine ⟨.mk k s [], RC_mk.2 ⟨none, 0, 0, rfl, rfl, by decide, .inl rfl⟩, ?_⟩
    rw [hxv, parts, partsL]
    simp only [Rows.uptoBulk, Rows.uptoBulkAll]
    omega
  · simp at hc'
    subst hc'
    have hlm : len ≤ m' := by rw [hmm]; split <;> omega
    rw [cells50] at hxx
    have hlen : len < 140737488355328 := by
      have h1 : (len + (m' - len)) * Tryd.prog.bytesOf 50 ≤ reachBytes := hw2 _ (by
        rw [hxe]
        simp only [DataW.weights, Tryd.underlying37, List.mem_cons, List.length_map, List.length_range]
        exact .inl trivial)
      rw [bytes50] at h1
      unfold reachBytes at h1
      omega
    have each : ∀ i ∈ List.range len, ∃ q : Rx, ∃ cs', w.cells? base (a.add (i * 6)) 6 = some cs' ∧ RC (fun _ => True) w q cs' ∧ parts q ≤ Rows.uptoBulk (D i) := fun i hi => by
      have hil := List.mem_range.1 hi
      obtain ⟨cs', h1, h2⟩ := hxx i (by omega)
      have hl6 : cs'.length = 6 := (World.cells?_some h1).2.1
      have hDm : D i ∈ (List.range len).map D := List.mem_map.2 ⟨i, hi, rfl⟩
      obtain ⟨q, hq, hqb⟩ := ih (x := (D i, Pl i)) (by
        have h3 := List.sizeOf_lt_of_mem hDm
        rw [hxe] at hN2
        simp at hN2
        simp
        omega) hl6 h2 (fun k hk => hw2 k (by
          rw [hxe]
          simp only [DataW.weights, Tryd.underlying37, List.mem_cons, List.mem_append]
          exact .inr (.inl (weightsAll_mem hDm _ hk))))
      exact ⟨q, cs', h1, hq, hqb⟩
    obtain ⟨l, hll, hl'⟩ := choose_list (List.range len) each
    have hlen' : l.length = len := by rw [hll, List.length_range]
    have hbk : parts (.mk k s l) ≤ Rows.uptoBulk x.1 := by
      have h1 : partsL l ≤ Rows.uptoBulkAll ((List.range len).map D) := partsL_bulk _ _ (by rw [hlen', List.length_map, List.length_range]) fun i q d hi hd => by
        have hil := (List.getElem?_eq_some_iff.1 hi).1
        obtain ⟨q', h1, _, _, _, h2⟩ := hl' i i (by rw [List.getElem?_range (by omega)])
        rw [hi] at h1
        simp only [Option.some.injEq] at h1
        rw [List.getElem?_map, List.getElem?_range (by omega)] at hd
        simp only [Option.map_some, Option.some.injEq] at hd
        rw [h1, ← hd]; exact h2
      rw [hxv, hxe, parts]
      simp only [Rows.uptoBulk, Rows.uptoBulkAll]
      omega
    refine ⟨.mk k s l, RC_mk.2 ⟨some a, len, cap, rfl, hlen', hlen, ?_⟩, hbk⟩
    by_cases h0 : len = 0
    · exact .inl h0
    right
    obtain ⟨b, off, spot⟩ := a
    have get : ∀ i q, l[i]? = some q → ∃ cs', w.cells? base ((⟨b, off, spot⟩ : Addr).add (i * 6)) 6 = some cs' ∧ RC (fun _ => True) w q cs' := fun i q hi => by
      have hil := (List.getElem?_eq_some_iff.1 hi).1
      obtain ⟨q', h1, cs2, h2, h3, _⟩ := hl' i i (by rw [List.getElem?_range (by omega)])
      rw [hi] at h1
      simp only [Option.some.injEq] at h1
      subst h1
      exact ⟨cs2, h2, h3⟩
    obtain ⟨q0, hq0⟩ : ∃ q, l[0]? = some q := ⟨l[0]'(by omega), List.getElem?_eq_getElem _⟩
    obtain ⟨v0, hv0⟩ : ∃ v, w.cell? (⟨b, off, spot⟩ : Addr) = some v := by
      obtain ⟨cs', h1, _⟩ := get 0 q0 hq0
      obtain ⟨_, hl', hcell⟩ := World.cells?_some h1
      have h3 := hcell 0 (by omega)
      refine ⟨cs'[0]'(by omega), ?_⟩
      rw [Go.Deep.add_add, List.getElem?_eq_getElem (by omega)] at h3
      simpa [Addr.add] using h3
    obtain rfl : spot = none := World.cell?_spot hv0
    have hb : b < w.heap.size := World.block_lt_of_cell? w _ hv0
    refine ⟨b, off, rfl, trivial, hb, RK_of fun i q hi => ?_⟩
    obtain ⟨cs', h1, h2⟩ := get i q hi
    refine ⟨cs', fun j v hj => ?_, h2⟩
    obtain ⟨_, hl', hcell⟩ := World.cells?_some h1
    have hjl := (List.getElem?_eq_some_iff.1 hj).1
    have h3 := hcell j (by omega)
    rw [Go.Deep.add_add, add_at] at h3
    rw [show off + i * 6 + j = off + (i * 6 + j) by omega, ← hj]
    simpa using h3
set_option maxRecDepth 100000 in
theorem open_rxsb {r : Reach} {b0 : Nat} {v : Value} {d : DataW H} {p : List MemPlace} (hv : Value.okWide Tryd.prog w r b0 37 v) (h : DataW.Trod enc Tryd.prog w base sp held 37 v d p) (hz : ∀ n ∈ d.weights Tryd.prog 37, n ≤ reachBytes) :
    ∃ (l : List Rx) (a : Option Addr) (n c : Nat), v = .slice a n c ∧ Kd (fun _ => True) w a n l ∧ partsL l ≤ Rows.uptoBulk d := by
  obtain ⟨a, n, c, rfl⟩ := okWide_slice Tryd.underlying37 hv
  obtain ⟨fuel, hf⟩ := h
  have hf' : DataW.trod enc Tryd.prog w base sp held fuel 37 [.slice a n c] = some (d, p) := by simpa [Value.cells] using hf
  rcases Go.Deep.open_slice Tryd.underlying37 hf' with ⟨hc, hd⟩ | ⟨y, l, c', m, k, D, Pl, hc', _, hlc, hm, hmm, hxe, hxx⟩
  · simp at hc
    obtain ⟨rfl, rfl, rfl⟩ := hc
    exact ⟨[], none, 0, 0, rfl, ⟨rfl, by decide, .inl rfl⟩, by rw [partsL]; exact Nat.zero_le _⟩
  · simp at hc'
    obtain ⟨rfl, rfl, rfl⟩ := hc'
    have hlm : n ≤ m := by rw [hmm]; split <;> omega
    rw [cells50] at hxx
    have hd : d = .slice ((List.range n).map D) ((List.range (m - n)).map fun j => D (n + j)) := by have := congrArg Prod.fst hxe; simpa using this
    have hlen : n < 140737488355328 := by
      have h1 : (n + (m - n)) * Tryd.prog.bytesOf 50 ≤ reachBytes := hz _ (by
        rw [hd]
        simp only [DataW.weights, Tryd.underlying37, List.mem_cons, List.length_map, List.length_range]
        exact .inl trivial)
      rw [bytes50] at h1
      unfold reachBytes at h1
      omega
    have each : ∀ i ∈ List.range n, ∃ q : Rx, ∃ cs', w.cells? base (y.add (i * 6)) 6 = some cs' ∧ RC (fun _ => True) w q cs' ∧ parts q ≤ Rows.uptoBulk (D i) := fun i hi => by
      have hil := List.mem_range.1 hi
      obtain ⟨cs', h1, h2⟩ := hxx i (by omega)
      have hl6 : cs'.length = 6 := (World.cells?_some h1).2.1
      have hDm : D i ∈ (List.range n).map D := List.mem_map.2 ⟨i, hi, rfl⟩
      obtain ⟨q, hq, hqb⟩ := read_rxb (SizeOf.sizeOf (D i) + 1) (x := (D i, Pl i)) (Nat.lt_succ_self _) hl6 h2 (fun k hk => hz k (by
          rw [hd]
          simp only [DataW.weights, Tryd.underlying37, List.mem_cons, List.mem_append]
          exact .inr (.inl (weightsAll_mem hDm _ hk))))
      exact ⟨q, cs', h1, hq, hqb⟩
    obtain ⟨l, hll, hl'⟩ := choose_list (List.range n) each
    have hlen' : l.length = n := by rw [hll, List.length_range]
    have get : ∀ i q, l[i]? = some q → ∃ cs', w.cells? base (y.add (i * 6)) 6 = some cs' ∧ RC (fun _ => True) w q cs' ∧ parts q ≤ Rows.uptoBulk (D i) := fun i q hi => by
      have hil := (List.getElem?_eq_some_iff.1 hi).1
      obtain ⟨q', h1, h2⟩ := hl' i i (by rw [List.getElem?_range (by omega)])
      rw [hi] at h1
      simp only [Option.some.injEq] at h1
      subst h1
      exact h2
    have hbk : partsL l ≤ Rows.uptoBulk d := by
      have h1 : partsL l ≤ Rows.uptoBulkAll ((List.range n).map D) := partsL_bulk _ _ (by rw [hlen', List.length_map, List.length_range]) fun i q d hi hd => by
        obtain ⟨_, _, _, h2⟩ := get i q hi
        have hil := (List.getElem?_eq_some_iff.1 hi).1
        rw [List.getElem?_map, List.getElem?_range (by omega)] at hd
        simp only [Option.map_some, Option.some.injEq] at hd
        rw [← hd]; exact h2
      rw [hd]
      simp only [Rows.uptoBulk]
      omega
    refine ⟨l, some y, n, c, rfl, ⟨hlen', hlen, ?_⟩, hbk⟩
    by_cases h0 : n = 0
    · exact .inl h0
    right
    obtain ⟨b, off, spot⟩ := y
    obtain ⟨q0, hq0⟩ : ∃ q, l[0]? = some q := ⟨l[0]'(by omega), List.getElem?_eq_getElem _⟩
    obtain ⟨v0, hv0⟩ : ∃ v, w.cell? (⟨b, off, spot⟩ : Addr) = some v := by
      obtain ⟨cs', h1, _⟩ := get 0 q0 hq0
      obtain ⟨_, hl', hcell⟩ := World.cells?_some h1
      have h3 := hcell 0 (by omega)
      refine ⟨cs'[0]'(by omega), ?_⟩
      rw [Go.Deep.add_add, List.getElem?_eq_getElem (by omega)] at h3
      simpa [Addr.add] using h3
    obtain rfl : spot = none := World.cell?_spot hv0
    have hb : b < w.heap.size := World.block_lt_of_cell? w _ hv0
    refine ⟨b, off, rfl, trivial, hb, RK_of fun i q hi => ?_⟩
    obtain ⟨cs', h1, h2, _⟩ := get i q hi
    refine ⟨cs', fun j v hj => ?_, h2⟩
    obtain ⟨_, hl', hcell⟩ := World.cells?_some h1
    have hjl := (List.getElem?_eq_some_iff.1 hj).1
    have h3 := hcell j (by omega)
    rw [Go.Deep.add_add, add_at] at h3
    rw [show off + i * 6 + j = off + (i * 6 + j) by omega, ← hj]
    simpa using h3
end
end Go.Proofs.YtogpnlkjcdedlaaDoor
end
section
namespace Go.Frame
open Go.ChangeShapes Go.WideShapes Go.ChangeAt Go.RowKit

theorem lifted_row {C : Checked} {os : Os} {f : FuncId} {fn : Func} {s : ChangeSpec} {S : OpenSpec} {K : (H : Type) → List (DataW H) → Bool} {F : Stop.Interp} {tb : TypeId} {H : Type} {enc : TypeId × Value → H} (laid : List (String × DataW Unit))
    (hS : S = { OpenSpec.ofChange s with cond := some K })
    (own : ownKnob C.prog.godebug = none) (started : os.Started) (noInit : C.prog.inits.idxOf? f = none) (hfn : C.prog.funcs[f]? = some fn)
    (witness : ∃ (w : World) (tape : Tape) (i : Input), w.os = os ∧ (w.forCall tape i).Shaped C.prog ∧ i.vars = [] ∧ Input.okWide C.prog (w.forCall tape i) .any w.heap.size f i ∧
      S.preRow enc C.prog fn [] false laid (w.forCall tape i).memory i.args ∧ ({} : Assume).holds C.prog (lone (Frame.enter C.prog f i.args .normal) [] (w.forCall tape i)))
    (hl : laidOutB C.prog = true) (hp : fn.params.toList.all (fun t => C.prog.readableRec t && decide (t < C.prog.types.size)) = true)
    (hres : fn.resultTypes = #[tb]) (hub : C.prog.underlying tb = some .bool) (hvars : s.vars = [])
    (hspec : ∀ ds : List (DataW H), ds.length = fn.params.toList.length → s.fn H ds = { results := [.lit (.bool true)], args := ds })
    (walk : ∀ (W : World) (base : Nat) (args : Array Value) (ds : List (DataW H)) (p : List MemPlace), args.toList.length = fn.params.toList.length →
      (∀ (j : Nat) t v, fn.params[j]? = some t → args[j]? = some v → Value.okWide C.prog W .any base t v) →
      DataW.TrodAll enc C.prog W 0 (fun _ => true) true fn.params.toList args.toList ds p →
      (DataW.weightsEach C.prog fn.params.toList ds).all (· ≤ reachBytes) = true → K H ds = true → laidMetH C.prog laid W →
      Calls C.prog f args W fun e W' => e = .returned (.bool true) ∧ Below W.heap.size W W') :
    ReturnsInHanded {} C os f .any (S.preRow enc C.prog fn [] false laid) ((S.at F).post enc C.prog fn false true false false) := by
  subst hS
  refine returnsInHanded_of_row (s := { OpenSpec.ofChange s with cond := some K }) own started noInit hfn witness ?_
  intro W base args ds gs before hval hW _ hk hsz hlaid _ _
  have hk := hk K rfl
  have hW' := hW
  obtain ⟨p, q, hA, hV, rfl, hfz, hnd⟩ := hW
  change DataW.TrodVars _ _ _ _ s.vars _ _ at hV
  rw [hvars] at hV
  obtain ⟨rfl, rfl⟩ := trodVars_none hV
  obtain ⟨l1, l2⟩ := trodAll_length hA
  have hv : DataSpec.varTypes C.prog s.plain = [] := by simp [DataSpec.varTypes, ChangeSpec.plain, hvars]
  have hv' : DataSpec.varTypes C.prog ({ OpenSpec.ofChange s with cond := some K } : OpenSpec).bare.plain = [] := hv
  rw [hv'] at hsz
  simp only [List.append_nil] at hsz hW' hk
  refine (walk W base args ds p l2 hval hA hsz hk hlaid).mono fun e W' ⟨he, bel⟩ => ?_
  subst he
  have hsp := hspec ds l1
  refine ⟨_, rfl, ?_⟩
  show s.post enc C.prog fn false true false false W args _ W'
  refine ⟨ds, [], _, [], p, [], hW', ?_, ?_, ?_, bel.frame _, fun h => by cases h⟩
  · rw [List.append_nil, hsp, hres]
    exact trodAll_mk1 (shut_bool hub _)
  · rw [List.append_nil, hsp]
    refine trodAll_below hl bel ?_ hA
    intro t ht
    have := List.all_eq_true.1 hp t ht
    simpa [Bool.and_eq_true] using this
  · rw [List.append_nil, hsp, hvars]
    simp [DataW.TrodVars]
end Go.Frame
end
section
set_option linter.unusedSimpArgs false
set_option linter.unusedVariables false
namespace Go.Proofs.YtogpnlkjcdedlaaDoor
open Go.RowKit Bs Rg Nf Go.Frame
attribute [local go_sem] eq_zero eq_set

set_option maxRecDepth 100000 in
set_option maxHeartbeats 4000000 in
theorem nfits_any (w : World) (n st : Int) (a1 a2 : Option Addr) (m c1 k c2 : Nat) (f t : Int) (e : Bool) (s : BS) :
    Calls Tryd.prog 33 #[.agg #[.int .i64 n, .int .i64 st, .slice a1 m c1, .slice a2 k c2], .agg #[.int .i64 f, .int .i64 t, .bool e, .int .u64 (ws s 0 : Int), .int .u64 (ws s 1 : Int), .int .u64 (ws s 2 : Int), .int .u64 (ws s 3 : Int)]] w fun r w' => r = .returned (.bool (arcOk n ⟨f, t, e, s⟩)) ∧ Below w.heap.size w w' := by
  obtain ⟨W, hW⟩ : ∃ W, W = (w.alloc (.cells #[.int .i64 n, .int .i64 st, .slice a1 m c1, .slice a2 k c2] 25)).alloc (.cells #[.int .i64 f, .int .i64 t, .bool e, .int .u64 (ws s 0 : Int), .int .u64 (ws s 1 : Int), .int .u64 (ws s 2 : Int), .int .u64 (ws s 3 : Int)] 55) := ⟨_, rfl⟩
  obtain ⟨x0, x1, bW, hsz⟩ := Go.Frame.two w (.cells #[.int .i64 n, .int .i64 st, .slice a1 m c1, .slice a2 k c2] 25) (.cells #[.int .i64 f, .int .i64 t, .bool e, .int .u64 (ws s 0 : Int), .int .u64 (ws s 1 : Int), .int .u64 (ws s 2 : Int), .int .u64 (ws s 3 : Int)] 55)
  rw [← hW] at x0 x1 bW hsz
  have X0 := hid x0
  have X1 := hid x1
  have HB := hid bW
  have CS := hid (fun V (x : Int) => isState_any V n st x a1 a2 m c1 k c2)
  clear x0 x1 bW
  obtain ⟨y1, h1⟩ : ∃ y, y = isS n f := ⟨_, rfl⟩
  obtain ⟨y2, h2⟩ : ∃ y, y = isS n t := ⟨_, rfl⟩
  obtain ⟨y3, h3⟩ : ∃ y, y = emp s := ⟨_, rfl⟩
  have hr : arcOk n ⟨f, t, e, s⟩ = (y1 && y2 && (!e || y3)) := by rw [h1, h2, h3]; rfl
  rw [hr]
  clear hr
  have C1 := hid (fun V => h1 ▸ CS.out V f)
  have C2 := hid (fun V => h2 ▸ CS.out V t)
  have E3 := hid h3
  clear h1 h2 h3 CS
  obtain ⟨d0, d1, d2, d3⟩ := cells4 X0.out
  obtain ⟨e0, e1, e2, e3, e4, e5, e6⟩ := cells7a X1.out
  go_enter Tryd.func33, Tryd.ntmps33
  go_upto_region 1 with fail
  rw [← hW]
  clear hW
  go_wp2_with fail
  refine (C1.out _).mono ?_
  rintro r V ⟨rfl, b1⟩
  have H1 := hid (HB.out.trans (b1.mono HB.out.size))
  have Y0 := hid ((b1.block _ (heap_lt X0.out)).trans X0.out)
  have Y1 := hid ((b1.block _ (heap_lt X1.out)).trans X1.out)
  clear b1 d0 d1 d2 d3 e0 e1 e2 e3 e4 e5 e6
  cases y1
  · skip
    go_wp2
    go_ret
    exact ⟨rfl, H1.out⟩
  · obtain ⟨d0, d1, d2, d3⟩ := cells4 Y0.out
    obtain ⟨e0, e1, e2, e3, e4, e5, e6⟩ := cells7a Y1.out
    go_wp2_with fail
    refine (C2.out _).mono ?_
    rintro r V2 ⟨rfl, b2⟩
    have H2 := hid (H1.out.trans (b2.mono H1.out.size))
    have Z1 := hid ((b2.block _ (heap_lt Y1.out)).trans Y1.out)
    clear b2 d0 d1 d2 d3 e0 e1 e2 e3 e4 e5 e6
    obtain ⟨e0, e1, e2, e3, e4, e5, e6⟩ := cells7a Z1.out
    cases y2
    · skip
      go_wp2
      go_ret
      exact ⟨rfl, H2.out⟩
    · cases e
      · skip
        go_wp2
        go_ret
        exact ⟨rfl, H2.out⟩
      · have hy := E3.out
        go_wp2
        go_ret
        exact ⟨by rw [hy]; rfl, H2.out⟩
end Go.Proofs.YtogpnlkjcdedlaaDoor
end
section
set_option linter.unusedSimpArgs false
set_option linter.unusedVariables false
namespace Go.Proofs.YtogpnlkjcdedlaaDoor
open Go.RowKit Bs Rg Nf Go.Frame
attribute [local go_sem] eq_zero eq_set

set_option maxRecDepth 100000 in
set_option maxHeartbeats 4000000 in
theorem clo32_any (w : World) (B : Nat) (n st : Int) (a1 a2 : Option Addr) (m c1 k c2 : Nat) (f t : Int) (e : Bool) (s : BS) (hB : w.heap[B]? = some (.cells #[.int .i64 n, .int .i64 st, .slice a1 m c1, .slice a2 k c2] 25 (0, 0))) :
    Calls Tryd.prog 32 #[.agg #[.int .i64 f, .int .i64 t, .bool e, .int .u64 (ws s 0 : Int), .int .u64 (ws s 1 : Int), .int .u64 (ws s 2 : Int), .int .u64 (ws s 3 : Int)], .pointer (some ⟨B, 0, none⟩)] w fun r w' => r = .returned (.bool (!arcOk n ⟨f, t, e, s⟩)) ∧ Below w.heap.size w w' := by
  obtain ⟨W, hW⟩ : ∃ W, W = w.alloc (.cells #[.int .i64 f, .int .i64 t, .bool e, .int .u64 (ws s 0 : Int), .int .u64 (ws s 1 : Int), .int .u64 (ws s 2 : Int), .int .u64 (ws s 3 : Int)] 55) := ⟨_, rfl⟩
  have HB := hid (show Below w.heap.size w W from by rw [hW]; exact bel1 _ _)
  have X0 := hid (show W.heap[B]? = some (.cells #[.int .i64 n, .int .i64 st, .slice a1 m c1, .slice a2 k c2] 25 (0, 0)) from by rw [hW]; exact blk_alloc hB)
  have X1 := hid (show W.heap[w.heap.size]? = some (.cells #[.int .i64 f, .int .i64 t, .bool e, .int .u64 (ws s 0 : Int), .int .u64 (ws s 1 : Int), .int .u64 (ws s 2 : Int), .int .u64 (ws s 3 : Int)] 55 (0, 0)) from by rw [hW]; exact alloc_new _ _)
  have CF := hid (fun V => nfits_any V n st a1 a2 m c1 k c2 f t e s)
  clear hB
  obtain ⟨d0, d1, d2, d3⟩ := cells4 X0.out
  obtain ⟨e0, e1, e2, e3, e4, e5, e6⟩ := cells7a X1.out
  obtain ⟨y, hy⟩ : ∃ y, y = arcOk n ⟨f, t, e, s⟩ := ⟨_, rfl⟩
  rw [← hy] at CF ⊢
  clear hy
  go_enter Tryd.func32, Tryd.ntmps32
  go_upto_region 1 with fail
  rw [← hW]
  clear hW
  go_wp2_with fail
  refine (CF.out _).mono ?_
  rintro r V ⟨rfl, b1⟩
  go_wp2
  go_ret
  exact ⟨rfl, HB.out.trans (b1.mono HB.out.size)⟩
set_option maxRecDepth 100000 in
set_option maxHeartbeats 4000000 in
theorem idx53_any (w : World) (B : Nat) (n st : Int) (a1 a2 : Option Addr) (m c1 k c2 : Nat) (l : List Arc) (hB : w.heap[B]? = some (.cells #[.int .i64 n, .int .i64 st, .slice a1 m c1, .slice a2 k c2] 25 (0, 0))) (hA : CRow 7 w a1 m (l.map acs)) (hm : m ≤ 140737488355328) :
    Calls Tryd.prog 53 #[.slice a1 m c1, .func (.func 32) #[] #[.pointer (some ⟨B, 0, none⟩)]] w fun r w' => (∃ x : Int, r = .returned (.int .i64 x) ∧ decide (0 ≤ x) = !l.all (arcOk n)) ∧ Below w.heap.size w w' := by
  have H0 := hid (And.intro hB (And.intro hA (heap_lt hB)))
  have CL := hid (fun V f t e s (hV : V.heap[B]? = some (.cells #[.int .i64 n, .int .i64 st, .slice a1 m c1, .slice a2 k c2] 25 (0, 0))) => clo32_any V B n st a1 a2 m c1 k c2 f t e s hV)
  have hl : l.length = m := by have := hA.1; simpa using this
  have HL := hid hl
  clear hB hA hl
  go_enter Tryd.func53, Tryd.ntmps53
  go_wp2_with fail
  go_loopg [8] m (fun kk s8 wr => ∃ i : Nat, s8 = .int .i64 (i : Int) ∧ i + kk = m ∧ (l.take i).all (arcOk n) = true ∧ Below w.heap.size w wr)
  case atStart => exact ⟨0, rfl, by omega, by simp, Below.refl _ _⟩
  case round =>
    obtain ⟨i, rfl, hik, htk, hbw⟩ := hrel
    by_cases hlt : i < m
    · have hlt' : (i : Int) < (m : Int) := by omega
      obtain ⟨b, off, f, t, e, s, rfl, hbl, ha, q0, q1, q2, q3, q4, q5, q6⟩ := arc_at (H0.out.2.1.below (W' := wr) (by exact hbw)) hlt
      have HX := hid (And.intro htk (And.intro hbw ha))
      have CL2 := hid (CL.out wr f t e s ((hbw.block _ H0.out.2.2).trans H0.out.1))
      obtain ⟨y, hy⟩ : ∃ y, y = arcOk n ⟨f, t, e, s⟩ := ⟨_, rfl⟩
      rw [← hy] at CL2
      have HY := hid hy
      clear htk hbw ha hy hbl
      go_wp2_with fail
      refine CL2.out.mono ?_
      rintro r V ⟨rfl, b1⟩
      have HZ := hid (HX.out.2.1.trans (b1.mono HX.out.2.1.size))
      clear b1
      cases y
      · skip
        go_wp2
        go_ret
        refine ⟨⟨i, rfl, ?_⟩, HZ.out⟩
        have h1 : l.all (arcOk n) = false := by
          rw [List.all_eq_false]
          exact ⟨_, List.mem_of_getElem? HX.out.2.2, by rw [← HY.out]; simp⟩
        rw [h1]; simp
      · skip
        go_wp2
        go_roundg (gk - 1)
        case measure => omega
        case rel =>
          refine ⟨i + 1, by go_num, by omega, ?_, HZ.out⟩
          rw [List.take_add_one, HX.out.2.2, List.all_append, HX.out.1, Bool.true_and]
          simpa using HY.out.symm
    · have hlt' : ¬ (i : Int) < (m : Int) := by omega
      have hall : l.all (arcOk n) = true := by rw [List.take_of_length_le (by have := HL.out; omega)] at htk; exact htk
      have HZ := hid (And.intro hall hbw)
      clear htk hbw hall
      go_wp2
      go_ret
      exact ⟨⟨-1, rfl, by rw [HZ.out.1]; rfl⟩, HZ.out.2⟩
set_option maxRecDepth 100000 in
set_option maxHeartbeats 4000000 in
theorem cont31_any (w : World) (B : Nat) (n st : Int) (a1 a2 : Option Addr) (m c1 k c2 : Nat) (l : List Arc) (hB : w.heap[B]? = some (.cells #[.int .i64 n, .int .i64 st, .slice a1 m c1, .slice a2 k c2] 25 (0, 0))) (hA : CRow 7 w a1 m (l.map acs)) (hm : m ≤ 140737488355328) :
    Calls Tryd.prog 31 #[.slice a1 m c1, .func (.func 32) #[] #[.pointer (some ⟨B, 0, none⟩)]] w fun r w' => r = .returned (.bool (!l.all (arcOk n))) ∧ Below w.heap.size w w' := by
  have CI := hid (idx53_any w B n st a1 a2 m c1 k c2 l hB hA hm)
  obtain ⟨y, hy⟩ : ∃ y, y = !l.all (arcOk n) := ⟨_, rfl⟩
  rw [← hy] at CI ⊢
  clear hy hB hA
  go_enter Tryd.func31, Tryd.ntmps31
  go_wp2_with fail
  refine CI.out.mono ?_
  rintro r V ⟨⟨x, rfl, hx⟩, b1⟩
  by_cases h0 : 0 ≤ x
  · rw [decide_eq_true h0] at hx
    subst hx
    go_wp2
    go_ret
    exact ⟨rfl, b1⟩
  · rw [decide_eq_false h0] at hx
    subst hx
    go_wp2
    go_ret
    exact ⟨by show Ending.returned (.bool (decide (0 ≤ x))) = _; rw [decide_eq_false (by omega : ¬ 0 ≤ x)], b1⟩
set_option maxRecDepth 100000 in
set_option maxHeartbeats 4000000 in
theorem clo35_any (w : World) (x : Int) : Calls Tryd.prog 35 #[.int .i64 x] w fun r w' => r = .returned (.bool (!decide (-1 ≤ x))) ∧ Below w.heap.size w w' := by
  by_cases h : x < -1
  · rw [decide_eq_false (by omega : ¬ -1 ≤ x)]
    go_enter Tryd.func35, Tryd.ntmps35
    go_wp2
    go_ret
    exact ⟨rfl, Below.refl _ _⟩
  · rw [decide_eq_true (by omega : -1 ≤ x)]
    go_enter Tryd.func35, Tryd.ntmps35
    go_wp2
    go_ret
    exact ⟨rfl, Below.refl _ _⟩
set_option maxRecDepth 100000 in
set_option maxHeartbeats 4000000 in
theorem idx54_any (w : World) (a1 : Option Addr) (m c1 : Nat) (l : List Int) (hA : Row w a1 m (l.map iv)) (hm : m ≤ 140737488355328) :
    Calls Tryd.prog 54 #[.slice a1 m c1, .func (.func 35) #[] #[]] w fun r w' => (∃ x : Int, r = .returned (.int .i64 x) ∧ decide (0 ≤ x) = !l.all fun x => decide (-1 ≤ x)) ∧ Below w.heap.size w w' := by
  have H0 := hid hA
  have CL := hid (fun V x => clo35_any V x)
  have hl : l.length = m := by have := hA.1; simpa using this
  have HL := hid hl
  clear hA hl
  go_enter Tryd.func54, Tryd.ntmps54
  go_wp2_with fail
  go_loopg [8] m (fun kk s8 wr => ∃ i : Nat, s8 = .int .i64 (i : Int) ∧ i + kk = m ∧ (l.take i).all (fun x => decide (-1 ≤ x)) = true ∧ Below w.heap.size w wr)
  case atStart => exact ⟨0, rfl, by omega, by simp, Below.refl _ _⟩
  case round =>
    obtain ⟨i, rfl, hik, htk, hbw⟩ := hrel
    by_cases hlt : i < m
    · have hlt' : (i : Int) < (m : Int) := by omega
      obtain ⟨b, off, x, rfl, hbl, ha, q0⟩ := int_at (H0.out.below (W' := wr) (by exact hbw)) hlt
      have HX := hid (And.intro htk (And.intro hbw ha))
      have CL2 := hid (CL.out wr x)
      obtain ⟨y, hy⟩ : ∃ y, y = decide (-1 ≤ x) := ⟨_, rfl⟩
      rw [← hy] at CL2
      have HY := hid hy
      clear htk hbw ha hy hbl
      go_wp2_with fail
      refine CL2.out.mono ?_
      rintro r V ⟨rfl, b1⟩
      have HZ := hid (HX.out.2.1.trans (b1.mono HX.out.2.1.size))
      clear b1
      cases y
      · skip
        go_wp2
        go_ret
        refine ⟨⟨i, rfl, ?_⟩, HZ.out⟩
        have h1 : (l.all fun x => decide (-1 ≤ x)) = false := by
          rw [List.all_eq_false]
          exact ⟨_, List.mem_of_getElem? HX.out.2.2, by rw [← HY.out]; simp⟩
        rw [h1]; simp
      · skip
        go_wp2
        go_roundg (gk - 1)
        case measure => omega
        case rel =>
          refine ⟨i + 1, by go_num, by omega, ?_, HZ.out⟩
          rw [List.take_add_one, HX.out.2.2, List.all_append, HX.out.1, Bool.true_and]
          simpa using HY.out.symm
    · have hlt' : ¬ (i : Int) < (m : Int) := by omega
      have hall : (l.all fun x => decide (-1 ≤ x)) = true := by rw [List.take_of_length_le (by have := HL.out; omega)] at htk; exact htk
      have HZ := hid (And.intro hall hbw)
      clear htk hbw hall
      go_wp2
      go_ret
      exact ⟨⟨-1, rfl, by rw [HZ.out.1]; rfl⟩, HZ.out.2⟩
set_option maxRecDepth 100000 in
set_option maxHeartbeats 4000000 in
theorem cont34_any (w : World) (a1 : Option Addr) (m c1 : Nat) (l : List Int) (hA : Row w a1 m (l.map iv)) (hm : m ≤ 140737488355328) :
    Calls Tryd.prog 34 #[.slice a1 m c1, .func (.func 35) #[] #[]] w fun r w' => r = .returned (.bool (!l.all fun x => decide (-1 ≤ x))) ∧ Below w.heap.size w w' := by
  have CI := hid (idx54_any w a1 m c1 l hA hm)
  obtain ⟨y, hy⟩ : ∃ y, y = !l.all fun x => decide (-1 ≤ x) := ⟨_, rfl⟩
  rw [← hy] at CI ⊢
  clear hy hA
  go_enter Tryd.func34, Tryd.ntmps34
  go_wp2_with fail
  refine CI.out.mono ?_
  rintro r V ⟨⟨x, rfl, hx⟩, b1⟩
  by_cases h0 : 0 ≤ x
  · rw [decide_eq_true h0] at hx
    subst hx
    go_wp2
    go_ret
    exact ⟨rfl, b1⟩
  · rw [decide_eq_false h0] at hx
    subst hx
    go_wp2
    go_ret
    exact ⟨by show Ending.returned (.bool (decide (0 ≤ x))) = _; rw [decide_eq_false (by omega : ¬ 0 ≤ x)], b1⟩
set_option maxRecDepth 100000 in
set_option maxHeartbeats 4000000 in
theorem NValid_any (w : World) (N : Nfa) (a1 a2 : Option Addr) (m c1 k c2 : Nat) (h : NA w N a1 m a2 k) :
    Calls Tryd.prog 12 #[.agg #[.int .i64 N.n, .int .i64 N.st, .slice a1 m c1, .slice a2 k c2]] w fun r w' => r = .returned (.bool (valid N)) ∧ Below w.heap.size w w' := by
  obtain ⟨n, st, arcs, acc⟩ := N
  have hlk := h.lk
  simp only at hlk
  obtain ⟨W, hW⟩ : ∃ W, W = w.alloc (.cells #[.int .i64 n, .int .i64 st, .slice a1 m c1, .slice a2 k c2] 25) := ⟨_, rfl⟩
  have HB := hid (show Below w.heap.size w W from by rw [hW]; exact bel1 _ _)
  have HW := hid (show W.heap[w.heap.size]? = some (.cells #[.int .i64 n, .int .i64 st, .slice a1 m c1, .slice a2 k c2] 25 (0, 0)) from by rw [hW]; exact alloc_new _ _)
  have H := hid (h.below HB.out)
  clear h
  obtain ⟨y1, h1⟩ : ∃ y, y = isS n st := ⟨_, rfl⟩
  obtain ⟨y2, h2⟩ : ∃ y, y = arcs.all (arcOk n) := ⟨_, rfl⟩
  obtain ⟨y3, h3⟩ : ∃ y, y = acc.all fun x => decide (-1 ≤ x) := ⟨_, rfl⟩
  have hv : valid ⟨n, st, arcs, acc⟩ = (decide (1 ≤ n) && decide (n ≤ 2000) && y1 && y2 && decide ((k : Int) = n) && y3) := by rw [h1, h2, h3, ← hlk]; rfl
  obtain ⟨q, hq⟩ : ∃ q, q = valid ⟨n, st, arcs, acc⟩ := ⟨_, rfl⟩
  rw [← hq]
  rw [hv] at hq
  have C1 := hid (fun V => show Calls Tryd.prog 30 #[.agg #[.int .i64 n, .int .i64 st, .slice a1 m c1, .slice a2 k c2], .int .i64 st] V fun e w' => e = .returned (.bool y1) ∧ Below V.heap.size V w' from h1 ▸ isState_any V n st st a1 a2 m c1 k c2)
  have C2 := hid (fun V (hV : Below W.heap.size W V) => show Calls Tryd.prog 31 #[.slice a1 m c1, .func (.func 32) #[] #[.pointer (some ⟨w.heap.size, 0, none⟩)]] V fun e w' => e = .returned (.bool (!y2)) ∧ Below V.heap.size V w' from h2 ▸ cont31_any V w.heap.size n st a1 a2 m c1 k c2 arcs ((hV.block _ (heap_lt HW.out)).trans HW.out) (H.out.arcs.below hV) H.out.hm)
  have C3 := hid (fun V (hV : Below W.heap.size W V) => show Calls Tryd.prog 34 #[.slice a2 k c2, .func (.func 35) #[] #[]] V fun e w' => e = .returned (.bool (!y3)) ∧ Below V.heap.size V w' from h3 ▸ cont34_any V a2 k c2 acc (H.out.acc.below hV) H.out.hk)
  clear h1 h2 h3 hv hlk H
  obtain ⟨d0, d1, d2, d3⟩ := cells4 HW.out
  have hq' := hid hq
  clear hq
  go_enter Tryd.func12, Tryd.ntmps12
  go_upto_region 1 with fail
  rw [← hW]
  clear hW
  by_cases g1 : 1 ≤ n
  · by_cases g2 : n ≤ 2000
    · go_wp2_with fail
      refine (C1.out _).mono ?_
      rintro r V ⟨rfl, b1⟩
      have HV := hid b1
      have X := hid ((b1.block _ (heap_lt HW.out)).trans HW.out)
      clear b1 d0 d1 d2 d3
      obtain ⟨d0, d1, d2, d3⟩ := cells4 X.out
      cases y1
      · skip
        go_wp2
        go_ret
        exact ⟨by rw [hq'.out]; simp, HB.out.trans (HV.out.mono HB.out.size)⟩
      · skip
        go_wp2_with fail
        refine (C2.out _ HV.out).mono ?_
        rintro r V2 ⟨rfl, b1⟩
        have HV2 := hid (HV.out.trans (b1.mono HV.out.size))
        have X2 := hid ((b1.block _ (heap_lt X.out)).trans X.out)
        clear b1 d0 d1 d2 d3
        obtain ⟨d0, d1, d2, d3⟩ := cells4 X2.out
        cases y2
        · skip
          go_wp2
          go_ret
          exact ⟨by rw [hq'.out]; simp, HB.out.trans (HV2.out.mono HB.out.size)⟩
        · by_cases g3 : (k : Int) = n
          · subst g3
            go_wp2_with fail
            refine (C3.out _ HV2.out).mono ?_
            rintro r V3 ⟨rfl, b1⟩
            have HV3 := hid (HV2.out.trans (b1.mono HV2.out.size))
            clear b1 d0 d1 d2 d3
            have hq3 : q = y3 := by rw [hq'.out, decide_eq_true g1, decide_eq_true g2]; simp
            cases y3
            · skip
              go_wp2
              go_ret
              exact ⟨by rw [hq3]; rfl, HB.out.trans (HV3.out.mono HB.out.size)⟩
            · skip
              go_wp2
              go_ret
              exact ⟨by rw [hq3]; rfl, HB.out.trans (HV3.out.mono HB.out.size)⟩
          · have g4 : ((k : Int) == n) = false := by simpa using g3
            go_wp2
            go_ret
            exact ⟨by rw [hq'.out, decide_eq_false g3]; simp, HB.out.trans (HV2.out.mono HB.out.size)⟩
    · go_wp2
      go_ret
      exact ⟨by rw [hq'.out, decide_eq_false (by omega : ¬ n ≤ 2000)]; simp, HB.out⟩
  · go_wp2
    go_ret
    exact ⟨by rw [hq'.out, decide_eq_false (by omega : ¬ 1 ≤ n)]; simp, HB.out⟩
end Go.Proofs.YtogpnlkjcdedlaaDoor
end
