/-
  Automata in memory; contracts: isState, fits, Valid.
-/
import Derived.Test.YtogpnlkjcdedlaaDoorJe
import Derived.Test.YtogpnlkjcdedlaaDoorOp
import Derived.Test.YtogpnlkjcdedlaaDoorNm
import Derived.Deep.LoopGhost
import Derived.LoopIn
import Derived.TacticsInMore
import Derived.Deep.Cut
set_option linter.unusedSimpArgs false
set_option linter.unusedVariables false
namespace Go.Proofs.YtogpnlkjcdedlaaDoor
open Go.RowKit Bs Rg Nf Go.Frame
attribute [local go_sem] eq_zero eq_set

theorem cells7a {W : World} {b : Nat} {x0 x1 x2 x3 x4 x5 x6 : Value} {t : TypeId} (h : W.heap[b]? = some (.cells #[x0, x1, x2, x3, x4, x5, x6] t (0, 0))) : W.cell? ⟨b, 0, none⟩ = some x0 ∧ W.cell? ⟨b, 1, none⟩ = some x1 ∧ W.cell? ⟨b, 2, none⟩ = some x2 ∧ W.cell? ⟨b, 3, none⟩ = some x3 ∧ W.cell? ⟨b, 4, none⟩ = some x4 ∧ W.cell? ⟨b, 5, none⟩ = some x5 ∧ W.cell? ⟨b, 6, none⟩ = some x6 := by
  refine ⟨?_, ?_, ?_, ?_, ?_, ?_, ?_⟩ <;> simp [World.cell?, h]
/-- The cells of an arc. -/
def acs (a : Arc) : List Value := [.int .i64 a.f, .int .i64 a.t, .bool a.e, .int .u64 (ws a.s 0 : Int), .int .u64 (ws a.s 1 : Int), .int .u64 (ws a.s 2 : Int), .int .u64 (ws a.s 3 : Int)]
def iv (x : Int) : Value := .int .i64 x
/-- An automaton's arcs and numbers in memory. -/
structure NA (W : World) (N : Nfa) (a1 : Option Addr) (m : Nat) (a2 : Option Addr) (k : Nat) : Prop where
  arcs : CRow 7 W a1 m (N.arcs.map acs)
  acc : Row W a2 k (N.acc.map iv)
  hm : m ≤ 140737488355328
  hk : k ≤ 140737488355328
theorem NA.below {W W' : World} {N : Nfa} {a1 a2 : Option Addr} {m k : Nat} (h : NA W N a1 m a2 k) (hb : Below W.heap.size W W') : NA W' N a1 m a2 k := ⟨h.arcs.below hb, h.acc.below hb, h.hm, h.hk⟩
theorem NA.lm {W : World} {N : Nfa} {a1 a2 : Option Addr} {m k : Nat} (h : NA W N a1 m a2 k) : N.arcs.length = m := by have := h.arcs.1; simpa using this
theorem NA.lk {W : World} {N : Nfa} {a1 a2 : Option Addr} {m k : Nat} (h : NA W N a1 m a2 k) : N.acc.length = k := by have := h.acc.1; simpa using this
/-- An arc's cells. -/
theorem arc_at {W : World} {l : List Arc} {a1 : Option Addr} {m i : Nat} (h : CRow 7 W a1 m (l.map acs)) (hi : i < m) : ∃ b off f t e s, a1 = some ⟨b, off, none⟩ ∧ b < W.heap.size ∧ l[i]? = some ⟨f, t, e, s⟩ ∧ W.cell? ⟨b, off + i * 7, none⟩ = some (.int .i64 f) ∧ W.cell? ⟨b, off + i * 7 + 1, none⟩ = some (.int .i64 t) ∧ W.cell? ⟨b, off + i * 7 + 2, none⟩ = some (.bool e) ∧ W.cell? ⟨b, off + i * 7 + 3, none⟩ = some (.int .u64 (ws s 0 : Int)) ∧ W.cell? ⟨b, off + i * 7 + 4, none⟩ = some (.int .u64 (ws s 1 : Int)) ∧ W.cell? ⟨b, off + i * 7 + 5, none⟩ = some (.int .u64 (ws s 2 : Int)) ∧ W.cell? ⟨b, off + i * 7 + 6, none⟩ = some (.int .u64 (ws s 3 : Int)) := by
  obtain ⟨h1, h2⟩ := h
  rcases h2 with h2 | ⟨b, off, rfl, hb, h2⟩
  · omega
  · have hl : i < l.length := by simp at h1; omega
    obtain ⟨a, ha⟩ : ∃ a, l[i]? = some a := ⟨l[i], List.getElem?_eq_getElem hl⟩
    obtain ⟨f, t, e, s⟩ := a
    have hc := h2 i (acs ⟨f, t, e, s⟩) (by rw [List.getElem?_map, ha]; rfl)
    exact ⟨b, off, f, t, e, s, rfl, hb, ha, hc 0 _ rfl, hc 1 _ rfl, hc 2 _ rfl, hc 3 _ rfl, hc 4 _ rfl, hc 5 _ rfl, hc 6 _ rfl⟩
theorem int_at {W : World} {l : List Int} {a1 : Option Addr} {m i : Nat} (h : Row W a1 m (l.map iv)) (hi : i < m) : ∃ b off x, a1 = some ⟨b, off, none⟩ ∧ b < W.heap.size ∧ l[i]? = some x ∧ W.cell? ⟨b, off + i, none⟩ = some (.int .i64 x) := by
  obtain ⟨h1, h2⟩ := h
  rcases h2 with h2 | ⟨b, off, rfl, hb, h2⟩
  · omega
  · have hl : i < l.length := by simp at h1; omega
    exact ⟨b, off, l[i], rfl, hb, List.getElem?_eq_getElem hl, h2 i _ (by rw [List.getElem?_map, List.getElem?_eq_getElem hl]; rfl)⟩
set_option maxRecDepth 100000 in
set_option maxHeartbeats 4000000 in
theorem isState_any (w : World) (n st x : Int) (a1 a2 : Option Addr) (m c1 k c2 : Nat) :
    Calls Tryd.prog 30 #[.agg #[.int .i64 n, .int .i64 st, .slice a1 m c1, .slice a2 k c2], .int .i64 x] w fun e w' => e = .returned (.bool (isS n x)) ∧ Below w.heap.size w w' := by
  obtain ⟨W, hW⟩ : ∃ W, W = w.alloc (.cells #[.int .i64 n, .int .i64 st, .slice a1 m c1, .slice a2 k c2] 25) := ⟨_, rfl⟩
  have hb : Below w.heap.size w W := by rw [hW]; exact bel1 _ _
  obtain ⟨d0, d1, d2, d3⟩ := cells4 (hW ▸ alloc_new w (.cells #[.int .i64 n, .int .i64 st, .slice a1 m c1, .slice a2 k c2] 25))
  have HB := hid hb
  clear hb
  by_cases h0 : 0 ≤ x
  · by_cases h1 : x < n
    · rw [show isS n x = true from isS_iff.2 ⟨h0, h1⟩]
      go_enter Tryd.func30, Tryd.ntmps30
      go_wp2
      go_ret
      exact ⟨rfl, hW ▸ HB.out⟩
    · rw [show isS n x = false from by rw [← Bool.not_eq_true, isS_iff]; exact fun h => h1 h.2]
      go_enter Tryd.func30, Tryd.ntmps30
      go_wp2
      go_ret
      exact ⟨rfl, hW ▸ HB.out⟩
  · rw [show isS n x = false from by rw [← Bool.not_eq_true, isS_iff]; exact fun h => h0 h.1]
    go_enter Tryd.func30, Tryd.ntmps30
    go_wp2
    go_ret
    exact ⟨rfl, hW ▸ HB.out⟩
end Go.Proofs.YtogpnlkjcdedlaaDoor
