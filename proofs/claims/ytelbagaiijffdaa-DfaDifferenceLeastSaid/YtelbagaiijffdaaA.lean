/-
  Automata in memory; contracts: allFrom and what it calls, dfa.Valid.
-/
import Derived.Test.YtelbagaiijffdaaM
import Derived.Test.YtelbagaiijffdaaOp
import Derived.Test.YtelbagaiijffdaaKt
import Derived.Test.YtelbagaiijffdaaProg
import Derived.Deep.LoopGhost
import Derived.LoopIn
import Derived.TacticsInMore
import Derived.Deep.Cut
import Derived.BigQuiet
import Derived.Deep.RegionHeld3
set_option linter.unusedSimpArgs false
set_option linter.unusedVariables false
namespace Go.Proofs.Ytelbagaiijffdaa
open Go.RowKit Lx Go.Frame

theorem bel1 (w : World) (o : Obj) : Below w.heap.size w (w.alloc o) := (Below.refl _ _).alloc (Nat.le_refl _) o
def iv (x : Int) : Value := .int .i64 x
theorem int_at {W : World} {l : List Int} {a1 : Option Addr} {m i : Nat} (h : Row W a1 m (l.map iv)) (hi : i < m) : ∃ b off x, a1 = some ⟨b, off, none⟩ ∧ b < W.heap.size ∧ l[i]? = some x ∧ W.cell? ⟨b, off + i, none⟩ = some (.int .i64 x) := by
  obtain ⟨h1, h2⟩ := h
  rcases h2 with h2 | ⟨b, off, rfl, hb, h2⟩
  · omega
  · have hl : i < l.length := by simp at h1; omega
    exact ⟨b, off, l[i], rfl, hb, List.getElem?_eq_getElem hl, h2 i _ (by rw [List.getElem?_map, List.getElem?_eq_getElem hl]; rfl)⟩
/-- A slice of rows of numbers. -/
def Rows2 (W : World) (a : Option Addr) (n : Nat) (l : List (List Int)) : Prop :=
  l.length = n ∧ (n = 0 ∨ ∃ b off, a = some ⟨b, off, none⟩ ∧ b < W.heap.size ∧ ∀ i r, l[i]? = some r → ∃ ra rc, W.cell? ⟨b, off + i, none⟩ = some (.slice ra r.length rc) ∧ Row W ra r.length (r.map iv) ∧ r.length ≤ 140737488355328)
theorem Rows2.below {W W' : World} {a : Option Addr} {n : Nat} {l : List (List Int)} (h : Rows2 W a n l) (hb : Below W.heap.size W W') : Rows2 W' a n l := by
  refine ⟨h.1, h.2.imp id ?_⟩
  rintro ⟨b, off, rfl, hlt, hx⟩
  refine ⟨b, off, rfl, Nat.lt_of_lt_of_le hlt hb.size, fun i r hi => ?_⟩
  obtain ⟨ra, rc, h1, h2, h3⟩ := hx i r hi
  exact ⟨ra, rc, (hb.cell (p := ⟨b, _, none⟩) hlt).trans h1, h2.below hb, h3⟩
theorem row_at {W : World} {a : Option Addr} {n i : Nat} {l : List (List Int)} (h : Rows2 W a n l) (hi : i < n) : ∃ b off r ra rc, a = some ⟨b, off, none⟩ ∧ b < W.heap.size ∧ l[i]? = some r ∧ W.cell? ⟨b, off + i, none⟩ = some (.slice ra r.length rc) ∧ Row W ra r.length (r.map iv) ∧ r.length ≤ 140737488355328 := by
  rcases h.2 with h0 | ⟨b, off, rfl, hb, hx⟩
  · omega
  · have hl : i < l.length := by have := h.1; omega
    obtain ⟨ra, rc, h1, h2, h3⟩ := hx i _ (List.getElem?_eq_getElem hl)
    exact ⟨b, off, _, ra, rc, rfl, hb, List.getElem?_eq_getElem hl, h1, h2, h3⟩
/-- An automaton in memory. -/
structure DA (W : World) (D : Df) (a1 : Option Addr) (n1 : Nat) (a2 : Option Addr) (n2 : Nat) (a3 : Option Addr) (n3 : Nat) : Prop where
  cls : Row W a1 n1 (D.cls.map iv)
  nxt : Rows2 W a2 n2 D.nxt
  acc : Row W a3 n3 (D.acc.map iv)
  h1 : n1 ≤ 140737488355328
  h2 : n2 ≤ 140737488355328
  h3 : n3 ≤ 140737488355328
  mx : ∀ x ∈ D.acc, x ≤ 9223372036854775807
theorem DA.below {W W' : World} {D : Df} {a1 a2 a3 : Option Addr} {n1 n2 n3 : Nat} (h : DA W D a1 n1 a2 n2 a3 n3) (hb : Below W.heap.size W W') : DA W' D a1 n1 a2 n2 a3 n3 := ⟨h.cls.below hb, h.nxt.below hb, h.acc.below hb, h.h1, h.h2, h.h3, h.mx⟩
theorem DA.l1 {W : World} {D : Df} {a1 a2 a3 : Option Addr} {n1 n2 n3 : Nat} (h : DA W D a1 n1 a2 n2 a3 n3) : D.cls.length = n1 := by have := h.cls.1; simpa using this
theorem DA.l2 {W : World} {D : Df} {a1 a2 a3 : Option Addr} {n1 n2 n3 : Nat} (h : DA W D a1 n1 a2 n2 a3 n3) : D.nxt.length = n2 := h.nxt.1
theorem DA.l3 {W : World} {D : Df} {a1 a2 a3 : Option Addr} {n1 n2 n3 : Nat} (h : DA W D a1 n1 a2 n2 a3 n3) : D.acc.length = n3 := by have := h.acc.1; simpa using this
def inR (lo hi x : Int) : Bool := decide (lo ≤ x) && decide (x ≤ hi)
set_option maxRecDepth 100000 in
set_option maxHeartbeats 4000000 in
theorem clo36_any (w : World) (B1 B2 : Nat) (lo hi x : Int) (h1 : w.heap[B1]? = some (.cells #[.int .i64 lo] 3 (0, 0))) (h2 : w.heap[B2]? = some (.cells #[.int .i64 hi] 3 (0, 0))) :
    Calls Try.prog 39 #[.int .i64 x, .pointer (some ⟨B1, 0, none⟩), .pointer (some ⟨B2, 0, none⟩)] w fun e w' => e = .returned (.bool (!inR lo hi x)) ∧ Below w.heap.size w w' := by
  have c1 := cells1 h1
  have c2 := cells1 h2
  obtain ⟨q, hq⟩ : ∃ q, q = !inR lo hi x := ⟨_, rfl⟩
  rw [← hq]
  have HQ := hid hq
  clear h1 h2 hq
  by_cases g1 : x < lo
  · go_enter Try.func39, Try.ntmps39
    go_wp2
    go_ret
    exact ⟨by rw [HQ.out]; unfold inR; rw [decide_eq_false (by omega : ¬ lo ≤ x)]; rfl, Below.refl _ _⟩
  · by_cases g2 : hi < x
    · go_enter Try.func39, Try.ntmps39
      go_wp2
      go_ret
      exact ⟨by rw [HQ.out]; unfold inR; rw [decide_eq_false (by omega : ¬ x ≤ hi), Bool.and_false]; rfl, Below.refl _ _⟩
    · go_enter Try.func39, Try.ntmps39
      go_wp2
      go_ret
      exact ⟨by rw [HQ.out]; unfold inR; rw [decide_eq_true (by omega : x ≤ hi), decide_eq_true (by omega : lo ≤ x)]; rfl, Below.refl _ _⟩
set_option maxRecDepth 100000 in
set_option maxHeartbeats 4000000 in
theorem idx39_any (w : World) (B1 B2 : Nat) (lo hi : Int) (a : Option Addr) (n c : Nat) (l : List Int) (h1 : w.heap[B1]? = some (.cells #[.int .i64 lo] 3 (0, 0))) (h2 : w.heap[B2]? = some (.cells #[.int .i64 hi] 3 (0, 0))) (hr : Row w a n (l.map iv)) (hn : n ≤ 140737488355328) :
    Calls Try.prog 46 #[.slice a n c, .func (.func 39) #[] #[.pointer (some ⟨B1, 0, none⟩), .pointer (some ⟨B2, 0, none⟩)]] w fun e w' => (∃ x : Int, e = .returned (.int .i64 x) ∧ decide (0 ≤ x) = !l.all (inR lo hi)) ∧ Below w.heap.size w w' := by
  have CL := hid (fun V (hV : Below w.heap.size w V) x => clo36_any V B1 B2 lo hi x ((hV.block _ (heap_lt h1)).trans h1) ((hV.block _ (heap_lt h2)).trans h2))
  have HR := hid hr
  have HL := hid (show l.length = n from by have := hr.1; simpa using this)
  clear h1 h2 hr
  go_enter Try.func46, Try.ntmps46
  go_wp2_with fail
  go_loopg [8] n (fun kk s8 wr => ∃ i : Nat, s8 = .int .i64 (i : Int) ∧ i + kk = n ∧ (l.take i).all (inR lo hi) = true ∧ Below w.heap.size w wr)
  case atStart => exact ⟨0, rfl, by omega, by simp, Below.refl _ _⟩
  case round =>
    obtain ⟨i, rfl, hik, htk, hbw⟩ := hrel
    by_cases hlt : i < n
    · have hlt' : (i : Int) < (n : Int) := by omega
      obtain ⟨b, off, x, rfl, _, hx, q0⟩ := int_at (HR.out.below hbw) hlt
      have HX := hid (And.intro htk (And.intro hbw hx))
      have CC := hid (CL.out wr hbw x)
      obtain ⟨y, hy⟩ : ∃ y, y = inR lo hi x := ⟨_, rfl⟩
      rw [← hy] at CC
      have HY := hid hy
      clear htk hbw hx hy
      go_wp2_with fail
      refine CC.out.mono ?_
      rintro e V ⟨rfl, b1⟩
      have HZ := hid (HX.out.2.1.trans (b1.mono HX.out.2.1.size))
      clear b1
      cases y
      · go_wp2
        go_ret
        refine ⟨⟨i, rfl, ?_⟩, HZ.out⟩
        have h1 : l.all (inR lo hi) = false := by
          rw [List.all_eq_false]
          exact ⟨_, List.mem_of_getElem? HX.out.2.2, by rw [← HY.out]; simp⟩
        rw [h1]; simp
      · go_wp2
        go_roundg (gk - 1)
        case measure => omega
        case rel =>
          refine ⟨i + 1, by go_num, by omega, ?_, HZ.out⟩
          rw [List.take_add_one, HX.out.2.2, List.all_append, HX.out.1, Bool.true_and]
          simpa using HY.out.symm
    · have hlt' : ¬ (i : Int) < (n : Int) := by omega
      have hall : l.all (inR lo hi) = true := by rw [List.take_of_length_le (by have := HL.out; omega)] at htk; exact htk
      have HZ := hid (And.intro hall hbw)
      clear htk hbw hall
      go_wp2
      go_ret
      exact ⟨⟨-1, rfl, by rw [HZ.out.1]; rfl⟩, HZ.out.2⟩
set_option maxRecDepth 100000 in
set_option maxHeartbeats 4000000 in
theorem cont35_any (w : World) (B1 B2 : Nat) (lo hi : Int) (a : Option Addr) (n c : Nat) (l : List Int) (h1 : w.heap[B1]? = some (.cells #[.int .i64 lo] 3 (0, 0))) (h2 : w.heap[B2]? = some (.cells #[.int .i64 hi] 3 (0, 0))) (hr : Row w a n (l.map iv)) (hn : n ≤ 140737488355328) :
    Calls Try.prog 38 #[.slice a n c, .func (.func 39) #[] #[.pointer (some ⟨B1, 0, none⟩), .pointer (some ⟨B2, 0, none⟩)]] w fun e w' => e = .returned (.bool (!l.all (inR lo hi))) ∧ Below w.heap.size w w' := by
  have CI := hid (idx39_any w B1 B2 lo hi a n c l h1 h2 hr hn)
  obtain ⟨y, hy⟩ : ∃ y, y = !l.all (inR lo hi) := ⟨_, rfl⟩
  rw [← hy] at CI ⊢
  clear hy h1 h2 hr
  go_enter Try.func38, Try.ntmps38
  go_wp2_with fail
  refine CI.out.mono ?_
  rintro r V ⟨⟨x, rfl, hx⟩, b1⟩
  by_cases h0 : 0 ≤ x
  · rw [decide_eq_true h0] at hx
    subst hx
    go_wp2
    go_ret
    exact ⟨rfl, b1⟩
  · rw [decide_eq_false h0] at hx
    subst hx
    go_wp2
    go_ret
    exact ⟨by show Ending.returned (.bool (decide (0 ≤ x))) = _; rw [decide_eq_false (by omega : ¬ 0 ≤ x)], b1⟩
set_option maxRecDepth 100000 in
set_option maxHeartbeats 4000000 in
theorem allFrom_any (w : World) (lo hi : Int) (a : Option Addr) (n c : Nat) (l : List Int) (hr : Row w a n (l.map iv)) (hn : n ≤ 140737488355328) :
    Calls Try.prog 21 #[.int .i64 lo, .int .i64 hi, .slice a n c] w fun e w' => e = .returned (.bool (l.all (inR lo hi))) ∧ Below w.heap.size w w' := by
  obtain ⟨W, hW⟩ : ∃ W, W = (w.alloc (.cells #[.int .i64 lo] 3)).alloc (.cells #[.int .i64 hi] 3) := ⟨_, rfl⟩
  obtain ⟨x1, x2, bW, sW⟩ := two w (.cells #[.int .i64 lo] 3) (.cells #[.int .i64 hi] 3)
  rw [← hW] at x1 x2 bW sW
  have CI := hid (cont35_any W w.heap.size (w.heap.size + 1) lo hi a n c l x1 x2 (hr.below bW) hn)
  have HB := hid bW
  obtain ⟨y, hy⟩ : ∃ y, y = l.all (inR lo hi) := ⟨_, rfl⟩
  rw [← hy] at CI ⊢
  clear hy x1 x2 bW hr sW
  go_enter Try.func21, Try.ntmps21
  go_upto_region 1 with fail
  rw [← hW]
  clear hW
  go_wp2_with fail
  refine CI.out.mono ?_
  rintro r V ⟨rfl, b1⟩
  go_wp2
  go_ret
  exact ⟨by simp, HB.out.trans (b1.mono HB.out.size)⟩

end Go.Proofs.Ytelbagaiijffdaa
