/-
  Tables of ints in memory; the contract of renumber.
-/
import Derived.Test.YtnjlnldbfejjpaaDoorI
import Derived.Laws.MakeOwn
import Derived.Deep.WholeRow
set_option linter.unusedSimpArgs false
set_option linter.unusedVariables false
namespace Go.Proofs.YtnjlnldbfejjpaaDoor
open Go.RowKit Bs Go.Frame

/-- The cells of a table of ints. -/
def ic (N : Nat) (T : Nat → Int) : Array Value := (Array.range N).map fun t => .int .i64 (T t)
theorem ic_at {N t : Nat} (T : Nat → Int) (h : t < N) : (ic N T)[t]? = some (.int .i64 (T t)) := by
  unfold ic
  rw [Array.getElem?_map, Array.getElem?_eq_getElem (by simpa using h)]
  simp
def upd (T : Nat → Int) (k : Nat) (z : Int) : Nat → Int := fun t => if t = k then z else T t
theorem ic_upd {N k : Nat} (T : Nat → Int) (z : Int) : (ic N T).setIfInBounds k (.int .i64 z) = ic N (upd T k z) := by
  apply Array.ext_getElem?
  intro i
  rw [Array.getElem?_setIfInBounds]
  have hs : ∀ T, (ic N T).size = N := fun T => by simp [ic]
  by_cases hi : i < N
  · rw [ic_at _ hi, ic_at _ hi]
    by_cases e : k = i
    · rw [if_pos e, if_pos (by rw [hs]; omega)]
      simp [upd, e]
    · rw [if_neg e]
      have e' : ¬ i = k := fun h => e h.symm
      simp [upd, e']
  · rw [Array.getElem?_eq_none (by rw [hs]; omega), Array.getElem?_eq_none (by rw [hs]; omega)]
    by_cases e : k = i
    · rw [if_pos e, if_neg (by rw [hs]; omega)]
    · rw [if_neg e]
theorem ic_congr {N : Nat} {T U : Nat → Int} (h : ∀ t, t < N → T t = U t) : ic N T = ic N U := by
  apply Array.ext_getElem?
  intro i
  by_cases hi : i < N
  · rw [ic_at _ hi, ic_at _ hi, h i hi]
  · rw [Array.getElem?_eq_none (by simp [ic]; omega), Array.getElem?_eq_none (by simp [ic]; omega)]
theorem ic_cell {W : World} {b N t : Nat} {T : Nat → Int} {ty : TypeId} (h : W.heap[b]? = some (.cells (ic N T) ty (0, 0))) (ht : t < N) : W.cell? ⟨b, t, none⟩ = some (.int .i64 (T t)) := by
  simp only [World.cell?, h]; exact ic_at T ht
theorem info56 : (Tryd.prog.info? 56).map (fun i => (i.zero, i.size)) = some (some (.agg (ic 512 fun _ => 0)), 512) := by kernel_rfl
/-- The classes when the first i have their numbers. -/
def part (c : Nat → Nat) (i t : Nat) : Int := if t < i then (num (Ec c) t : Int) else (c t : Int)
theorem part_next (c : Nat → Nat) (i : Nat) : upd (part c i) i (num (Ec c) i : Int) = part c (i + 1) := by
  funext t
  unfold upd part
  by_cases e : t = i
  · subst e; simp
  · rw [if_neg e]
    by_cases h : t < i
    · rw [if_pos h, if_pos (by omega)]
    · rw [if_neg h, if_neg (by omega)]
theorem given_next {c : Nat → Nat} {i : Nat} (h : given c i (c i) = 0) : upd (fun v => (given c i v : Int)) (c i) ((cf (Ec c) i : Int) + 1) = fun v => (given c (i + 1) v : Int) := by
  funext v
  unfold upd
  rw [given]
  by_cases e : v = c i
  · subst e; rw [if_pos rfl, if_pos ⟨rfl, h⟩]; simp
  · rw [if_neg e, if_neg (by intro k; exact e k.1.symm)]
theorem given_stay {c : Nat → Nat} {i : Nat} (h : given c i (c i) ≠ 0) : given c (i + 1) = given c i := by
  funext v
  rw [given, if_neg (by rintro ⟨rfl, k⟩; exact h k)]
/-- What renumber comes to. -/
def RnRes (g : Nat) (c : Nat → Nat) (w : World) (e : Ending) (w' : World) : Prop :=
  (∃ v, e = .returned v) ∧ w'.heap[g]? = some (.cells (ic 256 fun t => (num (Ec c) t : Int)) 3 (0, 0)) ∧ Kept (fun b => b = g ∨ w.heap.size ≤ b) w w'

set_option maxRecDepth 100000 in
set_option maxHeartbeats 4000000 in
theorem renumber_any (g : Nat) (c : Nat → Nat) (w : World) (hc : ∀ t, t < 256 → c t < 512) (hg : w.heap[g]? = some (.cells (ic 256 fun t => (c t : Int)) 3 (0, 0))) :
    Calls Tryd.prog 35 #[.slice (some ⟨g, 0, none⟩) 256 256] w fun e w' => RnRes g c w e w' := by
  obtain ⟨Z, hZ⟩ : ∃ Z, Z = ic 512 fun _ => 0 := ⟨_, rfl⟩
  have hz := (zero_of_info (P := Tryd.prog) info56).1
  rw [← hZ] at hz
  have lg := heap_lt hg
  obtain ⟨W, hW⟩ : ∃ W, W = w.alloc (.cells Z 56) := ⟨_, rfl⟩
  have bW : Kept (fun b => b = g ∨ w.heap.size ≤ b) w W := by rw [hW]; exact (Kept.refl _ _).alloc (fun b hb => .inr hb) _
  have x0 : W.heap[w.heap.size]? = some (.cells (ic 512 fun v => (given c 0 v : Int)) 56 (0, 0)) := by rw [hW, hZ]; exact alloc_new _ _
  have x1 : W.heap[g]? = some (.cells (ic 256 (part c 0)) 3 (0, 0)) := by
    rw [hW]
    refine (blk_alloc hg).trans ?_
    rw [ic_congr (T := part c 0) (U := fun t => (c t : Int)) (fun t _ => by unfold part; rw [if_neg (by omega)])]
  have HX := hid (And.intro x0 (And.intro x1 (And.intro bW lg)))
  clear x0 x1 bW lg hg
  have HZ := hid hZ
  clear hZ
  have HC := hid hc
  clear hc
  go_enter Tryd.func35, Tryd.ntmps35
  go_wp2_with fail
  rw [← hW]
  clear hW
  go_loopg [3, 8] 256 (fun k s3 s8 wr => ∃ i : Nat, s8 = .int .i64 i ∧ s3 = .int .i64 (cf (Ec c) i : Int) ∧ i + k = 256 ∧ wr.heap[w.heap.size]? = some (.cells (ic 512 fun v => (given c i v : Int)) 56 (0, 0)) ∧ wr.heap[g]? = some (.cells (ic 256 (part c i)) 3 (0, 0)) ∧ Kept (fun b => b = g ∨ w.heap.size ≤ b) w wr)
  case atStart => exact ⟨0, rfl, rfl, rfl, HX.out.1, HX.out.2.1, HX.out.2.2.1⟩
  case round =>
    obtain ⟨i, rfl, rfl, hk, hB, hG, hK⟩ := hrel
    have hcf := cf_le (Ec c) i
    by_cases hlt : i < 256
    · have hlt' : (i : Int) < 256 := by omega
      have hi0 : (0 : Int) ≤ (i : Int) := by omega
      have hcv := HC.out i hlt
      have hnum : given c (i + 1) (c i) = num (Ec c) i + 1 := by
        by_cases h0 : given c i (c i) = 0
        · rw [given, if_pos ⟨rfl, h0⟩, (given_new h0).2]
        · rw [given_stay h0, (given_old h0).2]
      have hcf1 : cf (Ec c) (i + 1) = if given c i (c i) = 0 then cf (Ec c) i + 1 else cf (Ec c) i := by
        rw [cf]
        by_cases h0 : given c i (c i) = 0
        · rw [if_pos h0, if_pos (given_new h0).1]
        · rw [if_neg h0, if_neg (given_old h0).1]; rfl
      have hnl := num_le (Ec c) i
      have c0 : wr.cell? ⟨g, i, none⟩ = some (.int .i64 (c i : Int)) := by
        rw [ic_cell hG hlt]; unfold part; rw [if_neg (by omega)]
      have f0 := free hG i
      have f1 := free hB (c i)
      have c1 : wr.cell? ⟨w.heap.size, c i, none⟩ = some (.int .i64 (given c i (c i) : Int)) := ic_cell hB hcv
      obtain ⟨v, hv⟩ : ∃ v, v = c i := ⟨_, rfl⟩
      obtain ⟨x, hx⟩ : ∃ x, x = given c i (c i) := ⟨_, rfl⟩
      obtain ⟨y, hy⟩ : ∃ y, y = num (Ec c) i := ⟨_, rfl⟩
      obtain ⟨q, hq⟩ : ∃ q, q = cf (Ec c) i := ⟨_, rfl⟩
      have hgn : w.heap.size ≠ g := by have := HX.out.2.2.2; omega
      have HH := hid (And.intro hB (And.intro hG (And.intro hK (And.intro hnum (And.intro hcf1 (And.intro hv (And.intro hx (And.intro hy hq))))))))
      rw [← hx, ← hv] at c1
      rw [← hv] at c0 f1 hcv
      rw [← hq] at hcf ⊢
      rw [← hy] at hnl
      have v0 : (0 : Int) ≤ (v : Int) := by omega
      have v1 : (v : Int) < 512 := by omega
      have hgn2 : g ≠ w.heap.size := fun h => hgn h.symm
      have Lh := hid hlt
      by_cases h0 : x = 0
      · have n0 : (x : Int) = 0 := by omega
        have e1 : IntKind.i64.wrap ((q : Int) + 1) = (q : Int) + 1 := wrapIn (by omega) (by omega)
        have e2 : IntKind.i64.wrap (q : Int) = (q : Int) := wrapIn (by omega) (by omega)
        have H0 := hid h0
        clear hB hG hK hnum hcf1 hv hx hy hq hcf hnl hlt h0
        go_wp2
        go_roundg (gk - 1)
        case measure => have := Lh.out; omega
        case rel =>
          obtain ⟨hB, hG, hK, hnum, hcf1, hv, hx, hy, hq⟩ := HH.out
          have h0 := H0.out
          rw [hx] at h0
          rw [if_pos h0, ← hq] at hcf1
          have hy2 : (q : Int) = (num (Ec c) i : Int) := by rw [(given_new h0).2, hq]
          refine ⟨i + 1, by go_num, by rw [hcf1]; simp, by have := Lh.out; omega, ?_, ?_, ?_⟩
          · refine blk_set ?_ hgn
            rw [← given_next h0, ← ic_upd, ← hv, ← hq]
            exact blk_put hB
          · rw [← part_next, ← ic_upd, ← hy2]
            exact blk_put (blk_set hG hgn2)
          · exact (hK.setCell (p := ⟨_, v, none⟩) (.inr (Nat.le_refl _)) _).setCell (p := ⟨g, i, none⟩) (.inl rfl) _
      · have n0 : ¬ (x : Int) = 0 := by omega
        have e2 : (x : Int) - 1 = (y : Int) := by
          have h0' := h0
          rw [hx] at h0'
          have := given_old h0'
          rw [← hx, ← hy] at this
          omega
        have e1 : IntKind.i64.wrap ((x : Int) - 1) = (y : Int) := by rw [e2]; exact wrapIn (by omega) (by omega)
        have H0 := hid h0
        clear hB hG hK hnum hcf1 hv hx hy hq hcf hnl hlt h0 e2
        go_wp2
        go_roundg (gk - 1)
        case measure => have := Lh.out; omega
        case rel =>
          obtain ⟨hB, hG, hK, hnum, hcf1, hv, hx, hy, hq⟩ := HH.out
          have h0 := H0.out
          rw [hx] at h0
          rw [if_neg h0, ← hq] at hcf1
          refine ⟨i + 1, by go_num, by rw [hcf1], by have := Lh.out; omega, ?_, ?_, ?_⟩
          · rw [given_stay h0]
            exact blk_set hB hgn
          · rw [← part_next, ← ic_upd, ← hy]
            exact blk_put hG
          · exact hK.setCell (p := ⟨g, i, none⟩) (.inl rfl) _
    · have hin : ¬ (i : Int) < 256 := by omega
      obtain rfl : i = 256 := by omega
      have HH := hid (And.intro hG hK)
      clear hB hG hK hcf
      go_wp2
      go_end0
      refine ⟨⟨_, rfl⟩, ?_, HH.out.2⟩
      rw [HH.out.1]
      rw [ic_congr (T := part c 256) (U := fun t => (num (Ec c) t : Int)) (fun t ht => by unfold part; rw [if_pos ht])]
end Go.Proofs.YtnjlnldbfejjpaaDoor
