/-
  The state of merge in memory.
-/
import Derived.Test.YtelbagaiijffdaaUe
set_option linter.unusedSimpArgs false
set_option linter.unusedVariables false
namespace Go.Proofs.Ytelbagaiijffdaa
open Go.RowKit Lx Go.Frame

/-- The numbers of the blocks that have been found. -/
def numsL (N : Nat) (fb : List Nat) : List Int := (List.range N).map fun b => if b ∈ fb then (fb.idxOf b : Int) else -1
theorem numsL_len (N : Nat) (fb : List Nat) : (numsL N fb).length = N := by simp [numsL]
theorem numsL_at {N b : Nat} (h : b < N) (fb : List Nat) : (numsL N fb)[b]? = some (if b ∈ fb then (fb.idxOf b : Int) else -1) := by
  unfold numsL; rw [List.getElem?_map, List.getElem?_range h]; rfl
theorem numsL_nil (N : Nat) : numsL N [] = List.replicate N (-1) := by
  unfold numsL
  apply List.ext_getElem?
  intro i
  rw [List.getElem?_map, List.getElem?_replicate]
  by_cases h : i < N
  · rw [List.getElem?_range h, if_pos h]; simp
  · rw [List.getElem?_eq_none (by simp; omega), if_neg h]; rfl
theorem numsL_push {N b : Nat} {fb : List Nat} (h : b < N) (hb : b ∉ fb) : (numsL N fb).set b (fb.length : Int) = numsL N (fb ++ [b]) := by
  apply List.ext_getElem?
  intro i
  by_cases hi : i < N
  · rw [numsL_at hi]
    by_cases e : b = i
    · subst e
      rw [List.getElem?_set_self (by rw [numsL_len]; exact hi), if_pos (by simp), List.idxOf_append, if_neg hb]
      simp
    · rw [List.getElem?_set_ne e, numsL_at hi]
      by_cases hm : i ∈ fb
      · rw [if_pos hm, if_pos (by simp [hm]), Rk.idx_pre hm]
      · rw [if_neg hm, if_neg (by simp [hm]; exact fun e' => e e'.symm)]
  · rw [List.getElem?_eq_none (by rw [List.length_set, numsL_len]; omega), List.getElem?_eq_none (by rw [numsL_len]; omega)]
/-- A list under way: filled up with zeros. -/
def pad (k : Nat) (L : List Int) : List Int := L ++ List.replicate (k - L.length) 0
theorem pad_len {k : Nat} {L : List Int} (h : L.length ≤ k) : (pad k L).length = k := by unfold pad; simp; omega
theorem pad_set {k : Nat} {L : List Int} (h : L.length < k) (v : Int) : (pad k L).set L.length v = pad k (L ++ [v]) := by
  unfold pad
  rw [List.set_append, if_neg (by omega), Nat.sub_self, show k - L.length = (k - (L ++ [v]).length) + 1 by simp; omega, List.replicate_succ, List.set_cons_zero, List.append_assoc]
  rfl
theorem pad_nil (k : Nat) : pad k [] = List.replicate k 0 := by simp [pad]
theorem pad_all {L : List Int} : pad L.length L = L := by simp [pad]
theorem rank_lt2 {B : List Nat} (hc : Rk.ranks B = B) {q : Nat} (hq : q < B.length) : B.getD q 0 < B.length := by
  rw [List.getD_eq_getElem?_getD, List.getElem?_eq_getElem hq]
  have h : (Rk.ranks B)[q]? = some B[q] := by rw [hc]; exact List.getElem?_eq_getElem hq
  have h1 := Rk.ranks_lt h
  have h2 := Rk.known_le B
  show B[q] < _
  omega
theorem heap_lt2 {W : World} {k : Nat} {x : Obj} (h : W.heap[k]? = some x) : k < W.heap.size := (Array.getElem?_eq_some_iff.1 h).1
/-- The memory of merge. -/
structure MS (w W : World) (FB bb NB : Nat) (a1 : Option Addr) (c1 : Nat) (a2 : Option Addr) (c2 : Nat) (N : Nat) (P : List Nat) (M : List Int) (F : List Nat) (s7 s2 : Value) (rv : List (Nat × List Int)) : Prop where
  tbx : W.heap[w.heap.size]? = some (.cells #[.slice a1 N c1, .slice a2 N c2] 50 (0, 0))
  blk : IB W bb (zs P)
  num : IB W NB M
  fnd : W.ownsRow FB 3 1 s7 F.length ((zs F).map iv)
  nxt : OR W FB s2 rv
  ne : ∀ p ∈ rv, s7.ownBlock ≠ some p.1
  bel : Below w.heap.size w W
  o1 : w.heap.size < bb
  o2 : bb < NB
  o3 : NB < FB
  o4 : FB ≤ W.heap.size
section
variable {w W W' : World} {FB bb NB : Nat} {a1 : Option Addr} {c1 : Nat} {a2 : Option Addr} {c2 : Nat} {N : Nat} {P : List Nat} {M : List Int} {F : List Nat} {s7 s2 : Value} {rv : List (Nat × List Int)}
theorem MS.keep (h : MS w W FB bb NB a1 c1 a2 c2 N P M F s7 s2 rv) (hb : Below W.heap.size W W') : MS w W' FB bb NB a1 c1 a2 c2 N P M F s7 s2 rv :=
  ⟨(hb.block _ (heap_lt h.tbx)).trans h.tbx, h.blk.keep hb, h.num.keep hb, ownsRow_keep h.fnd fun k hk => hb.block k (h.fnd.lt k hk).2, h.nxt.keep hb, h.ne, h.bel.trans (hb.mono h.bel.size), h.o1, h.o2, h.o3, Nat.le_trans h.o4 hb.size⟩
/-- A store into a row that is none of its own. -/
theorem MS.put (h : MS w W FB bb NB a1 c1 a2 c2 N P M F s7 s2 rv) {RB j : Nat} {l : List Int} {u : Value} (hR : IB W RB l) (hF : FB ≤ RB) (h1 : s7.ownBlock ≠ some RB) (h2 : ∀ p ∈ rv, p.1 ≠ RB) : MS w (W.setCell ⟨RB, j, none⟩ u) FB bb NB a1 c1 a2 c2 N P M F s7 s2 rv := by
  have o1 := h.o1; have o2 := h.o2; have o3 := h.o3
  exact ⟨blk_set h.tbx (by show w.heap.size ≠ RB; omega), blk_set h.blk (by show bb ≠ RB; omega), blk_set h.num (by show NB ≠ RB; omega), ownsRow_keep h.fnd fun k hk => heap_setCell_other _ _ _ _ (fun e => h1 ((show k = RB from e) ▸ hk)), h.nxt.put hR (by decide) (.inr h2), h.ne, below_put h.bel (by omega), h.o1, h.o2, h.o3, by simpa using h.o4⟩
/-- A number for a block. -/
theorem MS.numb (h : MS w W FB bb NB a1 c1 a2 c2 N P M F s7 s2 rv) {b : Nat} {x : Int} : MS w (W.setCell ⟨NB, b, none⟩ (.int .i64 x)) FB bb NB a1 c1 a2 c2 N P (M.set b x) F s7 s2 rv := by
  have o1 := h.o1; have o2 := h.o2; have o3 := h.o3
  exact ⟨blk_set h.tbx (by show w.heap.size ≠ NB; omega), blk_set h.blk (by show bb ≠ NB; omega), h.num.set x, ownsRow_keep h.fnd fun k hk => heap_setCell_other _ _ _ _ (fun e => by have h9 := (h.fnd.lt k hk).1; have : k = NB := e; omega), h.nxt.put h.num (by decide) (.inr fun p hp e => by have := (h.nxt.2 p hp).2; omega), h.ne, below_put h.bel (by omega), h.o1, h.o2, h.o3, by simpa using h.o4⟩
/-- One state more is found. -/
theorem MS.found (h : MS w W FB bb NB a1 c1 a2 c2 N P M F s7 s2 rv) {t : Nat} {o : Obj} {w1 : World} {v' : Value} (hown' : w1.ownsRow FB 3 1 v' (F.length + 1) ((zs F).map iv ++ [.int .i64 (t : Int)])) (hgrow : (W.alloc o).grownBy w1 s7.ownBlock)
    (hat : ∀ k, v'.ownBlock = some k → s7.ownBlock = some k ∨ W.heap.size ≤ k) : MS w w1 FB bb NB a1 c1 a2 c2 N P M (F ++ [t]) v' s2 rv := by
  have o1 := h.o1; have o2 := h.o2; have o3 := h.o3
  have keepB : ∀ (k : Nat) (x : Obj), W.heap[k]? = some x → s7.ownBlock ≠ some k → w1.heap[k]? = some x := fun k x hk hn => by
    rw [hgrow.block k (by have := heap_lt2 hk; simp; omega) (fun e => hn e.symm)]
    exact blk_alloc hk
  have lo : ∀ k, k < FB → s7.ownBlock ≠ some k := fun k hk e => by have := (h.fnd.lt k e).1; omega
  refine ⟨keepB _ _ h.tbx (lo _ (by omega)), keepB _ _ h.blk (lo _ (by omega)), keepB _ _ h.num (lo _ (by omega)), by rw [List.length_append, zs_snoc]; exact hown', h.nxt.keepF (fun k hk => ?_) (fun p hp => ?_), fun p hp e => ?_, below_grown2 h.bel h.fnd (by omega) hgrow h.bel.size, h.o1, h.o2, h.o3, Nat.le_trans h.o4 (by have := hgrow.size; simp at this; omega)⟩
  · have hl := (h.nxt.1.lt k hk).2
    rw [hgrow.block k (by simp; omega) (fun e => by
      rcases h.nxt.1.2 with ⟨e', _⟩ | ⟨g, cap, cur, e', _, hg, _⟩
      · rw [e'] at hk; cases hk
      · rw [e'] at hk
        simp [Value.ownBlock] at hk
        subst hk
        exact own_ne_block h.fnd hg (by decide) e.symm)]
    exact (bel1 W o).block k hl
  · have hl := heap_lt (h.nxt.2 p hp).1
    rw [hgrow.block p.1 (by simp; omega) (fun e => h.ne p hp e.symm)]
    exact (bel1 W o).block p.1 hl
  · rcases hat _ e with e | e
    · exact h.ne p hp e
    · have hl := heap_lt (h.nxt.2 p hp).1; omega
/-- One row more. -/
theorem MS.rowed (h : MS w W FB bb NB a1 c1 a2 c2 N P M F s7 s2 rv) {RB : Nat} {r : List Int} {o : Obj} {w1 : World} {v' : Value} (hR : IB W RB r) (hF : FB ≤ RB) (h1 : s7.ownBlock ≠ some RB) (hgrow : (W.alloc o).grownBy w1 s2.ownBlock)
    (hown' : w1.ownsRow FB 22 1 v' (rv.length + 1) (rv.map rvv ++ [rvv (RB, r)])) : MS w w1 FB bb NB a1 c1 a2 c2 N P M F s7 v' (rv ++ [(RB, r)]) := by
  have o1 := h.o1; have o2 := h.o2; have o3 := h.o3
  have keepB : ∀ (k : Nat) (c : Array Value) (t : Nat), t ≠ 22 → W.heap[k]? = some (Obj.cells c t (0, 0)) → w1.heap[k]? = some (Obj.cells c t (0, 0)) := fun k c t ht hk => by
    rw [hgrow.block k (by have := heap_lt2 hk; simp; omega) (fun e => own_ne_block h.nxt.1 hk (fun e => ht e.symm) e.symm)]
    exact blk_alloc hk
  refine ⟨keepB _ _ 50 (by decide) h.tbx, keepB _ _ 3 (by decide) h.blk, keepB _ _ 3 (by decide) h.num, ownsRow_keep h.fnd fun k hk => ?_, h.nxt.snoc hR hF hgrow hown', fun p hp => ?_, below_grown2 h.bel h.nxt.1 (by omega) hgrow h.bel.size, h.o1, h.o2, h.o3, Nat.le_trans h.o4 (by have := hgrow.size; simp at this; omega)⟩
  · have hl := (h.fnd.lt k hk).2
    rw [hgrow.block k (by simp; omega) (fun e => by
      rcases h.fnd.2 with ⟨e', _⟩ | ⟨g, cap, cur, e', _, hg, _⟩
      · rw [e'] at hk; cases hk
      · rw [e'] at hk
        simp [Value.ownBlock] at hk
        subst hk
        exact own_ne_block h.nxt.1 hg (by decide) e.symm)]
    exact (bel1 W o).block k hl
  · rcases List.mem_append.1 hp with hp | hp
    · exact h.ne p hp
    · simp only [List.mem_singleton] at hp
      subst hp
      exact h1
end
end Go.Proofs.Ytelbagaiijffdaa
