/-
  Slices of sets in memory; deferred lists of several ranges over functions; the contract of Classes.
-/
import Derived.Test.YtblcjjhjgoccgaaJ7
import Derived.Test.YtblcjjhjgoccgaaOp
import Derived.RangeFuncWrites
import Derived.Shelf.Abstract
import Derived.Test.YtblcjjhjgoccgaaI
set_option linter.unusedSimpArgs false
set_option linter.unusedVariables false
namespace Go.Proofs.Ytblcjjhjgoccgaa
open Go.RowKit Bs Go.Frame Go.Shelf

attribute [local go_sem] Oper.semAt_some
attribute [local irreducible] nb cnt pc els cf fs

/-- The cells of a set, as a list. -/
def sl (p : Nat → Bool) : List Value := [.int .u64 (wd p 0 : Int), .int .u64 (wd p 1 : Int), .int .u64 (wd p 2 : Int), .int .u64 (wd p 3 : Int)]
/-- A slice of sets in memory. -/
def Sets (W : World) (a : Option Addr) (n : Nat) (E : List (Nat → Bool)) : Prop := CRow 4 W a n (E.map sl)
theorem Sets.below {W W' : World} {a : Option Addr} {n : Nat} {E : List (Nat → Bool)} (h : Sets W a n E) (hb : Below W.heap.size W W') : Sets W' a n E := CRow.below h hb
theorem Sets.length {W : World} {a : Option Addr} {n : Nat} {E : List (Nat → Bool)} (h : Sets W a n E) : E.length = n := by have := h.1; simpa using this
/-- The blocks of deferred calls that a function has laid. -/
def Dfs (n0 : Nat) (W : World) : List Nat → Prop
  | [] => True
  | D :: r => n0 ≤ D ∧ W.heap[D]? = some (.deferred (some [])) ∧ (∀ x ∈ r, x < D) ∧ Dfs n0 W r
def dcl (Ds : List Nat) : List Deferred := Ds.map fun D => { target := .collected D, args := #[] }
theorem make_ints (w : World) : (Instr.makeSlice 22 (.int .i64 256) (.int .i64 256)).run Try.prog w = .ok (.slice (some ⟨w.heap.size, 0, none⟩) 256 256) (w.alloc (.cells (ic 256 fun _ => 0) 3)) := by
  obtain ⟨i, hi, h0, h1, h2⟩ := info_parts info3
  have := run_make (P := Try.prog) w 22 3 i _ Try.underlying22 hi h0 .i64 .i64 256 256 (by omega) (Int.le_refl _) (by rw [h2]; omega) (by omega)
  rw [h1, show (Value.int .i64 0).cells = #[.int .i64 0] by kernel_rfl] at this
  have e : madeCells #[Value.int .i64 0] 256 = ic 256 fun _ => 0 := by
    unfold madeCells ic
    congr 1
    funext t
    rw [show (#[Value.int .i64 0] : Array Value).size = 1 from rfl, Nat.mod_one]
    rfl
  simpa [e] using this
theorem Dfs.kept {n0 : Nat} {W W' : World} : ∀ {Ds : List Nat}, Dfs n0 W Ds → (∀ D ∈ Ds, W'.heap[D]? = W.heap[D]?) → Dfs n0 W' Ds
  | [], _, _ => trivial
  | D :: r, h, k => ⟨h.1, (k D (by simp)).trans h.2.1, h.2.2.1, Dfs.kept h.2.2.2 fun x hx => k x (by simp [hx])⟩
theorem Dfs.mem {n0 : Nat} {W : World} : ∀ {Ds : List Nat}, Dfs n0 W Ds → ∀ D ∈ Ds, n0 ≤ D ∧ D < W.heap.size ∧ W.heap[D]? = some (.deferred (some []))
  | [], _, D, h => by simp at h
  | D :: r, h, x, hx => by
    rcases List.mem_cons.1 hx with rfl | hx
    · exact ⟨h.1, heap_lt h.2.1, h.2.1⟩
    · exact Dfs.mem h.2.2.2 x hx
theorem Dfs.cells {n0 : Nat} {W : World} {Ds : List Nat} (h : Dfs n0 W Ds) {b : Nat} {c : Array Value} {t : TypeId} {f : Nat × Nat} (hb : W.heap[b]? = some (.cells c t f)) : ∀ D ∈ Ds, D ≠ b := by
  rintro D hD rfl
  have := (h.mem D hD).2.2
  rw [hb] at this; cases this
/-- A function's way out behind several ranges over functions. -/
theorem leaves_dcl {fn : Func} {tmps : Array Value} {R : Ending → World → Prop} {n0 : Nat} : ∀ (Ds : List Nat) (W : World), Dfs n0 W Ds →
    (∀ W', Kept (fun b => b ∈ Ds) W W' → LeavesIn Fence.wide 6 Try.prog fn tmps R [] .returning W') → LeavesInM Fence.wide 6 Try.prog fn tmps R (dcl Ds) .returning W
  | [], W, _, k => k W (Kept.refl _ _)
  | D :: r, W, h, k => by
    refine ⟨by simp, .inl ⟨_, _, rfl, run_takeDeferred h.2.1, ?_⟩⟩
    have hk : Kept (fun b => b ∈ D :: r) W (W.putObj D (.deferred none)) := ⟨rfl, rfl, rfl, by simp [World.putObj], fun b hb => World.putObj_heap_other (fun e => hb (by rw [e]; simp))⟩
    refine leaves_dcl r _ (h.2.2.2.kept fun x hx => World.putObj_heap_other (by have := h.2.2.1 x hx; omega)) fun W' hW' => k W' (hk.trans (hW'.mono fun b hb => by simp [hb]))
theorem own_block {A B : World} {row : Option Nat} {b : Nat} {c : Array Value} {t : TypeId} {f : Nat × Nat} (h : A.heap[b]? = some (.cells c t f)) (hg : A.grownBy B row) (hr : ∀ r, row = some r → ∃ o : Obj, A.heap[r]? = some o ∧ o.isCells = false) : B.heap[b]? = some (.cells c t f) := by
  refine (hg.block b (heap_lt h) ?_).trans h
  intro e
  obtain ⟨o, ho, hc⟩ := hr b e.symm
  rw [h] at ho; cases ho; cases hc
theorem keeps_below {W W' : World} (h : Below W.heap.size W W') : KeepsOthers W W' := ⟨h.size, fun k o hk _ => (h.block k (heap_lt hk)).trans hk⟩
/-- The classes when bytes have come: each has 256 more. -/
def bump (T : Nat → Int) (pre : List (Fin 256)) : Nat → Int := pre.foldl (fun T x => upd T x.1 (IntKind.i64.wrap (T x.1 + 256))) T
theorem bump_snoc (T : Nat → Int) (pre : List (Fin 256)) (x : Fin 256) : bump T (pre ++ [x]) = upd (bump T pre) x.1 (IntKind.i64.wrap (bump T pre x.1 + 256)) := by
  unfold bump; rw [List.foldl_append]; rfl
theorem bump_els (T : Nat → Int) (p : Nat → Bool) (hT : ∀ t, 0 ≤ T t ∧ T t ≤ 1000) : ∀ k, k ≤ 256 → ∀ t, bump T (els p k) t = if t < k ∧ p t = true then T t + 256 else T t
  | 0, _, t => by rw [els]; simp [bump]
  | k + 1, hk, t => by
    have ih := bump_els T p hT k (by omega)
    by_cases hp : p k = true
    · rw [els_hit hp (by omega), bump_snoc]
      unfold upd
      simp only
      by_cases e : t = k
      · subst e
        have h2 := hT t
        rw [if_pos rfl, ih, if_neg (by omega), if_pos ⟨by omega, hp⟩]
        exact wrapIn (by omega) (by omega)
      · rw [if_neg e, ih]
        by_cases h : t < k ∧ p t = true
        · rw [if_pos h, if_pos ⟨by omega, h.2⟩]
        · rw [if_neg h, if_neg (fun h' => h ⟨by omega, h'.2⟩)]
    · rw [els_skip (m := k) (m' := k + 1) (by omega) (fun j h1 h2 => by rw [show j = k by omega]; simpa using hp), ih]
      by_cases h : t < k ∧ p t = true
      · rw [if_pos h, if_pos ⟨by omega, h.2⟩]
      · rw [if_neg h, if_neg]
        rintro ⟨h1, h2⟩
        by_cases e : t = k
        · rw [e] at h2; exact hp h2
        · exact h ⟨by omega, h2⟩
theorem bump_num (l : List (Nat → Bool)) (p : Nat → Bool) : ic 256 (bump (fun t => (num (Em l) t : Int)) (els p 256)) = ic 256 fun t => ((num (Em l) t + 256 * (p t).toNat : Nat) : Int) := by
  have hb : ic 256 (fun t => (num (Em l) t : Int)) = ic 256 (fun t => if t < 256 then (num (Em l) t : Int) else 0) := ic_congr fun t ht => by rw [if_pos ht]
  have h := bump_els (fun t => if t < 256 then (num (Em l) t : Int) else 0) p (fun t => by
    have := num_le (Em l) t
    show 0 ≤ (if t < 256 then (num (Em l) t : Int) else 0) ∧ (if t < 256 then (num (Em l) t : Int) else 0) ≤ 1000
    split <;> omega) 256 (by omega)
  have key : ∀ (pre : List (Fin 256)) (T U : Nat → Int), (∀ t, t < 256 → T t = U t) → ∀ t, t < 256 → bump T pre t = bump U pre t := by
    intro pre
    induction pre with
    | nil => exact fun T U h => h
    | cons x pre ih =>
      intro T U h
      refine ih _ _ fun t ht => ?_
      show upd T _ _ t = upd U _ _ t
      unfold upd
      rw [h x.1 x.2, h t ht]
  refine ic_congr fun t ht => ?_
  rw [key _ _ (fun t => if t < 256 then (num (Em l) t : Int) else 0) (fun t ht => by rw [if_pos ht]) t ht, h]
  simp only [ht, true_and, if_true]
  cases p t <;> simp
/-- What Classes comes to. -/
def ClRes (E : List (Nat → Bool)) (w : World) (e : Ending) (w' : World) : Prop :=
  (∃ g, e = .returned (.slice (some ⟨g, 0, none⟩) 256 256) ∧ w'.heap[g]? = some (.cells (ic 256 fun t => (num (Em E) t : Int)) 3 (0, 0)) ∧ w.heap.size ≤ g) ∧ Below w.heap.size w w'

theorem num_nil (t : Nat) : num (Em []) t = 0 := by
  have h : fs (Em []) t = 0 := by
    unfold fs
    exact lst_eq (Nat.zero_le _) (fun _ => by simp [Em]) (fun b hb => by omega)
  unfold num; rw [h, cf]
end Go.Proofs.Ytblcjjhjgoccgaa
