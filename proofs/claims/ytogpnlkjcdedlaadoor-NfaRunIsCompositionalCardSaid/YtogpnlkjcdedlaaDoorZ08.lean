/-
  The builder in memory; contract: addState.
-/
import Derived.Test.YtogpnlkjcdedlaaDoorZ07
import Derived.Test.YtogpnlkjcdedlaaDoorZ01
import Derived.Deep.AppendLies
section
set_option linter.unusedSimpArgs false
set_option linter.unusedVariables false
namespace Go.Proofs.YtogpnlkjcdedlaaDoor
open Go.RowKit Bs Rg Nf Go.Frame
attribute [local go_sem] eq_zero eq_set

def bl (G : Nat → Bool) (N : Nat) : List Value := (List.range N).map fun j => .bool (G j)
theorem bl_len (G : Nat → Bool) (N : Nat) : (bl G N).length = N := by simp [bl]
theorem bl_get (G : Nat → Bool) {N j : Nat} (h : j < N) : (bl G N)[j]? = some (.bool (G j)) := by simp [bl, h]
/-- A row of bools in a block. -/
def BR (W : World) (b N : Nat) (G : Nat → Bool) : Prop := W.heap[b]? = some (.cells (bl G N).toArray 4 (0, 0))
theorem BR.cell {W : World} {b N j : Nat} {G : Nat → Bool} (h : BR W b N G) (hj : j < N) : W.cell? ⟨b, j, none⟩ = some (.bool (G j)) := by
  have h1 : W.heap[b]? = some (.cells (bl G N).toArray 4 (0, 0)) := h
  simp only [World.cell?, h1]
  simp [bl_get G hj]
theorem made_bl (N : Nat) : madeCells #[.bool false] N = (bl (fun _ => false) N).toArray := by
  apply Array.ext'
  rw [toList_madeCells_one]
  apply List.ext_getElem?
  intro i
  by_cases h : i < N
  · rw [List.getElem?_replicate, if_pos h]; show _ = (bl (fun _ => false) N)[i]?; rw [bl_get _ h]
  · rw [List.getElem?_replicate, if_neg h]; show _ = (bl (fun _ => false) N)[i]?; rw [List.getElem?_eq_none (by rw [bl_len]; omega)]
theorem info4b : (Tryd.prog.info? 4).map (fun i => (i.zero, i.size, i.bytes)) = some (some (.bool false), 1, 1) := by kernel_rfl
theorem info48b : (Tryd.prog.info? 48).map (fun i => (i.zero, i.size, i.bytes)) = some (some (.agg #[.int .u64 0, .int .u64 0, .int .u64 0, .int .u64 0]), 4, 32) := by kernel_rfl
theorem info66b : (Tryd.prog.info? 66).map (fun i => (i.zero, i.size, i.bytes)) = some (some (.slice none 0 0), 1, 24) := by kernel_rfl
set_option maxRecDepth 100000 in
theorem make_row (n : Nat) (hn : n ≤ 1000000) (w : World) :
    (Instr.makeSlice 66 (.int .i64 (n : Int)) (.int .i64 (n : Int))).run Tryd.prog w = .ok (.slice (some ⟨w.heap.size, 0, none⟩) n n) (w.alloc (.cells (bl (fun _ => false) n).toArray 4)) := by
  obtain ⟨i, hi, h0, h1, h2⟩ := info_parts info4b
  have := run_make (P := Tryd.prog) w 66 4 i _ Tryd.underlying66 hi h0 .i64 .i64 n n (by omega) (Int.le_refl _) (by rw [h2]; omega) (by omega)
  rw [h1, show (Value.bool false).cells = #[.bool false] by kernel_rfl] at this
  rw [← made_bl]
  simpa using this
theorem own_kept {F : Nat → Prop} {W W' : World} {base e s n : Nat} {v : Value} {xs : List Value} (h : W.ownsRow base e s v n xs) (hk : Kept F W W') (hF : ∀ k, v.ownBlock = some k → ¬ F k) : W'.ownsRow base e s v n xs := ownsRow_keep h fun k hk' => hk.block k (hF k hk')
theorem own_ne {W : World} {b1 b2 e1 e2 s1 s2 n1 n2 : Nat} {v1 v2 : Value} {x1 x2 : List Value} (h1 : W.ownsRow b1 e1 s1 v1 n1 x1) (h2 : W.ownsRow b2 e2 s2 v2 n2 x2) (he : e1 ≠ e2) {k : Nat} (hk : v1.ownBlock = some k) : v2.ownBlock ≠ some k := by
  intro hk2
  rcases h1.2 with ⟨e, _⟩ | ⟨g, cap, cur, e, _, hg, _⟩
  · rw [e] at hk; cases hk
  · rcases h2.2 with ⟨e', _⟩ | ⟨g', cap', cur', e', _, hg', _⟩
    · rw [e'] at hk2; cases hk2
    · rw [e] at hk
      rw [e'] at hk2
      simp [Value.ownBlock] at hk hk2
      subst hk hk2
      rw [hg] at hg'
      simp at hg'
      exact he hg'.2
theorem own_ne_block {W : World} {b e s n B t : Nat} {v : Value} {x : List Value} {c : Array Value} (h1 : W.ownsRow b e s v n x) (h2 : W.heap[B]? = some (.cells c t (0, 0))) (he : e ≠ t) : v.ownBlock ≠ some B := by
  intro hk
  rcases h1.2 with ⟨e', _⟩ | ⟨g, cap, cur, e', _, hg, _⟩
  · rw [e'] at hk; cases hk
  · rw [e'] at hk
    simp [Value.ownBlock] at hk
    subst hk
    rw [h2] at hg
    simp at hg
    exact he hg.2.symm
theorem blk_alloc' {W : World} {o : Obj} {k : Nat} (h : k < W.heap.size) : (W.alloc o).heap[k]? = W.heap[k]? := by
  obtain ⟨x, hx⟩ : ∃ x, W.heap[k]? = some x := ⟨W.heap[k], Array.getElem?_eq_getElem h⟩
  rw [hx]; exact blk_alloc hx
/-- The words of a set of bytes, as cells. -/
def swl (s : BS) : List Value := [.int .u64 (ws s 0 : Int), .int .u64 (ws s 1 : Int), .int .u64 (ws s 2 : Int), .int .u64 (ws s 3 : Int)]
/-- The rows of the matrix. -/
def mrows (rb : Nat → Nat) (most n : Nat) : List Value := (List.range n).map fun i => .slice (some ⟨rb i, 0, none⟩) most most
/-- The builder in memory: all its blocks are of G. -/
structure BD (G : Nat → Prop) (W : World) (base bb most : Nat) (S : List BS) (M : Nat → Nat → Bool) (A : List Int) (sv av cv : Value) (rb : Nat → Nat) : Prop where
  box : W.heap[bb]? = some (.cells #[.int .i64 (most : Int), sv, av, cv] 77 (0, 0))
  sets : W.ownsRow base 48 4 sv S.length (S.flatMap swl)
  arcs : W.ownsRow base 66 1 av S.length (mrows rb most S.length)
  acc : W.ownsRow base 3 1 cv S.length (A.map iv)
  rows : ∀ i, i < S.length → BR W (rb i) most (M i) ∧ G (rb i)
  inj : ∀ i j, i < S.length → j < S.length → rb i = rb j → i = j
  gb : G bb
  gs : ∀ k, sv.ownBlock = some k → G k
  ga : ∀ k, av.ownBlock = some k → G k
  gc : ∀ k, cv.ownBlock = some k → G k
  lt : ∀ b, G b → base ≤ b ∧ b < W.heap.size
  sup : ∀ i j, S.length ≤ i → M i j = false
  most_le : most ≤ 1000
  len : S.length ≤ 1000
/-- .. wherever its rows lie. -/
def BX (G : Nat → Prop) (W : World) (base bb most : Nat) (S : List BS) (M : Nat → Nat → Bool) (A : List Int) : Prop := ∃ sv av cv rb, BD G W base bb most S M A sv av cv rb
theorem BD.al {G : Nat → Prop} {W : World} {base bb most : Nat} {S : List BS} {M : Nat → Nat → Bool} {A : List Int} {sv av cv : Value} {rb : Nat → Nat} (h : BD G W base bb most S M A sv av cv rb) : A.length = S.length := by have := h.acc.1; simpa using this
theorem BD.kept {G F : Nat → Prop} {W W' : World} {base bb most : Nat} {S : List BS} {M : Nat → Nat → Bool} {A : List Int} {sv av cv : Value} {rb : Nat → Nat} (h : BD G W base bb most S M A sv av cv rb) (hk : Kept F W W') (hF : ∀ b, G b → ¬ F b) : BD G W' base bb most S M A sv av cv rb :=
  ⟨(hk.block _ (hF _ h.gb)).trans h.box, own_kept h.sets hk fun k hk' => hF k (h.gs k hk'), own_kept h.arcs hk fun k hk' => hF k (h.ga k hk'), own_kept h.acc hk fun k hk' => hF k (h.gc k hk'), fun i hi => ⟨(hk.block _ (hF _ (h.rows i hi).2)).trans (h.rows i hi).1, (h.rows i hi).2⟩, h.inj, h.gb, h.gs, h.ga, h.gc, fun b hb => ⟨(h.lt b hb).1, Nat.lt_of_lt_of_le (h.lt b hb).2 hk.size⟩, h.sup, h.most_le, h.len⟩
theorem BD.below {G : Nat → Prop} {W W' : World} {base bb most : Nat} {S : List BS} {M : Nat → Nat → Bool} {A : List Int} {sv av cv : Value} {rb : Nat → Nat} (h : BD G W base bb most S M A sv av cv rb) (hb : Below W.heap.size W W') : BD G W' base bb most S M A sv av cv rb :=
  h.kept (F := fun b => W.heap.size ≤ b) (Kept.below hb fun _ hb => hb) fun b hb hF => by have := (h.lt b hb).2; omega
set_option maxRecDepth 100000 in
set_option maxHeartbeats 4000000 in
theorem addState_any (base bb most : Nat) (S : List BS) (M : Nat → Nat → Bool) (A : List Int) (s : BS) (G : Nat → Prop) (W : World) (sv av cv : Value) (rb : Nat → Nat) (h : BD G W base bb most S M A sv av cv rb) (hlen : S.length < 1000) :
    Calls Tryd.prog 47 #[.pointer (some ⟨bb, 0, none⟩), .agg #[.int .u64 (ws s 0 : Int), .int .u64 (ws s 1 : Int), .int .u64 (ws s 2 : Int), .int .u64 (ws s 3 : Int)]] W fun e w' => e = .returned (.int .i64 (S.length : Int)) ∧ (∃ G', BX G' w' base bb most (S ++ [s]) M (A ++ [-1]) ∧ ∀ b, G' b → G b ∨ W.heap.size ≤ b) ∧ Kept (fun b => G b ∨ W.heap.size ≤ b) W w' := by
  obtain ⟨i0, hi, hz0, hz1, hz2⟩ := info_parts info48b
  obtain ⟨i6, hi6, hz06, hz16, hz26⟩ := info_parts info66b
  obtain ⟨i3, hi3, hz03, hz13, hz23⟩ := info_parts Tryd.info3
  obtain ⟨W0, hW0⟩ : ∃ W0, W0 = W.alloc (.cells #[.int .u64 (ws s 0 : Int), .int .u64 (ws s 1 : Int), .int .u64 (ws s 2 : Int), .int .u64 (ws s 3 : Int)] 48) := ⟨_, rfl⟩
  have HB0 := hid (show Below W.heap.size W W0 ∧ W0.heap.size = W.heap.size + 1 from by rw [hW0]; exact ⟨bel1 _ _, by simp⟩)
  have HX0 := hid (show W0.heap[W.heap.size]? = some (.cells #[.int .u64 (ws s 0 : Int), .int .u64 (ws s 1 : Int), .int .u64 (ws s 2 : Int), .int .u64 (ws s 3 : Int)] 48 (0, 0)) from by rw [hW0]; exact alloc_new _ _)
  have H0 := hid (h.below HB0.out.1)
  have HGB := hid (h.lt bb h.gb).2
  have Hlt := hid (fun b hb => (h.lt b hb).2 : ∀ b, G b → b < W.heap.size)
  obtain ⟨n, hn⟩ : ∃ n, n = S.length := ⟨_, rfl⟩
  have HN := hid hn
  rw [← hn] at hlen ⊢
  obtain ⟨sa, sc, rfl⟩ := own_form h.sets
  obtain ⟨aa, ac, rfl⟩ := own_form h.arcs
  obtain ⟨ca, cc, rfl⟩ := own_form h.acc
  have hms := h.most_le
  have HS0 := hid (show W0.ownsRow base 48 4 (.slice sa n sc) n (S.flatMap swl) from by have h9 := H0.out.sets; rw [← hn] at h9; exact h9)
  have HA0 := hid (show W0.ownsRow base 66 1 (.slice aa n ac) n (mrows rb most n) from by have h9 := H0.out.arcs; rw [← hn] at h9; exact h9)
  have HC0 := hid (show W0.ownsRow base 3 1 (.slice ca n cc) n (A.map iv) from by have h9 := H0.out.acc; rw [← hn] at h9; exact h9)
  have HBX0 := hid (show W0.heap[bb]? = some (.cells #[.int .i64 (most : Int), .slice sa n sc, .slice aa n ac, .slice ca n cc] 77 (0, 0)) from by have h9 := H0.out.box; rw [← hn] at h9; exact h9)
  have HROW := hid (show ∀ k, (Value.slice sa n sc).ownBlock = some k → k < W.heap.size from fun k hk => (h.lt k (h.gs k (by rw [← hn]; exact hk))).2)
  clear h hn
  have hbase : base ≤ W0.heap.size := by have := H0.out.lt bb H0.out.gb; omega
  go_enter Tryd.func47, Tryd.ntmps47
  go_upto_region 1 with fail
  rw [← hW0]
  clear hW0
  have HD := hid (show W.heap.size ≠ bb from by have := HGB.out; omega)
  refine region_inv (fun b a' w' => ∃ (v5 v6 v7 v8 v9 v10 v11 v12 v13 v14 : Value), a' = { tmps := #[.pointer (some ⟨bb, 0, none⟩), .agg #[.int .u64 (ws s 0 : Int), .int .u64 (ws s 1 : Int), .int .u64 (ws s 2 : Int), .int .u64 (ws s 3 : Int)], undef, .pointer (some ⟨W.heap.size, 0, none⟩), .int .i64 0, v5, v6, v7, v8, v9, v10, v11, v12, v13, v14, undef, undef, undef, undef, undef, undef, undef, undef, undef, undef, undef, undef, undef, undef, undef, undef, undef, undef, undef, undef, undef, undef, undef, undef, undef, undef, undef, undef, undef], defers := [] } ∧ Kept (fun b => b = bb ∨ (Value.slice sa n sc).ownBlock = some b ∨ W0.heap.size ≤ b) W0 w' ∧ w'.heap[W.heap.size]? = some (.cells #[.int .u64 (ws s 0 : Int), .int .u64 (ws s 1 : Int), .int .u64 (ws s 2 : Int), .int .u64 (ws s 3 : Int)] 48 (0, 0)) ∧ (b 0 = true → v5 = .pointer (some ⟨bb, 0, none⟩)) ∧ (b 1 = true → v6 = .pointer (some ⟨bb, 0, none⟩)) ∧ (b 2 = true → v7 = .pointer (some ⟨bb, 0, none⟩)) ∧ (b 3 = true → v8 = .pointer (some ⟨bb, 1, none⟩)) ∧ (b 4 = true → v9 = .slice sa n sc) ∧ (b 5 = true → v10 = .agg #[.int .u64 (ws s 0 : Int), .int .u64 (ws s 1 : Int), .int .u64 (ws s 2 : Int), .int .u64 (ws s 3 : Int)]) ∧ (b 6 = true → b 7 = false → ∃ g : Nat, v11 = .slice (some ⟨g, 0, none⟩) 1 1 ∧ w'.heap[g]? = some (.cells #[.int .u64 (ws s 0 : Int), .int .u64 (ws s 1 : Int), .int .u64 (ws s 2 : Int), .int .u64 (ws s 3 : Int)] 48 (0, 0))) ∧ (b 7 = true → ∃ (a : Option Addr) (c : Nat), v12 = .slice a (n + 1) c ∧ ∀ k, v12.ownBlock = some k → (Value.slice sa n sc).ownBlock = some k ∨ W0.heap.size ≤ k) ∧ (b 8 = true → v13 = .pointer (some ⟨bb, 0, none⟩)) ∧ (b 9 = true → v14 = .pointer (some ⟨bb, 1, none⟩)) ∧ (b 10 = false → w'.heap[bb]? = some (.cells #[.int .i64 (most : Int), .slice sa n sc, .slice aa n ac, .slice ca n cc] 77 (0, 0))) ∧ (b 10 = true → w'.heap[bb]? = some (.cells #[.int .i64 (most : Int), v12, .slice aa n ac, .slice ca n cc] 77 (0, 0))) ∧ (b 7 = false → w'.ownsRow base 48 4 (.slice sa n sc) n (S.flatMap swl)) ∧ (b 7 = true → w'.ownsRow base 48 4 v12 (n + 1) (S.flatMap swl ++ swl s)) ∧ (b 2 = true → b 1 = true) ∧ (b 3 = true → b 2 = true) ∧ (b 4 = true → b 3 = true) ∧ (b 6 = true → b 5 = true) ∧ (b 7 = true → b 4 = true) ∧ (b 7 = true → b 6 = true) ∧ (b 8 = true → b 0 = true) ∧ (b 9 = true → b 8 = true) ∧ (b 10 = true → b 9 = true) ∧ (b 10 = true → b 7 = true)) (by kernel_rfl) (back_of (by kernel_rfl)) ?step ?done ?init
  case step =>
    rintro b a' w' i o ho ⟨v5, v6, v7, v8, v9, v10, v11, v12, v13, v14, rfl, hk, hx, h0, h1, h2, h3, h4, h5, h6, h7, h8, h9, bo, bn, ro, rn, q2_1, q3_2, q4_3, q6_5, q7_4, q7_6, q8_0, q9_8, q10_9, q10_7⟩ hbi hd K hK
    have hlt : i < 11 := by have := (Array.getElem?_eq_some_iff.1 ho).1; simpa using this
    have dep : ∀ k, (o.after.any fun e => Region.binds .any e && e.on == k) = true → b k = true := fun k hk => by
      obtain ⟨e, he, h⟩ := Array.any_eq_true'.1 hk
      simp only [Bool.and_eq_true, beq_iff_eq] at h
      rw [← h.2]; exact hd e he h.1
    clear hd
    have hi : i = 0 ∨ i = 1 ∨ i = 2 ∨ i = 3 ∨ i = 4 ∨ i = 5 ∨ i = 6 ∨ i = 7 ∨ i = 8 ∨ i = 9 ∨ i = 10 := by omega
    clear hlt
    rcases hi with rfl | rfl | rfl | rfl | rfl | rfl | rfl | rfl | rfl | rfl | rfl
    · simp only [List.getElem?_toArray, List.getElem?_cons_zero, List.getElem?_cons_succ, Option.some.injEq] at ho
      subst ho
      go_simp
      refine hK.out _ _ ⟨_, _, _, _, _, _, _, _, _, _, rfl, hk, hx, fun _ => rfl, fun h => h1 (by simpa using h), fun h => h2 (by simpa using h), fun h => h3 (by simpa using h), fun h => h4 (by simpa using h), fun h => h5 (by simpa using h), fun h h9 => h6 (by simpa using h) (by simpa using h9), fun h => h7 (by simpa using h), fun h => h8 (by simpa using h), fun h => h9 (by simpa using h), fun h => bo (by simpa using h), fun h => bn (by simpa using h), fun h => ro (by simpa using h), fun h => rn (by simpa using h), fun h => by simp [q2_1 (by simpa using h)], fun h => by simp [q3_2 (by simpa using h)], fun h => by simp [q4_3 (by simpa using h)], fun h => by simp [q6_5 (by simpa using h)], fun h => by simp [q7_4 (by simpa using h)], fun h => by simp [q7_6 (by simpa using h)], fun h => by simp [q8_0 (by simpa using h)], fun h => by simp [q9_8 (by simpa using h)], fun h => by simp [q10_9 (by simpa using h)], fun h => by simp [q10_7 (by simpa using h)]⟩
    · simp only [List.getElem?_toArray, List.getElem?_cons_zero, List.getElem?_cons_succ, Option.some.injEq] at ho
      subst ho
      go_simp
      refine hK.out _ _ ⟨_, _, _, _, _, _, _, _, _, _, rfl, hk, hx, fun h => h0 (by simpa using h), fun _ => rfl, fun h => h2 (by simpa using h), fun h => h3 (by simpa using h), fun h => h4 (by simpa using h), fun h => h5 (by simpa using h), fun h h9 => h6 (by simpa using h) (by simpa using h9), fun h => h7 (by simpa using h), fun h => h8 (by simpa using h), fun h => h9 (by simpa using h), fun h => bo (by simpa using h), fun h => bn (by simpa using h), fun h => ro (by simpa using h), fun h => rn (by simpa using h), fun h => by simp [q2_1 (by simpa using h)], fun h => by simp [q3_2 (by simpa using h)], fun h => by simp [q4_3 (by simpa using h)], fun h => by simp [q6_5 (by simpa using h)], fun h => by simp [q7_4 (by simpa using h)], fun h => by simp [q7_6 (by simpa using h)], fun h => by simp [q8_0 (by simpa using h)], fun h => by simp [q9_8 (by simpa using h)], fun h => by simp [q10_9 (by simpa using h)], fun h => by simp [q10_7 (by simpa using h)]⟩
    · simp only [List.getElem?_toArray, List.getElem?_cons_zero, List.getElem?_cons_succ, Option.some.injEq] at ho
      subst ho
      have e_1 := dep 1 (by kernel_rfl)
      obtain rfl := h1 e_1
      go_simp
      refine hK.out _ _ ⟨_, _, _, _, _, _, _, _, _, _, rfl, hk, hx, fun h => h0 (by simpa using h), fun _ => rfl, fun _ => rfl, fun h => h3 (by simpa using h), fun h => h4 (by simpa using h), fun h => h5 (by simpa using h), fun h h9 => h6 (by simpa using h) (by simpa using h9), fun h => h7 (by simpa using h), fun h => h8 (by simpa using h), fun h => h9 (by simpa using h), fun h => bo (by simpa using h), fun h => bn (by simpa using h), fun h => ro (by simpa using h), fun h => rn (by simpa using h), fun _ => by simp [e_1], fun h => by simp [q3_2 (by simpa using h)], fun h => by simp [q4_3 (by simpa using h)], fun h => by simp [q6_5 (by simpa using h)], fun h => by simp [q7_4 (by simpa using h)], fun h => by simp [q7_6 (by simpa using h)], fun h => by simp [q8_0 (by simpa using h)], fun h => by simp [q9_8 (by simpa using h)], fun h => by simp [q10_9 (by simpa using h)], fun h => by simp [q10_7 (by simpa using h)]⟩
    · simp only [List.getElem?_toArray, List.getElem?_cons_zero, List.getElem?_cons_succ, Option.some.injEq] at ho
      subst ho
      have e_2 := dep 2 (by kernel_rfl)
      have e_1 := q2_1 e_2
      obtain rfl := h1 e_1
      obtain rfl := h2 e_2
      go_simp
      refine hK.out _ _ ⟨_, _, _, _, _, _, _, _, _, _, rfl, hk, hx, fun h => h0 (by simpa using h), fun _ => rfl, fun _ => rfl, fun _ => rfl, fun h => h4 (by simpa using h), fun h => h5 (by simpa using h), fun h h9 => h6 (by simpa using h) (by simpa using h9), fun h => h7 (by simpa using h), fun h => h8 (by simpa using h), fun h => h9 (by simpa using h), fun h => bo (by simpa using h), fun h => bn (by simpa using h), fun h => ro (by simpa using h), fun h => rn (by simpa using h), fun h => by simp [q2_1 (by simpa using h)], fun _ => by simp [e_2], fun h => by simp [q4_3 (by simpa using h)], fun h => by simp [q6_5 (by simpa using h)], fun h => by simp [q7_4 (by simpa using h)], fun h => by simp [q7_6 (by simpa using h)], fun h => by simp [q8_0 (by simpa using h)], fun h => by simp [q9_8 (by simpa using h)], fun h => by simp [q10_9 (by simpa using h)], fun h => by simp [q10_7 (by simpa using h)]⟩
    · simp only [List.getElem?_toArray, List.getElem?_cons_zero, List.getElem?_cons_succ, Option.some.injEq] at ho
      subst ho
      have e_3 := dep 3 (by kernel_rfl)
      have e_2 := q3_2 e_3
      have e_1 := q2_1 e_2
      obtain rfl := h1 e_1
      obtain rfl := h2 e_2
      obtain rfl := h3 e_3
      have n10 : b 10 = false := by
        cases hb : b 10
        · rfl
        · have := q7_4 (q10_7 hb); rw [hbi] at this; cases this
      obtain ⟨d0, d1, d2, d3⟩ := cells4 (bo n10)
      go_simp
      refine hK.out _ _ ⟨_, _, _, _, _, _, _, _, _, _, rfl, hk, hx, fun h => h0 (by simpa using h), fun _ => rfl, fun _ => rfl, fun _ => rfl, fun _ => rfl, fun h => h5 (by simpa using h), fun h h9 => h6 (by simpa using h) (by simpa using h9), fun h => h7 (by simpa using h), fun h => h8 (by simpa using h), fun h => h9 (by simpa using h), fun h => bo (by simpa using h), fun h => bn (by simpa using h), fun h => ro (by simpa using h), fun h => rn (by simpa using h), fun h => by simp [q2_1 (by simpa using h)], fun h => by simp [q3_2 (by simpa using h)], fun _ => by simp [e_3], fun h => by simp [q6_5 (by simpa using h)], fun h => by simp [q7_4 (by simpa using h)], fun h => by simp [q7_6 (by simpa using h)], fun h => by simp [q8_0 (by simpa using h)], fun h => by simp [q9_8 (by simpa using h)], fun h => by simp [q10_9 (by simpa using h)], fun h => by simp [q10_7 (by simpa using h)]⟩
    · simp only [List.getElem?_toArray, List.getElem?_cons_zero, List.getElem?_cons_succ, Option.some.injEq] at ho
      subst ho
      obtain ⟨e0, e1, e2, e3⟩ := cells4 hx
      go_simp
      refine hK.out _ _ ⟨_, _, _, _, _, _, _, _, _, _, rfl, hk, hx, fun h => h0 (by simpa using h), fun h => h1 (by simpa using h), fun h => h2 (by simpa using h), fun h => h3 (by simpa using h), fun h => h4 (by simpa using h), fun _ => rfl, fun h h9 => h6 (by simpa using h) (by simpa using h9), fun h => h7 (by simpa using h), fun h => h8 (by simpa using h), fun h => h9 (by simpa using h), fun h => bo (by simpa using h), fun h => bn (by simpa using h), fun h => ro (by simpa using h), fun h => rn (by simpa using h), fun h => by simp [q2_1 (by simpa using h)], fun h => by simp [q3_2 (by simpa using h)], fun h => by simp [q4_3 (by simpa using h)], fun h => by simp [q6_5 (by simpa using h)], fun h => by simp [q7_4 (by simpa using h)], fun h => by simp [q7_6 (by simpa using h)], fun h => by simp [q8_0 (by simpa using h)], fun h => by simp [q9_8 (by simpa using h)], fun h => by simp [q10_9 (by simpa using h)], fun h => by simp [q10_7 (by simpa using h)]⟩
    · simp only [List.getElem?_toArray, List.getElem?_cons_zero, List.getElem?_cons_succ, Option.some.injEq] at ho
      subst ho
      have e_5 := dep 5 (by kernel_rfl)
      obtain rfl := h5 e_5
      have n7 : b 7 = false := by
        cases hb : b 7
        · rfl
        · have := q7_6 hb; rw [hbi] at this; cases this
      have b5 := bel1 w' (.cells #[.int .u64 (ws s 0 : Int), .int .u64 (ws s 1 : Int), .int .u64 (ws s 2 : Int), .int .u64 (ws s 3 : Int)] 48)
      go_simp
      refine hK.out _ _ ⟨_, _, _, _, _, _, _, _, _, _, rfl, hk.trans (Kept.below b5 fun b hb => .inr (.inr (Nat.le_trans hk.size hb))), (b5.block _ (heap_lt hx)).trans hx, fun h => h0 (by simpa using h), fun h => h1 (by simpa using h), fun h => h2 (by simpa using h), fun h => h3 (by simpa using h), fun h => h4 (by simpa using h), fun _ => rfl, fun _ _ => ⟨w'.heap.size, rfl, alloc_new _ _⟩, fun h => h7 (by simpa using h), fun h => h8 (by simpa using h), fun h => h9 (by simpa using h), fun h => (b5.block _ (heap_lt (bo (by simpa using h)))).trans (bo (by simpa using h)), fun h => (b5.block _ (heap_lt (bn (by simpa using h)))).trans (bn (by simpa using h)), fun h => ownsRow_keep (ro (by simpa using h)) fun k hk9 => b5.block k ((ro (by simpa using h)).lt k hk9).2, fun h => ownsRow_keep (rn (by simpa using h)) fun k hk9 => b5.block k ((rn (by simpa using h)).lt k hk9).2, fun h => by simp [q2_1 (by simpa using h)], fun h => by simp [q3_2 (by simpa using h)], fun h => by simp [q4_3 (by simpa using h)], fun _ => by simp [e_5], fun h => by simp [q7_4 (by simpa using h)], fun h => by simp [q7_6 (by simpa using h)], fun h => by simp [q8_0 (by simpa using h)], fun h => by simp [q9_8 (by simpa using h)], fun h => by simp [q10_9 (by simpa using h)], fun h => by simp [q10_7 (by simpa using h)]⟩
    · simp only [List.getElem?_toArray, List.getElem?_cons_zero, List.getElem?_cons_succ, Option.some.injEq] at ho
      subst ho
      have e_4 := dep 4 (by kernel_rfl)
      have e_6 := dep 6 (by kernel_rfl)
      have e_3 := q4_3 e_4
      have e_5 := q6_5 e_6
      have e_2 := q3_2 e_3
      have e_1 := q2_1 e_2
      obtain rfl := h1 e_1
      obtain rfl := h2 e_2
      obtain rfl := h3 e_3
      obtain rfl := h4 e_4
      obtain rfl := h5 e_5
      have n10 : b 10 = false := by
        cases hb : b 10
        · rfl
        · have := q10_7 hb; rw [hbi] at this; cases this
      obtain ⟨g4, rfl, hg4⟩ := h6 e_6 hbi
      have hro := ro hbi
      have hsz := hk.size
      refine step_append_lies _ (by rfl) (.tmp 9) (.tmp 11) 74 (by rfl) base 48 i0 _ 4 32 Tryd.underlying74 hi hz0 hz1 hz2 (by rfl) (by decide) (.slice sa n sc) n _ (by rfl) hro ⟨g4, 0, none⟩ 1 1 (swl s) (by rfl) (by rfl) (World.news_of_block hg4) (by intro u hu; simp [swl] at hu; rcases hu with rfl | rfl | rfl | rfl <;> rfl) (by decide) (by unfold maxLen; omega) (by omega) (by omega) _ rfl ?_
      intro g5 cap5 w5 hown' hgrow hat _
      have hkeep : ∀ k, (Value.slice sa n sc).ownBlock ≠ some k → k < w'.heap.size → w5.heap[k]? = w'.heap[k]? := fun k hne hl => hgrow.block k hl (fun e => hne e.symm)
      have hbo := bo n10
      have hk5 : Kept (fun b => b = bb ∨ (Value.slice sa n sc).ownBlock = some b ∨ W0.heap.size ≤ b) W0 w5 := hk.trans ⟨hgrow.os, hgrow.tape, hgrow.output, hgrow.size, fun k hF => hgrow.block k (by have : ¬ W0.heap.size ≤ k := fun h => hF (.inr (.inr h)); omega) (fun e => hF (.inr (.inl e.symm)))⟩
      refine hK.out _ _ ⟨_, _, _, _, _, _, _, _, _, _, rfl, hk5, (hkeep _ (fun e => by have h1 := HROW.out _ e; omega) (heap_lt hx)).trans hx, fun h => h0 (by simpa using h), fun _ => rfl, fun _ => rfl, fun _ => rfl, fun _ => rfl, fun _ => rfl, fun _ h => absurd h (by simp), fun _ => ⟨_, _, rfl, fun k hk => (by simp [Value.ownBlock] at hk; subst hk; rcases hat with h | h; exact .inl h; exact .inr (by omega))⟩, fun h => h8 (by simpa using h), fun h => h9 (by simpa using h), fun _ => (hkeep _ (own_ne_block hro hbo (by decide)) (heap_lt hbo)).trans hbo, fun h => absurd h (by simp [n10]), fun h => absurd h (by simp), fun _ => hown', fun h => by simp [q2_1 (by simpa using h)], fun h => by simp [q3_2 (by simpa using h)], fun h => by simp [q4_3 (by simpa using h)], fun h => by simp [q6_5 (by simpa using h)], fun _ => by simp [e_4], fun _ => by simp [e_6], fun h => by simp [q8_0 (by simpa using h)], fun h => by simp [q9_8 (by simpa using h)], fun h => by simp [q10_9 (by simpa using h)], fun h => by simp [q10_7 (by simpa using h)]⟩
    · simp only [List.getElem?_toArray, List.getElem?_cons_zero, List.getElem?_cons_succ, Option.some.injEq] at ho
      subst ho
      have e_0 := dep 0 (by kernel_rfl)
      obtain rfl := h0 e_0
      go_simp
      refine hK.out _ _ ⟨_, _, _, _, _, _, _, _, _, _, rfl, hk, hx, fun _ => rfl, fun h => h1 (by simpa using h), fun h => h2 (by simpa using h), fun h => h3 (by simpa using h), fun h => h4 (by simpa using h), fun h => h5 (by simpa using h), fun h h9 => h6 (by simpa using h) (by simpa using h9), fun h => h7 (by simpa using h), fun _ => rfl, fun h => h9 (by simpa using h), fun h => bo (by simpa using h), fun h => bn (by simpa using h), fun h => ro (by simpa using h), fun h => rn (by simpa using h), fun h => by simp [q2_1 (by simpa using h)], fun h => by simp [q3_2 (by simpa using h)], fun h => by simp [q4_3 (by simpa using h)], fun h => by simp [q6_5 (by simpa using h)], fun h => by simp [q7_4 (by simpa using h)], fun h => by simp [q7_6 (by simpa using h)], fun _ => by simp [e_0], fun h => by simp [q9_8 (by simpa using h)], fun h => by simp [q10_9 (by simpa using h)], fun h => by simp [q10_7 (by simpa using h)]⟩
    · simp only [List.getElem?_toArray, List.getElem?_cons_zero, List.getElem?_cons_succ, Option.some.injEq] at ho
      subst ho
      have e_8 := dep 8 (by kernel_rfl)
      have e_0 := q8_0 e_8
      obtain rfl := h0 e_0
      obtain rfl := h8 e_8
      go_simp
      refine hK.out _ _ ⟨_, _, _, _, _, _, _, _, _, _, rfl, hk, hx, fun _ => rfl, fun h => h1 (by simpa using h), fun h => h2 (by simpa using h), fun h => h3 (by simpa using h), fun h => h4 (by simpa using h), fun h => h5 (by simpa using h), fun h h9 => h6 (by simpa using h) (by simpa using h9), fun h => h7 (by simpa using h), fun _ => rfl, fun _ => rfl, fun h => bo (by simpa using h), fun h => bn (by simpa using h), fun h => ro (by simpa using h), fun h => rn (by simpa using h), fun h => by simp [q2_1 (by simpa using h)], fun h => by simp [q3_2 (by simpa using h)], fun h => by simp [q4_3 (by simpa using h)], fun h => by simp [q6_5 (by simpa using h)], fun h => by simp [q7_4 (by simpa using h)], fun h => by simp [q7_6 (by simpa using h)], fun h => by simp [q8_0 (by simpa using h)], fun _ => by simp [e_8], fun h => by simp [q10_9 (by simpa using h)], fun h => by simp [q10_7 (by simpa using h)]⟩
    · simp only [List.getElem?_toArray, List.getElem?_cons_zero, List.getElem?_cons_succ, Option.some.injEq] at ho
      subst ho
      have e_9 := dep 9 (by kernel_rfl)
      have e_7 := dep 7 (by kernel_rfl)
      have e_8 := q9_8 e_9
      have e_4 := q7_4 e_7
      have e_6 := q7_6 e_7
      have e_0 := q8_0 e_8
      have e_3 := q4_3 e_4
      have e_5 := q6_5 e_6
      have e_2 := q3_2 e_3
      have e_1 := q2_1 e_2
      obtain rfl := h0 e_0
      obtain rfl := h1 e_1
      obtain rfl := h2 e_2
      obtain rfl := h3 e_3
      obtain rfl := h4 e_4
      obtain rfl := h5 e_5
      obtain rfl := h8 e_8
      obtain rfl := h9 e_9
      have hbo := bo hbi
      obtain ⟨d0, d1, d2, d3⟩ := cells4 hbo
      have f1 := Go.Frame.free hbo 1
      obtain ⟨a7, c7, rfl, hA7⟩ := h7 e_7
      have hrn := rn e_7
      go_simp
      refine hK.out _ _ ⟨_, _, _, _, _, _, _, _, _, _, rfl, hk.setCell (p := ⟨bb, 1, none⟩) (.inl rfl) _, blk_set hx HD.out, fun _ => rfl, fun _ => rfl, fun _ => rfl, fun _ => rfl, fun _ => rfl, fun _ => rfl, fun _ h => absurd h (by simp [e_7]), fun _ => ⟨_, _, rfl, hA7⟩, fun _ => rfl, fun _ => rfl, fun h => absurd h (by simp), fun _ => (blk_put hbo).trans rfl, fun h => absurd h (by simp [e_7]), fun _ => ownsRow_keep hrn fun k hk9 => heap_setCell_other _ _ _ _ (fun e => own_ne_block hrn hbo (by decide) ((show k = bb from e) ▸ hk9)), fun h => by simp [q2_1 (by simpa using h)], fun h => by simp [q3_2 (by simpa using h)], fun h => by simp [q4_3 (by simpa using h)], fun h => by simp [q6_5 (by simpa using h)], fun h => by simp [q7_4 (by simpa using h)], fun h => by simp [q7_6 (by simpa using h)], fun h => by simp [q8_0 (by simpa using h)], fun h => by simp [q9_8 (by simpa using h)], fun _ => by simp [e_9], fun _ => by simp [e_7]⟩
  case done =>
    rintro b a' w' ⟨v5, v6, v7, v8, v9, v10, v11, v12, v13, v14, rfl, hk, hx, h0, h1, h2, h3, h4, h5, h6, h7, h8, h9, bo, bn, ro, rn, q2_1, q3_2, q4_3, q6_5, q7_4, q7_6, q8_0, q9_8, q10_9, q10_7⟩ hall
    obtain rfl := h0 (hall 0)
    obtain rfl := h1 (hall 1)
    obtain rfl := h2 (hall 2)
    obtain rfl := h3 (hall 3)
    obtain rfl := h4 (hall 4)
    obtain rfl := h5 (hall 5)
    obtain rfl := h8 (hall 8)
    obtain rfl := h9 (hall 9)
    obtain ⟨sa', sc', rfl, hA7⟩ := h7 (hall 7)
    have HR1 := hid (And.intro (bn (hall 10)) (And.intro (rn (hall 7)) (And.intro hk hA7)))
    clear h0 h1 h2 h3 h4 h5 h6 h7 h8 h9 bo bn ro rn hk hx hA7 q2_1 q3_2 q4_3 q6_5 q7_4 q7_6 q8_0 q9_8 q10_9 q10_7 hall
    dsimp only
    obtain ⟨w1, hw1⟩ : ∃ w1, w1 = w' := ⟨_, rfl⟩
    rw [← hw1] at HR1 ⊢
    clear hw1
    have hr1 : base ≤ w1.heap.size := by have := HR1.out.2.2.1.size; omega
    have HA1 := hid (show w1.ownsRow base 66 1 (.slice aa n ac) n (mrows rb most n) from own_kept HA0.out HR1.out.2.2.1 fun k hk => by
      rintro (e | e | e)
      · exact own_ne_block HA0.out HBX0.out (by decide) ((show k = bb from e) ▸ hk)
      · exact own_ne HA0.out HS0.out (by decide) hk e
      · have := (HA0.out.lt k hk).2; omega)
    have HC1 := hid (show w1.ownsRow base 3 1 (.slice ca n cc) n (A.map iv) from own_kept HC0.out HR1.out.2.2.1 fun k hk => by
      rintro (e | e | e)
      · exact own_ne_block HC0.out HBX0.out (by decide) ((show k = bb from e) ▸ hk)
      · exact own_ne HC0.out HS0.out (by decide) hk e
      · have := (HC0.out.lt k hk).2; omega)
    go_upto_region 2 with fail
    refine region_inv (fun b a' w' => ∃ (v15 v16 v17 v18 v19 v20 v21 v22 v23 v24 v25 v26 v27 v28 : Value) (rn9 : Nat), a' = { tmps := #[.pointer (some ⟨bb, 0, none⟩), .agg #[.int .u64 (ws s 0 : Int), .int .u64 (ws s 1 : Int), .int .u64 (ws s 2 : Int), .int .u64 (ws s 3 : Int)], undef, .pointer (some ⟨W.heap.size, 0, none⟩), .int .i64 0, .pointer (some ⟨bb, 0, none⟩), .pointer (some ⟨bb, 0, none⟩), .pointer (some ⟨bb, 0, none⟩), .pointer (some ⟨bb, 1, none⟩), .slice sa n sc, .agg #[.int .u64 (ws s 0 : Int), .int .u64 (ws s 1 : Int), .int .u64 (ws s 2 : Int), .int .u64 (ws s 3 : Int)], v11, (.slice sa' (n + 1) sc'), .pointer (some ⟨bb, 0, none⟩), .pointer (some ⟨bb, 1, none⟩), v15, v16, v17, v18, v19, v20, v21, v22, v23, v24, v25, v26, v27, v28, undef, undef, undef, undef, undef, undef, undef, undef, undef, undef, undef, undef, undef, undef, undef], defers := [] } ∧ Kept (fun b => b = bb ∨ (Value.slice aa n ac).ownBlock = some b ∨ w1.heap.size ≤ b) w1 w' ∧ (b 0 = true → v15 = .pointer (some ⟨bb, 0, none⟩)) ∧ (b 1 = true → v16 = .pointer (some ⟨bb, 0, none⟩)) ∧ (b 2 = true → v17 = .pointer (some ⟨bb, 0, none⟩)) ∧ (b 3 = true → v18 = .pointer (some ⟨bb, 2, none⟩)) ∧ (b 4 = true → v19 = .slice aa n ac) ∧ (b 5 = true → v20 = .pointer (some ⟨bb, 0, none⟩)) ∧ (b 6 = true → v21 = .pointer (some ⟨bb, 0, none⟩)) ∧ (b 7 = true → v22 = .pointer (some ⟨bb, 0, none⟩)) ∧ (b 8 = true → v23 = .int .i64 (most : Int)) ∧ (b 9 = true → v24 = .slice (some ⟨rn9, 0, none⟩) most most ∧ w'.heap[rn9]? = some (.cells (bl (fun _ => false) most).toArray 4 (0, 0)) ∧ w1.heap.size ≤ rn9) ∧ (b 10 = true → b 11 = false → ∃ g : Nat, v25 = .slice (some ⟨g, 0, none⟩) 1 1 ∧ w'.heap[g]? = some (.cells #[.slice (some ⟨rn9, 0, none⟩) most most] 66 (0, 0))) ∧ (b 11 = true → ∃ (a : Option Addr) (c : Nat), v26 = .slice a (n + 1) c ∧ ∀ k, v26.ownBlock = some k → (Value.slice aa n ac).ownBlock = some k ∨ w1.heap.size ≤ k) ∧ (b 12 = true → v27 = .pointer (some ⟨bb, 0, none⟩)) ∧ (b 13 = true → v28 = .pointer (some ⟨bb, 2, none⟩)) ∧ (b 14 = false → w'.heap[bb]? = some (.cells #[.int .i64 (most : Int), .slice sa' (n + 1) sc', .slice aa n ac, .slice ca n cc] 77 (0, 0))) ∧ (b 14 = true → w'.heap[bb]? = some (.cells #[.int .i64 (most : Int), .slice sa' (n + 1) sc', v26, .slice ca n cc] 77 (0, 0))) ∧ (b 11 = false → w'.ownsRow base 66 1 (.slice aa n ac) n (mrows rb most n)) ∧ (b 11 = true → w'.ownsRow base 66 1 v26 (n + 1) (mrows rb most n ++ [.slice (some ⟨rn9, 0, none⟩) most most])) ∧ (b 2 = true → b 1 = true) ∧ (b 3 = true → b 2 = true) ∧ (b 4 = true → b 3 = true) ∧ (b 6 = true → b 5 = true) ∧ (b 7 = true → b 6 = true) ∧ (b 8 = true → b 7 = true) ∧ (b 9 = true → b 8 = true) ∧ (b 10 = true → b 9 = true) ∧ (b 11 = true → b 4 = true) ∧ (b 11 = true → b 10 = true) ∧ (b 12 = true → b 0 = true) ∧ (b 13 = true → b 12 = true) ∧ (b 14 = true → b 13 = true) ∧ (b 14 = true → b 11 = true)) (by kernel_rfl) (back_of (by kernel_rfl)) ?step2 ?done2 ?init2
    case step2 =>
      rintro b a' w' i o ho ⟨v15, v16, v17, v18, v19, v20, v21, v22, v23, v24, v25, v26, v27, v28, rn9, rfl, hk, h0, h1, h2, h3, h4, h5, h6, h7, h8, h9, h10, h11, h12, h13, bo, bn, ro, rn, q2_1, q3_2, q4_3, q6_5, q7_6, q8_7, q9_8, q10_9, q11_4, q11_10, q12_0, q13_12, q14_13, q14_11⟩ hbi hd K hK
      have hlt : i < 15 := by have := (Array.getElem?_eq_some_iff.1 ho).1; simpa using this
      have dep : ∀ k, (o.after.any fun e => Region.binds .any e && e.on == k) = true → b k = true := fun k hk => by
        obtain ⟨e, he, h⟩ := Array.any_eq_true'.1 hk
        simp only [Bool.and_eq_true, beq_iff_eq] at h
        rw [← h.2]; exact hd e he h.1
      clear hd
      have hi : i = 0 ∨ i = 1 ∨ i = 2 ∨ i = 3 ∨ i = 4 ∨ i = 5 ∨ i = 6 ∨ i = 7 ∨ i = 8 ∨ i = 9 ∨ i = 10 ∨ i = 11 ∨ i = 12 ∨ i = 13 ∨ i = 14 := by omega
      clear hlt
      rcases hi with rfl | rfl | rfl | rfl | rfl | rfl | rfl | rfl | rfl | rfl | rfl | rfl | rfl | rfl | rfl
      · simp only [List.getElem?_toArray, List.getElem?_cons_zero, List.getElem?_cons_succ, Option.some.injEq] at ho
        subst ho
        go_simp
        refine hK.out _ _ ⟨_, _, _, _, _, _, _, _, _, _, _, _, _, _, rn9, rfl, hk, fun _ => rfl, fun h => h1 (by simpa using h), fun h => h2 (by simpa using h), fun h => h3 (by simpa using h), fun h => h4 (by simpa using h), fun h => h5 (by simpa using h), fun h => h6 (by simpa using h), fun h => h7 (by simpa using h), fun h => h8 (by simpa using h), fun h => h9 (by simpa using h), fun h h9 => h10 (by simpa using h) (by simpa using h9), fun h => h11 (by simpa using h), fun h => h12 (by simpa using h), fun h => h13 (by simpa using h), fun h => bo (by simpa using h), fun h => bn (by simpa using h), fun h => ro (by simpa using h), fun h => rn (by simpa using h), fun h => by simp [q2_1 (by simpa using h)], fun h => by simp [q3_2 (by simpa using h)], fun h => by simp [q4_3 (by simpa using h)], fun h => by simp [q6_5 (by simpa using h)], fun h => by simp [q7_6 (by simpa using h)], fun h => by simp [q8_7 (by simpa using h)], fun h => by simp [q9_8 (by simpa using h)], fun h => by simp [q10_9 (by simpa using h)], fun h => by simp [q11_4 (by simpa using h)], fun h => by simp [q11_10 (by simpa using h)], fun h => by simp [q12_0 (by simpa using h)], fun h => by simp [q13_12 (by simpa using h)], fun h => by simp [q14_13 (by simpa using h)], fun h => by simp [q14_11 (by simpa using h)]⟩
      · simp only [List.getElem?_toArray, List.getElem?_cons_zero, List.getElem?_cons_succ, Option.some.injEq] at ho
        subst ho
        go_simp
        refine hK.out _ _ ⟨_, _, _, _, _, _, _, _, _, _, _, _, _, _, rn9, rfl, hk, fun h => h0 (by simpa using h), fun _ => rfl, fun h => h2 (by simpa using h), fun h => h3 (by simpa using h), fun h => h4 (by simpa using h), fun h => h5 (by simpa using h), fun h => h6 (by simpa using h), fun h => h7 (by simpa using h), fun h => h8 (by simpa using h), fun h => h9 (by simpa using h), fun h h9 => h10 (by simpa using h) (by simpa using h9), fun h => h11 (by simpa using h), fun h => h12 (by simpa using h), fun h => h13 (by simpa using h), fun h => bo (by simpa using h), fun h => bn (by simpa using h), fun h => ro (by simpa using h), fun h => rn (by simpa using h), fun h => by simp [q2_1 (by simpa using h)], fun h => by simp [q3_2 (by simpa using h)], fun h => by simp [q4_3 (by simpa using h)], fun h => by simp [q6_5 (by simpa using h)], fun h => by simp [q7_6 (by simpa using h)], fun h => by simp [q8_7 (by simpa using h)], fun h => by simp [q9_8 (by simpa using h)], fun h => by simp [q10_9 (by simpa using h)], fun h => by simp [q11_4 (by simpa using h)], fun h => by simp [q11_10 (by simpa using h)], fun h => by simp [q12_0 (by simpa using h)], fun h => by simp [q13_12 (by simpa using h)], fun h => by simp [q14_13 (by simpa using h)], fun h => by simp [q14_11 (by simpa using h)]⟩
      · simp only [List.getElem?_toArray, List.getElem?_cons_zero, List.getElem?_cons_succ, Option.some.injEq] at ho
        subst ho
        have e_1 := dep 1 (by kernel_rfl)
        obtain rfl := h1 e_1
        go_simp
        refine hK.out _ _ ⟨_, _, _, _, _, _, _, _, _, _, _, _, _, _, rn9, rfl, hk, fun h => h0 (by simpa using h), fun _ => rfl, fun _ => rfl, fun h => h3 (by simpa using h), fun h => h4 (by simpa using h), fun h => h5 (by simpa using h), fun h => h6 (by simpa using h), fun h => h7 (by simpa using h), fun h => h8 (by simpa using h), fun h => h9 (by simpa using h), fun h h9 => h10 (by simpa using h) (by simpa using h9), fun h => h11 (by simpa using h), fun h => h12 (by simpa using h), fun h => h13 (by simpa using h), fun h => bo (by simpa using h), fun h => bn (by simpa using h), fun h => ro (by simpa using h), fun h => rn (by simpa using h), fun _ => by simp [e_1], fun h => by simp [q3_2 (by simpa using h)], fun h => by simp [q4_3 (by simpa using h)], fun h => by simp [q6_5 (by simpa using h)], fun h => by simp [q7_6 (by simpa using h)], fun h => by simp [q8_7 (by simpa using h)], fun h => by simp [q9_8 (by simpa using h)], fun h => by simp [q10_9 (by simpa using h)], fun h => by simp [q11_4 (by simpa using h)], fun h => by simp [q11_10 (by simpa using h)], fun h => by simp [q12_0 (by simpa using h)], fun h => by simp [q13_12 (by simpa using h)], fun h => by simp [q14_13 (by simpa using h)], fun h => by simp [q14_11 (by simpa using h)]⟩
      · simp only [List.getElem?_toArray, List.getElem?_cons_zero, List.getElem?_cons_succ, Option.some.injEq] at ho
        subst ho
        have e_2 := dep 2 (by kernel_rfl)
        have e_1 := q2_1 e_2
        obtain rfl := h1 e_1
        obtain rfl := h2 e_2
        go_simp
        refine hK.out _ _ ⟨_, _, _, _, _, _, _, _, _, _, _, _, _, _, rn9, rfl, hk, fun h => h0 (by simpa using h), fun _ => rfl, fun _ => rfl, fun _ => rfl, fun h => h4 (by simpa using h), fun h => h5 (by simpa using h), fun h => h6 (by simpa using h), fun h => h7 (by simpa using h), fun h => h8 (by simpa using h), fun h => h9 (by simpa using h), fun h h9 => h10 (by simpa using h) (by simpa using h9), fun h => h11 (by simpa using h), fun h => h12 (by simpa using h), fun h => h13 (by simpa using h), fun h => bo (by simpa using h), fun h => bn (by simpa using h), fun h => ro (by simpa using h), fun h => rn (by simpa using h), fun h => by simp [q2_1 (by simpa using h)], fun _ => by simp [e_2], fun h => by simp [q4_3 (by simpa using h)], fun h => by simp [q6_5 (by simpa using h)], fun h => by simp [q7_6 (by simpa using h)], fun h => by simp [q8_7 (by simpa using h)], fun h => by simp [q9_8 (by simpa using h)], fun h => by simp [q10_9 (by simpa using h)], fun h => by simp [q11_4 (by simpa using h)], fun h => by simp [q11_10 (by simpa using h)], fun h => by simp [q12_0 (by simpa using h)], fun h => by simp [q13_12 (by simpa using h)], fun h => by simp [q14_13 (by simpa using h)], fun h => by simp [q14_11 (by simpa using h)]⟩
      · simp only [List.getElem?_toArray, List.getElem?_cons_zero, List.getElem?_cons_succ, Option.some.injEq] at ho
        subst ho
        have e_3 := dep 3 (by kernel_rfl)
        have e_2 := q3_2 e_3
        have e_1 := q2_1 e_2
        obtain rfl := h1 e_1
        obtain rfl := h2 e_2
        obtain rfl := h3 e_3
        have n14 : b 14 = false := by
          cases hb : b 14
          · rfl
          · have := q11_4 (q14_11 hb); rw [hbi] at this; cases this
        obtain ⟨d0, d1, d2, d3⟩ := cells4 (bo n14)
        go_simp
        refine hK.out _ _ ⟨_, _, _, _, _, _, _, _, _, _, _, _, _, _, rn9, rfl, hk, fun h => h0 (by simpa using h), fun _ => rfl, fun _ => rfl, fun _ => rfl, fun _ => rfl, fun h => h5 (by simpa using h), fun h => h6 (by simpa using h), fun h => h7 (by simpa using h), fun h => h8 (by simpa using h), fun h => h9 (by simpa using h), fun h h9 => h10 (by simpa using h) (by simpa using h9), fun h => h11 (by simpa using h), fun h => h12 (by simpa using h), fun h => h13 (by simpa using h), fun h => bo (by simpa using h), fun h => bn (by simpa using h), fun h => ro (by simpa using h), fun h => rn (by simpa using h), fun h => by simp [q2_1 (by simpa using h)], fun h => by simp [q3_2 (by simpa using h)], fun _ => by simp [e_3], fun h => by simp [q6_5 (by simpa using h)], fun h => by simp [q7_6 (by simpa using h)], fun h => by simp [q8_7 (by simpa using h)], fun h => by simp [q9_8 (by simpa using h)], fun h => by simp [q10_9 (by simpa using h)], fun h => by simp [q11_4 (by simpa using h)], fun h => by simp [q11_10 (by simpa using h)], fun h => by simp [q12_0 (by simpa using h)], fun h => by simp [q13_12 (by simpa using h)], fun h => by simp [q14_13 (by simpa using h)], fun h => by simp [q14_11 (by simpa using h)]⟩
      · simp only [List.getElem?_toArray, List.getElem?_cons_zero, List.getElem?_cons_succ, Option.some.injEq] at ho
        subst ho
        go_simp
        refine hK.out _ _ ⟨_, _, _, _, _, _, _, _, _, _, _, _, _, _, rn9, rfl, hk, fun h => h0 (by simpa using h), fun h => h1 (by simpa using h), fun h => h2 (by simpa using h), fun h => h3 (by simpa using h), fun h => h4 (by simpa using h), fun _ => rfl, fun h => h6 (by simpa using h), fun h => h7 (by simpa using h), fun h => h8 (by simpa using h), fun h => h9 (by simpa using h), fun h h9 => h10 (by simpa using h) (by simpa using h9), fun h => h11 (by simpa using h), fun h => h12 (by simpa using h), fun h => h13 (by simpa using h), fun h => bo (by simpa using h), fun h => bn (by simpa using h), fun h => ro (by simpa using h), fun h => rn (by simpa using h), fun h => by simp [q2_1 (by simpa using h)], fun h => by simp [q3_2 (by simpa using h)], fun h => by simp [q4_3 (by simpa using h)], fun h => by simp [q6_5 (by simpa using h)], fun h => by simp [q7_6 (by simpa using h)], fun h => by simp [q8_7 (by simpa using h)], fun h => by simp [q9_8 (by simpa using h)], fun h => by simp [q10_9 (by simpa using h)], fun h => by simp [q11_4 (by simpa using h)], fun h => by simp [q11_10 (by simpa using h)], fun h => by simp [q12_0 (by simpa using h)], fun h => by simp [q13_12 (by simpa using h)], fun h => by simp [q14_13 (by simpa using h)], fun h => by simp [q14_11 (by simpa using h)]⟩
      · simp only [List.getElem?_toArray, List.getElem?_cons_zero, List.getElem?_cons_succ, Option.some.injEq] at ho
        subst ho
        have e_5 := dep 5 (by kernel_rfl)
        obtain rfl := h5 e_5
        go_simp
        refine hK.out _ _ ⟨_, _, _, _, _, _, _, _, _, _, _, _, _, _, rn9, rfl, hk, fun h => h0 (by simpa using h), fun h => h1 (by simpa using h), fun h => h2 (by simpa using h), fun h => h3 (by simpa using h), fun h => h4 (by simpa using h), fun _ => rfl, fun _ => rfl, fun h => h7 (by simpa using h), fun h => h8 (by simpa using h), fun h => h9 (by simpa using h), fun h h9 => h10 (by simpa using h) (by simpa using h9), fun h => h11 (by simpa using h), fun h => h12 (by simpa using h), fun h => h13 (by simpa using h), fun h => bo (by simpa using h), fun h => bn (by simpa using h), fun h => ro (by simpa using h), fun h => rn (by simpa using h), fun h => by simp [q2_1 (by simpa using h)], fun h => by simp [q3_2 (by simpa using h)], fun h => by simp [q4_3 (by simpa using h)], fun _ => by simp [e_5], fun h => by simp [q7_6 (by simpa using h)], fun h => by simp [q8_7 (by simpa using h)], fun h => by simp [q9_8 (by simpa using h)], fun h => by simp [q10_9 (by simpa using h)], fun h => by simp [q11_4 (by simpa using h)], fun h => by simp [q11_10 (by simpa using h)], fun h => by simp [q12_0 (by simpa using h)], fun h => by simp [q13_12 (by simpa using h)], fun h => by simp [q14_13 (by simpa using h)], fun h => by simp [q14_11 (by simpa using h)]⟩
      · simp only [List.getElem?_toArray, List.getElem?_cons_zero, List.getElem?_cons_succ, Option.some.injEq] at ho
        subst ho
        have e_6 := dep 6 (by kernel_rfl)
        have e_5 := q6_5 e_6
        obtain rfl := h5 e_5
        obtain rfl := h6 e_6
        go_simp
        refine hK.out _ _ ⟨_, _, _, _, _, _, _, _, _, _, _, _, _, _, rn9, rfl, hk, fun h => h0 (by simpa using h), fun h => h1 (by simpa using h), fun h => h2 (by simpa using h), fun h => h3 (by simpa using h), fun h => h4 (by simpa using h), fun _ => rfl, fun _ => rfl, fun _ => rfl, fun h => h8 (by simpa using h), fun h => h9 (by simpa using h), fun h h9 => h10 (by simpa using h) (by simpa using h9), fun h => h11 (by simpa using h), fun h => h12 (by simpa using h), fun h => h13 (by simpa using h), fun h => bo (by simpa using h), fun h => bn (by simpa using h), fun h => ro (by simpa using h), fun h => rn (by simpa using h), fun h => by simp [q2_1 (by simpa using h)], fun h => by simp [q3_2 (by simpa using h)], fun h => by simp [q4_3 (by simpa using h)], fun h => by simp [q6_5 (by simpa using h)], fun _ => by simp [e_6], fun h => by simp [q8_7 (by simpa using h)], fun h => by simp [q9_8 (by simpa using h)], fun h => by simp [q10_9 (by simpa using h)], fun h => by simp [q11_4 (by simpa using h)], fun h => by simp [q11_10 (by simpa using h)], fun h => by simp [q12_0 (by simpa using h)], fun h => by simp [q13_12 (by simpa using h)], fun h => by simp [q14_13 (by simpa using h)], fun h => by simp [q14_11 (by simpa using h)]⟩
      · simp only [List.getElem?_toArray, List.getElem?_cons_zero, List.getElem?_cons_succ, Option.some.injEq] at ho
        subst ho
        have e_7 := dep 7 (by kernel_rfl)
        have e_6 := q7_6 e_7
        have e_5 := q6_5 e_6
        obtain rfl := h5 e_5
        obtain rfl := h6 e_6
        obtain rfl := h7 e_7
        have n14 : b 14 = false := by
          cases hb : b 14
          · rfl
          · have := q9_8 (q10_9 (q11_10 (q14_11 hb))); rw [hbi] at this; cases this
        obtain ⟨d0, d1, d2, d3⟩ := cells4 (bo n14)
        go_simp
        refine hK.out _ _ ⟨_, _, _, _, _, _, _, _, _, _, _, _, _, _, rn9, rfl, hk, fun h => h0 (by simpa using h), fun h => h1 (by simpa using h), fun h => h2 (by simpa using h), fun h => h3 (by simpa using h), fun h => h4 (by simpa using h), fun _ => rfl, fun _ => rfl, fun _ => rfl, fun _ => rfl, fun h => h9 (by simpa using h), fun h h9 => h10 (by simpa using h) (by simpa using h9), fun h => h11 (by simpa using h), fun h => h12 (by simpa using h), fun h => h13 (by simpa using h), fun h => bo (by simpa using h), fun h => bn (by simpa using h), fun h => ro (by simpa using h), fun h => rn (by simpa using h), fun h => by simp [q2_1 (by simpa using h)], fun h => by simp [q3_2 (by simpa using h)], fun h => by simp [q4_3 (by simpa using h)], fun h => by simp [q6_5 (by simpa using h)], fun h => by simp [q7_6 (by simpa using h)], fun _ => by simp [e_7], fun h => by simp [q9_8 (by simpa using h)], fun h => by simp [q10_9 (by simpa using h)], fun h => by simp [q11_4 (by simpa using h)], fun h => by simp [q11_10 (by simpa using h)], fun h => by simp [q12_0 (by simpa using h)], fun h => by simp [q13_12 (by simpa using h)], fun h => by simp [q14_13 (by simpa using h)], fun h => by simp [q14_11 (by simpa using h)]⟩
      · simp only [List.getElem?_toArray, List.getElem?_cons_zero, List.getElem?_cons_succ, Option.some.injEq] at ho
        subst ho
        have e_8 := dep 8 (by kernel_rfl)
        have e_7 := q8_7 e_8
        have e_6 := q7_6 e_7
        have e_5 := q6_5 e_6
        obtain rfl := h5 e_5
        obtain rfl := h6 e_6
        obtain rfl := h7 e_7
        obtain rfl := h8 e_8
        have n11 : b 11 = false := by
          cases hb : b 11
          · rfl
          · have := q10_9 (q11_10 hb); rw [hbi] at this; cases this
        have mk := make_row most (by omega) w'
        have b5 := bel1 w' (.cells (bl (fun _ => false) most).toArray 4)
        go_simp
        refine hK.out _ _ ⟨_, _, _, _, _, _, _, _, _, _, _, _, _, _, w'.heap.size, rfl, hk.trans (Kept.below b5 fun b hb => .inr (.inr (Nat.le_trans hk.size hb))), fun h => h0 (by simpa using h), fun h => h1 (by simpa using h), fun h => h2 (by simpa using h), fun h => h3 (by simpa using h), fun h => h4 (by simpa using h), fun _ => rfl, fun _ => rfl, fun _ => rfl, fun _ => rfl, fun _ => ⟨rfl, alloc_new _ _, hk.size⟩, fun h => (by have := q10_9 (by simpa using h); rw [hbi] at this; cases this), fun h => h11 (by simpa using h), fun h => h12 (by simpa using h), fun h => h13 (by simpa using h), fun h => (b5.block _ (heap_lt (bo (by simpa using h)))).trans (bo (by simpa using h)), fun h => (b5.block _ (heap_lt (bn (by simpa using h)))).trans (bn (by simpa using h)), fun h => ownsRow_keep (ro (by simpa using h)) fun k hk9 => b5.block k ((ro (by simpa using h)).lt k hk9).2, fun h => absurd h (by simp [n11]), fun h => by simp [q2_1 (by simpa using h)], fun h => by simp [q3_2 (by simpa using h)], fun h => by simp [q4_3 (by simpa using h)], fun h => by simp [q6_5 (by simpa using h)], fun h => by simp [q7_6 (by simpa using h)], fun h => by simp [q8_7 (by simpa using h)], fun _ => by simp [e_8], fun h => by simp [q10_9 (by simpa using h)], fun h => by simp [q11_4 (by simpa using h)], fun h => by simp [q11_10 (by simpa using h)], fun h => by simp [q12_0 (by simpa using h)], fun h => by simp [q13_12 (by simpa using h)], fun h => by simp [q14_13 (by simpa using h)], fun h => by simp [q14_11 (by simpa using h)]⟩
      · simp only [List.getElem?_toArray, List.getElem?_cons_zero, List.getElem?_cons_succ, Option.some.injEq] at ho
        subst ho
        have e_9 := dep 9 (by kernel_rfl)
        have e_8 := q9_8 e_9
        have e_7 := q8_7 e_8
        have e_6 := q7_6 e_7
        have e_5 := q6_5 e_6
        obtain rfl := h5 e_5
        obtain rfl := h6 e_6
        obtain rfl := h7 e_7
        obtain rfl := h8 e_8
        obtain ⟨rfl, u9, u9b⟩ := (h9 e_9)
        have n11 : b 11 = false := by
          cases hb : b 11
          · rfl
          · have := q11_10 hb; rw [hbi] at this; cases this
        have b5 := bel1 w' (.cells #[.slice (some ⟨rn9, 0, none⟩) most most] 66)
        go_simp
        refine hK.out _ _ ⟨_, _, _, _, _, _, _, _, _, _, _, _, _, _, rn9, rfl, hk.trans (Kept.below b5 fun b hb => .inr (.inr (Nat.le_trans hk.size hb))), fun h => h0 (by simpa using h), fun h => h1 (by simpa using h), fun h => h2 (by simpa using h), fun h => h3 (by simpa using h), fun h => h4 (by simpa using h), fun _ => rfl, fun _ => rfl, fun _ => rfl, fun _ => rfl, fun _ => ⟨rfl, (b5.block _ (heap_lt u9)).trans u9, u9b⟩, fun _ _ => ⟨w'.heap.size, rfl, alloc_new _ _⟩, fun h => h11 (by simpa using h), fun h => h12 (by simpa using h), fun h => h13 (by simpa using h), fun h => (b5.block _ (heap_lt (bo (by simpa using h)))).trans (bo (by simpa using h)), fun h => (b5.block _ (heap_lt (bn (by simpa using h)))).trans (bn (by simpa using h)), fun h => ownsRow_keep (ro (by simpa using h)) fun k hk9 => b5.block k ((ro (by simpa using h)).lt k hk9).2, fun h => ownsRow_keep (rn (by simpa using h)) fun k hk9 => b5.block k ((rn (by simpa using h)).lt k hk9).2, fun h => by simp [q2_1 (by simpa using h)], fun h => by simp [q3_2 (by simpa using h)], fun h => by simp [q4_3 (by simpa using h)], fun h => by simp [q6_5 (by simpa using h)], fun h => by simp [q7_6 (by simpa using h)], fun h => by simp [q8_7 (by simpa using h)], fun h => by simp [q9_8 (by simpa using h)], fun _ => by simp [e_9], fun h => by simp [q11_4 (by simpa using h)], fun h => by simp [q11_10 (by simpa using h)], fun h => by simp [q12_0 (by simpa using h)], fun h => by simp [q13_12 (by simpa using h)], fun h => by simp [q14_13 (by simpa using h)], fun h => by simp [q14_11 (by simpa using h)]⟩
      · simp only [List.getElem?_toArray, List.getElem?_cons_zero, List.getElem?_cons_succ, Option.some.injEq] at ho
        subst ho
        have e_4 := dep 4 (by kernel_rfl)
        have e_10 := dep 10 (by kernel_rfl)
        have e_3 := q4_3 e_4
        have e_9 := q10_9 e_10
        have e_2 := q3_2 e_3
        have e_8 := q9_8 e_9
        have e_1 := q2_1 e_2
        have e_7 := q8_7 e_8
        have e_6 := q7_6 e_7
        have e_5 := q6_5 e_6
        obtain rfl := h1 e_1
        obtain rfl := h2 e_2
        obtain rfl := h3 e_3
        obtain rfl := h4 e_4
        obtain rfl := h5 e_5
        obtain rfl := h6 e_6
        obtain rfl := h7 e_7
        obtain rfl := h8 e_8
        obtain ⟨rfl, u9, u9b⟩ := (h9 e_9)
        have n14 : b 14 = false := by
          cases hb : b 14
          · rfl
          · have := q14_11 hb; rw [hbi] at this; cases this
        obtain ⟨g4, rfl, hg4⟩ := h10 e_10 hbi
        have hro := ro hbi
        have hsz := hk.size
        refine step_append_lies _ (by rfl) (.tmp 19) (.tmp 25) 75 (by rfl) base 66 i6 _ 1 24 Tryd.underlying75 hi6 hz06 hz16 hz26 (by rfl) (by decide) (.slice aa n ac) n _ (by rfl) hro ⟨g4, 0, none⟩ 1 1 [.slice (some ⟨rn9, 0, none⟩) most most] (by rfl) (by rfl) (World.news_of_block hg4) (by intro u hu; simp at hu; subst hu; rfl) (by decide) (by unfold maxLen; omega) (by omega) (by omega) _ rfl ?_
        intro g5 cap5 w5 hown' hgrow hat _
        have hkeep : ∀ k, (Value.slice aa n ac).ownBlock ≠ some k → k < w'.heap.size → w5.heap[k]? = w'.heap[k]? := fun k hne hl => hgrow.block k hl (fun e => hne e.symm)
        have hbo := bo n14
        have hk5 : Kept (fun b => b = bb ∨ (Value.slice aa n ac).ownBlock = some b ∨ w1.heap.size ≤ b) w1 w5 := hk.trans ⟨hgrow.os, hgrow.tape, hgrow.output, hgrow.size, fun k hF => hgrow.block k (by have : ¬ w1.heap.size ≤ k := fun h => hF (.inr (.inr h)); omega) (fun e => hF (.inr (.inl e.symm)))⟩
        refine hK.out _ _ ⟨_, _, _, _, _, _, _, _, _, _, _, _, _, _, rn9, rfl, hk5, fun h => h0 (by simpa using h), fun _ => rfl, fun _ => rfl, fun _ => rfl, fun _ => rfl, fun _ => rfl, fun _ => rfl, fun _ => rfl, fun _ => rfl, fun _ => ⟨rfl, (hkeep _ (own_ne_block hro u9 (by decide)) (heap_lt u9)).trans u9, u9b⟩, fun _ h => absurd h (by simp), fun _ => ⟨_, _, rfl, fun k hk => (by simp [Value.ownBlock] at hk; subst hk; rcases hat with h | h; exact .inl h; exact .inr (by omega))⟩, fun h => h12 (by simpa using h), fun h => h13 (by simpa using h), fun _ => (hkeep _ (own_ne_block hro hbo (by decide)) (heap_lt hbo)).trans hbo, fun h => absurd h (by simp [n14]), fun h => absurd h (by simp), fun _ => hown', fun h => by simp [q2_1 (by simpa using h)], fun h => by simp [q3_2 (by simpa using h)], fun h => by simp [q4_3 (by simpa using h)], fun h => by simp [q6_5 (by simpa using h)], fun h => by simp [q7_6 (by simpa using h)], fun h => by simp [q8_7 (by simpa using h)], fun h => by simp [q9_8 (by simpa using h)], fun h => by simp [q10_9 (by simpa using h)], fun _ => by simp [e_4], fun _ => by simp [e_10], fun h => by simp [q12_0 (by simpa using h)], fun h => by simp [q13_12 (by simpa using h)], fun h => by simp [q14_13 (by simpa using h)], fun h => by simp [q14_11 (by simpa using h)]⟩
      · simp only [List.getElem?_toArray, List.getElem?_cons_zero, List.getElem?_cons_succ, Option.some.injEq] at ho
        subst ho
        have e_0 := dep 0 (by kernel_rfl)
        obtain rfl := h0 e_0
        go_simp
        refine hK.out _ _ ⟨_, _, _, _, _, _, _, _, _, _, _, _, _, _, rn9, rfl, hk, fun _ => rfl, fun h => h1 (by simpa using h), fun h => h2 (by simpa using h), fun h => h3 (by simpa using h), fun h => h4 (by simpa using h), fun h => h5 (by simpa using h), fun h => h6 (by simpa using h), fun h => h7 (by simpa using h), fun h => h8 (by simpa using h), fun h => h9 (by simpa using h), fun h h9 => h10 (by simpa using h) (by simpa using h9), fun h => h11 (by simpa using h), fun _ => rfl, fun h => h13 (by simpa using h), fun h => bo (by simpa using h), fun h => bn (by simpa using h), fun h => ro (by simpa using h), fun h => rn (by simpa using h), fun h => by simp [q2_1 (by simpa using h)], fun h => by simp [q3_2 (by simpa using h)], fun h => by simp [q4_3 (by simpa using h)], fun h => by simp [q6_5 (by simpa using h)], fun h => by simp [q7_6 (by simpa using h)], fun h => by simp [q8_7 (by simpa using h)], fun h => by simp [q9_8 (by simpa using h)], fun h => by simp [q10_9 (by simpa using h)], fun h => by simp [q11_4 (by simpa using h)], fun h => by simp [q11_10 (by simpa using h)], fun _ => by simp [e_0], fun h => by simp [q13_12 (by simpa using h)], fun h => by simp [q14_13 (by simpa using h)], fun h => by simp [q14_11 (by simpa using h)]⟩
      · simp only [List.getElem?_toArray, List.getElem?_cons_zero, List.getElem?_cons_succ, Option.some.injEq] at ho
        subst ho
        have e_12 := dep 12 (by kernel_rfl)
        have e_0 := q12_0 e_12
        obtain rfl := h0 e_0
        obtain rfl := h12 e_12
        go_simp
        refine hK.out _ _ ⟨_, _, _, _, _, _, _, _, _, _, _, _, _, _, rn9, rfl, hk, fun _ => rfl, fun h => h1 (by simpa using h), fun h => h2 (by simpa using h), fun h => h3 (by simpa using h), fun h => h4 (by simpa using h), fun h => h5 (by simpa using h), fun h => h6 (by simpa using h), fun h => h7 (by simpa using h), fun h => h8 (by simpa using h), fun h => h9 (by simpa using h), fun h h9 => h10 (by simpa using h) (by simpa using h9), fun h => h11 (by simpa using h), fun _ => rfl, fun _ => rfl, fun h => bo (by simpa using h), fun h => bn (by simpa using h), fun h => ro (by simpa using h), fun h => rn (by simpa using h), fun h => by simp [q2_1 (by simpa using h)], fun h => by simp [q3_2 (by simpa using h)], fun h => by simp [q4_3 (by simpa using h)], fun h => by simp [q6_5 (by simpa using h)], fun h => by simp [q7_6 (by simpa using h)], fun h => by simp [q8_7 (by simpa using h)], fun h => by simp [q9_8 (by simpa using h)], fun h => by simp [q10_9 (by simpa using h)], fun h => by simp [q11_4 (by simpa using h)], fun h => by simp [q11_10 (by simpa using h)], fun h => by simp [q12_0 (by simpa using h)], fun _ => by simp [e_12], fun h => by simp [q14_13 (by simpa using h)], fun h => by simp [q14_11 (by simpa using h)]⟩
      · simp only [List.getElem?_toArray, List.getElem?_cons_zero, List.getElem?_cons_succ, Option.some.injEq] at ho
        subst ho
        have e_13 := dep 13 (by kernel_rfl)
        have e_11 := dep 11 (by kernel_rfl)
        have e_12 := q13_12 e_13
        have e_4 := q11_4 e_11
        have e_10 := q11_10 e_11
        have e_0 := q12_0 e_12
        have e_3 := q4_3 e_4
        have e_9 := q10_9 e_10
        have e_2 := q3_2 e_3
        have e_8 := q9_8 e_9
        have e_1 := q2_1 e_2
        have e_7 := q8_7 e_8
        have e_6 := q7_6 e_7
        have e_5 := q6_5 e_6
        obtain rfl := h0 e_0
        obtain rfl := h1 e_1
        obtain rfl := h2 e_2
        obtain rfl := h3 e_3
        obtain rfl := h4 e_4
        obtain rfl := h5 e_5
        obtain rfl := h6 e_6
        obtain rfl := h7 e_7
        obtain rfl := h8 e_8
        obtain ⟨rfl, u9, u9b⟩ := (h9 e_9)
        obtain rfl := h12 e_12
        obtain rfl := h13 e_13
        have hbo := bo hbi
        obtain ⟨d0, d1, d2, d3⟩ := cells4 hbo
        have f1 := Go.Frame.free hbo 2
        obtain ⟨a7, c7, rfl, hA7⟩ := h11 e_11
        have hrn := rn e_11
        go_simp
        refine hK.out _ _ ⟨_, _, _, _, _, _, _, _, _, _, _, _, _, _, rn9, rfl, hk.setCell (p := ⟨bb, 2, none⟩) (.inl rfl) _, fun _ => rfl, fun _ => rfl, fun _ => rfl, fun _ => rfl, fun _ => rfl, fun _ => rfl, fun _ => rfl, fun _ => rfl, fun _ => rfl, fun _ => ⟨rfl, blk_set u9 (fun e => by have h1 := u9; rw [show rn9 = bb from e, hbo] at h1; simp at h1), u9b⟩, fun _ h => absurd h (by simp [e_11]), fun _ => ⟨_, _, rfl, hA7⟩, fun _ => rfl, fun _ => rfl, fun h => absurd h (by simp), fun _ => (blk_put hbo).trans rfl, fun h => absurd h (by simp [e_11]), fun _ => ownsRow_keep hrn fun k hk9 => heap_setCell_other _ _ _ _ (fun e => own_ne_block hrn hbo (by decide) ((show k = bb from e) ▸ hk9)), fun h => by simp [q2_1 (by simpa using h)], fun h => by simp [q3_2 (by simpa using h)], fun h => by simp [q4_3 (by simpa using h)], fun h => by simp [q6_5 (by simpa using h)], fun h => by simp [q7_6 (by simpa using h)], fun h => by simp [q8_7 (by simpa using h)], fun h => by simp [q9_8 (by simpa using h)], fun h => by simp [q10_9 (by simpa using h)], fun h => by simp [q11_4 (by simpa using h)], fun h => by simp [q11_10 (by simpa using h)], fun h => by simp [q12_0 (by simpa using h)], fun h => by simp [q13_12 (by simpa using h)], fun _ => by simp [e_13], fun _ => by simp [e_11]⟩
    case done2 =>
      rintro b a' w' ⟨v15, v16, v17, v18, v19, v20, v21, v22, v23, v24, v25, v26, v27, v28, rn9, rfl, hk, h0, h1, h2, h3, h4, h5, h6, h7, h8, h9, h10, h11, h12, h13, bo, bn, ro, rn, q2_1, q3_2, q4_3, q6_5, q7_6, q8_7, q9_8, q10_9, q11_4, q11_10, q12_0, q13_12, q14_13, q14_11⟩ hall
      obtain rfl := h0 (hall 0)
      obtain rfl := h1 (hall 1)
      obtain rfl := h2 (hall 2)
      obtain rfl := h3 (hall 3)
      obtain rfl := h4 (hall 4)
      obtain rfl := h5 (hall 5)
      obtain rfl := h6 (hall 6)
      obtain rfl := h7 (hall 7)
      obtain rfl := h8 (hall 8)
      obtain rfl := h12 (hall 12)
      obtain rfl := h13 (hall 13)
      obtain ⟨rfl, u9, u9b⟩ := h9 (hall 9)
      obtain ⟨aa', ac', rfl, hA7⟩ := h11 (hall 11)
      have HR2 := hid (And.intro (bn (hall 14)) (And.intro (rn (hall 11)) (And.intro hk (And.intro u9 (And.intro u9b hA7)))))
      clear h0 h1 h2 h3 h4 h5 h6 h7 h8 h9 h10 h11 h12 h13 bo bn ro rn hk u9 u9b hA7 hall
      dsimp only
      obtain ⟨w2, hw2⟩ : ∃ w2, w2 = w' := ⟨_, rfl⟩
      rw [← hw2] at HR2 ⊢
      clear hw2
      have hr2 : base ≤ w2.heap.size := by have := HR2.out.2.2.1.size; omega
      have HK2 := hid (show Kept (fun b => b = bb ∨ (Value.slice sa n sc).ownBlock = some b ∨ (Value.slice aa n ac).ownBlock = some b ∨ W0.heap.size ≤ b) W0 w2 from (HR1.out.2.2.1.mono fun b hb => by rcases hb with e | e | e; exact .inl e; exact .inr (.inl e); exact .inr (.inr (.inr e))).trans (HR2.out.2.2.1.mono fun b hb => by
        have := HR1.out.2.2.1.size
        rcases hb with e | e | e; exact .inl e; exact .inr (.inr (.inl e)); exact .inr (.inr (.inr (by omega)))))
      have HS2 := hid (show w2.ownsRow base 48 4 (.slice sa' (n + 1) sc') (n + 1) (S.flatMap swl ++ swl s) from own_kept HR1.out.2.1 HR2.out.2.2.1 fun k hk => by
        rintro (e | e | e)
        · exact own_ne_block HR1.out.2.1 HR1.out.1 (by decide) ((show k = bb from e) ▸ hk)
        · exact own_ne HR1.out.2.1 HA1.out (by decide) hk e
        · have := (HR1.out.2.1.lt k hk).2; omega)
      have HC2 := hid (show w2.ownsRow base 3 1 (.slice ca n cc) n (A.map iv) from own_kept HC1.out HR2.out.2.2.1 fun k hk => by
        rintro (e | e | e)
        · exact own_ne_block HC1.out HR1.out.1 (by decide) ((show k = bb from e) ▸ hk)
        · exact own_ne HC1.out HA1.out (by decide) hk e
        · have := (HC1.out.lt k hk).2; omega)
      have wn : IntKind.i64.wrap ((n : Int) + 1 - 1) = (n : Int) := by rw [wrapIn (by omega) (by omega)]; omega
      have wn2 : IntKind.i64.wrap (((n + 1 : Nat) : Int) - 1) = (n : Int) := by rw [wrapIn (by omega) (by omega)]; omega
      go_upto_region 3 with fail
      obtain ⟨d0, d1, d2, d3⟩ := cells4 HR2.out.1
      go_wp2_with (at_builtin; refine wpList_append_lies _ rfl (.tmp 33) (.tmp 34) 23 rfl base 3 i3 (.int .i64 0) 1 8 Tryd.underlying23 hi3 hz03 hz13 hz23 rfl (by decide) (.slice ca n cc) n _ (by rfl) (HC2.out.alloc _) ⟨w2.heap.size, 0, none⟩ 1 1 [.int .i64 (-1)] (by rfl) (by rfl) ?c1 ?c2 ?c3 ?c4 ?c5 ?c6 _ rfl ?_)
      case c1 => exact fun j u hj => one_cell _ _ _ _ _ hj
      case c2 => intro u hu; simp at hu; subst hu; rfl
      case c3 => decide
      case c4 => unfold maxLen; omega
      case c5 => omega
      case c6 => simp; omega
      intro g5 cap5 w5 hown' hgrow hat hg5
      have hkeep : ∀ k, (Value.slice ca n cc).ownBlock ≠ some k → k < w2.heap.size → w5.heap[k]? = w2.heap[k]? := fun k hne hl => (hgrow.block k (by simp; omega) (fun e => hne e.symm)).trans (blk_alloc' hl)
      have hbo : w5.heap[bb]? = some (.cells #[.int .i64 (most : Int), .slice sa' (n + 1) sc', .slice aa' (n + 1) ac', .slice ca n cc] 77 (0, 0)) := (hkeep _ (own_ne_block HC2.out HR2.out.1 (by decide)) (heap_lt HR2.out.1)).trans HR2.out.1
      have f3 := Go.Frame.free hbo 3
      obtain ⟨k0, k1, k2, k3⟩ := cells4 hbo
      have hb6 := (blk_put hbo : (w5.setCell ⟨bb, 3, none⟩ (.slice (some ⟨g5, 0, none⟩) (n + 1) cap5)).heap[bb]? = _)
      obtain ⟨k0', k1', k2', k3'⟩ := cells4 (hb6.trans rfl)
      go_wp2
      go_ret
      have hw5 : W0.heap.size ≤ w5.heap.size := by have h1 := HK2.out.size; have h2 := hgrow.size; simp at h2; omega
      have hw6 : ∀ k, k ≠ bb → (w5.setCell ⟨bb, 3, none⟩ (.slice (some ⟨g5, 0, none⟩) (n + 1) cap5)).heap[k]? = w5.heap[k]? := fun k hk => heap_setCell_other _ _ _ _ hk
      have hs6 : (w5.setCell ⟨bb, 3, none⟩ (.slice (some ⟨g5, 0, none⟩) (n + 1) cap5)).heap.size = w5.heap.size := by simp
      have K25 : Kept (fun b => (Value.slice ca n cc).ownBlock = some b ∨ w2.heap.size ≤ b) w2 w5 := Kept.grown (Kept.alloc (Kept.refl _ _) (fun b hb => .inr hb) _) hgrow (fun b hb => .inr (by simp at hb; omega)) (fun k hk => .inl hk)
      have K26 : Kept (fun b => b = bb ∨ (Value.slice ca n cc).ownBlock = some b ∨ w2.heap.size ≤ b) w2 (w5.setCell ⟨bb, 3, none⟩ (.slice (some ⟨g5, 0, none⟩) (n + 1) cap5)) := (K25.mono fun b hb => .inr hb).setCell (p := ⟨bb, 3, none⟩) (.inl rfl) _
      obtain ⟨w6, hw6e⟩ : ∃ w6, w6 = w5.setCell ⟨bb, 3, none⟩ (.slice (some ⟨g5, 0, none⟩) (n + 1) cap5) := ⟨_, rfl⟩
      rw [← hw6e] at hb6 hw6 hs6 K26 ⊢
      have hg52 : base ≤ g5 ∧ ((Value.slice ca n cc).ownBlock = some g5 ∨ W0.heap.size ≤ g5) := ⟨(hown'.lt g5 rfl).1, hat.imp_right fun h => by have := HK2.out.size; omega⟩
      have hS6 : w6.ownsRow base 48 4 (.slice sa' (n + 1) sc') (n + 1) (S.flatMap swl ++ swl s) := own_kept HS2.out K26 fun k hk => by
        rintro (e | e | e)
        · exact own_ne_block HS2.out HR2.out.1 (by decide) ((show k = bb from e) ▸ hk)
        · exact own_ne HS2.out HC2.out (by decide) hk e
        · have := (HS2.out.lt k hk).2; omega
      have hA6 : w6.ownsRow base 66 1 (.slice aa' (n + 1) ac') (n + 1) (mrows rb most n ++ [.slice (some ⟨rn9, 0, none⟩) most most]) := own_kept HR2.out.2.1 K26 fun k hk => by
        rintro (e | e | e)
        · exact own_ne_block HR2.out.2.1 HR2.out.1 (by decide) ((show k = bb from e) ▸ hk)
        · exact own_ne HR2.out.2.1 HC2.out (by decide) hk e
        · have := (HR2.out.2.1.lt k hk).2; omega
      have hC6 : w6.ownsRow base 3 1 (.slice (some ⟨g5, 0, none⟩) (n + 1) cap5) (n + 1) (A.map iv ++ [.int .i64 (-1)]) := ownsRow_keep hown' fun k hk => hw6 k (fun e => own_ne_block hown' hbo (by decide) (e ▸ hk))
      have KT : Kept (fun b => b = bb ∨ (Value.slice sa n sc).ownBlock = some b ∨ (Value.slice aa n ac).ownBlock = some b ∨ (Value.slice ca n cc).ownBlock = some b ∨ W0.heap.size ≤ b) W0 w6 := (HK2.out.mono fun b hb => by rcases hb with e | e | e | e; exact .inl e; exact .inr (.inl e); exact .inr (.inr (.inl e)); exact .inr (.inr (.inr (.inr e)))).trans (K26.mono fun b hb => by
        have := HK2.out.size
        rcases hb with e | e | e; exact .inl e; exact .inr (.inr (.inr (.inl e))); exact .inr (.inr (.inr (.inr (by omega)))))
      have HB := H0.out
      have hgsa := HB.gs; have hgaa := HB.ga; have hgca := HB.gc
      rw [← HN.out] at hgsa hgaa hgca
      have hrn : w6.heap[rn9]? = some (.cells (bl (fun _ => false) most).toArray 4 (0, 0)) := (K26.block rn9 (by
        rintro (e | e | e)
        · have h1 := HR2.out.2.2.2.1; rw [show rn9 = bb from e, HR2.out.1] at h1; simp at h1
        · exact own_ne_block HC2.out HR2.out.2.2.2.1 (by decide) e
        · have := heap_lt HR2.out.2.2.2.1; omega)).trans HR2.out.2.2.2.1
      have hr1 := HR1.out.2.2.1.size
      have hWs := HB0.out.2
      have hrn0 : W0.heap.size ≤ rn9 := by have := HR2.out.2.2.2.2.1; omega
      have hGlt : ∀ b, G b → b < W.heap.size := fun b hb => by
        exact Hlt.out b hb
      refine ⟨rfl, ⟨fun b => (G b ∨ W.heap.size ≤ b) ∧ b < w6.heap.size, ⟨.slice sa' (n + 1) sc', .slice aa' (n + 1) ac', .slice (some ⟨g5, 0, none⟩) (n + 1) cap5, fun i => if i = n then rn9 else rb i, ?_⟩, fun b hb => hb.1⟩, ?_⟩
      · have hl : (S ++ [s]).length = n + 1 := by simp [HN.out]
        have hmr : mrows (fun i => if i = n then rn9 else rb i) most (n + 1) = mrows rb most n ++ [.slice (some ⟨rn9, 0, none⟩) most most] := by
          unfold mrows
          rw [List.range_succ, List.map_append]
          congr 1
          · refine List.map_congr_left fun i hi => ?_
            have := List.mem_range.1 hi
            have h9 : i ≠ n := by omega
            simp only [if_neg h9]
          · simp
        constructor
        · rw [hb6]; rfl
        · rw [hl]; simpa using hS6
        · rw [hl, hmr]; exact hA6
        · rw [hl]; simpa [iv] using hC6
        · intro i hi
          rw [hl] at hi
          by_cases h9 : i = n
          · subst h9
            have h8 : bl (M i) most = bl (fun _ => false) most := by
              unfold bl
              refine List.map_congr_left fun j _ => ?_
              rw [HB.sup i j (by rw [← HN.out]; omega)]
            simp only [if_pos]
            exact ⟨by unfold BR; rw [h8]; exact hrn, .inr (by omega), heap_lt hrn⟩
          · have h8 := HB.rows i (by rw [← HN.out]; omega)
            simp only [if_neg h9]
            have h7 : w6.heap[rb i]? = W0.heap[rb i]? := KT.block _ (by
              have h6 : W0.heap[rb i]? = some (.cells (bl (M i) most).toArray 4 (0, 0)) := h8.1
              rintro (e | e | e | e | e)
              · rw [show rb i = bb from e, HBX0.out] at h6; simp at h6
              · exact own_ne_block HS0.out h6 (by decide) e
              · exact own_ne_block HA0.out h6 (by decide) e
              · exact own_ne_block HC0.out h6 (by decide) e
              · have := heap_lt h6; omega)
            exact ⟨h7.trans h8.1, .inl h8.2, by have := heap_lt h8.1; have := KT.size; omega⟩
        · intro i j hi hj h9
          rw [hl] at hi hj
          have hq : ∀ i, i < n → rb i < W0.heap.size := fun i hi => heap_lt (HB.rows i (by rw [← HN.out]; exact hi)).1
          by_cases h8 : i = n <;> by_cases h7 : j = n
          · omega
          · simp only [if_pos h8, if_neg h7] at h9
            have := hq j (by omega); omega
          · simp only [if_pos h7, if_neg h8] at h9
            have := hq i (by omega); omega
          · simp only [if_neg h7, if_neg h8] at h9
            exact HB.inj i j (by rw [← HN.out]; omega) (by rw [← HN.out]; omega) h9
        · exact ⟨.inl HB.gb, heap_lt hb6⟩
        · intro k hk
          refine ⟨?_, (hS6.lt k hk).2⟩
          rcases HR1.out.2.2.2 k hk with h | h
          · exact .inl (hgsa k h)
          · exact .inr (by omega)
        · intro k hk
          refine ⟨?_, (hA6.lt k hk).2⟩
          rcases HR2.out.2.2.2.2.2 k hk with h | h
          · exact .inl (hgaa k h)
          · exact .inr (by omega)
        · intro k hk
          simp [Value.ownBlock] at hk
          subst hk
          refine ⟨?_, (hC6.lt _ rfl).2⟩
          rcases hg52.2 with h | h
          · exact .inl (hgca _ h)
          · exact .inr (by omega)
        · intro b hb
          refine ⟨?_, hb.2⟩
          rcases hb.1 with h | h
          · exact (HB.lt b h).1
          · have := (HB.lt bb HB.gb).1; have := HGB.out; omega
        · intro i j hi
          rw [hl] at hi
          exact HB.sup i j (by rw [← HN.out]; omega)
        · exact hms
        · rw [hl]; omega
      · refine (Kept.below HB0.out.1 fun b hb => .inr hb).trans (KT.mono fun b hb => ?_)
        rcases hb with e | e | e | e | e
        · exact .inl ((show b = bb from e) ▸ HB.gb)
        · exact .inl (hgsa b e)
        · exact .inl (hgaa b e)
        · exact .inl (hgca b e)
        · exact .inr (by omega)
    case init2 =>
      exact ⟨_, _, _, _, _, _, _, _, _, _, _, _, _, _, 0, rfl, (Kept.refl _ _).drew, fun h => absurd h (by simp), fun h => absurd h (by simp), fun h => absurd h (by simp), fun h => absurd h (by simp), fun h => absurd h (by simp), fun h => absurd h (by simp), fun h => absurd h (by simp), fun h => absurd h (by simp), fun h => absurd h (by simp), fun h => absurd h (by simp), fun h => absurd h (by simp), fun h => absurd h (by simp), fun h => absurd h (by simp), fun h => absurd h (by simp), fun _ => HR1.out.1, fun h => absurd h (by simp), fun _ => HA1.out, fun h => absurd h (by simp), fun h => absurd h (by simp), fun h => absurd h (by simp), fun h => absurd h (by simp), fun h => absurd h (by simp), fun h => absurd h (by simp), fun h => absurd h (by simp), fun h => absurd h (by simp), fun h => absurd h (by simp), fun h => absurd h (by simp), fun h => absurd h (by simp), fun h => absurd h (by simp), fun h => absurd h (by simp), fun h => absurd h (by simp), fun h => absurd h (by simp)⟩
  case init =>
    exact ⟨_, _, _, _, _, _, _, _, _, _, rfl, (Kept.refl _ _).drew, HX0.out, fun h => absurd h (by simp), fun h => absurd h (by simp), fun h => absurd h (by simp), fun h => absurd h (by simp), fun h => absurd h (by simp), fun h => absurd h (by simp), fun h => absurd h (by simp), fun h => absurd h (by simp), fun h => absurd h (by simp), fun h => absurd h (by simp), fun _ => HBX0.out, fun h => absurd h (by simp), fun _ => HS0.out, fun h => absurd h (by simp), fun h => absurd h (by simp), fun h => absurd h (by simp), fun h => absurd h (by simp), fun h => absurd h (by simp), fun h => absurd h (by simp), fun h => absurd h (by simp), fun h => absurd h (by simp), fun h => absurd h (by simp), fun h => absurd h (by simp), fun h => absurd h (by simp)⟩
end Go.Proofs.YtogpnlkjcdedlaaDoor
end
