/-
  Contract: of.
-/
import Derived.Test.YtednoideboeehaaDoorZ15
import Derived.Test.YtednoideboeehaaDoorZ16
section
set_option linter.unusedSimpArgs false
set_option linter.unusedVariables false
namespace Go.Proofs.YtednoideboeehaaDoor
open Go.RowKit Bs Rg Go.Frame
attribute [local go_sem] Oper.semAt_some

theorem own_blk {A B : World} {row : Option Nat} {b : Nat} {c : Array Value} {t : TypeId} {f : Nat × Nat} (h : A.heap[b]? = some (.cells c t f)) (hg : A.grownBy B row) (hr : ∀ r, row = some r → ∃ o : Obj, A.heap[r]? = some o ∧ o.isCells = false) : B.heap[b]? = some (.cells c t f) := by
  refine (hg.block b (heap_lt h) ?_).trans h
  intro e
  obtain ⟨o, ho, hc⟩ := hr b e.symm
  rw [h] at ho; cases ho; cases hc
theorem Md.grown {S : Nat → Prop} {a b c : World} {row : Option Nat} (h : Md S a b) (hg : b.grownBy c row) (hr : ∀ r, row = some r → a.heap.size ≤ r) : Md S a c :=
  ⟨hg.os.trans h.os, hg.tape.trans h.tape, hg.output.trans h.output, Nat.le_trans h.size hg.size, fun k hk hs => (hg.block k (Nat.lt_of_lt_of_le hk h.size) (fun e => by have := hr k e.symm; omega)).trans (h.block k hk hs)⟩
theorem keeps_bel {W W' : World} (h : Below W.heap.size W W') : KeepsOthers W W' := ⟨h.size, fun k o hk _ => (h.block k (heap_lt hk)).trans hk⟩
/-- A number for an expression. -/
def OfRes (W : World) (m : Nat) (T : List Nd) (r : Rx) (e : Ending) (w' : World) : Prop := ∃ (T' : List Nd) (n : Nat), e = .returned (.int .i64 (n : Int)) ∧ Tab w' m T' ∧ T <+: T' ∧ Num T' (.e r) n ∧ T'.length + 1 ≤ T.length + 2 * parts r ∧ Md (· = m) W w'
/-- The list of the kids that have come, what they cost. -/
def lst {n : Nat} (kid : Fin n → Rx) (pre : List (Fin n)) : List Rx := (pre.map kid).reverse
def cst {n : Nat} (kid : Fin n → Rx) (pre : List (Fin n)) : Nat := partsL (lst kid pre)
theorem lst_snoc {n : Nat} (kid : Fin n → Rx) (pre : List (Fin n)) (x : Fin n) : lst kid (pre ++ [x]) = kid x :: lst kid pre := by simp [lst]
theorem cst_snoc {n : Nat} (kid : Fin n → Rx) (pre : List (Fin n)) (x : Fin n) : cst kid (pre ++ [x]) = parts (kid x) + cst kid pre := by unfold cst; rw [lst_snoc, partsL]
theorem lst_full {l : List Rx} {n : Nat} (h : l.length = n) : lst (fun i : Fin n => l[i.1]'(by omega)) (bw n 0) = l := by
  subst h
  unfold lst bw
  rw [List.drop_zero, List.map_reverse, List.reverse_reverse]
  apply List.ext_getElem
  · simp
  · intro i h1 h2; simp
theorem partsL_le {M : Nat} : ∀ {m : List Rx}, (∀ x ∈ m, parts x ≤ M) → partsL m ≤ m.length * M
  | [], _ => by simp [partsL]
  | x :: m, h => by
    have h1 := h x (by simp)
    have h2 := partsL_le (m := m) fun y hy => h y (by simp [hy])
    rw [partsL, List.length_cons, Nat.add_mul]; omega
theorem parts_len' : ∀ l : List Rx, l.length ≤ partsL l
  | [] => Nat.zero_le _
  | x :: l => by
    have := parts_len' l
    have := parts_pos x
    rw [partsL, List.length_cons]; omega
theorem cst_le {n M : Nat} (kid : Fin n → Rx) (h : ∀ i, parts (kid i) ≤ M) (pre : List (Fin n)) : cst kid pre ≤ pre.length * M := by
  have := partsL_le (m := lst kid pre) (M := M) (fun x hx => by
    unfold lst at hx
    rw [List.mem_reverse, List.mem_map] at hx
    obtain ⟨i, _, rfl⟩ := hx
    exact h i)
  unfold cst
  rw [show (lst kid pre).length = pre.length by simp [lst]] at this
  exact this
theorem kind_pos {r : Rx} (h : Vd r) : r.k ≠ 0 := by
  obtain ⟨k, s, l⟩ := r
  have := shaped_kind h.shaped
  show k ≠ 0
  omega
theorem parts_at {l : List Rx} {i : Nat} (h : i < l.length) : parts l[i] ≤ partsL l := by
  induction l generalizing i with
  | nil => simp at h
  | cons x l ih =>
    rw [partsL]
    cases i with
    | zero => simp
    | succ i => have := ih (i := i) (by simpa using h); simp; omega

set_option maxRecDepth 100000 in
set_option maxHeartbeats 8000000 in
theorem of_any {N m : Nat} (hNm : N ≤ m) (r : Rx) : Vd r → ∀ (W : World) (cs : List Value) (T : List Nd), RC (· < N) W r cs → Tab W m T → parts r ≤ 100000 → T.length + 30000000000 * depth r ≤ 1000000000000000000 →
    Calls Tryd.prog 93 #[.map (some m), .agg cs.toArray] W (OfRes W m T r) := by
  induction r using Rx.ind with
  | h k s l ih =>
  intro hv W cs T h hT hp hTl
  obtain ⟨a, n, c, rfl, hK⟩ := RC_mk.1 h
  have hln := hK.len
  have hnl := hK.lt
  have hpl : partsL l ≤ 99999 := by rw [parts] at hp; omega
  have hnp : n ≤ partsL l := by rw [← hln]; exact parts_len' l
  obtain ⟨kid, hkid⟩ : ∃ kid : Fin n → Rx, kid = fun i : Fin n => l[i.1]'(by omega) := ⟨_, rfl⟩
  have hkm : ∀ i, kid i ∈ l := fun i => by rw [hkid]; exact List.getElem_mem _
  have hkp : ∀ i, parts (kid i) ≤ partsL l := fun i => by rw [hkid]; exact parts_at _
  have hfull : lst kid (bw n 0) = l := by rw [hkid]; exact lst_full hln
  -- the row
  have hrow : ∃ (q : Kc) (bk off : Nat), (n = 0 ∨ a = some ⟨bk, off, none⟩ ∧ q.At W bk off n) ∧ (n ≠ 0 → bk < N) ∧ ∀ i : Fin n, ∃ l', kid i = .mk (q.k i.1) (q.s i.1) l' ∧ Kd (· < N) W (q.a i.1) (q.n i.1) l' := by
    by_cases h0 : n = 0
    · exact ⟨⟨fun _ => 0, fun _ => none8, fun _ => none, fun _ => 0, fun _ => 0⟩, 0, 0, .inl h0, fun h => absurd h0 h, fun i => by have := i.2; omega⟩
    · obtain ⟨q, bk, off, h1, h2, h3, h4⟩ := hK.kc h0
      refine ⟨q, bk, off, .inr ⟨h1, h3⟩, fun _ => h2, fun i => ?_⟩
      obtain ⟨l', g1, g2⟩ := h4 i.1 i.2
      refine ⟨l', ?_, g2⟩
      rw [hkid]
      rw [List.getElem?_eq_getElem (by omega)] at g1
      simpa using g1
  obtain ⟨q, bk0, off, hq, hbN, hkids⟩ := hrow
  have hmW := hT.lt
  have hNW : N ≤ W.heap.size := by omega
  obtain ⟨V, hV⟩ : ∃ V, V = (((W.alloc (.cells #[.map (some m)] 75)).alloc (.cells #[.int .i64 k, .int .u64 (ws s 0 : Int), .int .u64 (ws s 1 : Int), .int .u64 (ws s 2 : Int), .int .u64 (ws s 3 : Int), .slice a n c] 27)).alloc (.cells #[.int .i64 0] 3)).alloc (.cells #[.slice a n c] 25) := ⟨_, rfl⟩
  obtain ⟨y0, y1, y2, y3, bV, hsz⟩ := Go.Frame.four W (.cells #[.map (some m)] 75) (.cells #[.int .i64 k, .int .u64 (ws s 0 : Int), .int .u64 (ws s 1 : Int), .int .u64 (ws s 2 : Int), .int .u64 (ws s 3 : Int), .slice a n c] 27) (.cells #[.int .i64 0] 3) (.cells #[.slice a n c] 25)
  rw [← hV] at y0 y1 y2 y3 bV hsz
  obtain ⟨bk, hbk⟩ : ∃ bk, bk = (if n = 0 then (W.heap.size + 1 + 1 + 1) else bk0) := ⟨_, rfl⟩
  have hbkV : bk < V.heap.size := by
    rw [hbk]; split
    · omega
    · rename_i h0; have := hbN h0; omega
  have hbkm : bk ≠ m ∧ bk ≠ (W.heap.size + 1 + 1) := by
    rw [hbk]; split
    · omega
    · rename_i h0; have := hbN h0; omega
  have hqV : n = 0 ∨ a = some ⟨bk, off, none⟩ ∧ q.At V bk off n := by
    by_cases h0 : n = 0
    · exact .inl h0
    · obtain ⟨h1, h2⟩ := hq.resolve_left h0
      rw [hbk, if_neg h0]
      exact .inr ⟨h1, h2.keep bV.size (bV.block _ h2.1)⟩
  have hT9 : T.length + 30000000000 ≤ 1000000000000000000 := by have := depth_pos (Rx.mk k s l); omega
  have HT := hid (And.intro (hT.below bV) hT9)
  have HK := hid hkids
  have IH := hid (fun (x : Fin n) (V' : World) (T' : List Nd) (hV' : Md (fun k => k = m ∨ W.heap.size ≤ k) W V') (hT' : Tab V' m T') (hl' : T'.length ≤ T.length + 20000000000) => show Calls Tryd.prog 93 #[.map (some m), .agg #[.int .i64 (q.k x.1), .int .u64 (ws (q.s x.1) 0 : Int), .int .u64 (ws (q.s x.1) 1 : Int), .int .u64 (ws (q.s x.1) 2 : Int), .int .u64 (ws (q.s x.1) 3 : Int), .slice (q.a x.1) (q.n x.1) (q.c x.1)]] V' (OfRes V' m T' (kid x)) from by
    obtain ⟨l', e, hk⟩ := hkids x
    have hdx : depth (kid x) + 1 ≤ depth (Rx.mk k s l) := by
      rw [depth]
      have := depthL_le.1 (Nat.le_refl (depthL l)) _ (hkm x); omega
    refine ih _ (hkm x) (hv.kid (hkm x)) V' _ T' ?_ hT' (by have := hkp x; omega) (by omega)
    rw [e]
    exact RC_mk.2 ⟨_, _, _, rfl, hk.keep hV'.size (fun b hb hlt => hV'.block b hlt (by omega)) (fun _ h => h)⟩)
  have hvk := hid (kind_pos hv)
  have HF := hid (And.intro hfull (And.intro hkp (And.intro hpl hnp)))
  clear h hK hT ih hv hkm hkid hq hbN hfull hkids hkp hp hTl hT9 hpl hnp hbk
  show Calls Tryd.prog 93 #[.map (some m), .agg #[.int .i64 k, .int .u64 (ws s 0 : Int), .int .u64 (ws s 1 : Int), .int .u64 (ws s 2 : Int), .int .u64 (ws s 3 : Int), .slice a n c]] W _
  refine (callsIn_wide (n := 6)).1 ?_
  refine callsIn_of_wp_marks Tryd.func93 rfl trivial ?_ rfl
  simp only [Tryd.ntmps93, List.size_toArray, List.length_cons, List.length_nil, Nat.reduceAdd, Nat.reduceSub, Array.replicate_succ, Array.replicate_zero, List.push_toArray, List.append_toArray, List.nil_append, List.cons_append]
  refine wpIn_wide.2 ?_
  go_wp2_with fail
  refine (Back_any _ _ _ _).mono ?_
  rintro e w9 ⟨rfl, rfl⟩
  go_wp2_with fail
  rw [← hV]
  clear hV
  refine (wpIn_wide (n := 6)).1 ?_
  refine wpIn_rangeFunc_ownH (n := 6) rfl (by omega) (gf := 105) (lb := #[.pointer (some ⟨(W.heap.size + 1 + 1 + 1), 0, none⟩)]) rfl trivial (enters_of Tryd.func105 (by kernel_rfl) rfl)
    (back_stops 5 (W.heap.size + 1 + 1 + 1) bk off n c (by omega) V q hnl a y3 hqV) Both.trans
    (fun X l o o' hl h _ _ => ⟨World.putObj_heap_other (by omega), World.putObj_heap_other (by omega), by simp⟩) (Below.refl _ _) (fun _ => rfl)
    (fun pre X => ∃ (T' : List Nd) (n5 : Nat), Tab X m T' ∧ T <+: T' ∧ NumL T' (lst kid pre) n5 ∧ T'.length ≤ T.length + 2 * cst kid pre ∧ X.heap[(W.heap.size + 1 + 1)]? = some (.cells #[.int .i64 (n5 : Int)] 3 (0, 0)) ∧ Md (fun k => k = m ∨ k = (W.heap.size + 1 + 1)) V X)
    (fun _ _ _ => False)
    ?own (fun _ _ _ _ _ hs _ _ => hs)
    ⟨T, 0, HT.out.1, List.prefix_rfl, rfl, by omega, y2, Md.refl _ _⟩
    (fun x a' X => ∃ kb, a' = { tmps := #[.map (some m), .agg #[.int .i64 k, .int .u64 (ws s 0 : Int), .int .u64 (ws s 1 : Int), .int .u64 (ws s 2 : Int), .int .u64 (ws s 3 : Int), .slice a n c], .pointer (some ⟨W.heap.size, 0, none⟩), .pointer (some ⟨(W.heap.size + 1), 0, none⟩), .int .i64 0, .pointer (some ⟨(W.heap.size + 1 + 1), 0, none⟩), undef, .pointer (some ⟨kb, 0, none⟩), .pointer (some ⟨W.heap.size + 1, 5, none⟩), .slice a n c, .func (.func 105) #[] #[.pointer (some ⟨(W.heap.size + 1 + 1 + 1), 0, none⟩)], .int .i64 (x.1 : Int), .agg #[.int .i64 (q.k x.1), .int .u64 (ws (q.s x.1) 0 : Int), .int .u64 (ws (q.s x.1) 1 : Int), .int .u64 (ws (q.s x.1) 2 : Int), .int .u64 (ws (q.s x.1) 3 : Int), .slice (q.a x.1) (q.n x.1) (q.c x.1)], undef, undef, undef, undef, undef, undef, undef, undef, undef, undef, undef, undef, undef, undef], defers := [] } ∧ kb ≠ m ∧ kb ≠ (W.heap.size + 1 + 1) ∧ X.heap[kb]? = some (.cells #[.int .i64 (q.k x.1), .int .u64 (ws (q.s x.1) 0 : Int), .int .u64 (ws (q.s x.1) 1 : Int), .int .u64 (ws (q.s x.1) 2 : Int), .int .u64 (ws (q.s x.1) 3 : Int), .slice (q.a x.1) (q.n x.1) (q.c x.1)] 27 (0, 0)))
    ?ownA ?assign ?body ?done ?stop
  case own =>
    rintro pre A C row ⟨T', n5, h1, h2, h3, h4, h5, h6⟩ hg hr
    exact ⟨T', n5, h1.keep (hg.block _ h1.lt (fun e => by have := (hr _ e.symm).1; omega)), h2, h3, h4, own_blk h5 hg (fun r e => (hr r e).2), h6.grown hg (fun r e => (hr r e).1)⟩
  case ownA =>
    rintro x a' u A C row ⟨kb, h1, h2, h3, h4⟩ hg hr
    exact ⟨kb, h1, h2, h3, own_blk h4 hg (fun r e => (hr r e).2)⟩
  case assign =>
    rintro l' pre x X K ⟨T', n5, h1, h2, h3, h4, h5, h6⟩ hK
    unfold encK Kc.v
    have hX6 := h6.size
    have hKK := hid hK
    have HH := hid (And.intro h1 (And.intro h2 (And.intro h3 (And.intro h4 (And.intro h5 h6)))))
    clear h1 h2 h3 h4 h5 h6 hK
    gi_wp2
    obtain ⟨h1, h2, h3, h4, h5, h6⟩ := HH.out
    have bX := bel1 X (.cells #[.int .i64 (q.k x.1), .int .u64 (ws (q.s x.1) 0 : Int), .int .u64 (ws (q.s x.1) 1 : Int), .int .u64 (ws (q.s x.1) 2 : Int), .int .u64 (ws (q.s x.1) 3 : Int), .slice (q.a x.1) (q.n x.1) (q.c x.1)] 27)
    exact hKK.out _ _ ((keeps_bel bX).from _) ⟨bX.block _ (by omega), bX.block _ (by omega), bX.size⟩ ⟨T', n5, h1.below bX, h2, h3, h4, (bX.block _ (heap_lt h5)).trans h5, h6.trans (Md.below bX)⟩ ⟨X.heap.size, rfl, by omega, by omega, alloc_new _ _⟩
  case body =>
    rintro lr pre x a' X hl9 _ ⟨T', n5, h1, h2, h3, h4, h5, h6⟩ ⟨kb, rfl, hkm, hkS, hkb⟩ hpl
    have hcs := cst_le kid (M := 99999) (fun i => Nat.le_trans (HF.out.2.1 i) HF.out.2.2.1) pre
    have hX6 := h6.size
    have HH := hid (And.intro h1 (And.intro h2 (And.intro h3 (And.intro h4 (And.intro h5 (And.intro h6 hkb))))))
    have hcs2 : T'.length ≤ T.length + 20000000000 := by
      have h9 : pre.length * 99999 ≤ 99999 * 99999 := Nat.mul_le_mul_right _ (by have := HF.out.2.2.1; have := HF.out.2.2.2; omega)
      omega
    have hTT := HT.out.2
    clear h1 h2 h3 h4 h5 h6 hkb
    gi_wp2
    refine region_inv_in (free_round lr) (rows_round lr) (by kernel_rfl) (fun b a' w' => ∃ (v13 v14 v15 v16 v17 v18 : Value) (Tc : List Nd) (n1 n2 : Nat), a' = { tmps := #[.map (some m), .agg #[.int .i64 k, .int .u64 (ws s 0 : Int), .int .u64 (ws s 1 : Int), .int .u64 (ws s 2 : Int), .int .u64 (ws s 3 : Int), .slice a n c], .pointer (some ⟨W.heap.size, 0, none⟩), .pointer (some ⟨(W.heap.size + 1), 0, none⟩), .int .i64 0, .pointer (some ⟨(W.heap.size + 1 + 1), 0, none⟩), undef, .pointer (some ⟨kb, 0, none⟩), .pointer (some ⟨W.heap.size + 1, 5, none⟩), .slice a n c, .func (.func 105) #[] #[.pointer (some ⟨(W.heap.size + 1 + 1 + 1), 0, none⟩)], .int .i64 (x.1 : Int), .agg #[.int .i64 (q.k x.1), .int .u64 (ws (q.s x.1) 0 : Int), .int .u64 (ws (q.s x.1) 1 : Int), .int .u64 (ws (q.s x.1) 2 : Int), .int .u64 (ws (q.s x.1) 3 : Int), .slice (q.a x.1) (q.n x.1) (q.c x.1)], v13, v14, v15, v16, v17, v18, undef, undef, undef, undef, undef, undef, undef, undef], defers := [] } ∧ (b 0 = true → v13 = .map (some m)) ∧ (b 1 = true → v14 = .map (some m)) ∧ (b 2 = true → v15 = .agg #[.int .i64 (q.k x.1), .int .u64 (ws (q.s x.1) 0 : Int), .int .u64 (ws (q.s x.1) 1 : Int), .int .u64 (ws (q.s x.1) 2 : Int), .int .u64 (ws (q.s x.1) 3 : Int), .slice (q.a x.1) (q.n x.1) (q.c x.1)]) ∧ (b 3 = true → v16 = .int .i64 (n1 : Int) ∧ Num Tc (.e (kid x)) n1) ∧ (b 4 = true → v17 = .int .i64 (n5 : Int)) ∧ (b 5 = true → v18 = .int .i64 (n2 : Int) ∧ Num Tc (.l (kid x) (lst kid pre)) n2) ∧ Tab w' m Tc ∧ T' <+: Tc ∧ (b 3 = false → Tc.length ≤ T'.length) ∧ (b 5 = false → Tc.length + 1 ≤ T'.length + 2 * parts (kid x)) ∧ Tc.length ≤ T'.length + 2 * parts (kid x) ∧ (b 6 = false → w'.heap[(W.heap.size + 1 + 1)]? = some (.cells #[.int .i64 (n5 : Int)] 3 (0, 0))) ∧ (b 6 = true → b 5 = true ∧ w'.heap[(W.heap.size + 1 + 1)]? = some (.cells #[.int .i64 (n2 : Int)] 3 (0, 0))) ∧ (b 5 = true → b 3 = true) ∧ (b 5 = true → b 4 = true) ∧ Md (fun k => k = m ∨ k = (W.heap.size + 1 + 1)) X w') (by kernel_rfl) (back_of (by kernel_rfl)) ?step9 ?done9 ?init9
    case step9 =>
      rintro b a' w' i o ho ⟨v13, v14, v15, v16, v17, v18, Tc, n1, n2, rfl, h0, h1, h2, h3, h4, h5, g1, g2, g3, g4, g5, g6, g7, g8, g10, g9⟩ hbi hd K hK
      have hlt : i < 7 := by have := (Array.getElem?_eq_some_iff.1 ho).1; simpa using this
      have dep : ∀ k, (o.after.any fun e => Region.binds .any e && e.on == k) = true → b k = true := fun k hk => by
        obtain ⟨e, he, h⟩ := Array.any_eq_true'.1 hk
        simp only [Bool.and_eq_true, beq_iff_eq] at h
        rw [← h.2]; exact hd e he h.1
      clear hd
      have hi : i = 0 ∨ i = 1 ∨ i = 2 ∨ i = 3 ∨ i = 4 ∨ i = 5 ∨ i = 6 := by omega
      clear hlt
      rcases hi with rfl | rfl | rfl | rfl | rfl | rfl | rfl
      · simp only [List.getElem?_toArray, List.getElem?_cons_zero, List.getElem?_cons_succ, Option.some.injEq] at ho
        subst ho
        have z0 := (g9.block W.heap.size (by omega) (by omega)).trans ((HH.out.2.2.2.2.2.1.block _ (heap_lt y0) (by omega)).trans y0)
        have c0 := cells1 z0
        go_simp
        refine hK.out _ _ ⟨_, _, _, _, _, _, _, _, _, rfl, fun _ => rfl, fun h => h1 (by simpa using h), fun h => h2 (by simpa using h), fun h => h3 (by simpa using h), fun h => h4 (by simpa using h), fun h => h5 (by simpa using h), g1, g2, fun h => g3 (by simpa using h), fun h => g4 (by simpa using h), g5, fun h => g6 (by simpa using h), fun h => ⟨by simp [(g7 (by simpa using h)).1], (g7 (by simpa using h)).2⟩, fun h => by simp [g8 (by simpa using h)], fun h => by simp [g10 (by simpa using h)], g9⟩
      · simp only [List.getElem?_toArray, List.getElem?_cons_zero, List.getElem?_cons_succ, Option.some.injEq] at ho
        subst ho
        have z0 := (g9.block W.heap.size (by omega) (by omega)).trans ((HH.out.2.2.2.2.2.1.block _ (heap_lt y0) (by omega)).trans y0)
        have c0 := cells1 z0
        go_simp
        refine hK.out _ _ ⟨_, _, _, _, _, _, _, _, _, rfl, fun h => h0 (by simpa using h), fun _ => rfl, fun h => h2 (by simpa using h), fun h => h3 (by simpa using h), fun h => h4 (by simpa using h), fun h => h5 (by simpa using h), g1, g2, fun h => g3 (by simpa using h), fun h => g4 (by simpa using h), g5, fun h => g6 (by simpa using h), fun h => ⟨by simp [(g7 (by simpa using h)).1], (g7 (by simpa using h)).2⟩, fun h => by simp [g8 (by simpa using h)], fun h => by simp [g10 (by simpa using h)], g9⟩
      · simp only [List.getElem?_toArray, List.getElem?_cons_zero, List.getElem?_cons_succ, Option.some.injEq] at ho
        subst ho
        have z7 := (g9.block kb (heap_lt HH.out.2.2.2.2.2.2) (by omega)).trans HH.out.2.2.2.2.2.2
        obtain ⟨c0, c1, c2, c3, c4, c5⟩ := cells6 z7
        go_simp
        refine hK.out _ _ ⟨_, _, _, _, _, _, _, _, _, rfl, fun h => h0 (by simpa using h), fun h => h1 (by simpa using h), fun _ => rfl, fun h => h3 (by simpa using h), fun h => h4 (by simpa using h), fun h => h5 (by simpa using h), g1, g2, fun h => g3 (by simpa using h), fun h => g4 (by simpa using h), g5, fun h => g6 (by simpa using h), fun h => ⟨by simp [(g7 (by simpa using h)).1], (g7 (by simpa using h)).2⟩, fun h => by simp [g8 (by simpa using h)], fun h => by simp [g10 (by simpa using h)], g9⟩
      · simp only [List.getElem?_toArray, List.getElem?_cons_zero, List.getElem?_cons_succ, Option.some.injEq] at ho
        subst ho
        obtain rfl := h1 (dep 1 (by kernel_rfl))
        obtain rfl := h2 (dep 2 (by kernel_rfl))
        have hb5 : b 5 = false := by
          cases hb' : b 5
          · rfl
          · have := g8 hb'; rw [hbi] at this; cases this
        have hTl := g3 hbi
        have CI := hid (IH.out x w' Tc ((Md.below bV).trans ((HH.out.2.2.2.2.2.1.trans g9).mono (fun k hk => by omega))) g1 (by omega))
        go_simp
        refine CI.out.mono ?_
        rintro e w5 ⟨Td, nd, rfl, e1, e2, e3, e4, e5⟩
        have e5' : Md (fun k => k = m ∨ k = (W.heap.size + 1 + 1)) w' w5 := e5.mono fun k hk => .inl hk
        have hmS : (W.heap.size + 1 + 1) ≠ m := by omega
        refine hK.out _ _ ⟨_, _, _, _, _, _, Td, nd, n2, rfl, fun h => h0 (by simpa using h), fun h => h1 (by simpa using h), fun h => h2 (by simpa using h), fun _ => ⟨rfl, e3⟩, fun h => h4 (by simpa using h), fun h => absurd h (by simp [hb5]), e1, g2.trans e2, fun h => absurd h (by simp), fun _ => by omega, by omega, fun h => (e5.block _ (heap_lt (g6 (by simpa using h))) hmS).trans (g6 (by simpa using h)), fun h => absurd (g7 (by simpa using h)).1 (by simp [hb5]), fun h => absurd h (by simp [hb5]), fun h => absurd h (by simp [hb5]), g9.trans e5'⟩
      · simp only [List.getElem?_toArray, List.getElem?_cons_zero, List.getElem?_cons_succ, Option.some.injEq] at ho
        subst ho
        have hb6 : b 6 = false := by
          cases hb' : b 6
          · rfl
          · have h9 := (g7 hb').1
            have := g10 h9
            rw [hbi] at this; cases this
        have c0 := cells1 (g6 hb6)
        go_simp
        refine hK.out _ _ ⟨_, _, _, _, _, _, _, _, _, rfl, fun h => h0 (by simpa using h), fun h => h1 (by simpa using h), fun h => h2 (by simpa using h), fun h => h3 (by simpa using h), fun _ => rfl, fun h => h5 (by simpa using h), g1, g2, fun h => g3 (by simpa using h), fun h => g4 (by simpa using h), g5, fun h => g6 (by simpa using h), fun h => ⟨by simp [(g7 (by simpa using h)).1], (g7 (by simpa using h)).2⟩, fun h => by simp [g8 (by simpa using h)], fun h => by simp [g10 (by simpa using h)], g9⟩
      · simp only [List.getElem?_toArray, List.getElem?_cons_zero, List.getElem?_cons_succ, Option.some.injEq] at ho
        subst ho
        obtain rfl := h0 (dep 0 (by kernel_rfl))
        have hb3 := dep 3 (by kernel_rfl)
        have hb4 := dep 4 (by kernel_rfl)
        obtain ⟨rfl, hn1⟩ := h3 hb3
        obtain rfl := h4 hb4
        have hb6 : b 6 = false := by
          cases hb' : b 6
          · rfl
          · have := (g7 hb').1; rw [hbi] at this; cases this
        have hTl := g4 hbi
        have CL := hid (listed_any g1 hn1 (HH.out.2.2.1.more g2) (by have := HF.out.2.1 x; have := HF.out.2.2.1; omega))
        go_simp
        refine CL.out.mono ?_
        rintro e w5 ⟨Td, nd, rfl, e1, e2, e3, e4, e5⟩
        have e5' : Md (fun k => k = m ∨ k = (W.heap.size + 1 + 1)) w' w5 := e5.mono fun k hk => .inl hk
        have hmS : (W.heap.size + 1 + 1) ≠ m := by omega
        refine hK.out _ _ ⟨_, _, _, _, _, _, Td, n1, nd, rfl, fun _ => rfl, fun h => h1 (by simpa using h), fun h => h2 (by simpa using h), fun _ => ⟨rfl, hn1.more e2⟩, fun _ => rfl, fun _ => ⟨rfl, e3⟩, e1, g2.trans e2, fun h => absurd h (by simp [hb3]), fun h => absurd h (by simp), by omega, fun h => (e5.block _ (heap_lt (g6 hb6)) hmS).trans (g6 hb6), fun h => absurd h (by simp [hb6]), fun _ => by simp [hb3], fun _ => by simp [hb4], g9.trans e5'⟩
      · simp only [List.getElem?_toArray, List.getElem?_cons_zero, List.getElem?_cons_succ, Option.some.injEq] at ho
        subst ho
        have hb5 := dep 5 (by kernel_rfl)
        obtain ⟨rfl, hn2⟩ := h5 hb5
        have hb3 := g8 hb5
        obtain ⟨rfl, hn1⟩ := h3 hb3
        have hb4 := g10 hb5
        obtain rfl := h4 hb4
        have z2 := g6 hbi
        have c0 := cells1 z2
        have f0 := free z2 0
        have hmS : (W.heap.size + 1 + 1) ≠ m := by omega
        have zz : Md (fun k => k = m ∨ k = (W.heap.size + 1 + 1)) w' (w'.setCell ⟨(W.heap.size + 1 + 1), 0, none⟩ (.int .i64 (n2 : Int))) := ⟨rfl, rfl, rfl, by simp, fun k _ hk => heap_setCell_other _ _ _ _ (by show k ≠ (W.heap.size + 1 + 1); omega)⟩
        go_simp
        refine hK.out _ _ ⟨_, _, _, _, _, _, Tc, n1, n2, rfl, fun h => h0 (by simpa using h), fun h => h1 (by simpa using h), fun h => h2 (by simpa using h), fun _ => ⟨rfl, hn1⟩, fun _ => rfl, fun _ => ⟨rfl, hn2⟩, g1.keep (heap_setCell_other _ _ _ _ (by show m ≠ (W.heap.size + 1 + 1); omega)), g2, fun h => g3 (by simpa using h), fun h => g4 (by simpa using h), g5, fun h => absurd h (by simp), fun _ => ⟨by simp [hb5], blk_put z2⟩, fun h => by simp [g8 (by simpa using h)], fun h => by simp [g10 (by simpa using h)], g9.trans zz⟩
    case done9 =>
      rintro b a' w' ⟨v13, v14, v15, v16, v17, v18, Tc, n1, n2, rfl, h0, h1, h2, h3, h4, h5, g1, g2, g3, g4, g5, g6, g7, g8, g10, g9⟩ hall
      obtain ⟨_, hn2⟩ := h5 (hall 5)
      obtain ⟨_, z2⟩ := g7 (hall 6)
      have HE := hid (show KeepsFrom V.heap.size X w' ∧ Both (W.heap.size + 1 + 1 + 1) bk X w' ∧ ∃ (T' : List Nd) (n5 : Nat), Tab w' m T' ∧ T <+: T' ∧ NumL T' (lst kid (pre ++ [x])) n5 ∧ T'.length ≤ T.length + 2 * cst kid (pre ++ [x]) ∧ w'.heap[(W.heap.size + 1 + 1)]? = some (.cells #[.int .i64 (n5 : Int)] 3 (0, 0)) ∧ Md (fun k => k = m ∨ k = (W.heap.size + 1 + 1)) V w' from
        ⟨⟨g9.size, fun k o hk hko _ => (g9.block k (heap_lt hko) (by omega)).trans hko⟩, ⟨g9.block _ (by omega) (by omega), g9.block _ (by omega) (by omega), g9.size⟩, Tc, n2, g1, HH.out.2.1.trans g2, by rw [lst_snoc]; exact hn2, by rw [cst_snoc]; have := HH.out.2.2.2.1; omega, z2, HH.out.2.2.2.2.2.1.trans g9⟩)
      clear h0 h1 h2 h3 h4 h5 g1 g2 g3 g4 g5 g6 g7 g8 g10 g9 hn2 z2 hall
      gi_wp2
      exact HE.out
    case init9 =>
      exact ⟨_, _, _, _, _, _, T', 0, 0, rfl, fun h => absurd h (by simp), fun h => absurd h (by simp), fun h => absurd h (by simp), fun h => absurd h (by simp), fun h => absurd h (by simp), fun h => absurd h (by simp), HH.out.1.keep rfl, List.prefix_rfl, fun _ => Nat.le_refl _, fun _ => by have := parts_pos (kid x); omega, by omega, fun _ => HH.out.2.2.2.2.1, fun h => absurd h (by simp), fun h => absurd h (by simp), fun h => absurd h (by simp), Md.drew (Md.refl _ _)⟩
  case done =>
    rintro D ys X hD rfl ⟨T', n5, h1, h2, h3, h4, h5, h6⟩ hK
    rw [HF.out.1] at h3
    have hc : cst kid (bw n 0) = partsL l := by unfold cst; rw [HF.out.1]
    rw [hc] at h4
    have z0 := (h6.block _ (heap_lt y0) (by omega)).trans y0
    have z1 := (h6.block _ (heap_lt y1) (by omega)).trans y1
    have c0 := cells1 z0
    obtain ⟨d0, d1, d2, d3, d4, d5⟩ := cells6 z1
    have c2 := cells1 h5
    have CG := hid (show Calls Tryd.prog 106 #[.map (some m), .agg #[.int .i64 k, .int .u64 (ws s 0 : Int), .int .u64 (ws s 1 : Int), .int .u64 (ws s 2 : Int), .int .u64 (ws s 3 : Int), .int .i64 0, .int .i64 (n5 : Int)]] X (GetRes X m T' (.e (.mk k s l))) from
      get_any (v := .e (.mk k s l)) (p := (k, s, 0, n5)) h1 (show ShpOf T' (.e (.mk k s l)) _ from ⟨n5, h3, rfl⟩) (fun x e => by simp at e; rw [← e]; exact hvk.out) (by have := HT.out.2; have := HF.out.2.2.1; omega))
    have HH := hid (And.intro h2 (And.intro h4 h6))
    have HD := hid hK
    clear h1 h2 h3 h4 h5 h6 hK z0 z1 hc
    go_wp2_with fail
    refine CG.out.mono ?_
    rintro e w5 ⟨Td, nd, rfl, e1, e2, e3, e4, e5⟩
    have hmD : D ≠ m := by omega
    have hD5 := (e5.block D (heap_lt HD.out) hmD).trans HD.out
    have HQ := hid (And.intro e1 (And.intro e2 (And.intro e3 (And.intro e4 e5))))
    clear e1 e2 e3 e4 e5
    go_wp2
    show LeavesInM _ _ _ _ _ _ _ _ _
    unfold LeavesInM
    refine ⟨by simp, .inl ⟨_, _, rfl, run_takeDeferred hD5, ?_⟩⟩
    obtain ⟨e1, e2, e3, e4, e5⟩ := HQ.out
    have hp9 : parts (Rx.mk k s l) = partsL l + 1 := by rw [parts]
    refine ⟨_, results_tmp rfl _ _ _, Td, nd, rfl, e1.keep (World.putObj_heap_other (by omega)), HH.out.1.trans e2, e3, by have := HH.out.2.1; omega, ?_⟩
    have h7 : Md (· = m) W w5 := by
      have h8 := HH.out.2.2
      refine ⟨e5.os.trans (h8.os.trans bV.os), e5.tape.trans (h8.tape.trans bV.tape), e5.output.trans (h8.output.trans bV.output), Nat.le_trans bV.size (Nat.le_trans h8.size e5.size), fun i hi hne => ?_⟩
      exact (e5.block i (Nat.lt_of_lt_of_le hi (Nat.le_trans bV.size h8.size)) hne).trans ((h8.block i (Nat.lt_of_lt_of_le hi bV.size) (by omega)).trans (bV.block i hi))
    exact ⟨h7.os, h7.tape, h7.output, by simpa using h7.size, fun i hi hne => (World.putObj_heap_other (by omega)).trans (h7.block i hi hne)⟩
  case stop =>
    rintro D c pre W _ _ h _
    exact h.elim
end Go.Proofs.YtednoideboeehaaDoor
end
