/-
  Lists that remain: in memory; id, put.
  Contract: a list's expr.
  The deriver's own state: the numbers of the lists found, its row; what leaves it alone.
-/
import Derived.Test.YtednoideboeehaaDoorZ17
import Derived.Test.YtednoideboeehaaDoorZ16
section
set_option linter.unusedSimpArgs false
set_option linter.unusedVariables false
namespace Go.Proofs.YtednoideboeehaaDoor
open Go.RowKit Bs Rg Go.Frame

/-- A list of expressions that remain, its numbers those of a table. -/
def LM (N : Nat) (T : List Nd) (W : World) : List Rx → Value → Prop
  | [] => fun v => v = .pointer none
  | x :: t => fun v => ∃ (p nu : Nat) (k : Int) (s : BS) (l : List Rx) (a : Option Addr) (n c : Nat) (rv : Value), v = .pointer (some ⟨p, 0, none⟩) ∧ x = .mk k s l ∧ W.heap[p]? = some (.cells #[.int .i64 (nu : Int), .int .i64 k, .int .u64 (ws s 0 : Int), .int .u64 (ws s 1 : Int), .int .u64 (ws s 2 : Int), .int .u64 (ws s 3 : Int), .slice a n c, rv] 120 (0, 0)) ∧ Num T (.l x t) nu ∧ Kd (· < N) W a n l ∧ LM N T W t rv
theorem LM.more {N : Nat} {T T' : List Nd} {W : World} (hp : T <+: T') : ∀ {t : List Rx} {v : Value}, LM N T W t v → LM N T' W t v
  | [], v, h => h
  | x :: t, v, h => by
    obtain ⟨p, nu, k, s, l, a, n, c, rv, h1, h2, h3, h4, h5, h6⟩ := h
    exact ⟨p, nu, k, s, l, a, n, c, rv, h1, h2, h3, h4.more hp, h5, LM.more hp h6⟩
theorem LM.keep {N : Nat} {T : List Nd} {W W' : World} (hs : W.heap.size ≤ W'.heap.size) (h1 : ∀ (k : Nat) (c : Array Value), W.heap[k]? = some (.cells c 120 (0, 0)) → W'.heap[k]? = some (.cells c 120 (0, 0))) (h2 : ∀ k, k < N → k < W.heap.size → W'.heap[k]? = W.heap[k]?) : ∀ {t : List Rx} {v : Value}, LM N T W t v → LM N T W' t v
  | [], v, h => h
  | x :: t, v, h => by
    obtain ⟨p, nu, k, s, l, a, n, c, rv, g1, g2, g3, g4, g5, g6⟩ := h
    exact ⟨p, nu, k, s, l, a, n, c, rv, g1, g2, h1 p _ g3, g4, g5.keep hs (fun b hb hl => h2 b hb hl) (fun _ h => h), LM.keep hs h1 h2 g6⟩
theorem LM.below {N : Nat} {T : List Nd} {W W' : World} {t : List Rx} {v : Value} (h : LM N T W t v) (hb : Below W.heap.size W W') : LM N T W' t v :=
  h.keep hb.size (fun k c hk => (hb.block k (heap_lt hk)).trans hk) (fun k _ hl => hb.block k hl)
theorem LM.md {N m : Nat} {T T' : List Nd} {W W' : World} {t : List Rx} {v : Value} (h : LM N T W t v) (hb : Md (· = m) W W') (hT : Tab W m T') (hN : N ≤ m) : LM N T W' t v :=
  h.keep hb.size (fun k c hk => (hb.block k (heap_lt hk) (fun e => by subst e; obtain ⟨es, ck, g⟩ := hT.isMap; rw [g] at hk; cases hk)).trans hk) (fun k hk hl => hb.block k hl (by omega))

theorem LM.ptr {N : Nat} {T : List Nd} {W : World} {t : List Rx} {v : Value} (h : LM N T W t v) : ∃ pa, v = .pointer pa := by
  cases t with
  | nil => exact ⟨none, h⟩
  | cons x t => obtain ⟨p, _, _, _, _, _, _, _, _, h, _⟩ := h; exact ⟨_, h⟩
set_option maxRecDepth 100000 in
set_option maxHeartbeats 4000000 in
theorem id_any {N : Nat} {T : List Nd} {W : World} {t : List Rx} {v : Value} (h : LM N T W t v) : ∃ nt, NumL T t nt ∧ Calls Tryd.prog 89 #[v] W fun e w' => e = .returned (.int .i64 (nt : Int)) ∧ w' = W := by
  cases t with
  | nil =>
    obtain rfl : v = .pointer none := h
    refine ⟨0, rfl, ?_⟩
    go_enter Tryd.func89, Tryd.ntmps89
    go_wp2_with fail
    go_ret
    exact ⟨rfl, rfl⟩
  | cons x t =>
    obtain ⟨p, nu, k, s, l, a, n, c, rv, rfl, _, h3, h4, _⟩ := h
    refine ⟨nu, h4, ?_⟩
    have c0 : W.cell? ⟨p, 0, none⟩ = some (.int .i64 (nu : Int)) := by simp [World.cell?, h3]
    clear h3
    go_enter Tryd.func89, Tryd.ntmps89
    go_wp2_with fail
    go_ret
    exact ⟨rfl, rfl⟩
/-- The deriver in memory: its byte, its maps, what it has collected. -/
def DB (W : World) (D m f : Nat) (bb : Int) (pv : Value) : Prop := W.heap[D]? = some (.cells #[.int .u8 bb, .map (some m), .map (some f), pv] 78 (0, 0))
/-- A list with one more ahead. -/
def PutRes (N : Nat) (W : World) (m : Nat) (T : List Nd) (x : Rx) (t : List Rx) (e : Ending) (w' : World) : Prop := ∃ (T' : List Nd) (v' : Value), e = .returned v' ∧ Tab w' m T' ∧ T <+: T' ∧ LM N T' w' (x :: t) v' ∧ T'.length ≤ T.length + 2 * parts x ∧ Md (· = m) W w'
set_option maxRecDepth 100000 in
set_option maxHeartbeats 8000000 in
theorem put_any {N m D f : Nat} {bb : Int} {pv : Value} (hNm : N ≤ m) {r : Rx} (hv : Vd r) {W : World} {cs : List Value} {T : List Nd} {t : List Rx} {v : Value} (hD : DB W D m f bb pv) (h : RC (· < N) W r cs) (ht : LM N T W t v) (hT : Tab W m T) (hp : parts r ≤ 100000) (hl : T.length + 30000000000 * depth r + 300000 ≤ 1000000000000000000) :
    Calls Tryd.prog 73 #[.pointer (some ⟨D, 0, none⟩), .agg cs.toArray, v] W (PutRes N W m T r t) := by
  obtain ⟨pa, rfl⟩ := ht.ptr
  have hdp := depth_pos r
  have COf := hid (fun (V : World) (cs : List Value) (h : RC (· < N) V r cs) (hT : Tab V m T) => of_any hNm r hv V cs T h hT hp (by omega))
  obtain ⟨k, s, l⟩ := r
  obtain ⟨a, n, c, rfl, hK⟩ := RC_mk.1 h
  obtain ⟨V, hV⟩ : ∃ V, V = W.alloc (.cells #[.int .i64 k, .int .u64 (ws s 0 : Int), .int .u64 (ws s 1 : Int), .int .u64 (ws s 2 : Int), .int .u64 (ws s 3 : Int), .slice a n c] 27) := ⟨_, rfl⟩
  have bV : Below W.heap.size W V := by rw [hV]; exact bel1 _ _
  have x0 : V.heap[W.heap.size]? = some (.cells #[.int .i64 k, .int .u64 (ws s 0 : Int), .int .u64 (ws s 1 : Int), .int .u64 (ws s 2 : Int), .int .u64 (ws s 3 : Int), .slice a n c] 27 (0, 0)) := by rw [hV]; exact alloc_new _ _
  have hDV : DB V D m f bb pv := (bV.block _ (heap_lt hD)).trans hD
  have hDm : D ≠ m := fun e => by
    subst e
    obtain ⟨es, ck, g⟩ := hT.isMap
    unfold DB at hD
    rw [g] at hD; cases hD
  have hWm : W.heap.size ≠ m := by have := hT.lt; omega
  have hmV := (hT.below bV).lt
  obtain ⟨nt, hnt, _⟩ := id_any ht
  have HH := hid (And.intro (hK.below bV) (And.intro (ht.below bV) (And.intro (hT.below bV) (And.intro hDV (And.intro x0 (And.intro bV hnt))))))
  have COf := hid (fun (w' : World) (hw : Md (· = m) V w') (hTw : Tab w' m T) => show Calls Tryd.prog 93 #[.map (some m), .agg #[.int .i64 k, .int .u64 (ws s 0 : Int), .int .u64 (ws s 1 : Int), .int .u64 (ws s 2 : Int), .int .u64 (ws s 3 : Int), .slice a n c]] w' (OfRes w' m T (.mk k s l)) from
    COf.out w' _ (RC_mk.2 ⟨a, n, c, rfl, (hK.below bV).keep hw.size (fun b hb hlt => hw.block b hlt (by have : b < N := hb; omega)) (fun _ h => h)⟩) hTw)
  have hpr := hid (And.intro hp hl)
  clear hD h ht hT hK hp hl bV x0 hDV hnt
  show Calls Tryd.prog 73 #[.pointer (some ⟨D, 0, none⟩), .agg #[.int .i64 k, .int .u64 (ws s 0 : Int), .int .u64 (ws s 1 : Int), .int .u64 (ws s 2 : Int), .int .u64 (ws s 3 : Int), .slice a n c], .pointer pa] W _
  go_enter Tryd.func73, Tryd.ntmps73
  go_wp2_with fail
  rw [← hV]
  clear hV
  refine region_inv (fun b a' w' => ∃ (v6 v7 v8 v9 v10 v11 v12 v13 v14 v15 v16 v17 v18 v19 v20 v21 v22 v23 : Value) (Tc : List Nd) (n1 n2 kb : Nat), a' = { tmps := #[.pointer (some ⟨D, 0, none⟩), .agg #[.int .i64 k, .int .u64 (ws s 0 : Int), .int .u64 (ws s 1 : Int), .int .u64 (ws s 2 : Int), .int .u64 (ws s 3 : Int), .slice a n c], .pointer pa, undef, .pointer (some ⟨W.heap.size, 0, none⟩), undef, v6, v7, v8, v9, v10, v11, v12, v13, v14, v15, v16, v17, v18, v19, v20, v21, v22, v23], defers := [] } ∧ (b 0 = true → v7 = .pointer (some ⟨D, 0, none⟩)) ∧ (b 1 = true → v8 = .pointer (some ⟨D, 0, none⟩)) ∧ (b 2 = true → v9 = .pointer (some ⟨D, 1, none⟩)) ∧ (b 3 = true → v10 = .map (some m)) ∧ (b 4 = true → v11 = .pointer (some ⟨D, 0, none⟩)) ∧ (b 5 = true → v12 = .pointer (some ⟨D, 0, none⟩)) ∧ (b 6 = true → v13 = .pointer (some ⟨D, 1, none⟩)) ∧ (b 7 = true → v14 = .map (some m)) ∧ (b 8 = true → v15 = .agg #[.int .i64 k, .int .u64 (ws s 0 : Int), .int .u64 (ws s 1 : Int), .int .u64 (ws s 2 : Int), .int .u64 (ws s 3 : Int), .slice a n c]) ∧ (b 9 = true → v16 = .int .i64 (n1 : Int) ∧ Num Tc (.e (.mk k s l)) n1) ∧ (b 10 = true → v17 = .pointer pa) ∧ (b 11 = true → v18 = .int .i64 (nt : Int)) ∧ (b 12 = true → v19 = .int .i64 (n2 : Int) ∧ Num Tc (.l (.mk k s l) t) n2 ∧ b 9 = true) ∧ (b 13 = true → v20 = .agg #[.int .i64 k, .int .u64 (ws s 0 : Int), .int .u64 (ws s 1 : Int), .int .u64 (ws s 2 : Int), .int .u64 (ws s 3 : Int), .slice a n c]) ∧ (b 14 = true → v21 = .pointer pa) ∧ (b 15 = true → v22 = .agg #[.int .i64 (n2 : Int), .int .i64 k, .int .u64 (ws s 0 : Int), .int .u64 (ws s 1 : Int), .int .u64 (ws s 2 : Int), .int .u64 (ws s 3 : Int), .slice a n c, .pointer pa] ∧ b 12 = true) ∧ (b 16 = true → v23 = .pointer (some ⟨kb, 0, none⟩) ∧ w'.heap[kb]? = some (.cells #[.int .i64 (n2 : Int), .int .i64 k, .int .u64 (ws s 0 : Int), .int .u64 (ws s 1 : Int), .int .u64 (ws s 2 : Int), .int .u64 (ws s 3 : Int), .slice a n c, .pointer pa] 120 (0, 0)) ∧ kb ≠ m ∧ b 12 = true) ∧ (b 17 = true → v6 = .pointer (some ⟨kb, 0, none⟩) ∧ b 16 = true) ∧ Tab w' m Tc ∧ T <+: Tc ∧ (b 9 = false → Tc = T) ∧ (b 12 = false → Tc.length + 1 ≤ T.length + 2 * parts (.mk k s l)) ∧ Tc.length ≤ T.length + 2 * parts (.mk k s l) ∧ Md (· = m) V w') (by kernel_rfl) (back_of (by kernel_rfl)) ?step ?done ?init
  case step =>
    rintro b a' w' i o ho ⟨v6, v7, v8, v9, v10, v11, v12, v13, v14, v15, v16, v17, v18, v19, v20, v21, v22, v23, Tc, n1, n2, kb, rfl, h0, h1, h2, h3, h4, h5, h6, h7, h8, h9, h10, h11, h12, h13, h14, h15, h16, h17, g1, g2, g3, g4, g5, g6⟩ hbi hd K hK
    have hlt : i < 18 := by have := (Array.getElem?_eq_some_iff.1 ho).1; simpa using this
    have dep : ∀ k, (o.after.any fun e => Region.binds .any e && e.on == k) = true → b k = true := fun k hk => by
      obtain ⟨e, he, h⟩ := Array.any_eq_true'.1 hk
      simp only [Bool.and_eq_true, beq_iff_eq] at h
      rw [← h.2]; exact hd e he h.1
    clear hd
    have hi : i = 0 ∨ i = 1 ∨ i = 2 ∨ i = 3 ∨ i = 4 ∨ i = 5 ∨ i = 6 ∨ i = 7 ∨ i = 8 ∨ i = 9 ∨ i = 10 ∨ i = 11 ∨ i = 12 ∨ i = 13 ∨ i = 14 ∨ i = 15 ∨ i = 16 ∨ i = 17 := by omega
    clear hlt
    rcases hi with rfl | rfl | rfl | rfl | rfl | rfl | rfl | rfl | rfl | rfl | rfl | rfl | rfl | rfl | rfl | rfl | rfl | rfl
    · simp only [List.getElem?_toArray, List.getElem?_cons_zero, List.getElem?_cons_succ, Option.some.injEq] at ho
      subst ho
      go_simp
      refine hK.out _ _ ⟨_, _, _, _, _, _, _, _, _, _, _, _, _, _, _, _, _, _, _, _, _, _, rfl, fun _ => rfl, fun h => h1 (by simpa using h), fun h => h2 (by simpa using h), fun h => h3 (by simpa using h), fun h => h4 (by simpa using h), fun h => h5 (by simpa using h), fun h => h6 (by simpa using h), fun h => h7 (by simpa using h), fun h => h8 (by simpa using h), fun h => h9 (by simpa using h), fun h => h10 (by simpa using h), fun h => h11 (by simpa using h), fun h => ⟨(h12 (by simpa using h)).1, (h12 (by simpa using h)).2.1, by simp [(h12 (by simpa using h)).2.2]⟩, fun h => h13 (by simpa using h), fun h => h14 (by simpa using h), fun h => ⟨(h15 (by simpa using h)).1, by simp [(h15 (by simpa using h)).2]⟩, fun h => ⟨(h16 (by simpa using h)).1, (h16 (by simpa using h)).2.1, (h16 (by simpa using h)).2.2.1, by simp [(h16 (by simpa using h)).2.2.2]⟩, fun h => ⟨(h17 (by simpa using h)).1, by simp [(h17 (by simpa using h)).2]⟩, g1, g2, fun h => g3 (by simpa using h), fun h => g4 (by simpa using h), g5, g6⟩
    · simp only [List.getElem?_toArray, List.getElem?_cons_zero, List.getElem?_cons_succ, Option.some.injEq] at ho
      subst ho
      obtain rfl := h0 (dep 0 (by kernel_rfl))
      go_simp
      refine hK.out _ _ ⟨_, _, _, _, _, _, _, _, _, _, _, _, _, _, _, _, _, _, _, _, _, _, rfl, fun h => h0 (by simpa using h), fun _ => rfl, fun h => h2 (by simpa using h), fun h => h3 (by simpa using h), fun h => h4 (by simpa using h), fun h => h5 (by simpa using h), fun h => h6 (by simpa using h), fun h => h7 (by simpa using h), fun h => h8 (by simpa using h), fun h => h9 (by simpa using h), fun h => h10 (by simpa using h), fun h => h11 (by simpa using h), fun h => ⟨(h12 (by simpa using h)).1, (h12 (by simpa using h)).2.1, by simp [(h12 (by simpa using h)).2.2]⟩, fun h => h13 (by simpa using h), fun h => h14 (by simpa using h), fun h => ⟨(h15 (by simpa using h)).1, by simp [(h15 (by simpa using h)).2]⟩, fun h => ⟨(h16 (by simpa using h)).1, (h16 (by simpa using h)).2.1, (h16 (by simpa using h)).2.2.1, by simp [(h16 (by simpa using h)).2.2.2]⟩, fun h => ⟨(h17 (by simpa using h)).1, by simp [(h17 (by simpa using h)).2]⟩, g1, g2, fun h => g3 (by simpa using h), fun h => g4 (by simpa using h), g5, g6⟩
    · simp only [List.getElem?_toArray, List.getElem?_cons_zero, List.getElem?_cons_succ, Option.some.injEq] at ho
      subst ho
      obtain rfl := h1 (dep 1 (by kernel_rfl))
      go_simp
      refine hK.out _ _ ⟨_, _, _, _, _, _, _, _, _, _, _, _, _, _, _, _, _, _, _, _, _, _, rfl, fun h => h0 (by simpa using h), fun h => h1 (by simpa using h), fun _ => rfl, fun h => h3 (by simpa using h), fun h => h4 (by simpa using h), fun h => h5 (by simpa using h), fun h => h6 (by simpa using h), fun h => h7 (by simpa using h), fun h => h8 (by simpa using h), fun h => h9 (by simpa using h), fun h => h10 (by simpa using h), fun h => h11 (by simpa using h), fun h => ⟨(h12 (by simpa using h)).1, (h12 (by simpa using h)).2.1, by simp [(h12 (by simpa using h)).2.2]⟩, fun h => h13 (by simpa using h), fun h => h14 (by simpa using h), fun h => ⟨(h15 (by simpa using h)).1, by simp [(h15 (by simpa using h)).2]⟩, fun h => ⟨(h16 (by simpa using h)).1, (h16 (by simpa using h)).2.1, (h16 (by simpa using h)).2.2.1, by simp [(h16 (by simpa using h)).2.2.2]⟩, fun h => ⟨(h17 (by simpa using h)).1, by simp [(h17 (by simpa using h)).2]⟩, g1, g2, fun h => g3 (by simpa using h), fun h => g4 (by simpa using h), g5, g6⟩
    · simp only [List.getElem?_toArray, List.getElem?_cons_zero, List.getElem?_cons_succ, Option.some.injEq] at ho
      subst ho
      obtain rfl := h2 (dep 2 (by kernel_rfl))
      have zD := (g6.block D (heap_lt HH.out.2.2.2.1) hDm).trans HH.out.2.2.2.1
      obtain ⟨c0, c1, c2, c3⟩ := cells4 zD
      go_simp
      refine hK.out _ _ ⟨_, _, _, _, _, _, _, _, _, _, _, _, _, _, _, _, _, _, _, _, _, _, rfl, fun h => h0 (by simpa using h), fun h => h1 (by simpa using h), fun h => h2 (by simpa using h), fun _ => rfl, fun h => h4 (by simpa using h), fun h => h5 (by simpa using h), fun h => h6 (by simpa using h), fun h => h7 (by simpa using h), fun h => h8 (by simpa using h), fun h => h9 (by simpa using h), fun h => h10 (by simpa using h), fun h => h11 (by simpa using h), fun h => ⟨(h12 (by simpa using h)).1, (h12 (by simpa using h)).2.1, by simp [(h12 (by simpa using h)).2.2]⟩, fun h => h13 (by simpa using h), fun h => h14 (by simpa using h), fun h => ⟨(h15 (by simpa using h)).1, by simp [(h15 (by simpa using h)).2]⟩, fun h => ⟨(h16 (by simpa using h)).1, (h16 (by simpa using h)).2.1, (h16 (by simpa using h)).2.2.1, by simp [(h16 (by simpa using h)).2.2.2]⟩, fun h => ⟨(h17 (by simpa using h)).1, by simp [(h17 (by simpa using h)).2]⟩, g1, g2, fun h => g3 (by simpa using h), fun h => g4 (by simpa using h), g5, g6⟩
    · simp only [List.getElem?_toArray, List.getElem?_cons_zero, List.getElem?_cons_succ, Option.some.injEq] at ho
      subst ho
      go_simp
      refine hK.out _ _ ⟨_, _, _, _, _, _, _, _, _, _, _, _, _, _, _, _, _, _, _, _, _, _, rfl, fun h => h0 (by simpa using h), fun h => h1 (by simpa using h), fun h => h2 (by simpa using h), fun h => h3 (by simpa using h), fun _ => rfl, fun h => h5 (by simpa using h), fun h => h6 (by simpa using h), fun h => h7 (by simpa using h), fun h => h8 (by simpa using h), fun h => h9 (by simpa using h), fun h => h10 (by simpa using h), fun h => h11 (by simpa using h), fun h => ⟨(h12 (by simpa using h)).1, (h12 (by simpa using h)).2.1, by simp [(h12 (by simpa using h)).2.2]⟩, fun h => h13 (by simpa using h), fun h => h14 (by simpa using h), fun h => ⟨(h15 (by simpa using h)).1, by simp [(h15 (by simpa using h)).2]⟩, fun h => ⟨(h16 (by simpa using h)).1, (h16 (by simpa using h)).2.1, (h16 (by simpa using h)).2.2.1, by simp [(h16 (by simpa using h)).2.2.2]⟩, fun h => ⟨(h17 (by simpa using h)).1, by simp [(h17 (by simpa using h)).2]⟩, g1, g2, fun h => g3 (by simpa using h), fun h => g4 (by simpa using h), g5, g6⟩
    · simp only [List.getElem?_toArray, List.getElem?_cons_zero, List.getElem?_cons_succ, Option.some.injEq] at ho
      subst ho
      obtain rfl := h4 (dep 4 (by kernel_rfl))
      go_simp
      refine hK.out _ _ ⟨_, _, _, _, _, _, _, _, _, _, _, _, _, _, _, _, _, _, _, _, _, _, rfl, fun h => h0 (by simpa using h), fun h => h1 (by simpa using h), fun h => h2 (by simpa using h), fun h => h3 (by simpa using h), fun h => h4 (by simpa using h), fun _ => rfl, fun h => h6 (by simpa using h), fun h => h7 (by simpa using h), fun h => h8 (by simpa using h), fun h => h9 (by simpa using h), fun h => h10 (by simpa using h), fun h => h11 (by simpa using h), fun h => ⟨(h12 (by simpa using h)).1, (h12 (by simpa using h)).2.1, by simp [(h12 (by simpa using h)).2.2]⟩, fun h => h13 (by simpa using h), fun h => h14 (by simpa using h), fun h => ⟨(h15 (by simpa using h)).1, by simp [(h15 (by simpa using h)).2]⟩, fun h => ⟨(h16 (by simpa using h)).1, (h16 (by simpa using h)).2.1, (h16 (by simpa using h)).2.2.1, by simp [(h16 (by simpa using h)).2.2.2]⟩, fun h => ⟨(h17 (by simpa using h)).1, by simp [(h17 (by simpa using h)).2]⟩, g1, g2, fun h => g3 (by simpa using h), fun h => g4 (by simpa using h), g5, g6⟩
    · simp only [List.getElem?_toArray, List.getElem?_cons_zero, List.getElem?_cons_succ, Option.some.injEq] at ho
      subst ho
      obtain rfl := h5 (dep 5 (by kernel_rfl))
      go_simp
      refine hK.out _ _ ⟨_, _, _, _, _, _, _, _, _, _, _, _, _, _, _, _, _, _, _, _, _, _, rfl, fun h => h0 (by simpa using h), fun h => h1 (by simpa using h), fun h => h2 (by simpa using h), fun h => h3 (by simpa using h), fun h => h4 (by simpa using h), fun h => h5 (by simpa using h), fun _ => rfl, fun h => h7 (by simpa using h), fun h => h8 (by simpa using h), fun h => h9 (by simpa using h), fun h => h10 (by simpa using h), fun h => h11 (by simpa using h), fun h => ⟨(h12 (by simpa using h)).1, (h12 (by simpa using h)).2.1, by simp [(h12 (by simpa using h)).2.2]⟩, fun h => h13 (by simpa using h), fun h => h14 (by simpa using h), fun h => ⟨(h15 (by simpa using h)).1, by simp [(h15 (by simpa using h)).2]⟩, fun h => ⟨(h16 (by simpa using h)).1, (h16 (by simpa using h)).2.1, (h16 (by simpa using h)).2.2.1, by simp [(h16 (by simpa using h)).2.2.2]⟩, fun h => ⟨(h17 (by simpa using h)).1, by simp [(h17 (by simpa using h)).2]⟩, g1, g2, fun h => g3 (by simpa using h), fun h => g4 (by simpa using h), g5, g6⟩
    · simp only [List.getElem?_toArray, List.getElem?_cons_zero, List.getElem?_cons_succ, Option.some.injEq] at ho
      subst ho
      obtain rfl := h6 (dep 6 (by kernel_rfl))
      have zD := (g6.block D (heap_lt HH.out.2.2.2.1) hDm).trans HH.out.2.2.2.1
      obtain ⟨c0, c1, c2, c3⟩ := cells4 zD
      go_simp
      refine hK.out _ _ ⟨_, _, _, _, _, _, _, _, _, _, _, _, _, _, _, _, _, _, _, _, _, _, rfl, fun h => h0 (by simpa using h), fun h => h1 (by simpa using h), fun h => h2 (by simpa using h), fun h => h3 (by simpa using h), fun h => h4 (by simpa using h), fun h => h5 (by simpa using h), fun h => h6 (by simpa using h), fun _ => rfl, fun h => h8 (by simpa using h), fun h => h9 (by simpa using h), fun h => h10 (by simpa using h), fun h => h11 (by simpa using h), fun h => ⟨(h12 (by simpa using h)).1, (h12 (by simpa using h)).2.1, by simp [(h12 (by simpa using h)).2.2]⟩, fun h => h13 (by simpa using h), fun h => h14 (by simpa using h), fun h => ⟨(h15 (by simpa using h)).1, by simp [(h15 (by simpa using h)).2]⟩, fun h => ⟨(h16 (by simpa using h)).1, (h16 (by simpa using h)).2.1, (h16 (by simpa using h)).2.2.1, by simp [(h16 (by simpa using h)).2.2.2]⟩, fun h => ⟨(h17 (by simpa using h)).1, by simp [(h17 (by simpa using h)).2]⟩, g1, g2, fun h => g3 (by simpa using h), fun h => g4 (by simpa using h), g5, g6⟩
    · simp only [List.getElem?_toArray, List.getElem?_cons_zero, List.getElem?_cons_succ, Option.some.injEq] at ho
      subst ho
      have zB := (g6.block _ (heap_lt HH.out.2.2.2.2.1) hWm).trans HH.out.2.2.2.2.1
      obtain ⟨c0, c1, c2, c3, c4, c5⟩ := cells6 zB
      go_simp
      refine hK.out _ _ ⟨_, _, _, _, _, _, _, _, _, _, _, _, _, _, _, _, _, _, _, _, _, _, rfl, fun h => h0 (by simpa using h), fun h => h1 (by simpa using h), fun h => h2 (by simpa using h), fun h => h3 (by simpa using h), fun h => h4 (by simpa using h), fun h => h5 (by simpa using h), fun h => h6 (by simpa using h), fun h => h7 (by simpa using h), fun _ => rfl, fun h => h9 (by simpa using h), fun h => h10 (by simpa using h), fun h => h11 (by simpa using h), fun h => ⟨(h12 (by simpa using h)).1, (h12 (by simpa using h)).2.1, by simp [(h12 (by simpa using h)).2.2]⟩, fun h => h13 (by simpa using h), fun h => h14 (by simpa using h), fun h => ⟨(h15 (by simpa using h)).1, by simp [(h15 (by simpa using h)).2]⟩, fun h => ⟨(h16 (by simpa using h)).1, (h16 (by simpa using h)).2.1, (h16 (by simpa using h)).2.2.1, by simp [(h16 (by simpa using h)).2.2.2]⟩, fun h => ⟨(h17 (by simpa using h)).1, by simp [(h17 (by simpa using h)).2]⟩, g1, g2, fun h => g3 (by simpa using h), fun h => g4 (by simpa using h), g5, g6⟩
    · simp only [List.getElem?_toArray, List.getElem?_cons_zero, List.getElem?_cons_succ, Option.some.injEq] at ho
      subst ho
      obtain rfl := h7 (dep 7 (by kernel_rfl))
      obtain rfl := h8 (dep 8 (by kernel_rfl))
      obtain rfl := g3 hbi
      have hb12 : b 12 = false := by
        cases hb' : b 12
        · rfl
        · have := (h12 hb').2.2; rw [hbi] at this; cases this
      have hb16 : b 16 = false := by
        cases hb' : b 16
        · rfl
        · have := (h16 hb').2.2.2; rw [hb12] at this; cases this
      have hb15 : b 15 = false := by
        cases hb' : b 15
        · rfl
        · have := (h15 hb').2; rw [hb12] at this; cases this
      have hb17 : b 17 = false := by
        cases hb' : b 17
        · rfl
        · have := (h17 hb').2; rw [hb16] at this; cases this
      have CI := hid (COf.out w' g6 g1)
      go_simp
      refine CI.out.mono ?_
      rintro e w5 ⟨Td, nd, rfl, e1, e2, e3, e4, e5⟩
      refine hK.out _ _ ⟨_, _, _, _, _, _, _, _, _, _, _, _, _, _, _, _, _, _, Td, nd, n2, kb, rfl, fun h => h0 (by simpa using h), fun h => h1 (by simpa using h), fun h => h2 (by simpa using h), fun h => h3 (by simpa using h), fun h => h4 (by simpa using h), fun h => h5 (by simpa using h), fun h => h6 (by simpa using h), fun h => h7 (by simpa using h), fun h => h8 (by simpa using h), fun _ => ⟨rfl, e3⟩, fun h => h10 (by simpa using h), fun h => h11 (by simpa using h), fun h => absurd h (by simp [hb12]), fun h => h13 (by simpa using h), fun h => h14 (by simpa using h), fun h => absurd h (by simp [hb15]), fun h => absurd h (by simp [hb16]), fun h => absurd h (by simp [hb17]), e1, e2, fun h => absurd h (by simp), fun _ => e4, by omega, g6.trans e5⟩
    · simp only [List.getElem?_toArray, List.getElem?_cons_zero, List.getElem?_cons_succ, Option.some.injEq] at ho
      subst ho
      go_simp
      refine hK.out _ _ ⟨_, _, _, _, _, _, _, _, _, _, _, _, _, _, _, _, _, _, _, _, _, _, rfl, fun h => h0 (by simpa using h), fun h => h1 (by simpa using h), fun h => h2 (by simpa using h), fun h => h3 (by simpa using h), fun h => h4 (by simpa using h), fun h => h5 (by simpa using h), fun h => h6 (by simpa using h), fun h => h7 (by simpa using h), fun h => h8 (by simpa using h), fun h => h9 (by simpa using h), fun _ => rfl, fun h => h11 (by simpa using h), fun h => ⟨(h12 (by simpa using h)).1, (h12 (by simpa using h)).2.1, by simp [(h12 (by simpa using h)).2.2]⟩, fun h => h13 (by simpa using h), fun h => h14 (by simpa using h), fun h => ⟨(h15 (by simpa using h)).1, by simp [(h15 (by simpa using h)).2]⟩, fun h => ⟨(h16 (by simpa using h)).1, (h16 (by simpa using h)).2.1, (h16 (by simpa using h)).2.2.1, by simp [(h16 (by simpa using h)).2.2.2]⟩, fun h => ⟨(h17 (by simpa using h)).1, by simp [(h17 (by simpa using h)).2]⟩, g1, g2, fun h => g3 (by simpa using h), fun h => g4 (by simpa using h), g5, g6⟩
    · simp only [List.getElem?_toArray, List.getElem?_cons_zero, List.getElem?_cons_succ, Option.some.injEq] at ho
      subst ho
      obtain rfl := h10 (dep 10 (by kernel_rfl))
      have htm : LM N T w' t (.pointer pa) := HH.out.2.1.md g6 HH.out.2.2.1 hNm
      obtain ⟨nt', hnt', CI⟩ := id_any htm
      obtain rfl := NumL.uniq HH.out.2.2.1.once HH.out.2.2.2.2.2.2 hnt'
      have CI := hid CI
      go_simp
      refine CI.out.mono ?_
      rintro e w5 ⟨rfl, rfl⟩
      refine hK.out _ _ ⟨_, _, _, _, _, _, _, _, _, _, _, _, _, _, _, _, _, _, _, _, _, _, rfl, fun h => h0 (by simpa using h), fun h => h1 (by simpa using h), fun h => h2 (by simpa using h), fun h => h3 (by simpa using h), fun h => h4 (by simpa using h), fun h => h5 (by simpa using h), fun h => h6 (by simpa using h), fun h => h7 (by simpa using h), fun h => h8 (by simpa using h), fun h => h9 (by simpa using h), fun h => h10 (by simpa using h), fun _ => rfl, fun h => ⟨(h12 (by simpa using h)).1, (h12 (by simpa using h)).2.1, by simp [(h12 (by simpa using h)).2.2]⟩, fun h => h13 (by simpa using h), fun h => h14 (by simpa using h), fun h => ⟨(h15 (by simpa using h)).1, by simp [(h15 (by simpa using h)).2]⟩, fun h => ⟨(h16 (by simpa using h)).1, (h16 (by simpa using h)).2.1, (h16 (by simpa using h)).2.2.1, by simp [(h16 (by simpa using h)).2.2.2]⟩, fun h => ⟨(h17 (by simpa using h)).1, by simp [(h17 (by simpa using h)).2]⟩, g1, g2, fun h => g3 (by simpa using h), fun h => g4 (by simpa using h), g5, g6⟩
    · simp only [List.getElem?_toArray, List.getElem?_cons_zero, List.getElem?_cons_succ, Option.some.injEq] at ho
      subst ho
      have hb9 := dep 9 (by kernel_rfl)
      obtain rfl := h3 (dep 3 (by kernel_rfl))
      obtain rfl := h11 (dep 11 (by kernel_rfl))
      obtain ⟨rfl, hn1⟩ := h9 hb9
      have hb16 : b 16 = false := by
        cases hb' : b 16
        · rfl
        · have := (h16 hb').2.2.2; rw [hbi] at this; cases this
      have hb15 : b 15 = false := by
        cases hb' : b 15
        · rfl
        · have := (h15 hb').2; rw [hbi] at this; cases this
      have hb17 : b 17 = false := by
        cases hb' : b 17
        · rfl
        · have := (h17 hb').2; rw [hb16] at this; cases this
      have hTl := g4 hbi
      have CL := hid (listed_any g1 hn1 (HH.out.2.2.2.2.2.2.more g2) (by have := hpr.out; omega))
      go_simp
      refine CL.out.mono ?_
      rintro e w5 ⟨Td, nd, rfl, e1, e2, e3, e4, e5⟩
      refine hK.out _ _ ⟨_, _, _, _, _, _, _, _, _, _, _, _, _, _, _, _, _, _, Td, n1, nd, kb, rfl, fun h => h0 (by simpa using h), fun h => h1 (by simpa using h), fun h => h2 (by simpa using h), fun _ => rfl, fun h => h4 (by simpa using h), fun h => h5 (by simpa using h), fun h => h6 (by simpa using h), fun h => h7 (by simpa using h), fun h => h8 (by simpa using h), fun _ => ⟨rfl, hn1.more e2⟩, fun h => h10 (by simpa using h), fun _ => rfl, fun _ => ⟨rfl, e3, by simp [hb9]⟩, fun h => h13 (by simpa using h), fun h => h14 (by simpa using h), fun h => absurd h (by simp [hb15]), fun h => absurd h (by simp [hb16]), fun h => absurd h (by simp [hb17]), e1, g2.trans e2, fun h => absurd h (by simp [hb9]), fun h => absurd h (by simp), by omega, g6.trans e5⟩
    · simp only [List.getElem?_toArray, List.getElem?_cons_zero, List.getElem?_cons_succ, Option.some.injEq] at ho
      subst ho
      have zB := (g6.block _ (heap_lt HH.out.2.2.2.2.1) hWm).trans HH.out.2.2.2.2.1
      obtain ⟨c0, c1, c2, c3, c4, c5⟩ := cells6 zB
      go_simp
      refine hK.out _ _ ⟨_, _, _, _, _, _, _, _, _, _, _, _, _, _, _, _, _, _, _, _, _, _, rfl, fun h => h0 (by simpa using h), fun h => h1 (by simpa using h), fun h => h2 (by simpa using h), fun h => h3 (by simpa using h), fun h => h4 (by simpa using h), fun h => h5 (by simpa using h), fun h => h6 (by simpa using h), fun h => h7 (by simpa using h), fun h => h8 (by simpa using h), fun h => h9 (by simpa using h), fun h => h10 (by simpa using h), fun h => h11 (by simpa using h), fun h => ⟨(h12 (by simpa using h)).1, (h12 (by simpa using h)).2.1, by simp [(h12 (by simpa using h)).2.2]⟩, fun _ => rfl, fun h => h14 (by simpa using h), fun h => ⟨(h15 (by simpa using h)).1, by simp [(h15 (by simpa using h)).2]⟩, fun h => ⟨(h16 (by simpa using h)).1, (h16 (by simpa using h)).2.1, (h16 (by simpa using h)).2.2.1, by simp [(h16 (by simpa using h)).2.2.2]⟩, fun h => ⟨(h17 (by simpa using h)).1, by simp [(h17 (by simpa using h)).2]⟩, g1, g2, fun h => g3 (by simpa using h), fun h => g4 (by simpa using h), g5, g6⟩
    · simp only [List.getElem?_toArray, List.getElem?_cons_zero, List.getElem?_cons_succ, Option.some.injEq] at ho
      subst ho
      go_simp
      refine hK.out _ _ ⟨_, _, _, _, _, _, _, _, _, _, _, _, _, _, _, _, _, _, _, _, _, _, rfl, fun h => h0 (by simpa using h), fun h => h1 (by simpa using h), fun h => h2 (by simpa using h), fun h => h3 (by simpa using h), fun h => h4 (by simpa using h), fun h => h5 (by simpa using h), fun h => h6 (by simpa using h), fun h => h7 (by simpa using h), fun h => h8 (by simpa using h), fun h => h9 (by simpa using h), fun h => h10 (by simpa using h), fun h => h11 (by simpa using h), fun h => ⟨(h12 (by simpa using h)).1, (h12 (by simpa using h)).2.1, by simp [(h12 (by simpa using h)).2.2]⟩, fun h => h13 (by simpa using h), fun _ => rfl, fun h => ⟨(h15 (by simpa using h)).1, by simp [(h15 (by simpa using h)).2]⟩, fun h => ⟨(h16 (by simpa using h)).1, (h16 (by simpa using h)).2.1, (h16 (by simpa using h)).2.2.1, by simp [(h16 (by simpa using h)).2.2.2]⟩, fun h => ⟨(h17 (by simpa using h)).1, by simp [(h17 (by simpa using h)).2]⟩, g1, g2, fun h => g3 (by simpa using h), fun h => g4 (by simpa using h), g5, g6⟩
    · simp only [List.getElem?_toArray, List.getElem?_cons_zero, List.getElem?_cons_succ, Option.some.injEq] at ho
      subst ho
      have hb12 := dep 12 (by kernel_rfl)
      obtain rfl := h13 (dep 13 (by kernel_rfl))
      obtain rfl := h14 (dep 14 (by kernel_rfl))
      obtain ⟨rfl, hn2, hb9⟩ := h12 hb12
      obtain ⟨rfl, hn1⟩ := h9 hb9
      go_simp
      refine hK.out _ _ ⟨_, _, _, _, _, _, _, _, _, _, _, _, _, _, _, _, _, _, Tc, n1, n2, kb, rfl, fun h => h0 (by simpa using h), fun h => h1 (by simpa using h), fun h => h2 (by simpa using h), fun h => h3 (by simpa using h), fun h => h4 (by simpa using h), fun h => h5 (by simpa using h), fun h => h6 (by simpa using h), fun h => h7 (by simpa using h), fun h => h8 (by simpa using h), fun _ => ⟨rfl, hn1⟩, fun h => h10 (by simpa using h), fun h => h11 (by simpa using h), fun _ => ⟨rfl, hn2, by simp [hb9]⟩, fun _ => rfl, fun _ => rfl, fun _ => ⟨rfl, by simp [hb12]⟩, fun h => ⟨(h16 (by simpa using h)).1, (h16 (by simpa using h)).2.1, (h16 (by simpa using h)).2.2.1, by simp [(h16 (by simpa using h)).2.2.2]⟩, fun h => ⟨(h17 (by simpa using h)).1, by simp [(h17 (by simpa using h)).2]⟩, g1, g2, fun h => g3 (by simpa using h), fun h => g4 (by simpa using h), g5, g6⟩
    · simp only [List.getElem?_toArray, List.getElem?_cons_zero, List.getElem?_cons_succ, Option.some.injEq] at ho
      subst ho
      have hb15 := dep 15 (by kernel_rfl)
      obtain ⟨rfl, hb12⟩ := h15 hb15
      obtain ⟨rfl, hn2, hb9⟩ := h12 hb12
      obtain ⟨rfl, hn1⟩ := h9 hb9
      have hb17 : b 17 = false := by
        cases hb' : b 17
        · rfl
        · have := (h17 hb').2; rw [hbi] at this; cases this
      have B5 := bel1 w' (.cells #[.int .i64 (n2 : Int), .int .i64 k, .int .u64 (ws s 0 : Int), .int .u64 (ws s 1 : Int), .int .u64 (ws s 2 : Int), .int .u64 (ws s 3 : Int), .slice a n c, .pointer pa] 120)
      have hmw := g1.lt
      go_simp
      refine hK.out _ _ ⟨_, _, _, _, _, _, _, _, _, _, _, _, _, _, _, _, _, _, Tc, n1, n2, w'.heap.size, rfl, fun h => h0 (by simpa using h), fun h => h1 (by simpa using h), fun h => h2 (by simpa using h), fun h => h3 (by simpa using h), fun h => h4 (by simpa using h), fun h => h5 (by simpa using h), fun h => h6 (by simpa using h), fun h => h7 (by simpa using h), fun h => h8 (by simpa using h), fun _ => ⟨rfl, hn1⟩, fun h => h10 (by simpa using h), fun h => h11 (by simpa using h), fun _ => ⟨rfl, hn2, by simp [hb9]⟩, fun h => h13 (by simpa using h), fun h => h14 (by simpa using h), fun _ => ⟨rfl, by simp [hb12]⟩, fun _ => ⟨rfl, alloc_new _ _, by omega, by simp [hb12]⟩, fun h => absurd h (by simp [hb17]), g1.below B5, g2, fun h => g3 (by simpa using h), fun h => g4 (by simpa using h), g5, g6.trans (Md.below B5)⟩
    · simp only [List.getElem?_toArray, List.getElem?_cons_zero, List.getElem?_cons_succ, Option.some.injEq] at ho
      subst ho
      have hb16 := dep 16 (by kernel_rfl)
      obtain ⟨rfl, q2, q3, q4⟩ := h16 hb16
      obtain ⟨rfl, hn2, hb9⟩ := h12 q4
      obtain ⟨rfl, hn1⟩ := h9 hb9
      go_simp
      refine hK.out _ _ ⟨_, _, _, _, _, _, _, _, _, _, _, _, _, _, _, _, _, _, Tc, n1, n2, kb, rfl, fun h => h0 (by simpa using h), fun h => h1 (by simpa using h), fun h => h2 (by simpa using h), fun h => h3 (by simpa using h), fun h => h4 (by simpa using h), fun h => h5 (by simpa using h), fun h => h6 (by simpa using h), fun h => h7 (by simpa using h), fun h => h8 (by simpa using h), fun _ => ⟨rfl, hn1⟩, fun h => h10 (by simpa using h), fun h => h11 (by simpa using h), fun _ => ⟨rfl, hn2, by simp [hb9]⟩, fun h => h13 (by simpa using h), fun h => h14 (by simpa using h), fun h => ⟨(h15 (by simpa using h)).1, by simp [(h15 (by simpa using h)).2]⟩, fun _ => ⟨rfl, q2, q3, by simp [q4]⟩, fun _ => ⟨rfl, by simp [hb16]⟩, g1, g2, fun h => g3 (by simpa using h), fun h => g4 (by simpa using h), g5, g6⟩
  case done =>
    rintro b a' w' ⟨v6, v7, v8, v9, v10, v11, v12, v13, v14, v15, v16, v17, v18, v19, v20, v21, v22, v23, Tc, n1, n2, kb, rfl, h0, h1, h2, h3, h4, h5, h6, h7, h8, h9, h10, h11, h12, h13, h14, h15, h16, h17, g1, g2, g3, g4, g5, g6⟩ hall
    obtain ⟨rfl, _⟩ := h17 (hall 17)
    obtain ⟨_, q2, _⟩ := h16 (hall 16)
    obtain ⟨_, hn2, _⟩ := h12 (hall 12)
    have HE := hid (show PutRes N W m T (.mk k s l) t (.returned (.pointer (some ⟨kb, 0, none⟩))) w' from ⟨Tc, _, rfl, g1, g2, ⟨kb, n2, k, s, l, a, n, c, .pointer pa, rfl, rfl, q2, hn2, HH.out.1.keep g6.size (fun b hb hlt => g6.block b hlt (by have : b < N := hb; omega)) (fun _ h => h), (HH.out.2.1.md g6 HH.out.2.2.1 hNm).more g2⟩, g5, (Md.below HH.out.2.2.2.2.2.1).trans g6⟩)
    clear h0 h1 h2 h3 h4 h5 h6 h7 h8 h9 h10 h11 h12 h13 h14 h15 h16 h17 g1 g2 g3 g4 g5 g6 hall q2 hn2
    go_wp2
    go_ret
    exact HE.out
  case init =>
    exact ⟨_, _, _, _, _, _, _, _, _, _, _, _, _, _, _, _, _, _, T, 0, 0, 0, rfl, fun h => absurd h (by simp), fun h => absurd h (by simp), fun h => absurd h (by simp), fun h => absurd h (by simp), fun h => absurd h (by simp), fun h => absurd h (by simp), fun h => absurd h (by simp), fun h => absurd h (by simp), fun h => absurd h (by simp), fun h => absurd h (by simp), fun h => absurd h (by simp), fun h => absurd h (by simp), fun h => absurd h (by simp), fun h => absurd h (by simp), fun h => absurd h (by simp), fun h => absurd h (by simp), fun h => absurd h (by simp), fun h => absurd h (by simp), HH.out.2.2.1.keep rfl, List.prefix_rfl, fun _ => rfl, fun _ => by have := parts_pos (.mk k s l); omega, by omega, Md.drew (Md.refl _ _)⟩
end Go.Proofs.YtednoideboeehaaDoor
end
section
set_option linter.unusedSimpArgs false
set_option linter.unusedVariables false
namespace Go.Proofs.YtednoideboeehaaDoor
open Go.RowKit Bs Rg Go.Frame

theorem ecells8 {W : World} {b : Nat} {x0 x1 x2 x3 x4 x5 x6 x7 : Value} {t : TypeId} (h : W.heap[b]? = some (.cells #[x0, x1, x2, x3, x4, x5, x6, x7] t (0, 0))) : W.cell? ⟨b, 0, none⟩ = some x0 ∧ W.cell? ⟨b, 1, none⟩ = some x1 ∧ W.cell? ⟨b, 2, none⟩ = some x2 ∧ W.cell? ⟨b, 3, none⟩ = some x3 ∧ W.cell? ⟨b, 4, none⟩ = some x4 ∧ W.cell? ⟨b, 5, none⟩ = some x5 ∧ W.cell? ⟨b, 6, none⟩ = some x6 ∧ W.cell? ⟨b, 7, none⟩ = some x7 := by
  refine ⟨?_, ?_, ?_, ?_, ?_, ?_, ?_, ?_⟩ <;> simp [World.cell?, h]
theorem rcs_arr (k : Int) (s : BS) (v : Value) : (rcs k s v).toArray = #[.int .i64 k, .int .u64 (ws s 0 : Int), .int .u64 (ws s 1 : Int), .int .u64 (ws s 2 : Int), .int .u64 (ws s 3 : Int), v] := rfl
set_option maxRecDepth 100000 in
set_option maxHeartbeats 4000000 in
theorem lexpr_any {N : Nat} {T : List Nd} {w : World} {t : List Rx} {v : Value} (h : LM N T w t v) (hp : ∀ x ∈ t, parts x ≤ 1000000) (hl : t.length ≤ 1000000000000) :
    Calls Tryd.prog 90 #[v] w fun e w' => (∃ cs : List Value, e = .returned (.agg cs.toArray) ∧ RC (ge w.heap.size) w' (ex t) cs) ∧ Below w.heap.size w w' := by
  obtain ⟨i0, hi, hz0, hz1, hz2⟩ := info_parts Tryd.info27
  obtain ⟨W, hW⟩ : ∃ W, W = w.alloc (.cells #[.int .i64 0, .int .u64 0, .int .u64 0, .int .u64 0, .int .u64 0, .slice none 0 0] 27) := ⟨_, rfl⟩
  have bW : Below w.heap.size w W := by rw [hW]; exact bel1 _ _
  have x0 : W.heap[w.heap.size]? = some (.cells #[.int .i64 0, .int .u64 0, .int .u64 0, .int .u64 0, .int .u64 0, .slice none 0 0] 27 (0, 0)) := by rw [hW]; exact alloc_new _ _
  have hs : W.heap.size = w.heap.size + 1 := by rw [hW]; simp
  have HH := hid (And.intro h (And.intro x0 (And.intro bW hs)))
  have HP := hid (And.intro hp hl)
  clear h hp hl bW x0 hs
  go_enter Tryd.func90, Tryd.ntmps90
  go_wp2_with fail
  rw [← hW]
  clear hW
  go_wp2_with fail
  go_loopg [0, 3] t.length (fun k1 s0 s3 wr => ∃ (t1 t2 : List Rx), t = t1 ++ t2 ∧ t2.length = k1 ∧ LM N T w t2 s0 ∧ OX (w.heap.size + 1) wr s3 t1 ∧ wr.heap[w.heap.size]? = some (.cells #[.int .i64 0, .int .u64 0, .int .u64 0, .int .u64 0, .int .u64 0, .slice none 0 0] 27 (0, 0)) ∧ Below w.heap.size w wr)
  case atStart => exact ⟨[], t, rfl, rfl, HH.out.1, OX.nil _ _, HH.out.2.1, HH.out.2.2.1⟩
  case round =>
    obtain ⟨t1, t2, rfl, hk, hL, hO, hz, hb⟩ := hrel
    cases t2 with
    | nil =>
      have hL' : _ = Value.pointer none := hL
      subst hL'
      simp only [List.append_nil] at HP ⊢
      obtain ⟨a2, c2, rfl, hKd⟩ := hO.kd (by have := HP.out.2; omega)
      have CJ := hid (join_any _ 4 2 t1 a2 t1.length c2 wr hKd)
      have HX := hid (And.intro hz hb)
      have hwl := heap_lt hz
      clear hL hO hz hb hKd
      go_wp2_with fail
      refine CJ.out.mono ?_
      rintro e w1 ⟨⟨cs, rfl, hcs⟩, b1⟩
      rw [jw_ex] at hcs
      obtain ⟨k', s', l', hxe⟩ : ∃ k' s' l', ex t1 = .mk k' s' l' := by
        cases ex t1 with
        | mk a b c => exact ⟨a, b, c, rfl⟩
      rw [hxe] at hcs
      obtain ⟨a', n', c', rfl, _⟩ := RC_mk.1 hcs
      have hz1 := (b1.block _ hwl).trans HX.out.1
      have hb1 := HX.out.2.trans (b1.mono HX.out.2.size)
      have f0 := free hz1 0
      have f1 := free hz1 1
      have f2 := free hz1 2
      have f3 := free hz1 3
      have f4 := free hz1 4
      have f5 := free hz1 5
      obtain ⟨e0, e1, e2, e3, e4, e5⟩ := cells6 hz1
      have HZ := hid (And.intro hz1 (And.intro hb1 (And.intro hcs hxe)))
      clear hz1 hb1 hcs hxe b1
      rw [rcs_arr]
      go_wp2_with fail
      obtain ⟨w6, hw6⟩ : ∃ w6, w6 = ((((((w1.setCell ⟨w.heap.size, 0, none⟩ (.int .i64 k')).setCell ⟨w.heap.size, 1, none⟩ (.int .u64 (ws s' 0 : Int))).setCell ⟨w.heap.size, 2, none⟩ (.int .u64 (ws s' 1 : Int))).setCell ⟨w.heap.size, 3, none⟩ (.int .u64 (ws s' 2 : Int))).setCell ⟨w.heap.size, 4, none⟩ (.int .u64 (ws s' 3 : Int))).setCell ⟨w.heap.size, 5, none⟩ (.slice a' n' c')) := ⟨_, rfl⟩
      rw [← hw6]
      obtain ⟨p1, _, p4, _, p6, p7⟩ := put6 HZ.out.1 (o := 0) (by simp) _ _ _ _ _ _ w6 hw6
      have g0 := p6 0 _ rfl
      have g1 := p6 1 _ rfl
      have g2 := p6 2 _ rfl
      have g3 := p6 3 _ rfl
      have g4 := p6 4 _ rfl
      have g5 := p6 5 _ rfl
      simp only [Nat.zero_add] at g0 g1 g2 g3 g4 g5
      refine bodyPost_ret (v := .agg #[.int .i64 k', .int .u64 (ws s' 0 : Int), .int .u64 (ws s' 1 : Int), .int .u64 (ws s' 2 : Int), .int .u64 (ws s' 3 : Int), .slice a' n' c']) ?_ rfl ⟨⟨rcs k' s' (.slice a' n' c'), rfl, ?_⟩, p7 _ _ HZ.out.2.1 (Nat.le_refl _)⟩
      · simp [results, Tryd.results90, go_sem, g0, g1, g2, g3, g4, g5]
      · rw [List.append_nil, HZ.out.2.2.2]
        exact RC.keep (by rw [p1]; exact Nat.le_refl _) (fun b hb _ => p4 b (by have : w.heap.size + 1 ≤ b := hb; omega)) (fun b hb => by have : w.heap.size + 1 ≤ b := hb; show w.heap.size ≤ b; omega) _ HZ.out.2.2.1
    | cons x t2 =>
      obtain ⟨p, nu, k, s, l, a, n, c, rv, rfl, rfl, hx, hnu, hK, hL'⟩ := hL
      have hpw := hid (And.intro (heap_lt hx) (ecells8 hx).2.2.2.2.2.2.2)
      have hK := hK.below hb
      have hx := (hb.block _ (heap_lt hx)).trans hx
      obtain ⟨c0, c1, c2, c3, c4, c5, c6, c7⟩ := ecells8 hx
      have CC := hid (clone_any _ (.mk k s l) wr (rcs k s (.slice a n c)) (HP.out.1 _ (by simp)) (RC_mk.2 ⟨a, n, c, rfl, hK⟩))
      have hln : t1.length + 1 ≤ 1000000000000 := by have := HP.out.2; simp at this; omega
      have HR := hid (And.intro hL' (And.intro hO (And.intro hz (And.intro hb (And.intro hx (And.intro hln hk))))))
      have hwl := heap_lt hz
      have hpl := heap_lt hx
      clear hL' hO hz hb hx hK hnu hln hk
      go_wp2_with fail
      refine CC.out.mono ?_
      rintro e w1 ⟨⟨cs, rfl, hcs⟩, b1⟩
      obtain ⟨a', n', c', rfl, hKd'⟩ := RC_mk.1 hcs
      have hown := fun b hb => (HR.out.2.1.own b hb).2
      obtain ⟨vs, ho, hall⟩ := HR.out.2.1.bel b1
      obtain ⟨aa, cc, rfl⟩ := own_form ho
      have hsz := b1.size
      have HO := hid (And.intro ho (And.intro hall (And.intro hown (And.intro b1 hcs))))
      have HS := hid (And.intro hsz (And.intro hwl hpl))
      clear ho hall hown b1 hcs hKd' c0 c1 c2 c3 c4 c5 c6 c7 hsz hwl hpl
      rw [rcs_arr]
      go_wp2_with (at_builtin; refine wpList_append_lies _ rfl (.tmp 10) (.tmp 16) 25 rfl (w.heap.size + 1) 27 i0 _ 6 64 Tryd.underlying25 hi hz0 hz1 hz2 rfl (by decide) _ t1.length vs rfl (own_alloc HO.out.1 _) ⟨w1.heap.size, 0, none⟩ 1 1 (rcs k s (.slice a' n' c')) rfl rfl ?c1 ?c2 (by decide) ?c3 ?c4 ?c5 _ rfl ?_)
      case c1 => exact World.news_of_block (alloc_new _ _)
      case c2 => intro u hu; simp [rcs] at hu; rcases hu with rfl | rfl | rfl | rfl | rfl | rfl <;> rfl
      case c3 => have := HR.out.2.2.2.2.2.1; unfold maxLen; omega
      case c4 => have := HR.out.2.2.2.2.2.1; omega
      case c5 => have h1 := HS.out; simp; omega
      intro g cap w2 hown' hgrow hat _
      have hal := bel1 w1 (.cells #[.int .i64 k, .int .u64 (ws s 0 : Int), .int .u64 (ws s 1 : Int), .int .u64 (ws s 2 : Int), .int .u64 (ws s 3 : Int), .slice a' n' c'] 27)
      have hOX := OX.snoc (n := wr.heap.size) (x := .mk k s l) (own_alloc HO.out.1 (.cells #[.int .i64 k, .int .u64 (ws s 0 : Int), .int .u64 (ws s 1 : Int), .int .u64 (ws s 2 : Int), .int .u64 (ws s 3 : Int), .slice a' n' c'] 27)) (fun i x hx => by
        obtain ⟨cs, h1, h2⟩ := HO.out.2.1 i x hx
        exact ⟨cs, h1.below hal, h2⟩) hown' hgrow HO.out.2.2.1 (by have := HS.out; omega) (hat.imp id fun e => by rw [e, size_alloc]; exact Nat.le_refl _) (HO.out.2.2.2.2.below hal)
      have hS := HS.out
      have hb0 := HR.out.2.2.2.1
      have hb2 : Below w.heap.size w w2 := below_grown ((hb0.trans (HO.out.2.2.2.1.mono hb0.size)).trans (hal.mono (by omega))) hgrow (by simp; omega) (fun b hb => by have := HO.out.1.lt b hb; omega)
      have hbz : w2.heap[w.heap.size]? = _ := ((hgrow.block w.heap.size (by simp; omega) (fun e => by have := (HO.out.1.lt w.heap.size e.symm).1; omega)).trans (hal.block _ (by omega))).trans ((HO.out.2.2.2.1.block _ (by omega)).trans HR.out.2.2.1)
      have c7'' := (hb2.cell (p := ⟨p, 7, none⟩) hpw.out.1).trans hpw.out.2
      have H5 := hid (And.intro hOX (And.intro hb2 hbz))
      clear hOX hb2 hbz hown' hgrow hat hal hb0 hS
      go_wp2
      go_roundg (gk - 1)
      case measure => have := HR.out.2.2.2.2.2.2; simp at this; omega
      case rel => exact ⟨t1 ++ [.mk k s l], t2, by simp, by have := HR.out.2.2.2.2.2.2; simp at this; omega, HR.out.1, H5.out.1, H5.out.2.2, H5.out.2.1⟩
end Go.Proofs.YtednoideboeehaaDoor
end
section
set_option linter.unusedSimpArgs false
set_option linter.unusedVariables false
namespace Go.Proofs.YtednoideboeehaaDoor
open Go.RowKit Bs Rg Go.Frame

/-- A map whose keys are numbers, all true. -/
def MapF (W : World) (f : Nat) (ns : List Nat) : Prop := ∃ (es : Array MapEntry) (ck : Nat), W.heap[f]? = some (.map es ck) ∧ es.toList.map (·.key) = ns.map (fun n : Nat => Value.int .i64 (n : Int)) ∧ ∀ e ∈ es.toList, e.val = .bool true
theorem findF (q : Nat) : ∀ (l : List MapEntry) (ns : List Nat) (i : Nat), l.map (·.key) = ns.map (fun n : Nat => Value.int .i64 (n : Int)) → (∀ e ∈ l, e.val = .bool true) →
    (q ∈ ns → ∃ j, Instr.findNow (.int .i64) (.int .i64 (q : Int)) l i = some (some (j, .bool true))) ∧ (q ∉ ns → Instr.findNow (.int .i64) (.int .i64 (q : Int)) l i = some none)
  | [], [], i, _, _ => ⟨fun h => (by cases h), fun _ => by simp [Instr.findNow]⟩
  | [], n :: ns, i, h, _ => by simp at h
  | e :: l, [], i, h, _ => by simp at h
  | e :: l, n :: ns, i, h, hv => by
    simp only [List.map_cons, List.cons.injEq] at h
    obtain ⟨g1, g2⟩ := findF q l ns (i + 1) h.2 fun x hx => hv x (List.mem_cons_of_mem _ hx)
    have he := hv e (List.mem_cons_self ..)
    by_cases hq : q = n
    · subst hq
      refine ⟨fun _ => ⟨i, ?_⟩, fun h' => absurd (List.mem_cons_self ..) h'⟩
      simp [Instr.findNow, Instr.sameNow, h.1, he]
    · have hq' : ((q : Int) == (n : Int)) = false := by rw [beq_eq_false_iff_ne]; omega
      refine ⟨fun h' => ?_, fun h' => ?_⟩
      · obtain ⟨j, hj⟩ := g1 (by rcases List.mem_cons.1 h' with e | e; · exact absurd e hq
                                 · exact e)
        refine ⟨j, ?_⟩
        simp only [Instr.findNow, Instr.sameNow, h.1, hq', hj, if_true]
      · have hj := g2 fun e => h' (List.mem_cons_of_mem _ e)
        simp only [Instr.findNow, Instr.sameNow, h.1, hq', hj, if_true]
theorem und76 : Tryd.prog.underlying 76 = some (.map 3 4) := by kernel_rfl
theorem zero4 (w : World) : (zeroValue 4).run Tryd.prog w = .ok (.bool false) w := by kernel_rfl
theorem check_i (a : Int) (w : World) : (Instr.checkKey false 10000 3 (.int .i64 a)).run Tryd.prog w = .ok () w := by kernel_rfl
theorem check_i' (a : Int) (w : World) : (Instr.checkKey true 10000 3 (.int .i64 a)).run Tryd.prog w = .ok () w := by kernel_rfl
theorem run_lookF {W : World} {f : Nat} {ns : List Nat} (h : MapF W f ns) (q : Nat) : (Instr.lookup 76 (.map (some f)) (.int .i64 (q : Int)) false).run Tryd.prog W = .ok (.bool (decide (q ∈ ns))) W := by
  obtain ⟨es, ck, h1, h2, h3⟩ := h
  have hu : (underlying 76).run Tryd.prog W = .ok (.map 3 4) W := run_underlying und76 W
  have hu3 : (underlying 3).run Tryd.prog W = .ok (.int .i64) W := run_underlying Tryd.underlying3 W
  have hg : (getObj f).run Tryd.prog W = .ok (.map es ck) W := by simp [getObj, Sem.run, h1]
  have hc : (Instr.checkKey es.isEmpty 10000 3 (.int .i64 (q : Int))).run Tryd.prog W = .ok () W := by
    cases es.isEmpty
    · exact check_i _ W
    · exact check_i' _ W
  obtain ⟨g1, g2⟩ := findF q es.toList ns 0 h2 h3
  unfold Instr.lookup Instr.findKey
  simp only [Sem.run_bind, hu, Result.andThen_ok, hg, Sem.run_pure, hc, hu3]
  by_cases hq : q ∈ ns
  · obtain ⟨j, hj⟩ := g1 hq
    simp [hj, hq]
  · simp [g2 hq, hq, zero4]
theorem run_updF {W : World} {f : Nat} {ns : List Nat} (h : MapF W f ns) (q : Nat) (hq : q ∉ ns) : ∃ W', (Instr.mapUpdate 76 (.map (some f)) (.int .i64 (q : Int)) (.bool true)).run Tryd.prog W = .ok () W' ∧ MapF W' f (ns ++ [q]) ∧ Md (· = f) W W' ∧ W'.heap.size = W.heap.size := by
  obtain ⟨es, ck, h1, h2, h3⟩ := h
  have hu : (underlying 76).run Tryd.prog W = .ok (.map 3 4) W := run_underlying und76 W
  have hu3 : (underlying 3).run Tryd.prog W = .ok (.int .i64) W := run_underlying Tryd.underlying3 W
  have hg : (getObj f).run Tryd.prog W = .ok (.map es ck) W := by simp [getObj, Sem.run, h1]
  have hc : (Instr.checkKey false 10000 3 (.int .i64 (q : Int))).run Tryd.prog W = .ok () W := check_i _ W
  have hf := heap_lt h1
  refine ⟨W.putObj f (.map (es.push { key := .int .i64 (q : Int), val := .bool true, born := ck }) (ck + 1)), ?_, ⟨_, _, World.putObj_heap_same hf, by simp [h2], fun e he => ?_⟩, ⟨rfl, rfl, rfl, by rw [World.putObj_size]; exact Nat.le_refl _, fun k _ hk => World.putObj_heap_other hk⟩, World.putObj_size⟩
  · unfold Instr.mapUpdate Instr.findKey
    simp only [Sem.run_bind, hu, Result.andThen_ok, hg, Sem.run_pure, hc, hu3, (findF q es.toList ns 0 h2 h3).2 hq]
    simp [setObj, Sem.run, World.putObj, h1]
  · simp only [Array.toList_push, List.mem_append, List.mem_singleton] at he
    rcases he with he | rfl
    · exact h3 e he
    · rfl
theorem MapF.keep {W W' : World} {f : Nat} {ns : List Nat} (h : MapF W f ns) (hb : W'.heap[f]? = W.heap[f]?) : MapF W' f ns := by
  obtain ⟨es, ck, h1, h2⟩ := h
  exact ⟨es, ck, hb.trans h1, h2⟩
/-- Numbers of lists. -/
def FN (T : List Nd) : List (List Rx) → List Nat → Prop
  | [], ns => ns = []
  | t :: F, ns => ∃ n ms, ns = n :: ms ∧ NumL T t n ∧ FN T F ms
theorem FN.more {T T' : List Nd} (hp : T <+: T') : ∀ {F : List (List Rx)} {ns : List Nat}, FN T F ns → FN T' F ns
  | [], ns, h => h
  | t :: F, ns, h => by obtain ⟨n, ms, h1, h2, h3⟩ := h; exact ⟨n, ms, h1, h2.more hp, FN.more hp h3⟩
theorem FN.snoc {T : List Nd} {t : List Rx} {n : Nat} (ht : NumL T t n) : ∀ {F : List (List Rx)} {ns : List Nat}, FN T F ns → FN T (F ++ [t]) (ns ++ [n])
  | [], ns, h => by obtain rfl : ns = [] := h; exact ⟨n, [], rfl, ht, rfl⟩
  | u :: F, ns, h => by obtain ⟨m, ms, h1, h2, h3⟩ := h; subst h1; exact ⟨m, ms ++ [n], rfl, h2, FN.snoc ht h3⟩
theorem FN.mem {T : List Nd} (hT : Once T) {t : List Rx} {n : Nat} (ht : NumL T t n) : ∀ {F : List (List Rx)} {ns : List Nat}, FN T F ns → (n ∈ ns ↔ t ∈ F)
  | [], ns, h => by obtain rfl : ns = [] := h; simp
  | u :: F, ns, h => by
    obtain ⟨m, ms, h1, h2, h3⟩ := h
    subst h1
    have ih := FN.mem hT ht h3
    simp only [List.mem_cons, ih]
    constructor
    · rintro (rfl | h)
      · exact .inl (NumL.eq ht h2)
      · exact .inr h
    · rintro (rfl | h)
      · exact .inl (NumL.uniq hT ht h2)
      · exact .inr h
/-- The deriver's blocks. -/
def Ow (D m f : Nat) (pv : Value) (k : Nat) : Prop := k = D ∨ k = m ∨ k = f ∨ pv.ownBlock = some k
/-- What a call of the deriver's leaves alone. -/
structure Fr (D m f : Nat) (W : World) (pv : Value) (W' : World) (pv' : Value) : Prop where
  md : Md (Ow D m f pv) W W'
  own : ∀ b, pv'.ownBlock = some b → pv.ownBlock = some b ∨ W.heap.size ≤ b
theorem Fr.refl (D m f : Nat) (W : World) (pv : Value) : Fr D m f W pv W pv := ⟨Md.refl _ _, fun _ h => .inl h⟩
theorem Fr.trans {D m f : Nat} {W W1 W2 : World} {pv pv1 pv2 : Value} (h : Fr D m f W pv W1 pv1) (k : Fr D m f W1 pv1 W2 pv2) : Fr D m f W pv W2 pv2 := by
  refine ⟨⟨k.md.os.trans h.md.os, k.md.tape.trans h.md.tape, k.md.output.trans h.md.output, Nat.le_trans h.md.size k.md.size, fun i hi hs => (k.md.block i (Nat.lt_of_lt_of_le hi h.md.size) fun ho => hs ?_).trans (h.md.block i hi hs)⟩, fun b hb => ?_⟩
  · rcases ho with e | e | e | e
    · exact .inl e
    · exact .inr (.inl e)
    · exact .inr (.inr (.inl e))
    · rcases h.own i e with e' | e'
      · exact .inr (.inr (.inr e'))
      · omega
  · rcases k.own b hb with e | e
    · exact h.own b e
    · exact .inr (Nat.le_trans h.md.size e)
theorem Fr.ofBelow {D m f : Nat} {W W' : World} {pv : Value} (h : Below W.heap.size W W') : Fr D m f W pv W' pv := ⟨Md.below h, fun _ h => .inl h⟩
theorem Fr.ofTab {D m f : Nat} {W W' : World} {pv : Value} (h : Md (· = m) W W') : Fr D m f W pv W' pv := ⟨h.mono fun k e => .inr (.inl e), fun _ h => .inl h⟩
/-- The deriver, with the lists found. -/
structure DS (W : World) (D m f base : Nat) (bb : Int) (T : List Nd) (F : List (List Rx)) (pv : Value) : Prop where
  db : DB W D m f bb pv
  tab : Tab W m T
  fnd : ∃ ns, MapF W f ns ∧ FN T F ns
  row : OX base W pv (F.map ex)
  nodup : F.Nodup
  lt : D < base ∧ m < base ∧ f < base ∧ m ≠ f ∧ base ≤ W.heap.size
theorem DS.ltD {W : World} {D m f base : Nat} {bb : Int} {T : List Nd} {F : List (List Rx)} {pv : Value} (h : DS W D m f base bb T F pv) : D < W.heap.size := heap_lt h.db
theorem DS.neDm {W : World} {D m f base : Nat} {bb : Int} {T : List Nd} {F : List (List Rx)} {pv : Value} (h : DS W D m f base bb T F pv) : D ≠ m := fun e => by
  subst e
  have h1 := h.db
  obtain ⟨es, ck, g⟩ := h.tab.isMap
  unfold DB at h1
  rw [g] at h1; cases h1
theorem DS.neDf {W : World} {D m f base : Nat} {bb : Int} {T : List Nd} {F : List (List Rx)} {pv : Value} (h : DS W D m f base bb T F pv) : D ≠ f := fun e => by
  subst e
  have h1 := h.db
  obtain ⟨ns, ⟨es, ck, g, _⟩, _⟩ := h.fnd
  unfold DB at h1
  rw [g] at h1; cases h1
theorem DS.below {W W' : World} {D m f base : Nat} {bb : Int} {T : List Nd} {F : List (List Rx)} {pv : Value} (h : DS W D m f base bb T F pv) (hb : Below W.heap.size W W') : DS W' D m f base bb T F pv := by
  obtain ⟨ns, h1, h2⟩ := h.fnd
  exact ⟨(hb.block _ h.ltD).trans h.db, h.tab.below hb, ⟨ns, h1.keep (hb.block _ (by have := h.lt; omega)), h2⟩, h.row.bel hb, h.nodup, h.lt.1, h.lt.2.1, h.lt.2.2.1, h.lt.2.2.2.1, Nat.le_trans h.lt.2.2.2.2 hb.size⟩
/-- The table has grown. -/
theorem DS.grow {W W' : World} {D m f base : Nat} {bb : Int} {T T' : List Nd} {F : List (List Rx)} {pv : Value} (h : DS W D m f base bb T F pv) (hb : Md (· = m) W W') (hT : Tab W' m T') (hp : T <+: T') : DS W' D m f base bb T' F pv := by
  obtain ⟨ns, h1, h2⟩ := h.fnd
  have hlt := h.lt
  exact ⟨(hb.block _ h.ltD h.neDm).trans h.db, hT, ⟨ns, h1.keep (hb.block _ (by omega) (fun e => hlt.2.2.2.1 e.symm)), h2.more hp⟩, h.row.keep hb.size (fun b hbb hl => hb.block b hl (by omega)), h.nodup, hlt.1, hlt.2.1, hlt.2.2.1, hlt.2.2.2.1, Nat.le_trans hlt.2.2.2.2 hb.size⟩
/-- A block of cells of another type than the deriver's own is left alone. -/
theorem Fr.cells {D m f base : Nat} {bb : Int} {T : List Nd} {F : List (List Rx)} {W W' : World} {pv pv' : Value} (h : Fr D m f W pv W' pv') (hd : DS W D m f base bb T F pv) {k : Nat} {c : Array Value} {t : TypeId} {fr : Nat × Nat} (hk : W.heap[k]? = some (.cells c t fr)) (h1 : t ≠ 78) (h2 : t ≠ 27) : W'.heap[k]? = some (.cells c t fr) := by
  refine (h.md.block k (heap_lt hk) ?_).trans hk
  rintro (e | e | e | e)
  · subst e
    have := hd.db
    unfold DB at this
    rw [hk] at this; cases this; exact h1 rfl
  · subst e
    obtain ⟨es, ck, g⟩ := hd.tab.isMap
    rw [hk] at g; cases g
  · subst e
    obtain ⟨ns, ⟨es, ck, g, _⟩, _⟩ := hd.fnd
    rw [hk] at g; cases g
  · obtain ⟨vs, ho⟩ := hd.row.len
    rcases ho.2 with ⟨e', _⟩ | ⟨g, cap, cur, e', _, hg, _⟩
    · rw [e'] at e; cases e
    · rw [e'] at e
      have : g = k := by simpa [Value.ownBlock] using e
      subst this
      rw [hk] at hg; cases hg; exact h2 rfl
theorem LM.fr {N : Nat} {D m f base : Nat} {bb : Int} {T T' : List Nd} {F : List (List Rx)} {W W' : World} {pv pv' : Value} {t : List Rx} {v : Value} (h : LM N T W t v) (hf : Fr D m f W pv W' pv') (hd : DS W D m f base bb T F pv) (hp : T <+: T') (hN : N ≤ D ∧ N ≤ m ∧ N ≤ f ∧ N ≤ base) : LM N T' W' t v := by
  refine (h.more hp).keep hf.md.size (fun k c hk => hf.cells hd hk (by decide) (by decide)) (fun k hk hl => hf.md.block k hl ?_)
  rintro (e | e | e | e)
  · omega
  · omega
  · omega
  · have := (hd.row.own k e).1; omega
theorem RC.fr {N : Nat} {D m f base : Nat} {bb : Int} {T : List Nd} {F : List (List Rx)} {W W' : World} {pv pv' : Value} {x : Rx} {cs : List Value} (h : RC (· < N) W x cs) (hf : Fr D m f W pv W' pv') (hd : DS W D m f base bb T F pv) (hN : N ≤ D ∧ N ≤ m ∧ N ≤ f ∧ N ≤ base) : RC (· < N) W' x cs := by
  refine h.keep hf.md.size (fun k hk hl => hf.md.block k hl ?_) (fun _ h => h) x
  have hk : k < N := hk
  rintro (e | e | e | e)
  · omega
  · omega
  · omega
  · have := (hd.row.own k e).1; omega
end Go.Proofs.YtednoideboeehaaDoor
end
