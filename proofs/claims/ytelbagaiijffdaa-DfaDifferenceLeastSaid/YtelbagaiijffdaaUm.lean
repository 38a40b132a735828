/-
  Contract: find.
-/
import Derived.Test.YtelbagaiijffdaaUl
set_option linter.unusedSimpArgs false
set_option linter.unusedVariables false
namespace Go.Proofs.Ytelbagaiijffdaa
open Go.RowKit Lx Go.Frame
attribute [-instance] instBEqProd

theorem info85 : (Try.prog.info? 85).map (fun i => (i.zero, i.size, i.bytes)) = some (some (.agg #[.int .i64 0, .int .i64 0, .int .i64 0, .int .i64 0]), 4, 32) := by kernel_rfl
theorem und80 : Try.prog.underlying 80 = some (.slice 85) := by kernel_rfl
/-- A visit, unless its pair has been found. -/
def addV (P : Nat) (V : List Vis) (v : Vis) : List Vis := if V.any (fun u => u.1 * P + u.2.1 == v.1 * P + v.2.1) then V else V ++ [v]
theorem cells_of6 {W : World} {b t : Nat} {a0 a1 a2 a3 a4 a5 : Value} (h : W.heap[b]? = some (.cells #[a0, a1, a2, a3, a4, a5] t (0, 0))) : W.cell? ⟨b, 0, none⟩ = some a0 ∧ W.cell? ⟨b, 1, none⟩ = some a1 ∧ W.cell? ⟨b, 2, none⟩ = some a2 ∧ W.cell? ⟨b, 3, none⟩ = some a3 ∧ W.cell? ⟨b, 4, none⟩ = some a4 ∧ W.cell? ⟨b, 5, none⟩ = some a5 := by simp [World.cell?, h]
theorem vcs_snoc (V : List Vis) (v : Vis) : (V ++ [v]).flatMap vcs = V.flatMap vcs ++ vcs v := by simp
set_option maxRecDepth 100000 in
set_option maxHeartbeats 8000000 in
theorem find_any (base : Nat) (W : World) (sb se N P : Nat) (t : TbS) (V : List Vis) (vis : Value) (h : SS base W sb se N P t V vis) (v : Vis) (hN : N ≤ 501) (hP : P ≤ 501) (ha : v.1 < N) (hb : v.2.1 < P) (hV : V.length ≤ 260000) :
    Calls Try.prog 44 #[.pointer (some ⟨sb, 0, none⟩), .agg #[.int .i64 (v.1 : Int), .int .i64 (v.2.1 : Int), .int .i64 (v.2.2.1 : Int), .int .i64 (v.2.2.2 : Int)]] W fun e w' => e = .returned (.tuple #[]) ∧ ∃ vis', SS base w' sb se N P t (addV P V v) vis' ∧ Kept (fun k => k = sb ∨ k = se ∨ vis.ownBlock = some k ∨ W.heap.size ≤ k) W w' ∧ ∀ k, vis'.ownBlock = some k → vis.ownBlock = some k ∨ W.heap.size ≤ k := by
  obtain ⟨i0, hi, hz0, hz1, hz2⟩ := info_parts info85
  obtain ⟨va, vb, vf, vo⟩ := v
  dsimp only at ha hb ⊢
  obtain ⟨pa, pc, hve⟩ := own_form h.own
  subst hve
  obtain ⟨n, hn⟩ : ∃ n, n = V.length := ⟨_, rfl⟩
  rw [← hn] at h hV ⊢
  have hlt : va * P + vb < N * P := by
    have : (va + 1) * P ≤ N * P := Nat.mul_le_mul_right P ha
    rw [Nat.succ_mul] at this
    omega
  have hNP : N * P ≤ 501 * 501 := Nat.mul_le_mul hN hP
  have haP : va * P ≤ N * P := Nat.mul_le_mul_right P (by omega)
  have hm1 : IntKind.i64.wrap ((va : Int) * (P : Int)) = (va : Int) * (P : Int) := by rw [← Int.natCast_mul, wrapIn (by omega) (by omega)]
  have hm2 : IntKind.i64.wrap ((va : Int) * (P : Int) + (vb : Int)) = ((va * P + vb : Nat) : Int) := by rw [← Int.natCast_mul, wrapIn (by omega) (by omega)]; omega
  obtain ⟨p, hp⟩ : ∃ p, p = va * P + vb := ⟨_, rfl⟩
  rw [← hp] at hm2 hlt
  have hp0 : (0 : Int) ≤ (p : Int) := by omega
  have hp1 : (p : Int) < (N : Int) * (P : Int) := by rw [← Int.natCast_mul]; omega
  have hp2 : (p : Int) < ((N * P : Nat) : Int) := by omega
  obtain ⟨X, hX⟩ : ∃ X, X = W.alloc (.cells #[.int .i64 (va : Int), .int .i64 (vb : Int), .int .i64 (vf : Int), .int .i64 (vo : Int)] 85) := ⟨_, rfl⟩
  have xb := alloc_new W (.cells #[.int .i64 (va : Int), .int .i64 (vb : Int), .int .i64 (vf : Int), .int .i64 (vo : Int)] 85)
  have bX := bel1 W (.cells #[.int .i64 (va : Int), .int .i64 (vb : Int), .int .i64 (vf : Int), .int .i64 (vo : Int)] 85)
  rw [← hX] at xb bX
  have h' := h.keep bX
  have hown0 := h.own
  rw [← hn] at hown0
  have HN := hid hn
  have HS := hid (And.intro h' (And.intro bX (And.intro xb (And.intro h hp))))
  have hsl := heap_lt h.sbx
  have hsel := heap_lt h.seen
  have hown := fun k (hk : (Value.slice pa n pc).ownBlock = some k) => (h.own.lt k hk).2
  have HOWN := hid hown
  have cp := h'.seen.at_ (snl_at hlt V)
  have fp := Go.Frame.free h'.seen p
  obtain ⟨c0, c1, c2, c3⟩ := cells4 xb
  have y0 := cells_of6 h'.sbx
  obtain ⟨s0, s1, s2, s3, s4, s5⟩ := y0
  have HOWN2 := hid (fun k hk => (hown0.lt k hk).2 : ∀ k, (Value.slice pa n pc).ownBlock = some k → k < W.heap.size)
  have HBS := hid (show base ≤ W.heap.size from by have := h.osb; omega)
  have HNE := hid (show W.heap.size ≠ sb ∧ se ≠ sb from ⟨by omega, fun e => by
    have h9 := h.seen
    unfold LB at h9
    rw [e, h.sbx] at h9
    simp at h9⟩)
  have hV' : n ≤ 260000 := hV
  clear h h' bX xb hp hown hown0 hn
  cases hin : V.any (fun u => u.1 * P + u.2.1 == p) with
  | true =>
    rw [hin] at cp
    have HI := hid hin
    clear hin
    go_enter Try.func44, Try.ntmps44
    go_upto_region 1 with fail
    rw [← hX]
    clear hX
    go_quiet (fail)
    have HR := hid (show SS base (X.drewN nq) sb se N P t (addV P V (va, vb, vf, vo)) (.slice pa n pc) ∧ Kept (fun k => k = sb ∨ k = se ∨ (Value.slice pa n pc).ownBlock = some k ∨ W.heap.size ≤ k) W (X.drewN nq) from by
      have hXn : Below X.heap.size X (X.drewN nq) := below_drewN (Below.refl _ _) nq
      refine ⟨?_, (Kept.below HS.out.2.1 fun b hb => .inr (.inr (.inr hb))).trans (Kept.below hXn fun b hb => .inr (.inr (.inr (Nat.le_trans HS.out.2.1.size hb))))⟩
      unfold addV
      dsimp only
      rw [if_pos (by rw [← HS.out.2.2.2.2]; exact HI.out)]
      exact HS.out.1.keep hXn)
    go_wp2_with fail
    go_end0
    exact ⟨rfl, _, HR.out.1, HR.out.2, fun k hk => .inl hk⟩
  | false =>
    rw [hin] at cp
    have HI := hid hin
    clear hin
    go_enter Try.func44, Try.ntmps44
    go_upto_region 1 with fail
    rw [← hX]
    clear hX
    go_quiet (fail)
    go_upto_region 4 with fail
    have hseen := HS.out.1.seen
    have HK0 := hid (show Kept (fun k => k = sb ∨ k = se ∨ (Value.slice pa n pc).ownBlock = some k ∨ W.heap.size ≤ k) W ((X.drewN nq).setCell ⟨se, p, none⟩ (.bool true)) ∧ ((X.drewN nq).setCell ⟨se, p, none⟩ (.bool true)).heap[W.heap.size]? = some (.cells #[.int .i64 (va : Int), .int .i64 (vb : Int), .int .i64 (vf : Int), .int .i64 (vo : Int)] 85 (0, 0)) ∧ LB ((X.drewN nq).setCell ⟨se, p, none⟩ (.bool true)) se (snl N P (V ++ [(va, vb, vf, vo)])) ∧ W.heap.size < ((X.drewN nq).setCell ⟨se, p, none⟩ (.bool true)).heap.size ∧ ((X.drewN nq).setCell ⟨se, p, none⟩ (.bool true)).heap[sb]? = some (.cells #[.slice t.x1 N t.y1, .slice t.x2 N t.y2, .slice t.u1 P t.v1, .slice t.u2 P t.v2, .slice pa n pc, .slice (some ⟨se, 0, none⟩) (N * P) (N * P)] 82 (0, 0)) ∧ ((X.drewN nq).setCell ⟨se, p, none⟩ (.bool true)).ownsRow base 85 4 (.slice pa n pc) n (V.flatMap vcs) from by
      have hXn : Below X.heap.size X (X.drewN nq) := below_drewN (Below.refl _ _) nq
      have h1 := HS.out.1.keep hXn
      refine ⟨?_, ?_, ?_, ?_, ?_, ?_⟩
      · exact ((Kept.below HS.out.2.1 fun b hb => .inr (.inr (.inr hb))).trans (Kept.below hXn fun b hb => .inr (.inr (.inr (Nat.le_trans HS.out.2.1.size hb))))).setCell (p := ⟨se, p, none⟩) (.inr (.inl rfl)) _
      · exact blk_set ((hXn.block _ (heap_lt HS.out.2.2.1)).trans HS.out.2.2.1) (by show W.heap.size ≠ se; omega)
      · have h2 := h1.seen.set (i := p) true
        rw [HS.out.2.2.2.2] at h2 ⊢
        have h3 := snl_push (N := N) (P := P) V (va, vb, vf, vo)
        dsimp only at h3
        rw [h3] at h2
        exact h2
      · have := heap_lt HS.out.2.2.1
        have := hXn.size
        simp
        omega
      · exact blk_set h1.sbx (fun e => HNE.out.2 e.symm)
      · have h4 := h1.own
        rw [← HN.out] at h4
        exact ownsRow_keep h4 fun k hk => heap_setCell_other _ _ _ _ (fun e => own_ne_block h4 h1.seen (by decide) ((show k = se from e) ▸ hk)))
    clear s0 s1 s2 s3 s4 s5 c0 c1 c2 c3 cp fp hseen
    refine region_inv (fun b a' w' => ∃ (v31 v32 v33 v34 v35 v36 v37 v38 v39 v40 : Value), a' = { tmps := #[.pointer (some ⟨sb, 0, none⟩), .agg #[.int .i64 (va : Int), .int .i64 (vb : Int), .int .i64 (vf : Int), .int .i64 (vo : Int)], undef, .pointer (some ⟨W.heap.size, 0, none⟩), .int .i64 (p : Int), .pointer (some ⟨W.heap.size, 0, none⟩), .int .i64 (va : Int), .pointer (some ⟨sb, 0, none⟩), .pointer (some ⟨sb, 0, none⟩), .pointer (some ⟨sb, 2, none⟩), .pointer (some ⟨sb, 2, none⟩), .slice t.u1 P t.v1, .int .i64 (P : Int), .int .i64 ((va : Int) * (P : Int)), .pointer (some ⟨W.heap.size, 1, none⟩), .int .i64 (vb : Int), .int .i64 (p : Int), .pointer (some ⟨sb, 0, none⟩), .pointer (some ⟨sb, 0, none⟩), .pointer (some ⟨sb, 5, none⟩), .slice (some ⟨se, 0, none⟩) (N * P) (N * P), .int .i64 (p : Int), .pointer (some ⟨se, p, none⟩), .bool false, .bool true, .pointer (some ⟨sb, 0, none⟩), .pointer (some ⟨sb, 0, none⟩), .pointer (some ⟨sb, 5, none⟩), .slice (some ⟨se, 0, none⟩) (N * P) (N * P), .int .i64 (p : Int), .pointer (some ⟨se, p, none⟩), v31, v32, v33, v34, v35, v36, v37, v38, v39, v40], defers := [] } ∧ Kept (fun k => k = sb ∨ k = se ∨ (Value.slice pa n pc).ownBlock = some k ∨ W.heap.size ≤ k) W w' ∧ w'.heap[W.heap.size]? = some (.cells #[.int .i64 (va : Int), .int .i64 (vb : Int), .int .i64 (vf : Int), .int .i64 (vo : Int)] 85 (0, 0)) ∧ LB w' se (snl N P (V ++ [(va, vb, vf, vo)])) ∧ W.heap.size < w'.heap.size ∧ (b 0 = true → v31 = .pointer (some ⟨sb, 0, none⟩)) ∧ (b 1 = true → v32 = .pointer (some ⟨sb, 0, none⟩)) ∧ (b 2 = true → v33 = .pointer (some ⟨sb, 0, none⟩)) ∧ (b 3 = true → v34 = .pointer (some ⟨sb, 4, none⟩)) ∧ (b 4 = true → v35 = .slice pa n pc) ∧ (b 5 = true → v36 = .agg #[.int .i64 (va : Int), .int .i64 (vb : Int), .int .i64 (vf : Int), .int .i64 (vo : Int)]) ∧ (b 6 = true → b 7 = false → ∃ g : Nat, v37 = .slice (some ⟨g, 0, none⟩) 1 1 ∧ w'.heap[g]? = some (.cells #[.int .i64 (va : Int), .int .i64 (vb : Int), .int .i64 (vf : Int), .int .i64 (vo : Int)] 85 (0, 0))) ∧ (b 7 = true → ∃ (q : Option Addr) (c : Nat), v38 = .slice q (n + 1) c ∧ ∀ k, v38.ownBlock = some k → (Value.slice pa n pc).ownBlock = some k ∨ W.heap.size ≤ k) ∧ (b 8 = true → v39 = .pointer (some ⟨sb, 0, none⟩)) ∧ (b 9 = true → v40 = .pointer (some ⟨sb, 4, none⟩)) ∧ (b 10 = false → w'.heap[sb]? = some (.cells #[.slice t.x1 N t.y1, .slice t.x2 N t.y2, .slice t.u1 P t.v1, .slice t.u2 P t.v2, .slice pa n pc, .slice (some ⟨se, 0, none⟩) (N * P) (N * P)] 82 (0, 0))) ∧ (b 10 = true → w'.heap[sb]? = some (.cells #[.slice t.x1 N t.y1, .slice t.x2 N t.y2, .slice t.u1 P t.v1, .slice t.u2 P t.v2, v38, .slice (some ⟨se, 0, none⟩) (N * P) (N * P)] 82 (0, 0))) ∧ (b 7 = false → w'.ownsRow base 85 4 (.slice pa n pc) n (V.flatMap vcs)) ∧ (b 7 = true → w'.ownsRow base 85 4 v38 (n + 1) (V.flatMap vcs ++ vcs (va, vb, vf, vo))) ∧ (b 2 = true → b 1 = true) ∧ (b 3 = true → b 2 = true) ∧ (b 4 = true → b 3 = true) ∧ (b 6 = true → b 5 = true) ∧ (b 7 = true → b 4 = true) ∧ (b 7 = true → b 6 = true) ∧ (b 8 = true → b 0 = true) ∧ (b 9 = true → b 8 = true) ∧ (b 10 = true → b 9 = true) ∧ (b 10 = true → b 7 = true)) (by kernel_rfl) (back_of (by kernel_rfl)) ?step ?done ?init
    case step =>
      rintro b a' w' i o ho ⟨v31, v32, v33, v34, v35, v36, v37, v38, v39, v40, rfl, hk, hx, hs, hl, h0, h1, h2, h3, h4, h5, h6, h7, h8, h9, bo, bn, ro, rn, q2_1, q3_2, q4_3, q6_5, q7_4, q7_6, q8_0, q9_8, q10_9, q10_7⟩ hbi hd K hK
      have hlt : i < 11 := by have := (Array.getElem?_eq_some_iff.1 ho).1; simpa using this
      have dep : ∀ k, (o.after.any fun e => Region.binds .any e && e.on == k) = true → b k = true := fun k hk => by
        obtain ⟨e, he, h⟩ := Array.any_eq_true'.1 hk
        simp only [Bool.and_eq_true, beq_iff_eq] at h
        rw [← h.2]; exact hd e he h.1
      clear hd
      have hi : i = 0 ∨ i = 1 ∨ i = 2 ∨ i = 3 ∨ i = 4 ∨ i = 5 ∨ i = 6 ∨ i = 7 ∨ i = 8 ∨ i = 9 ∨ i = 10 := by omega
      clear hlt
      rcases hi with rfl | rfl | rfl | rfl | rfl | rfl | rfl | rfl | rfl | rfl | rfl
      · simp only [List.getElem?_toArray, List.getElem?_cons_zero, List.getElem?_cons_succ, Option.some.injEq] at ho
        subst ho
        go_simp
        refine hK.out _ _ ⟨_, _, _, _, _, _, _, _, _, _, rfl, hk, hx, hs, hl, fun _ => rfl, fun h => h1 (by simpa using h), fun h => h2 (by simpa using h), fun h => h3 (by simpa using h), fun h => h4 (by simpa using h), fun h => h5 (by simpa using h), fun h h9 => h6 (by simpa using h) (by simpa using h9), fun h => h7 (by simpa using h), fun h => h8 (by simpa using h), fun h => h9 (by simpa using h), fun h => bo (by simpa using h), fun h => bn (by simpa using h), fun h => ro (by simpa using h), fun h => rn (by simpa using h), fun h => by simp [q2_1 (by simpa using h)], fun h => by simp [q3_2 (by simpa using h)], fun h => by simp [q4_3 (by simpa using h)], fun h => by simp [q6_5 (by simpa using h)], fun h => by simp [q7_4 (by simpa using h)], fun h => by simp [q7_6 (by simpa using h)], fun h => by simp [q8_0 (by simpa using h)], fun h => by simp [q9_8 (by simpa using h)], fun h => by simp [q10_9 (by simpa using h)], fun h => by simp [q10_7 (by simpa using h)]⟩
      · simp only [List.getElem?_toArray, List.getElem?_cons_zero, List.getElem?_cons_succ, Option.some.injEq] at ho
        subst ho
        go_simp
        refine hK.out _ _ ⟨_, _, _, _, _, _, _, _, _, _, rfl, hk, hx, hs, hl, fun h => h0 (by simpa using h), fun _ => rfl, fun h => h2 (by simpa using h), fun h => h3 (by simpa using h), fun h => h4 (by simpa using h), fun h => h5 (by simpa using h), fun h h9 => h6 (by simpa using h) (by simpa using h9), fun h => h7 (by simpa using h), fun h => h8 (by simpa using h), fun h => h9 (by simpa using h), fun h => bo (by simpa using h), fun h => bn (by simpa using h), fun h => ro (by simpa using h), fun h => rn (by simpa using h), fun h => by simp [q2_1 (by simpa using h)], fun h => by simp [q3_2 (by simpa using h)], fun h => by simp [q4_3 (by simpa using h)], fun h => by simp [q6_5 (by simpa using h)], fun h => by simp [q7_4 (by simpa using h)], fun h => by simp [q7_6 (by simpa using h)], fun h => by simp [q8_0 (by simpa using h)], fun h => by simp [q9_8 (by simpa using h)], fun h => by simp [q10_9 (by simpa using h)], fun h => by simp [q10_7 (by simpa using h)]⟩
      · simp only [List.getElem?_toArray, List.getElem?_cons_zero, List.getElem?_cons_succ, Option.some.injEq] at ho
        subst ho
        have e_1 := dep 1 (by kernel_rfl)
        obtain rfl := h1 e_1
        go_simp
        refine hK.out _ _ ⟨_, _, _, _, _, _, _, _, _, _, rfl, hk, hx, hs, hl, fun h => h0 (by simpa using h), fun _ => rfl, fun _ => rfl, fun h => h3 (by simpa using h), fun h => h4 (by simpa using h), fun h => h5 (by simpa using h), fun h h9 => h6 (by simpa using h) (by simpa using h9), fun h => h7 (by simpa using h), fun h => h8 (by simpa using h), fun h => h9 (by simpa using h), fun h => bo (by simpa using h), fun h => bn (by simpa using h), fun h => ro (by simpa using h), fun h => rn (by simpa using h), fun _ => by simp [e_1], fun h => by simp [q3_2 (by simpa using h)], fun h => by simp [q4_3 (by simpa using h)], fun h => by simp [q6_5 (by simpa using h)], fun h => by simp [q7_4 (by simpa using h)], fun h => by simp [q7_6 (by simpa using h)], fun h => by simp [q8_0 (by simpa using h)], fun h => by simp [q9_8 (by simpa using h)], fun h => by simp [q10_9 (by simpa using h)], fun h => by simp [q10_7 (by simpa using h)]⟩
      · simp only [List.getElem?_toArray, List.getElem?_cons_zero, List.getElem?_cons_succ, Option.some.injEq] at ho
        subst ho
        have e_2 := dep 2 (by kernel_rfl)
        have e_1 := q2_1 e_2
        obtain rfl := h1 e_1
        obtain rfl := h2 e_2
        go_simp
        refine hK.out _ _ ⟨_, _, _, _, _, _, _, _, _, _, rfl, hk, hx, hs, hl, fun h => h0 (by simpa using h), fun _ => rfl, fun _ => rfl, fun _ => rfl, fun h => h4 (by simpa using h), fun h => h5 (by simpa using h), fun h h9 => h6 (by simpa using h) (by simpa using h9), fun h => h7 (by simpa using h), fun h => h8 (by simpa using h), fun h => h9 (by simpa using h), fun h => bo (by simpa using h), fun h => bn (by simpa using h), fun h => ro (by simpa using h), fun h => rn (by simpa using h), fun h => by simp [q2_1 (by simpa using h)], fun _ => by simp [e_2], fun h => by simp [q4_3 (by simpa using h)], fun h => by simp [q6_5 (by simpa using h)], fun h => by simp [q7_4 (by simpa using h)], fun h => by simp [q7_6 (by simpa using h)], fun h => by simp [q8_0 (by simpa using h)], fun h => by simp [q9_8 (by simpa using h)], fun h => by simp [q10_9 (by simpa using h)], fun h => by simp [q10_7 (by simpa using h)]⟩
      · simp only [List.getElem?_toArray, List.getElem?_cons_zero, List.getElem?_cons_succ, Option.some.injEq] at ho
        subst ho
        have e_3 := dep 3 (by kernel_rfl)
        have e_2 := q3_2 e_3
        have e_1 := q2_1 e_2
        obtain rfl := h1 e_1
        obtain rfl := h2 e_2
        obtain rfl := h3 e_3
        have n10 : b 10 = false := by
          cases hb : b 10
          · rfl
          · have := q7_4 (q10_7 hb); rw [hbi] at this; cases this
        obtain ⟨d0, d1, d2, d3, d4, d5⟩ := cells_of6 (bo n10)
        go_simp
        refine hK.out _ _ ⟨_, _, _, _, _, _, _, _, _, _, rfl, hk, hx, hs, hl, fun h => h0 (by simpa using h), fun _ => rfl, fun _ => rfl, fun _ => rfl, fun _ => rfl, fun h => h5 (by simpa using h), fun h h9 => h6 (by simpa using h) (by simpa using h9), fun h => h7 (by simpa using h), fun h => h8 (by simpa using h), fun h => h9 (by simpa using h), fun h => bo (by simpa using h), fun h => bn (by simpa using h), fun h => ro (by simpa using h), fun h => rn (by simpa using h), fun h => by simp [q2_1 (by simpa using h)], fun h => by simp [q3_2 (by simpa using h)], fun _ => by simp [e_3], fun h => by simp [q6_5 (by simpa using h)], fun h => by simp [q7_4 (by simpa using h)], fun h => by simp [q7_6 (by simpa using h)], fun h => by simp [q8_0 (by simpa using h)], fun h => by simp [q9_8 (by simpa using h)], fun h => by simp [q10_9 (by simpa using h)], fun h => by simp [q10_7 (by simpa using h)]⟩
      · simp only [List.getElem?_toArray, List.getElem?_cons_zero, List.getElem?_cons_succ, Option.some.injEq] at ho
        subst ho
        obtain ⟨e0, e1, e2, e3⟩ := cells4 hx
        go_simp
        refine hK.out _ _ ⟨_, _, _, _, _, _, _, _, _, _, rfl, hk, hx, hs, hl, fun h => h0 (by simpa using h), fun h => h1 (by simpa using h), fun h => h2 (by simpa using h), fun h => h3 (by simpa using h), fun h => h4 (by simpa using h), fun _ => rfl, fun h h9 => h6 (by simpa using h) (by simpa using h9), fun h => h7 (by simpa using h), fun h => h8 (by simpa using h), fun h => h9 (by simpa using h), fun h => bo (by simpa using h), fun h => bn (by simpa using h), fun h => ro (by simpa using h), fun h => rn (by simpa using h), fun h => by simp [q2_1 (by simpa using h)], fun h => by simp [q3_2 (by simpa using h)], fun h => by simp [q4_3 (by simpa using h)], fun h => by simp [q6_5 (by simpa using h)], fun h => by simp [q7_4 (by simpa using h)], fun h => by simp [q7_6 (by simpa using h)], fun h => by simp [q8_0 (by simpa using h)], fun h => by simp [q9_8 (by simpa using h)], fun h => by simp [q10_9 (by simpa using h)], fun h => by simp [q10_7 (by simpa using h)]⟩
      · simp only [List.getElem?_toArray, List.getElem?_cons_zero, List.getElem?_cons_succ, Option.some.injEq] at ho
        subst ho
        have e_5 := dep 5 (by kernel_rfl)
        obtain rfl := h5 e_5
        have n7 : b 7 = false := by
          cases hb : b 7
          · rfl
          · have := q7_6 hb; rw [hbi] at this; cases this
        have b5 := bel1 w' (.cells #[.int .i64 (va : Int), .int .i64 (vb : Int), .int .i64 (vf : Int), .int .i64 (vo : Int)] 85)
        go_simp
        refine hK.out _ _ ⟨_, _, _, _, _, _, _, _, _, _, rfl, hk.trans (Kept.below b5 fun b hb => .inr (.inr (.inr (Nat.le_trans hk.size hb)))), (b5.block _ (heap_lt hx)).trans hx, (b5.block _ (heap_lt hs)).trans hs, Nat.lt_of_lt_of_le hl b5.size, fun h => h0 (by simpa using h), fun h => h1 (by simpa using h), fun h => h2 (by simpa using h), fun h => h3 (by simpa using h), fun h => h4 (by simpa using h), fun _ => rfl, fun _ _ => ⟨w'.heap.size, rfl, alloc_new _ _⟩, fun h => h7 (by simpa using h), fun h => h8 (by simpa using h), fun h => h9 (by simpa using h), fun h => (b5.block _ (heap_lt (bo (by simpa using h)))).trans (bo (by simpa using h)), fun h => (b5.block _ (heap_lt (bn (by simpa using h)))).trans (bn (by simpa using h)), fun h => ownsRow_keep (ro (by simpa using h)) fun k hk9 => b5.block k ((ro (by simpa using h)).lt k hk9).2, fun h => ownsRow_keep (rn (by simpa using h)) fun k hk9 => b5.block k ((rn (by simpa using h)).lt k hk9).2, fun h => by simp [q2_1 (by simpa using h)], fun h => by simp [q3_2 (by simpa using h)], fun h => by simp [q4_3 (by simpa using h)], fun _ => by simp [e_5], fun h => by simp [q7_4 (by simpa using h)], fun h => by simp [q7_6 (by simpa using h)], fun h => by simp [q8_0 (by simpa using h)], fun h => by simp [q9_8 (by simpa using h)], fun h => by simp [q10_9 (by simpa using h)], fun h => by simp [q10_7 (by simpa using h)]⟩
      · simp only [List.getElem?_toArray, List.getElem?_cons_zero, List.getElem?_cons_succ, Option.some.injEq] at ho
        subst ho
        have e_4 := dep 4 (by kernel_rfl)
        have e_6 := dep 6 (by kernel_rfl)
        have e_3 := q4_3 e_4
        have e_5 := q6_5 e_6
        have e_2 := q3_2 e_3
        have e_1 := q2_1 e_2
        obtain rfl := h1 e_1
        obtain rfl := h2 e_2
        obtain rfl := h3 e_3
        obtain rfl := h4 e_4
        obtain rfl := h5 e_5
        have n10 : b 10 = false := by
          cases hb : b 10
          · rfl
          · have := q10_7 hb; rw [hbi] at this; cases this
        obtain ⟨g4, rfl, hg4⟩ := h6 e_6 hbi
        have hro := ro hbi
        have hsz := hk.size
        have hbase := (HBS.out : base ≤ W.heap.size)
        refine step_append_lies _ (by rfl) (.tmp 35) (.tmp 37) 80 (by rfl) base 85 i0 _ 4 32 und80 hi hz0 hz1 hz2 (by rfl) (by decide) (.slice pa n pc) n _ (by rfl) hro ⟨g4, 0, none⟩ 1 1 (vcs (va, vb, vf, vo)) (by rfl) (by rfl) (World.news_of_block hg4) (by intro u hu; simp [vcs] at hu; rcases hu with rfl | rfl | rfl | rfl <;> rfl) (by decide) (by unfold maxLen; omega) (by omega) (by omega) _ rfl ?_
        intro g5 cap5 w5 hown' hgrow hat _
        have hkeep : ∀ k, (Value.slice pa n pc).ownBlock ≠ some k → k < w'.heap.size → w5.heap[k]? = w'.heap[k]? := fun k hne hl => hgrow.block k hl (fun e => hne e.symm)
        have hbo := bo n10
        have hk5 : Kept (fun k => k = sb ∨ k = se ∨ (Value.slice pa n pc).ownBlock = some k ∨ W.heap.size ≤ k) W w5 := hk.trans ⟨hgrow.os, hgrow.tape, hgrow.output, hgrow.size, fun k hF => hgrow.block k (by have : ¬ W.heap.size ≤ k := fun h => hF (.inr (.inr (.inr h))); omega) (fun e => hF (.inr (.inr (.inl e.symm))))⟩
        have hxo : (Value.slice pa n pc).ownBlock ≠ some W.heap.size := fun e => by have := HOWN2.out _ e; omega
        have hsz5 := hgrow.size
        refine hK.out _ _ ⟨_, _, _, _, _, _, _, _, _, _, rfl, hk5, (hkeep _ hxo (heap_lt hx)).trans hx, (hkeep _ (own_ne_block hro hs (by decide)) (heap_lt hs)).trans hs, by omega, fun h => h0 (by simpa using h), fun _ => rfl, fun _ => rfl, fun _ => rfl, fun _ => rfl, fun _ => rfl, fun _ h => absurd h (by simp), fun _ => ⟨_, _, rfl, fun k hk => (by simp [Value.ownBlock] at hk; subst hk; rcases hat with h | h; exact .inl h; exact .inr (by omega))⟩, fun h => h8 (by simpa using h), fun h => h9 (by simpa using h), fun _ => (hkeep _ (own_ne_block hro hbo (by decide)) (heap_lt hbo)).trans hbo, fun h => absurd h (by simp [n10]), fun h => absurd h (by simp), fun _ => hown', fun h => by simp [q2_1 (by simpa using h)], fun h => by simp [q3_2 (by simpa using h)], fun h => by simp [q4_3 (by simpa using h)], fun h => by simp [q6_5 (by simpa using h)], fun _ => by simp [e_4], fun _ => by simp [e_6], fun h => by simp [q8_0 (by simpa using h)], fun h => by simp [q9_8 (by simpa using h)], fun h => by simp [q10_9 (by simpa using h)], fun h => by simp [q10_7 (by simpa using h)]⟩
      · simp only [List.getElem?_toArray, List.getElem?_cons_zero, List.getElem?_cons_succ, Option.some.injEq] at ho
        subst ho
        have e_0 := dep 0 (by kernel_rfl)
        obtain rfl := h0 e_0
        go_simp
        refine hK.out _ _ ⟨_, _, _, _, _, _, _, _, _, _, rfl, hk, hx, hs, hl, fun _ => rfl, fun h => h1 (by simpa using h), fun h => h2 (by simpa using h), fun h => h3 (by simpa using h), fun h => h4 (by simpa using h), fun h => h5 (by simpa using h), fun h h9 => h6 (by simpa using h) (by simpa using h9), fun h => h7 (by simpa using h), fun _ => rfl, fun h => h9 (by simpa using h), fun h => bo (by simpa using h), fun h => bn (by simpa using h), fun h => ro (by simpa using h), fun h => rn (by simpa using h), fun h => by simp [q2_1 (by simpa using h)], fun h => by simp [q3_2 (by simpa using h)], fun h => by simp [q4_3 (by simpa using h)], fun h => by simp [q6_5 (by simpa using h)], fun h => by simp [q7_4 (by simpa using h)], fun h => by simp [q7_6 (by simpa using h)], fun _ => by simp [e_0], fun h => by simp [q9_8 (by simpa using h)], fun h => by simp [q10_9 (by simpa using h)], fun h => by simp [q10_7 (by simpa using h)]⟩
      · simp only [List.getElem?_toArray, List.getElem?_cons_zero, List.getElem?_cons_succ, Option.some.injEq] at ho
        subst ho
        have e_8 := dep 8 (by kernel_rfl)
        have e_0 := q8_0 e_8
        obtain rfl := h0 e_0
        obtain rfl := h8 e_8
        go_simp
        refine hK.out _ _ ⟨_, _, _, _, _, _, _, _, _, _, rfl, hk, hx, hs, hl, fun _ => rfl, fun h => h1 (by simpa using h), fun h => h2 (by simpa using h), fun h => h3 (by simpa using h), fun h => h4 (by simpa using h), fun h => h5 (by simpa using h), fun h h9 => h6 (by simpa using h) (by simpa using h9), fun h => h7 (by simpa using h), fun _ => rfl, fun _ => rfl, fun h => bo (by simpa using h), fun h => bn (by simpa using h), fun h => ro (by simpa using h), fun h => rn (by simpa using h), fun h => by simp [q2_1 (by simpa using h)], fun h => by simp [q3_2 (by simpa using h)], fun h => by simp [q4_3 (by simpa using h)], fun h => by simp [q6_5 (by simpa using h)], fun h => by simp [q7_4 (by simpa using h)], fun h => by simp [q7_6 (by simpa using h)], fun h => by simp [q8_0 (by simpa using h)], fun _ => by simp [e_8], fun h => by simp [q10_9 (by simpa using h)], fun h => by simp [q10_7 (by simpa using h)]⟩
      · simp only [List.getElem?_toArray, List.getElem?_cons_zero, List.getElem?_cons_succ, Option.some.injEq] at ho
        subst ho
        have e_9 := dep 9 (by kernel_rfl)
        have e_7 := dep 7 (by kernel_rfl)
        have e_8 := q9_8 e_9
        have e_4 := q7_4 e_7
        have e_6 := q7_6 e_7
        have e_0 := q8_0 e_8
        have e_3 := q4_3 e_4
        have e_5 := q6_5 e_6
        have e_2 := q3_2 e_3
        have e_1 := q2_1 e_2
        obtain rfl := h0 e_0
        obtain rfl := h1 e_1
        obtain rfl := h2 e_2
        obtain rfl := h3 e_3
        obtain rfl := h4 e_4
        obtain rfl := h5 e_5
        obtain rfl := h8 e_8
        obtain rfl := h9 e_9
        have hbo := bo hbi
        obtain ⟨d0, d1, d2, d3, d4, d5⟩ := cells_of6 hbo
        have f1 := Go.Frame.free hbo 4
        obtain ⟨a7, c7, rfl, hA7⟩ := h7 e_7
        have hrn := rn e_7
        go_simp
        refine hK.out _ _ ⟨_, _, _, _, _, _, _, _, _, _, rfl, hk.setCell (p := ⟨sb, 4, none⟩) (.inl rfl) _, blk_set hx HNE.out.1, blk_set hs HNE.out.2, by simpa using hl, fun _ => rfl, fun _ => rfl, fun _ => rfl, fun _ => rfl, fun _ => rfl, fun _ => rfl, fun _ h => absurd h (by simp [e_7]), fun _ => ⟨_, _, rfl, hA7⟩, fun _ => rfl, fun _ => rfl, fun h => absurd h (by simp), fun _ => (blk_put hbo).trans rfl, fun h => absurd h (by simp [e_7]), fun _ => ownsRow_keep hrn fun k hk9 => heap_setCell_other _ _ _ _ (fun e => own_ne_block hrn hbo (by decide) ((show k = sb from e) ▸ hk9)), fun h => by simp [q2_1 (by simpa using h)], fun h => by simp [q3_2 (by simpa using h)], fun h => by simp [q4_3 (by simpa using h)], fun h => by simp [q6_5 (by simpa using h)], fun h => by simp [q7_4 (by simpa using h)], fun h => by simp [q7_6 (by simpa using h)], fun h => by simp [q8_0 (by simpa using h)], fun h => by simp [q9_8 (by simpa using h)], fun _ => by simp [e_9], fun _ => by simp [e_7]⟩
    case done =>
      rintro b a' w' ⟨v31, v32, v33, v34, v35, v36, v37, v38, v39, v40, rfl, hk, hx, hs, hl, h0, h1, h2, h3, h4, h5, h6, h7, h8, h9, bo, bn, ro, rn, q2_1, q3_2, q4_3, q6_5, q7_4, q7_6, q8_0, q9_8, q10_9, q10_7⟩ hall
      obtain rfl := h0 (hall 0)
      obtain rfl := h1 (hall 1)
      obtain rfl := h2 (hall 2)
      obtain rfl := h3 (hall 3)
      obtain rfl := h4 (hall 4)
      obtain rfl := h5 (hall 5)
      obtain rfl := h8 (hall 8)
      obtain rfl := h9 (hall 9)
      obtain ⟨a7, c7, rfl, hA7⟩ := h7 (hall 7)
      have HD := hid (And.intro (bn (hall 10)) (And.intro (rn (hall 7)) (And.intro hk (And.intro hs hA7))))
      clear h0 h1 h2 h3 h4 h5 h6 h7 h8 h9 bo bn ro rn hk hx hs hl hA7 hall
      have HR := hid (show SS base w' sb se N P t (addV P V (va, vb, vf, vo)) (.slice a7 (n + 1) c7) from by
        have hb9 : base ≤ sb ∧ base ≤ se := ⟨HS.out.1.osb, HS.out.1.ose⟩
        unfold addV
        dsimp only
        rw [if_neg (by rw [← HS.out.2.2.2.2, HI.out]; simp)]
        refine ⟨HD.out.1, ?_, HD.out.2.2.2.1, hb9.1, hb9.2⟩
        rw [List.length_append, ← HN.out, vcs_snoc]
        exact HD.out.2.1)
      go_wp2_with fail
      go_end0
      exact ⟨rfl, _, HR.out, HD.out.2.2.1, HD.out.2.2.2.2⟩
    case init =>
      exact ⟨_, _, _, _, _, _, _, _, _, _, rfl, HK0.out.1.trans (Kept.below (Below.refl _ _).drew fun b hb => .inr (.inr (.inr (Nat.le_trans HK0.out.1.size hb)))), HK0.out.2.1, HK0.out.2.2.1, HK0.out.2.2.2.1, fun h => absurd h (by simp), fun h => absurd h (by simp), fun h => absurd h (by simp), fun h => absurd h (by simp), fun h => absurd h (by simp), fun h => absurd h (by simp), fun h => absurd h (by simp), fun h => absurd h (by simp), fun h => absurd h (by simp), fun h => absurd h (by simp), fun _ => HK0.out.2.2.2.2.1, fun h => absurd h (by simp), fun _ => HK0.out.2.2.2.2.2, fun h => absurd h (by simp), fun h => absurd h (by simp), fun h => absurd h (by simp), fun h => absurd h (by simp), fun h => absurd h (by simp), fun h => absurd h (by simp), fun h => absurd h (by simp), fun h => absurd h (by simp), fun h => absurd h (by simp), fun h => absurd h (by simp), fun h => absurd h (by simp)⟩
end Go.Proofs.Ytelbagaiijffdaa
