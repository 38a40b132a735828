/-
  Contract: newMachine (no silent moves, arcs in order).
-/
import Derived.Test.YtogpnlkjcdedlaaDoorMb
import Derived.Test.YtogpnlkjcdedlaaDoorIv
set_option linter.unusedSimpArgs false
set_option linter.unusedVariables false
namespace Go.Proofs.YtogpnlkjcdedlaaDoor
open Go.RowKit Bs Rg Nf Go.Frame
attribute [local go_sem] eq_zero eq_set

theorem info23 : (Tryd.prog.info? 23).map (fun i => (i.zero, i.size, i.bytes)) = some (some (.slice none 0 0), 1, 24) := by kernel_rfl
set_option maxRecDepth 100000 in
theorem make_sil (n : Nat) (hn : n ≤ 1000000) (w : World) :
    (Instr.makeSlice 95 (.int .i64 (n : Int)) (.int .i64 (n : Int))).run Tryd.prog w = .ok (.slice (some ⟨w.heap.size, 0, none⟩) n n) (w.alloc (.cells (List.replicate n (.slice none 0 0)).toArray 23)) := by
  obtain ⟨i, hi, h0, h1, h2⟩ := info_parts info23
  have := run_make (P := Tryd.prog) w 95 23 i _ Tryd.underlying95 hi h0 .i64 .i64 n n (by omega) (Int.le_refl _) (by rw [h2]; omega) (by omega)
  rw [h1, show (Value.slice none 0 0).cells = #[.slice none 0 0] by kernel_rfl] at this
  rw [← made_one]
  simpa using this
/-- What arcsByFrom answers. -/
def BF (w : World) (N : Nfa) (n : Nat) (v : Value) (w' : World) : Prop := ∃ AB, v = .slice (some ⟨AB, 0, none⟩) n n ∧ w.heap.size ≤ AB ∧ (∃ vs : List Value, w'.heap[AB]? = some (.cells vs.toArray 22 (0, 0))) ∧ ∀ x, x < n → ∃ v, w'.cell? ⟨AB, x, none⟩ = some v ∧ RW w' v N.arcs x fun b => b < w'.heap.size
theorem BF.below {w W W' : World} {N : Nfa} {n : Nat} {v : Value} (h : BF w N n v W) (hb : Below W.heap.size W W') : BF w N n v W' := by
  obtain ⟨AB, h1, h2, ⟨vs, h3⟩, h4⟩ := h
  refine ⟨AB, h1, h2, ⟨vs, (hb.block _ (heap_lt h3)).trans h3⟩, fun x hx => ?_⟩
  obtain ⟨u, h5, h6⟩ := h4 x hx
  exact ⟨u, (World.cell?_of_block (hb.block AB (heap_lt h3))).trans h5, (h6.below hb).more fun b hb' => Nat.lt_of_lt_of_le hb' hb.size⟩
/-- What newMachine answers. -/
def NMO (w : World) (N : Nfa) (n : Nat) (v : Value) (w' : World) : Prop := ∃ mb ab sb K ca cs, v = .pointer (some ⟨mb, 0, none⟩) ∧ MC (fun _ => True) w' mb ab sb K ca cs N n ∧ w.heap.size ≤ K
theorem cell_cells {W : World} {b j : Nat} {v : Value} {es : Array MapEntry} {ck : Nat} (h : W.cell? ⟨b, j, none⟩ = some v) : W.heap[b]? ≠ some (.map es ck) := by
  intro e
  simp [World.cell?, e] at h
set_option maxRecDepth 100000 in
set_option maxHeartbeats 4000000 in
theorem newMachine_plain (w : World) (N : Nfa) (n : Nat) (hv : Vn N n) (a1 a2 : Option Addr) (m c1 k c2 : Nat) (hmc : m ≤ c1) (hcc : c1 ≤ 9223372036854775807) (hnil : a1 = none → c1 = 0) (h : NA w N a1 m a2 k) (hs : Srt N.arcs) (hpl : ∀ a ∈ N.arcs, a.e = false) :
    Calls Tryd.prog 36 #[.agg #[.int .i64 N.n, .int .i64 N.st, .slice a1 m c1, .slice a2 k c2]] w fun e w' => (∃ v, e = .returned v ∧ NMO w N n v w') ∧ Below w.heap.size w w' := by
  obtain ⟨nn, st, arcs, acc⟩ := N
  obtain rfl : nn = (n : Int) := hv.hn
  have hn := hv.le
  have CBF := hid (fun V (hV : Below w.heap.size w V) => byFrom_sorted V ⟨(n : Int), st, arcs, acc⟩ n hv a1 a2 m c1 k c2 hmc hcc hnil (h.below hV) hs)
  obtain ⟨W, hW⟩ : ∃ W, W = w.alloc (.cells #[.int .i64 (n : Int), .int .i64 st, .slice a1 m c1, .slice a2 k c2] 25) := ⟨_, rfl⟩
  have HB := hid (show Below w.heap.size w W from by rw [hW]; exact bel1 _ _)
  have HW := hid (show W.heap[w.heap.size]? = some (.cells #[.int .i64 (n : Int), .int .i64 st, .slice a1 m c1, .slice a2 k c2] 25 (0, 0)) from by rw [hW]; exact alloc_new _ _)
  have HA := hid (And.intro h.arcs (And.intro h.hm (And.intro hv (And.intro hs hpl))))
  have hm := h.hm
  clear h hv hs hpl
  go_enter Tryd.func36, Tryd.ntmps36
  go_upto_region 1 with fail
  rw [← hW]
  clear hW
  refine region_inv (fun b a' w' => ∃ (v3 v6 v7 v8 v9 v10 v11 v12 v13 : Value) (sb km mb : Nat), a' = { tmps := #[.agg #[.int .i64 (n : Int), .int .i64 st, .slice a1 m c1, .slice a2 k c2], .pointer (some ⟨w.heap.size, 0, none⟩), .pointer none, v3, undef, undef, v6, v7, v8, v9, v10, v11, v12, v13, undef, undef, undef, undef, undef, undef, undef, undef, undef, undef, undef, undef, undef, undef, undef, undef, undef, undef, undef, undef, undef, undef, undef, undef, undef, undef, undef, undef, undef, undef], defers := [] } ∧ Below w.heap.size w w' ∧ w'.heap[w.heap.size]? = some (.cells #[.int .i64 (n : Int), .int .i64 st, .slice a1 m c1, .slice a2 k c2] 25 (0, 0)) ∧ (b 0 = true → v6 = .agg #[.int .i64 (n : Int), .int .i64 st, .slice a1 m c1, .slice a2 k c2]) ∧ (b 1 = true → BF w ⟨(n : Int), st, arcs, acc⟩ n v7 w') ∧ (b 2 = true → v8 = .pointer (some ⟨w.heap.size, 0, none⟩)) ∧ (b 3 = true → v9 = .int .i64 (n : Int)) ∧ (b 4 = true → v10 = .slice (some ⟨sb, 0, none⟩) n n ∧ w'.heap[sb]? = some (.cells (List.replicate n (.slice none 0 0)).toArray 23 (0, 0))) ∧ (b 5 = true → v11 = .map (some km) ∧ w'.heap[km]? = some (.map #[] 0) ∧ w.heap.size ≤ km) ∧ (b 6 = true → ∃ AB, v7 = .slice (some ⟨AB, 0, none⟩) n n ∧ v12 = .agg #[.slice (some ⟨AB, 0, none⟩) n n, .slice (some ⟨sb, 0, none⟩) n n, .map (some km)]) ∧ (b 7 = true → v13 = .pointer (some ⟨mb, 0, none⟩) ∧ ∃ AB, v7 = .slice (some ⟨AB, 0, none⟩) n n ∧ w'.heap[mb]? = some (.cells #[.slice (some ⟨AB, 0, none⟩) n n, .slice (some ⟨sb, 0, none⟩) n n, .map (some km)] 98 (0, 0))) ∧ (b 8 = true → v3 = .pointer (some ⟨mb, 0, none⟩)) ∧ (b 6 = true → b 1 = true) ∧ (b 6 = true → b 4 = true) ∧ (b 6 = true → b 5 = true) ∧ (b 7 = true → b 6 = true) ∧ (b 8 = true → b 7 = true)) (by kernel_rfl) (back_of (by kernel_rfl)) ?step ?done ?init
  case step =>
    rintro b a' w' i o ho ⟨v3, v6, v7, v8, v9, v10, v11, v12, v13, sb, km, mb, rfl, hb, hx, h0, h1, h2, h3, h4, h5, h6, h7, h8, q61, q64, q65, q76, q87⟩ hbi hd K hK
    have hlt : i < 9 := by have := (Array.getElem?_eq_some_iff.1 ho).1; simpa using this
    have dep : ∀ k, (o.after.any fun e => Region.binds .any e && e.on == k) = true → b k = true := fun k hk => by
      obtain ⟨e, he, h⟩ := Array.any_eq_true'.1 hk
      simp only [Bool.and_eq_true, beq_iff_eq] at h
      rw [← h.2]; exact hd e he h.1
    clear hd
    have hi : i = 0 ∨ i = 1 ∨ i = 2 ∨ i = 3 ∨ i = 4 ∨ i = 5 ∨ i = 6 ∨ i = 7 ∨ i = 8 := by omega
    clear hlt
    rcases hi with rfl | rfl | rfl | rfl | rfl | rfl | rfl | rfl | rfl
    · simp only [List.getElem?_toArray, List.getElem?_cons_zero, List.getElem?_cons_succ, Option.some.injEq] at ho
      subst ho
      obtain ⟨d0, d1, d2, d3⟩ := cells4 hx
      go_simp
      refine hK.out _ _ ⟨_, _, _, _, _, _, _, _, _, sb, km, mb, rfl, hb, hx, fun _ => rfl, fun h => h1 (by simpa using h), fun h => h2 (by simpa using h), fun h => h3 (by simpa using h), fun h => h4 (by simpa using h), fun h => h5 (by simpa using h), fun h => h6 (by simpa using h), fun h => h7 (by simpa using h), fun h => h8 (by simpa using h), fun h => by simp [q61 (by simpa using h)], fun h => by simp [q64 (by simpa using h)], fun h => by simp [q65 (by simpa using h)], fun h => by simp [q76 (by simpa using h)], fun h => by simp [q87 (by simpa using h)]⟩
    · simp only [List.getElem?_toArray, List.getElem?_cons_zero, List.getElem?_cons_succ, Option.some.injEq] at ho
      subst ho
      obtain rfl := h0 (dep 0 (by kernel_rfl))
      have CB := hid (CBF.out w' hb)
      go_simp
      refine CB.out.mono ?_
      rintro e W5 ⟨⟨AB, rfl, g1, g2, g3, g4⟩, b5⟩
      refine hK.out _ _ ⟨_, _, _, _, _, _, _, _, _, sb, km, mb, rfl, hb.trans (b5.mono hb.size), (b5.block _ (heap_lt hx)).trans hx, fun _ => rfl, fun _ => ⟨AB, rfl, Nat.le_trans hb.size g1, g3, g4⟩, fun h => h2 (by simpa using h), fun h => h3 (by simpa using h), fun h => ⟨(h4 (by simpa using h)).1, (b5.block _ (heap_lt (h4 (by simpa using h)).2)).trans (h4 (by simpa using h)).2⟩, fun h => ⟨(h5 (by simpa using h)).1, (b5.block _ (heap_lt (h5 (by simpa using h)).2.1)).trans (h5 (by simpa using h)).2.1, (h5 (by simpa using h)).2.2⟩, fun h => (by have := q61 (by simpa using h); rw [hbi] at this; cases this), fun h => (by have := q61 (q76 (by simpa using h)); rw [hbi] at this; cases this), fun h => h8 (by simpa using h), fun _ => by simp, fun h => by simp [q64 (by simpa using h)], fun h => by simp [q65 (by simpa using h)], fun h => by simp [q76 (by simpa using h)], fun h => by simp [q87 (by simpa using h)]⟩
    · simp only [List.getElem?_toArray, List.getElem?_cons_zero, List.getElem?_cons_succ, Option.some.injEq] at ho
      subst ho
      go_simp
      refine hK.out _ _ ⟨_, _, _, _, _, _, _, _, _, sb, km, mb, rfl, hb, hx, fun h => h0 (by simpa using h), fun h => h1 (by simpa using h), fun _ => rfl, fun h => h3 (by simpa using h), fun h => h4 (by simpa using h), fun h => h5 (by simpa using h), fun h => h6 (by simpa using h), fun h => h7 (by simpa using h), fun h => h8 (by simpa using h), fun h => by simp [q61 (by simpa using h)], fun h => by simp [q64 (by simpa using h)], fun h => by simp [q65 (by simpa using h)], fun h => by simp [q76 (by simpa using h)], fun h => by simp [q87 (by simpa using h)]⟩
    · simp only [List.getElem?_toArray, List.getElem?_cons_zero, List.getElem?_cons_succ, Option.some.injEq] at ho
      subst ho
      obtain rfl := h2 (dep 2 (by kernel_rfl))
      obtain ⟨d0, d1, d2, d3⟩ := cells4 hx
      go_simp
      refine hK.out _ _ ⟨_, _, _, _, _, _, _, _, _, sb, km, mb, rfl, hb, hx, fun h => h0 (by simpa using h), fun h => h1 (by simpa using h), fun _ => rfl, fun _ => rfl, fun h => h4 (by simpa using h), fun h => h5 (by simpa using h), fun h => h6 (by simpa using h), fun h => h7 (by simpa using h), fun h => h8 (by simpa using h), fun h => by simp [q61 (by simpa using h)], fun h => by simp [q64 (by simpa using h)], fun h => by simp [q65 (by simpa using h)], fun h => by simp [q76 (by simpa using h)], fun h => by simp [q87 (by simpa using h)]⟩
    · simp only [List.getElem?_toArray, List.getElem?_cons_zero, List.getElem?_cons_succ, Option.some.injEq] at ho
      subst ho
      obtain rfl := h3 (dep 3 (by kernel_rfl))
      have mk := make_sil n (by have := hn; omega) w'
      have b5 := bel1 w' (.cells (List.replicate n (.slice none 0 0)).toArray 23)
      go_simp
      refine hK.out _ _ ⟨_, _, _, _, _, _, _, _, _, w'.heap.size, km, mb, rfl, hb.trans (b5.mono hb.size), (b5.block _ (heap_lt hx)).trans hx, fun h => h0 (by simpa using h), fun h => (h1 (by simpa using h)).below b5, fun h => h2 (by simpa using h), fun _ => rfl, fun _ => ⟨rfl, alloc_new _ _⟩, fun h => ⟨(h5 (by simpa using h)).1, (b5.block _ (heap_lt (h5 (by simpa using h)).2.1)).trans (h5 (by simpa using h)).2.1, (h5 (by simpa using h)).2.2⟩, fun h => (by have := q64 (by simpa using h); rw [hbi] at this; cases this), fun h => (by have := q64 (q76 (by simpa using h)); rw [hbi] at this; cases this), fun h => h8 (by simpa using h), fun h => by simp [q61 (by simpa using h)], fun _ => by simp, fun h => by simp [q65 (by simpa using h)], fun h => by simp [q76 (by simpa using h)], fun h => by simp [q87 (by simpa using h)]⟩
    · simp only [List.getElem?_toArray, List.getElem?_cons_zero, List.getElem?_cons_succ, Option.some.injEq] at ho
      subst ho
      have b5 := bel1 w' (.map #[] 0)
      go_simp
      refine hK.out _ _ ⟨_, _, _, _, _, _, _, _, _, sb, w'.heap.size, mb, rfl, hb.trans (b5.mono hb.size), (b5.block _ (heap_lt hx)).trans hx, fun h => h0 (by simpa using h), fun h => (h1 (by simpa using h)).below b5, fun h => h2 (by simpa using h), fun h => h3 (by simpa using h), fun h => ⟨(h4 (by simpa using h)).1, (b5.block _ (heap_lt (h4 (by simpa using h)).2)).trans (h4 (by simpa using h)).2⟩, fun _ => ⟨rfl, alloc_new _ _, hb.size⟩, fun h => (by have := q65 (by simpa using h); rw [hbi] at this; cases this), fun h => (by have := q65 (q76 (by simpa using h)); rw [hbi] at this; cases this), fun h => h8 (by simpa using h), fun h => by simp [q61 (by simpa using h)], fun h => by simp [q64 (by simpa using h)], fun _ => by simp, fun h => by simp [q76 (by simpa using h)], fun h => by simp [q87 (by simpa using h)]⟩
    · simp only [List.getElem?_toArray, List.getElem?_cons_zero, List.getElem?_cons_succ, Option.some.injEq] at ho
      subst ho
      obtain ⟨AB, rfl, g2, g3, g4⟩ := h1 (dep 1 (by kernel_rfl))
      obtain ⟨rfl, u4⟩ := h4 (dep 4 (by kernel_rfl))
      obtain ⟨rfl, u5, u6⟩ := h5 (dep 5 (by kernel_rfl))
      have e1 := dep 1 (by kernel_rfl)
      have e4 := dep 4 (by kernel_rfl)
      have e5 := dep 5 (by kernel_rfl)
      go_simp
      refine hK.out _ _ ⟨_, _, _, _, _, _, _, _, _, sb, km, mb, rfl, hb, hx, fun h => h0 (by simpa using h), fun _ => ⟨AB, rfl, g2, g3, g4⟩, fun h => h2 (by simpa using h), fun h => h3 (by simpa using h), fun _ => ⟨rfl, u4⟩, fun _ => ⟨rfl, u5, u6⟩, fun _ => ⟨AB, rfl, rfl⟩, fun h => h7 (by simpa using h), fun h => h8 (by simpa using h), fun _ => by simp [e1], fun _ => by simp [e4], fun _ => by simp [e5], fun _ => by simp, fun h => by simp [q87 (by simpa using h)]⟩
    · simp only [List.getElem?_toArray, List.getElem?_cons_zero, List.getElem?_cons_succ, Option.some.injEq] at ho
      subst ho
      have e6 := dep 6 (by kernel_rfl)
      obtain ⟨AB, rfl, rfl⟩ := h6 e6
      obtain ⟨rfl, u4⟩ := h4 (q64 e6)
      obtain ⟨rfl, u5, u6⟩ := h5 (q65 e6)
      have HH1 := h1 (q61 e6)
      have b5 := bel1 w' (.cells #[.slice (some ⟨AB, 0, none⟩) n n, .slice (some ⟨sb, 0, none⟩) n n, .map (some km)] 98)
      go_simp
      refine hK.out _ _ ⟨_, _, _, _, _, _, _, _, _, sb, km, w'.heap.size, rfl, hb.trans (b5.mono hb.size), (b5.block _ (heap_lt hx)).trans hx, fun h => h0 (by simpa using h), fun _ => HH1.below b5, fun h => h2 (by simpa using h), fun h => h3 (by simpa using h), fun _ => ⟨rfl, (b5.block _ (heap_lt u4)).trans u4⟩, fun _ => ⟨rfl, (b5.block _ (heap_lt u5)).trans u5, u6⟩, fun _ => ⟨AB, rfl, rfl⟩, fun _ => ⟨rfl, AB, rfl, alloc_new _ _⟩, fun h => (by have := q87 (by simpa using h); rw [hbi] at this; cases this), fun h => by simp [q61 (by simpa using h)], fun h => by simp [q64 (by simpa using h)], fun h => by simp [q65 (by simpa using h)], fun _ => by simp [e6], fun _ => by simp⟩
    · simp only [List.getElem?_toArray, List.getElem?_cons_zero, List.getElem?_cons_succ, Option.some.injEq] at ho
      subst ho
      have e7 := dep 7 (by kernel_rfl)
      obtain ⟨rfl, g7⟩ := h7 e7
      go_simp
      refine hK.out _ _ ⟨_, _, _, _, _, _, _, _, _, sb, km, mb, rfl, hb, hx, fun h => h0 (by simpa using h), fun h => h1 (by simpa using h), fun h => h2 (by simpa using h), fun h => h3 (by simpa using h), fun h => h4 (by simpa using h), fun h => h5 (by simpa using h), fun h => h6 (by simpa using h), fun _ => ⟨rfl, g7⟩, fun _ => rfl, fun h => by simp [q61 (by simpa using h)], fun h => by simp [q64 (by simpa using h)], fun h => by simp [q65 (by simpa using h)], fun h => by simp [q76 (by simpa using h)], fun _ => by simp [e7]⟩
  case done =>
    rintro b a' w' ⟨v3, v6, v7, v8, v9, v10, v11, v12, v13, sb, km, mb, rfl, hb, hx, h0, h1, h2, h3, h4, h5, h6, h7, h8, q61, q64, q65, q76, q87⟩ hall
    obtain rfl := h0 (hall 0)
    obtain ⟨AB, rfl, g2, g3, g4⟩ := h1 (hall 1)
    obtain rfl := h2 (hall 2)
    obtain rfl := h3 (hall 3)
    obtain ⟨rfl, u4⟩ := h4 (hall 4)
    obtain ⟨rfl, u5, u6⟩ := h5 (hall 5)
    obtain ⟨AB', e9, rfl⟩ := h6 (hall 6)
    simp only [Value.slice.injEq, Option.some.injEq, Addr.mk.injEq, and_true] at e9
    subst e9
    obtain ⟨rfl, AB', e9, u7⟩ := h7 (hall 7)
    simp only [Value.slice.injEq, Option.some.injEq, Addr.mk.injEq, and_true] at e9
    subst e9
    obtain rfl := h8 (hall 8)
    obtain ⟨vsA, g3⟩ := g3
    have nk : ∀ {B : Nat} {c : Array Value} {t : TypeId}, w'.heap[B]? = some (.cells c t (0, 0)) → B ≠ km := fun hB e => by rw [e, u5] at hB; simp at hB
    have hvn := HA.out.2.2.1
    have hMC : MC (fun _ => True) w' mb AB sb km n n ⟨(n : Int), st, arcs, acc⟩ n := by
      refine ⟨u7, fun x hx => ?_, fun x hx => ?_, ⟨[], [], ⟨rfl, #[], 0, u5, rfl, rfl⟩, fun j p hj => by simp at hj⟩, ⟨trivial, nk u7⟩, ⟨trivial, nk g3, heap_lt g3⟩, ⟨trivial, nk u4, heap_lt u4⟩, heap_lt u5, hvn⟩
      · obtain ⟨v, p1, a, kk, c, r, rfl, p2, p3, p4, p5⟩ := g4 x hx
        refine ⟨a, kk, c, r, p1, p2, p3, p4, fun h0 b9 off e => ⟨trivial, ?_⟩⟩
        rcases p2.2 with h | ⟨b', off', e', hb', hc'⟩
        · exact absurd h h0
        · rw [e] at e'
          simp at e'
          obtain ⟨rfl, rfl⟩ := e'
          have hr : r.length = kk := by have := p2.1; simpa using this
          obtain ⟨z, hz⟩ : ∃ z, r[0]? = some z := ⟨r[0]'(by omega), List.getElem?_eq_getElem _⟩
          have := hc' 0 (acs z) (by rw [List.getElem?_map, hz]; rfl) 0 _ rfl
          exact fun e2 => cell_cells this (e2 ▸ u5)
      · refine ⟨none, 0, 0, [], ?_, ⟨rfl, .inl rfl⟩, by omega, fun y => ⟨fun h => by simp at h, fun ⟨z, hz, he, _⟩ => by have := HA.out.2.2.2.2 z hz; rw [this] at he; cases he⟩, fun h0 => absurd rfl h0⟩
        simp only [World.cell?, u4]
        simp [hx]
    have HMC := hid (And.intro hMC (And.intro u6 (And.intro hb hx)))
    have HR := hid (HA.out.1.below hb)
    clear hMC u6 g2 g3 g4 u4 u5 u7 h1 h4 h5 h6 h7 q61 q64 q65 q76 q87 nk hb
    obtain ⟨d0, d1, d2, d3⟩ := cells4 hx
    clear hx
    dsimp only
    go_wp2_with fail
    obtain ⟨w5, hw5⟩ : ∃ w5, w5 = w' := ⟨_, rfl⟩
    rw [← hw5] at HMC HR ⊢
    clear hw5
    go_loopg [17] m (fun kk s17 wr => ∃ i : Nat, s17 = .int .i64 (i : Int) ∧ i + kk = m ∧ Below w5.heap.size w5 wr)
    case atStart => exact ⟨0, rfl, by omega, Below.refl _ _⟩
    case round =>
      obtain ⟨i, rfl, hik, hbw⟩ := hrel
      by_cases hlt : i < m
      · have hlt' : (i : Int) < (m : Int) := by omega
        obtain ⟨b0, off, f, t, ee, s, rfl, hbl, ha, q0, q1, q2, q3, q4, q5, q6⟩ := arc_at (HR.out.below hbw) hlt
        obtain rfl : ee = false := HA.out.2.2.2.2 _ (List.mem_of_getElem? ha)
        obtain ⟨V, hV⟩ : ∃ V, V = wr.alloc (.cells #[.int .i64 f, .int .i64 t, .bool false, .int .u64 (ws s 0 : Int), .int .u64 (ws s 1 : Int), .int .u64 (ws s 2 : Int), .int .u64 (ws s 3 : Int)] 55) := ⟨_, rfl⟩
        have HV := hid (show V.heap[wr.heap.size]? = some (.cells #[.int .i64 f, .int .i64 t, .bool false, .int .u64 (ws s 0 : Int), .int .u64 (ws s 1 : Int), .int .u64 (ws s 2 : Int), .int .u64 (ws s 3 : Int)] 55 (0, 0)) ∧ Below w5.heap.size w5 V from ⟨by rw [hV]; exact alloc_new _ _, hbw.trans ((by rw [hV]; exact bel1 _ _ : Below wr.heap.size wr V).mono hbw.size)⟩)
        clear hbw hbl ha
        go_upto_region 5 with fail
        rw [← hV]
        clear hV q0 q1 q2 q3 q4 q5 q6
        obtain ⟨e0, e1, e2, e3, e4, e5, e6⟩ := cells7a HV.out.1
        go_wp2
        go_roundg (gk - 1)
        case measure => omega
        case rel => exact ⟨i + 1, by go_num, by omega, HV.out.2⟩
      · have hlt' : ¬ (i : Int) < (m : Int) := by omega
        have HX := hid hbw
        clear hbw
        go_wp2
        go_ret
        exact ⟨⟨_, rfl, mb, AB, sb, km, n, n, rfl, HMC.out.1.below HX.out, HMC.out.2.1⟩, HMC.out.2.2.1.trans (HX.out.mono HMC.out.2.2.1.size)⟩
  case init =>
    exact ⟨_, _, _, _, _, _, _, _, _, 0, 0, 0, rfl, HB.out.drew, HW.out, fun h => absurd h (by simp), fun h => absurd h (by simp), fun h => absurd h (by simp), fun h => absurd h (by simp), fun h => absurd h (by simp), fun h => absurd h (by simp), fun h => absurd h (by simp), fun h => absurd h (by simp), fun h => absurd h (by simp), fun h => absurd h (by simp), fun h => absurd h (by simp), fun h => absurd h (by simp), fun h => absurd h (by simp), fun h => absurd h (by simp)⟩
end Go.Proofs.YtogpnlkjcdedlaaDoor
