/-
  Contract: newMachine, whatever the automaton.
-/
import Derived.Test.YtogpnlkjcdedlaaDoorZ17
import Derived.Test.YtogpnlkjcdedlaaDoorZ07
import Derived.Test.YtogpnlkjcdedlaaDoorZ01
import Derived.Test.YtogpnlkjcdedlaaDoorZ11
section
set_option linter.unusedSimpArgs false
set_option linter.unusedVariables false
namespace Go.Proofs.YtogpnlkjcdedlaaDoor
open Go.RowKit Bs Rg Nf Go.Frame
attribute [local go_sem] eq_zero eq_set

theorem sil_ne {W : World} {sb n b j : Nat} {v : Int} (h : W.heap[sb]? = some (.cells (List.replicate n (.slice none 0 0)).toArray 23 (0, 0))) (hc : W.cell? ⟨b, j, none⟩ = some (.int .i64 v)) : b ≠ sb := by
  rintro rfl
  simp only [World.cell?, h] at hc
  have hc : (Array.replicate n (Value.slice none 0 0))[j]? = some (.int .i64 v) := by simpa using hc
  rw [Array.getElem?_replicate] at hc
  split at hc
  · simp at hc
  · cases hc
theorem row_first {W : World} {a : Option Addr} {k b off : Nat} {l : List Arc} (h : CRow 7 W a k (l.map acs)) (h0 : k ≠ 0) (e : a = some ⟨b, off, none⟩) : ∃ v : Int, W.cell? ⟨b, off, none⟩ = some (.int .i64 v) := by
  obtain ⟨b', off', f, t, ee, s, e', _, _, q0, _⟩ := arc_at h (i := 0) (by omega)
  rw [e] at e'
  simp at e'
  obtain ⟨rfl, rfl⟩ := e'
  rw [show off + 0 * 7 = off by omega] at q0
  exact ⟨f, q0⟩
/-- The silent rows under way: where the silent arcs of A lead. -/
structure SI (W : World) (base sb n : Nat) (A : List Arc) (vs : List Value) : Prop where
  blk : W.heap[sb]? = some (.cells vs.toArray 23 (0, 0))
  len : vs.length = n
  rows : ∀ x, x < n → ∃ (L : List Nat) (v : Value), vs[x]? = some v ∧ W.ownsRow base 3 1 v L.length (ints L) ∧ L.length ≤ A.length ∧ ∀ y : Nat, y ∈ L ↔ ∃ a ∈ A, a.e = true ∧ a.f = (x : Int) ∧ a.t = (y : Int)
  apart : ∀ (x x' : Nat) (v v' : Value) (k : Nat), x ≠ x' → vs[x]? = some v → vs[x']? = some v' → v.ownBlock = some k → v'.ownBlock ≠ some k
theorem SI.own {W : World} {base sb n : Nat} {A : List Arc} {vs : List Value} (h : SI W base sb n A vs) {x : Nat} {v : Value} (hx : vs[x]? = some v) : ∃ L : List Nat, W.ownsRow base 3 1 v L.length (ints L) := by
  have hl : x < n := by have := (List.getElem?_eq_some_iff.1 hx).1; have := h.len; omega
  obtain ⟨L, v', h1, h2, _⟩ := h.rows x hl
  rw [hx] at h1
  simp only [Option.some.injEq] at h1
  subst h1
  exact ⟨L, h2⟩
theorem SI.kept {F : Nat → Prop} {W W' : World} {base sb n : Nat} {A : List Arc} {vs : List Value} (h : SI W base sb n A vs) (hk : Kept F W W') (hs : ¬ F sb) (hr : ∀ (x : Nat) (v : Value) (k : Nat), vs[x]? = some v → v.ownBlock = some k → ¬ F k) : SI W' base sb n A vs := by
  refine ⟨(hk.block sb hs).trans h.blk, h.len, fun x hx => ?_, h.apart⟩
  obtain ⟨L, v, h1, h2, h3⟩ := h.rows x hx
  exact ⟨L, v, h1, own_kept h2 hk fun k hk' => hr x v k h1 hk', h3⟩
theorem SI.below {W W' : World} {base sb n : Nat} {A : List Arc} {vs : List Value} (h : SI W base sb n A vs) (hb : Below W.heap.size W W') : SI W' base sb n A vs :=
  h.kept (F := fun b => W.heap.size ≤ b) (Kept.below hb fun _ hb => hb) (by have := heap_lt h.blk; omega) fun x v k hx hk hF => by
    obtain ⟨L, h2⟩ := h.own hx
    have := (h2.lt k hk).2; omega
theorem SI.skip {W : World} {base sb n : Nat} {A : List Arc} {vs : List Value} (h : SI W base sb n A vs) {a : Arc} (ha : a.e = false) : SI W base sb n (A ++ [a]) vs := by
  refine ⟨h.blk, h.len, fun x hx => ?_, h.apart⟩
  obtain ⟨L, v, h1, h2, h3, h4⟩ := h.rows x hx
  refine ⟨L, v, h1, h2, by simp; omega, fun y => ?_⟩
  rw [h4 y]
  constructor
  · rintro ⟨z, hz, h5⟩; exact ⟨z, by simp [hz], h5⟩
  · rintro ⟨z, hz, h5, h6⟩
    simp only [List.mem_append, List.mem_singleton] at hz
    rcases hz with hz | rfl
    · exact ⟨z, hz, h5, h6⟩
    · rw [ha] at h5; cases h5
theorem SI.snoc {V w' : World} {base sb n : Nat} {A : List Arc} {vs : List Value} (h : SI V base sb n A vs) {x y : Nat} {s : BS} (hx : x < n) {L : List Nat} {v v' : Value} (hv : vs[x]? = some v) (hL : L.length ≤ A.length) (hmem : ∀ y : Nat, y ∈ L ↔ ∃ a ∈ A, a.e = true ∧ a.f = (x : Int) ∧ a.t = (y : Int))
    (blk : w'.heap[sb]? = some (.cells (vs.set x v').toArray 23 (0, 0))) (own : w'.ownsRow base 3 1 v' (L.length + 1) (ints L ++ [.int .i64 (y : Int)])) (hA : ∀ k, v'.ownBlock = some k → v.ownBlock = some k ∨ V.heap.size ≤ k)
    (hk : Kept (fun b => b = sb ∨ v.ownBlock = some b ∨ V.heap.size ≤ b) V w') : SI w' base sb n (A ++ [⟨(x : Int), (y : Int), true, s⟩]) (vs.set x v') := by
  have hlt : ∀ (x : Nat) (u : Value) (k : Nat), vs[x]? = some u → u.ownBlock = some k → k < V.heap.size := fun x u k hu hk => by obtain ⟨L', h2⟩ := h.own hu; exact (h2.lt k hk).2
  have hne : ∀ (x : Nat) (u : Value), vs[x]? = some u → u.ownBlock ≠ some sb := fun x u hu => by obtain ⟨L', h2⟩ := h.own hu; exact own_ne_block h2 h.blk (by decide)
  refine ⟨blk, by rw [List.length_set]; exact h.len, fun x' hx' => ?_, fun x1 x2 u1 u2 k hne12 h1 h2 hk1 => ?_⟩
  · by_cases e : x' = x
    · subst e
      refine ⟨L ++ [y], v', by rw [List.getElem?_set_self (by rw [h.len]; exact hx)], ?_, by simp; omega, fun y' => ?_⟩
      · have e1 : ints (L ++ [y]) = ints L ++ [.int .i64 (y : Int)] := by unfold ints; rw [List.map_append]; rfl
        have e2 : (L ++ [y]).length = L.length + 1 := by simp
        rw [e1, e2]; exact own
      · rw [List.mem_append, List.mem_singleton, hmem y']
        constructor
        · rintro (⟨z, hz, h5⟩ | rfl)
          · exact ⟨z, by simp [hz], h5⟩
          · exact ⟨⟨(x' : Int), (y' : Int), true, s⟩, by simp, rfl, rfl, rfl⟩
        · rintro ⟨z, hz, h5, h6, h7⟩
          simp only [List.mem_append, List.mem_singleton] at hz
          rcases hz with hz | rfl
          · exact .inl ⟨z, hz, h5, h6, h7⟩
          · simp only at h7; right; omega
    · obtain ⟨L', u, g1, g2, g3, g4⟩ := h.rows x' hx'
      refine ⟨L', u, by rw [List.getElem?_set_ne (Ne.symm e)]; exact g1, own_kept g2 hk fun k hk' => ?_, by simp; omega, fun y' => ?_⟩
      · rintro (e' | e' | e')
        · exact hne x' u g1 ((show k = sb from e') ▸ hk')
        · exact h.apart x x' v u k (Ne.symm e) hv g1 e' hk'
        · have := hlt x' u k g1 hk'; omega
      · rw [g4 y']
        constructor
        · rintro ⟨z, hz, h5⟩; exact ⟨z, by simp [hz], h5⟩
        · rintro ⟨z, hz, h5, h6, h7⟩
          simp only [List.mem_append, List.mem_singleton] at hz
          rcases hz with hz | rfl
          · exact ⟨z, hz, h5, h6, h7⟩
          · simp only at h6; omega
  · by_cases e1 : x1 = x
    · subst e1
      rw [List.getElem?_set_self (by rw [h.len]; exact hx)] at h1
      simp only [Option.some.injEq] at h1
      subst h1
      rw [List.getElem?_set_ne hne12] at h2
      rcases hA k hk1 with e | e
      · exact h.apart x1 x2 v u2 k hne12 hv h2 e
      · intro hk2; have := hlt x2 u2 k h2 hk2; omega
    · rw [List.getElem?_set_ne (Ne.symm e1)] at h1
      by_cases e2 : x2 = x
      · subst e2
        rw [List.getElem?_set_self (by rw [h.len]; exact hx)] at h2
        simp only [Option.some.injEq] at h2
        subst h2
        intro hk2
        rcases hA k hk2 with e | e
        · exact h.apart x2 x1 v u1 k (Ne.symm hne12) hv h1 e hk1
        · have := hlt x1 u1 k h1 hk1; omega
      · rw [List.getElem?_set_ne (Ne.symm e2)] at h2
        exact h.apart x1 x2 u1 u2 k hne12 h1 h2 hk1
set_option maxRecDepth 100000 in
set_option maxHeartbeats 4000000 in
theorem newMachine_any (w : World) (N : Nfa) (n : Nat) (hv : Vn N n) (a1 a2 : Option Addr) (m c1 k c2 : Nat) (hmc : m ≤ c1) (hcc : c1 ≤ 9223372036854775807) (hnil : a1 = none → c1 = 0) (h : NA w N a1 m a2 k) (hm6 : m ≤ 900) :
    Calls Tryd.prog 36 #[.agg #[.int .i64 N.n, .int .i64 N.st, .slice a1 m c1, .slice a2 k c2]] w fun e w' => (∃ v, e = .returned v ∧ NMO w N n v w') ∧ Below w.heap.size w w' := by
  obtain ⟨nn, st, arcs, acc⟩ := N
  obtain rfl : nn = (n : Int) := hv.hn
  have hn := hv.le
  have CBF := hid (fun V (hV : Below w.heap.size w V) => byFrom_any V ⟨(n : Int), st, arcs, acc⟩ n hv a1 a2 m c1 k c2 hmc hcc hnil (h.below hV) (by omega))
  obtain ⟨W, hW⟩ : ∃ W, W = w.alloc (.cells #[.int .i64 (n : Int), .int .i64 st, .slice a1 m c1, .slice a2 k c2] 25) := ⟨_, rfl⟩
  have HB := hid (show Below w.heap.size w W from by rw [hW]; exact bel1 _ _)
  have HW := hid (show W.heap[w.heap.size]? = some (.cells #[.int .i64 (n : Int), .int .i64 st, .slice a1 m c1, .slice a2 k c2] 25 (0, 0)) from by rw [hW]; exact alloc_new _ _)
  have HA := hid (And.intro h.arcs (And.intro h.hm hv))
  have hm := h.hm
  clear h hv
  go_enter Tryd.func36, Tryd.ntmps36
  go_upto_region 1 with fail
  rw [← hW]
  clear hW
  refine region_inv (fun b a' w' => ∃ (v3 v6 v7 v8 v9 v10 v11 v12 v13 : Value) (sb km mb : Nat), a' = { tmps := #[.agg #[.int .i64 (n : Int), .int .i64 st, .slice a1 m c1, .slice a2 k c2], .pointer (some ⟨w.heap.size, 0, none⟩), .pointer none, v3, undef, undef, v6, v7, v8, v9, v10, v11, v12, v13, undef, undef, undef, undef, undef, undef, undef, undef, undef, undef, undef, undef, undef, undef, undef, undef, undef, undef, undef, undef, undef, undef, undef, undef, undef, undef, undef, undef, undef, undef], defers := [] } ∧ Below w.heap.size w w' ∧ w'.heap[w.heap.size]? = some (.cells #[.int .i64 (n : Int), .int .i64 st, .slice a1 m c1, .slice a2 k c2] 25 (0, 0)) ∧ (b 0 = true → v6 = .agg #[.int .i64 (n : Int), .int .i64 st, .slice a1 m c1, .slice a2 k c2]) ∧ (b 1 = true → BF w ⟨(n : Int), st, arcs, acc⟩ n v7 w') ∧ (b 2 = true → v8 = .pointer (some ⟨w.heap.size, 0, none⟩)) ∧ (b 3 = true → v9 = .int .i64 (n : Int)) ∧ (b 4 = true → v10 = .slice (some ⟨sb, 0, none⟩) n n ∧ w'.heap[sb]? = some (.cells (List.replicate n (.slice none 0 0)).toArray 23 (0, 0)) ∧ w.heap.size ≤ sb) ∧ (b 5 = true → v11 = .map (some km) ∧ w'.heap[km]? = some (.map #[] 0) ∧ w.heap.size ≤ km) ∧ (b 6 = true → ∃ AB, v7 = .slice (some ⟨AB, 0, none⟩) n n ∧ v12 = .agg #[.slice (some ⟨AB, 0, none⟩) n n, .slice (some ⟨sb, 0, none⟩) n n, .map (some km)]) ∧ (b 7 = true → v13 = .pointer (some ⟨mb, 0, none⟩) ∧ ∃ AB, v7 = .slice (some ⟨AB, 0, none⟩) n n ∧ w'.heap[mb]? = some (.cells #[.slice (some ⟨AB, 0, none⟩) n n, .slice (some ⟨sb, 0, none⟩) n n, .map (some km)] 98 (0, 0))) ∧ (b 8 = true → v3 = .pointer (some ⟨mb, 0, none⟩)) ∧ (b 6 = true → b 1 = true) ∧ (b 6 = true → b 4 = true) ∧ (b 6 = true → b 5 = true) ∧ (b 7 = true → b 6 = true) ∧ (b 8 = true → b 7 = true)) (by kernel_rfl) (back_of (by kernel_rfl)) ?step ?done ?init
  case step =>
    rintro b a' w' i o ho ⟨v3, v6, v7, v8, v9, v10, v11, v12, v13, sb, km, mb, rfl, hb, hx, h0, h1, h2, h3, h4, h5, h6, h7, h8, q61, q64, q65, q76, q87⟩ hbi hd K hK
    have hlt : i < 9 := by have := (Array.getElem?_eq_some_iff.1 ho).1; simpa using this
    have dep : ∀ k, (o.after.any fun e => Region.binds .any e && e.on == k) = true → b k = true := fun k hk => by
      obtain ⟨e, he, h⟩ := Array.any_eq_true'.1 hk
      simp only [Bool.and_eq_true, beq_iff_eq] at h
      rw [← h.2]; exact hd e he h.1
    clear hd
    have hi : i = 0 ∨ i = 1 ∨ i = 2 ∨ i = 3 ∨ i = 4 ∨ i = 5 ∨ i = 6 ∨ i = 7 ∨ i = 8 := by omega
    clear hlt
    rcases hi with rfl | rfl | rfl | rfl | rfl | rfl | rfl | rfl | rfl
    · simp only [List.getElem?_toArray, List.getElem?_cons_zero, List.getElem?_cons_succ, Option.some.injEq] at ho
      subst ho
      obtain ⟨d0, d1, d2, d3⟩ := cells4 hx
      go_simp
      refine hK.out _ _ ⟨_, _, _, _, _, _, _, _, _, sb, km, mb, rfl, hb, hx, fun _ => rfl, fun h => h1 (by simpa using h), fun h => h2 (by simpa using h), fun h => h3 (by simpa using h), fun h => h4 (by simpa using h), fun h => h5 (by simpa using h), fun h => h6 (by simpa using h), fun h => h7 (by simpa using h), fun h => h8 (by simpa using h), fun h => by simp [q61 (by simpa using h)], fun h => by simp [q64 (by simpa using h)], fun h => by simp [q65 (by simpa using h)], fun h => by simp [q76 (by simpa using h)], fun h => by simp [q87 (by simpa using h)]⟩
    · simp only [List.getElem?_toArray, List.getElem?_cons_zero, List.getElem?_cons_succ, Option.some.injEq] at ho
      subst ho
      obtain rfl := h0 (dep 0 (by kernel_rfl))
      have CB := hid (CBF.out w' hb)
      go_simp
      refine CB.out.mono ?_
      rintro e W5 ⟨⟨AB, rfl, g1, g2, g3, g4⟩, b5⟩
      refine hK.out _ _ ⟨_, _, _, _, _, _, _, _, _, sb, km, mb, rfl, hb.trans (b5.mono hb.size), (b5.block _ (heap_lt hx)).trans hx, fun _ => rfl, fun _ => ⟨AB, rfl, Nat.le_trans hb.size g1, g3, g4⟩, fun h => h2 (by simpa using h), fun h => h3 (by simpa using h), fun h => ⟨(h4 (by simpa using h)).1, (b5.block _ (heap_lt (h4 (by simpa using h)).2.1)).trans (h4 (by simpa using h)).2.1, (h4 (by simpa using h)).2.2⟩, fun h => ⟨(h5 (by simpa using h)).1, (b5.block _ (heap_lt (h5 (by simpa using h)).2.1)).trans (h5 (by simpa using h)).2.1, (h5 (by simpa using h)).2.2⟩, fun h => (by have := q61 (by simpa using h); rw [hbi] at this; cases this), fun h => (by have := q61 (q76 (by simpa using h)); rw [hbi] at this; cases this), fun h => h8 (by simpa using h), fun _ => by simp, fun h => by simp [q64 (by simpa using h)], fun h => by simp [q65 (by simpa using h)], fun h => by simp [q76 (by simpa using h)], fun h => by simp [q87 (by simpa using h)]⟩
    · simp only [List.getElem?_toArray, List.getElem?_cons_zero, List.getElem?_cons_succ, Option.some.injEq] at ho
      subst ho
      go_simp
      refine hK.out _ _ ⟨_, _, _, _, _, _, _, _, _, sb, km, mb, rfl, hb, hx, fun h => h0 (by simpa using h), fun h => h1 (by simpa using h), fun _ => rfl, fun h => h3 (by simpa using h), fun h => h4 (by simpa using h), fun h => h5 (by simpa using h), fun h => h6 (by simpa using h), fun h => h7 (by simpa using h), fun h => h8 (by simpa using h), fun h => by simp [q61 (by simpa using h)], fun h => by simp [q64 (by simpa using h)], fun h => by simp [q65 (by simpa using h)], fun h => by simp [q76 (by simpa using h)], fun h => by simp [q87 (by simpa using h)]⟩
    · simp only [List.getElem?_toArray, List.getElem?_cons_zero, List.getElem?_cons_succ, Option.some.injEq] at ho
      subst ho
      obtain rfl := h2 (dep 2 (by kernel_rfl))
      obtain ⟨d0, d1, d2, d3⟩ := cells4 hx
      go_simp
      refine hK.out _ _ ⟨_, _, _, _, _, _, _, _, _, sb, km, mb, rfl, hb, hx, fun h => h0 (by simpa using h), fun h => h1 (by simpa using h), fun _ => rfl, fun _ => rfl, fun h => h4 (by simpa using h), fun h => h5 (by simpa using h), fun h => h6 (by simpa using h), fun h => h7 (by simpa using h), fun h => h8 (by simpa using h), fun h => by simp [q61 (by simpa using h)], fun h => by simp [q64 (by simpa using h)], fun h => by simp [q65 (by simpa using h)], fun h => by simp [q76 (by simpa using h)], fun h => by simp [q87 (by simpa using h)]⟩
    · simp only [List.getElem?_toArray, List.getElem?_cons_zero, List.getElem?_cons_succ, Option.some.injEq] at ho
      subst ho
      obtain rfl := h3 (dep 3 (by kernel_rfl))
      have mk := make_sil n (by have := hn; omega) w'
      have b5 := bel1 w' (.cells (List.replicate n (.slice none 0 0)).toArray 23)
      go_simp
      refine hK.out _ _ ⟨_, _, _, _, _, _, _, _, _, w'.heap.size, km, mb, rfl, hb.trans (b5.mono hb.size), (b5.block _ (heap_lt hx)).trans hx, fun h => h0 (by simpa using h), fun h => (h1 (by simpa using h)).below b5, fun h => h2 (by simpa using h), fun _ => rfl, fun _ => ⟨rfl, alloc_new _ _, hb.size⟩, fun h => ⟨(h5 (by simpa using h)).1, (b5.block _ (heap_lt (h5 (by simpa using h)).2.1)).trans (h5 (by simpa using h)).2.1, (h5 (by simpa using h)).2.2⟩, fun h => (by have := q64 (by simpa using h); rw [hbi] at this; cases this), fun h => (by have := q64 (q76 (by simpa using h)); rw [hbi] at this; cases this), fun h => h8 (by simpa using h), fun h => by simp [q61 (by simpa using h)], fun _ => by simp, fun h => by simp [q65 (by simpa using h)], fun h => by simp [q76 (by simpa using h)], fun h => by simp [q87 (by simpa using h)]⟩
    · simp only [List.getElem?_toArray, List.getElem?_cons_zero, List.getElem?_cons_succ, Option.some.injEq] at ho
      subst ho
      have b5 := bel1 w' (.map #[] 0)
      go_simp
      refine hK.out _ _ ⟨_, _, _, _, _, _, _, _, _, sb, w'.heap.size, mb, rfl, hb.trans (b5.mono hb.size), (b5.block _ (heap_lt hx)).trans hx, fun h => h0 (by simpa using h), fun h => (h1 (by simpa using h)).below b5, fun h => h2 (by simpa using h), fun h => h3 (by simpa using h), fun h => ⟨(h4 (by simpa using h)).1, (b5.block _ (heap_lt (h4 (by simpa using h)).2.1)).trans (h4 (by simpa using h)).2.1, (h4 (by simpa using h)).2.2⟩, fun _ => ⟨rfl, alloc_new _ _, hb.size⟩, fun h => (by have := q65 (by simpa using h); rw [hbi] at this; cases this), fun h => (by have := q65 (q76 (by simpa using h)); rw [hbi] at this; cases this), fun h => h8 (by simpa using h), fun h => by simp [q61 (by simpa using h)], fun h => by simp [q64 (by simpa using h)], fun _ => by simp, fun h => by simp [q76 (by simpa using h)], fun h => by simp [q87 (by simpa using h)]⟩
    · simp only [List.getElem?_toArray, List.getElem?_cons_zero, List.getElem?_cons_succ, Option.some.injEq] at ho
      subst ho
      obtain ⟨AB, rfl, g2, g3, g4⟩ := h1 (dep 1 (by kernel_rfl))
      obtain ⟨rfl, u4, u4b⟩ := h4 (dep 4 (by kernel_rfl))
      obtain ⟨rfl, u5, u6⟩ := h5 (dep 5 (by kernel_rfl))
      have e1 := dep 1 (by kernel_rfl)
      have e4 := dep 4 (by kernel_rfl)
      have e5 := dep 5 (by kernel_rfl)
      go_simp
      refine hK.out _ _ ⟨_, _, _, _, _, _, _, _, _, sb, km, mb, rfl, hb, hx, fun h => h0 (by simpa using h), fun _ => ⟨AB, rfl, g2, g3, g4⟩, fun h => h2 (by simpa using h), fun h => h3 (by simpa using h), fun _ => ⟨rfl, u4, u4b⟩, fun _ => ⟨rfl, u5, u6⟩, fun _ => ⟨AB, rfl, rfl⟩, fun h => h7 (by simpa using h), fun h => h8 (by simpa using h), fun _ => by simp [e1], fun _ => by simp [e4], fun _ => by simp [e5], fun _ => by simp, fun h => by simp [q87 (by simpa using h)]⟩
    · simp only [List.getElem?_toArray, List.getElem?_cons_zero, List.getElem?_cons_succ, Option.some.injEq] at ho
      subst ho
      have e6 := dep 6 (by kernel_rfl)
      obtain ⟨AB, rfl, rfl⟩ := h6 e6
      obtain ⟨rfl, u4, u4b⟩ := h4 (q64 e6)
      obtain ⟨rfl, u5, u6⟩ := h5 (q65 e6)
      have HH1 := h1 (q61 e6)
      have b5 := bel1 w' (.cells #[.slice (some ⟨AB, 0, none⟩) n n, .slice (some ⟨sb, 0, none⟩) n n, .map (some km)] 98)
      go_simp
      refine hK.out _ _ ⟨_, _, _, _, _, _, _, _, _, sb, km, w'.heap.size, rfl, hb.trans (b5.mono hb.size), (b5.block _ (heap_lt hx)).trans hx, fun h => h0 (by simpa using h), fun _ => HH1.below b5, fun h => h2 (by simpa using h), fun h => h3 (by simpa using h), fun _ => ⟨rfl, (b5.block _ (heap_lt u4)).trans u4, u4b⟩, fun _ => ⟨rfl, (b5.block _ (heap_lt u5)).trans u5, u6⟩, fun _ => ⟨AB, rfl, rfl⟩, fun _ => ⟨rfl, AB, rfl, alloc_new _ _⟩, fun h => (by have := q87 (by simpa using h); rw [hbi] at this; cases this), fun h => by simp [q61 (by simpa using h)], fun h => by simp [q64 (by simpa using h)], fun h => by simp [q65 (by simpa using h)], fun _ => by simp [e6], fun _ => by simp⟩
    · simp only [List.getElem?_toArray, List.getElem?_cons_zero, List.getElem?_cons_succ, Option.some.injEq] at ho
      subst ho
      have e7 := dep 7 (by kernel_rfl)
      obtain ⟨rfl, g7⟩ := h7 e7
      go_simp
      refine hK.out _ _ ⟨_, _, _, _, _, _, _, _, _, sb, km, mb, rfl, hb, hx, fun h => h0 (by simpa using h), fun h => h1 (by simpa using h), fun h => h2 (by simpa using h), fun h => h3 (by simpa using h), fun h => h4 (by simpa using h), fun h => h5 (by simpa using h), fun h => h6 (by simpa using h), fun _ => ⟨rfl, g7⟩, fun _ => rfl, fun h => by simp [q61 (by simpa using h)], fun h => by simp [q64 (by simpa using h)], fun h => by simp [q65 (by simpa using h)], fun h => by simp [q76 (by simpa using h)], fun _ => by simp [e7]⟩
  case done =>
    rintro b a' w' ⟨v3, v6, v7, v8, v9, v10, v11, v12, v13, sb, km, mb, rfl, hb, hx, h0, h1, h2, h3, h4, h5, h6, h7, h8, q61, q64, q65, q76, q87⟩ hall
    obtain rfl := h0 (hall 0)
    obtain ⟨AB, rfl, g2, g3, g4⟩ := h1 (hall 1)
    obtain rfl := h2 (hall 2)
    obtain rfl := h3 (hall 3)
    obtain ⟨rfl, u4, u4b⟩ := h4 (hall 4)
    obtain ⟨rfl, u5, u6⟩ := h5 (hall 5)
    obtain ⟨AB', e9, rfl⟩ := h6 (hall 6)
    simp only [Value.slice.injEq, Option.some.injEq, Addr.mk.injEq, and_true] at e9
    subst e9
    obtain ⟨rfl, AB', e9, u7⟩ := h7 (hall 7)
    simp only [Value.slice.injEq, Option.some.injEq, Addr.mk.injEq, and_true] at e9
    subst e9
    obtain rfl := h8 (hall 8)
    obtain ⟨vsA, g3⟩ := g3
    have nk : ∀ {B : Nat} {c : Array Value} {t : TypeId}, w'.heap[B]? = some (.cells c t (0, 0)) → B ≠ km := fun hB e => by rw [e, u5] at hB; simp at hB
    have hvn := HA.out.2.2
    have hAS : AB ≠ sb := fun e => by rw [e, u4] at g3; simp at g3
    have hMS : mb ≠ sb := fun e => by rw [e, u4] at u7; simp at u7
    have hKS : km ≠ sb := fun e => by rw [e, u4] at u5; simp at u5
    have HM := hid (And.intro u7 (And.intro g3 (And.intro g4 (And.intro u4 (And.intro u5 (And.intro u6 (And.intro hb (And.intro hx u4b))))))))
    have HD := hid (And.intro hAS (And.intro hMS hKS))
    have HNK := hid (And.intro (nk u7) (And.intro (nk g3) (nk u4)))
    have HVN := hid hvn
    have HR := hid (HA.out.1.below hb)
    clear g2 g3 g4 u4 u5 u6 u7 h1 h4 h5 h6 h7 q61 q64 q65 q76 q87 nk hb hAS hMS hKS hvn
    obtain ⟨d0, d1, d2, d3⟩ := cells4 hx
    clear hx
    dsimp only
    go_wp2_with fail
    obtain ⟨w5, hw5⟩ : ∃ w5, w5 = w' := ⟨_, rfl⟩
    rw [← hw5] at HM HR ⊢
    clear hw5 d0 d1 d2 d3
    go_loopg [17] m (fun kk s17 wr => ∃ (i : Nat) (vs : List Value), s17 = .int .i64 (i : Int) ∧ i + kk = m ∧ SI wr w5.heap.size sb n (arcs.take i) vs ∧ Kept (fun b => b = sb ∨ w5.heap.size ≤ b) w5 wr)
    case atStart =>
      refine ⟨0, List.replicate n (.slice none 0 0), rfl, by omega, ⟨HM.out.2.2.2.1, by simp, fun x hx => ⟨[], .slice none 0 0, by rw [List.getElem?_replicate, if_pos hx], ⟨rfl, .inl ⟨rfl, rfl⟩⟩, by simp, fun y => ⟨fun h => by simp at h, fun ⟨z, hz, _⟩ => by simp at hz⟩⟩, fun x x' v v' k _ h1 _ h3 => ?_⟩, Kept.refl _ _⟩
      rw [List.getElem?_replicate] at h1
      split at h1
      · simp only [Option.some.injEq] at h1; rw [← h1] at h3; simp [Value.ownBlock] at h3
      · cases h1
    case round =>
      obtain ⟨i, vs, rfl, hik, hsi, hkw⟩ := hrel
      by_cases hlt : i < m
      · have hlt' : (i : Int) < (m : Int) := by omega
        have hrw : CRow 7 wr a1 m (arcs.map acs) := CRow_kept HR.out hkw.size fun h0 b off e hb => hkw.block b fun h9 => by
          rcases h9 with h9 | h9
          · obtain ⟨v, hv⟩ := row_first HR.out h0 e
            exact sil_ne HM.out.2.2.2.1 hv h9
          · omega
        obtain ⟨b0, off, f, t, ee, s, rfl, hbl, ha, q0, q1, q2, q3, q4, q5, q6⟩ := arc_at hrw hlt
        obtain ⟨x, y, hxn, hyn, hfx, hty, -⟩ := HVN.out.arcs _ (List.mem_of_getElem? ha)
        simp only at hfx hty
        subst hfx hty
        obtain ⟨V, hV⟩ : ∃ V, V = wr.alloc (.cells #[.int .i64 (x : Int), .int .i64 (y : Int), .bool ee, .int .u64 (ws s 0 : Int), .int .u64 (ws s 1 : Int), .int .u64 (ws s 2 : Int), .int .u64 (ws s 3 : Int)] 55) := ⟨_, rfl⟩
        have HV := hid (show V.heap[wr.heap.size]? = some (.cells #[.int .i64 (x : Int), .int .i64 (y : Int), .bool ee, .int .u64 (ws s 0 : Int), .int .u64 (ws s 1 : Int), .int .u64 (ws s 2 : Int), .int .u64 (ws s 3 : Int)] 55 (0, 0)) ∧ Below wr.heap.size wr V from ⟨by rw [hV]; exact alloc_new _ _, by rw [hV]; exact bel1 _ _⟩)
        have HS := hid (And.intro hsi (And.intro hkw ha))
        clear hsi hkw hbl ha hrw
        go_upto_region 5 with fail
        rw [← hV]
        clear hV q0 q1 q2 q3 q4 q5 q6
        obtain ⟨e0, e1, e2, e3, e4, e5, e6⟩ := cells7a HV.out.1
        cases ee
        · go_wp2
          go_roundg (gk - 1)
          case measure => omega
          case rel =>
            refine ⟨i + 1, vs, by go_num, by omega, ?_, HS.out.2.1.trans (Kept.below HV.out.2 fun b hb => .inr (by have := HS.out.2.1.size; omega))⟩
            rw [List.take_add_one, HS.out.2.2]
            exact (HS.out.1.below HV.out.2).skip rfl
        · skip
          have hE := HS.out.1.below HV.out.2
          obtain ⟨Lx, v0, g1, g2, g3, g4⟩ := hE.rows x hxn
          obtain ⟨ra, rc, rfl⟩ := own_form g2
          have hmbl := heap_lt HM.out.1
          have hbase := HS.out.2.1.size
          have hsbl := heap_lt HM.out.2.2.2.1
          have hVs := HV.out.2.size
          have HBX := hid (show V.heap[mb]? = some (.cells #[.slice (some ⟨AB, 0, none⟩) n n, .slice (some ⟨sb, 0, none⟩) n n, .map (some km)] 98 (0, 0)) from
            (HV.out.2.block mb (by omega)).trans ((HS.out.2.1.block mb (fun e => by rcases e with e | e; exact HD.out.2.1 e; omega)).trans HM.out.1))
          have HE := hid hE
          have HG := hid (And.intro g1 (And.intro g2 (And.intro g3 g4)))
          have hLx : Lx.length ≤ 900 := by have := g3; rw [List.length_take] at this; omega
          obtain ⟨nL, hnL⟩ : ∃ q, q = Lx.length := ⟨_, rfl⟩
          have HNL := hid hnL
          rw [← hnL] at hLx
          have HRO := hid (show V.ownsRow w5.heap.size 3 1 (.slice ra nL rc) nL (ints Lx) from by rw [hnL]; exact g2)
          have HSB := hid hE.blk
          have HVX := hid (show vs[x]? = some (.slice ra nL rc) from by rw [hnL]; exact g1)
          have hvl : vs.length = n := hE.len
          have hb5 : w5.heap.size ≤ V.heap.size := by omega
          obtain ⟨i3, hi3, hz03, hz13, hz23⟩ := info_parts Tryd.info3
          have hrb : (Value.slice ra nL rc).ownBlock ≠ some mb := own_ne_block HRO.out HBX.out (by decide)
          have hrx : (Value.slice ra nL rc).ownBlock ≠ some wr.heap.size := own_ne_block HRO.out HV.out.1 (by decide)
          clear hE g1 g2 g3 g4 hnL
          go_wp2_with fail
          refine region_inv (fun b a' w' => ∃ (v23 v24 v25 v26 v27 v28 v29 v30 v31 v32 v33 v34 v35 v36 v37 v38 v39 v40 v41 : Value), a' = { tmps := #[.agg #[.int .i64 (n : Int), .int .i64 st, .slice (some ⟨b0, off, none⟩) m c1, .slice a2 k c2], .pointer (some ⟨w.heap.size, 0, none⟩), .pointer none, .pointer (some ⟨mb, 0, none⟩), undef, .pointer (some ⟨wr.heap.size, 0, none⟩), .agg #[.int .i64 (n : Int), .int .i64 st, .slice (some ⟨b0, off, none⟩) m c1, .slice a2 k c2], .slice (some ⟨AB, 0, none⟩) n n, .pointer (some ⟨w.heap.size, 0, none⟩), .int .i64 (n : Int), .slice (some ⟨sb, 0, none⟩) n n, .map (some km), .agg #[.slice (some ⟨AB, 0, none⟩) n n, .slice (some ⟨sb, 0, none⟩) n n, .map (some km)], .pointer (some ⟨mb, 0, none⟩), .pointer (some ⟨w.heap.size, 2, none⟩), .slice (some ⟨b0, off, none⟩) m c1, .int .i64 (m : Int), .int .i64 (i : Int), .bool true, .pointer (some ⟨b0, off + i * 7, none⟩), .agg #[.int .i64 (x : Int), .int .i64 (y : Int), .bool true, .int .u64 (ws s 0 : Int), .int .u64 (ws s 1 : Int), .int .u64 (ws s 2 : Int), .int .u64 (ws s 3 : Int)], .pointer (some ⟨wr.heap.size, 2, none⟩), .bool true, v23, v24, v25, v26, v27, v28, v29, v30, v31, v32, v33, v34, v35, v36, v37, v38, v39, v40, v41, u42, undef], defers := [] } ∧ Kept (fun b => b = sb ∨ (Value.slice ra nL rc).ownBlock = some b ∨ V.heap.size ≤ b) V w' ∧ w'.heap[wr.heap.size]? = some (.cells #[.int .i64 (x : Int), .int .i64 (y : Int), .bool true, .int .u64 (ws s 0 : Int), .int .u64 (ws s 1 : Int), .int .u64 (ws s 2 : Int), .int .u64 (ws s 3 : Int)] 55 (0, 0)) ∧ w'.heap[mb]? = some (.cells #[.slice (some ⟨AB, 0, none⟩) n n, .slice (some ⟨sb, 0, none⟩) n n, .map (some km)] 98 (0, 0)) ∧ (b 0 = true → v23 = .pointer (some ⟨mb, 0, none⟩)) ∧ (b 1 = true → v24 = .pointer (some ⟨mb, 0, none⟩)) ∧ (b 2 = true → v25 = .pointer (some ⟨mb, 1, none⟩)) ∧ (b 3 = true → v26 = .slice (some ⟨sb, 0, none⟩) n n) ∧ (b 4 = true → v27 = .pointer (some ⟨wr.heap.size, 0, none⟩)) ∧ (b 5 = true → v28 = .int .i64 (x : Int)) ∧ (b 6 = true → v29 = .pointer (some ⟨mb, 0, none⟩)) ∧ (b 7 = true → v30 = .pointer (some ⟨mb, 0, none⟩)) ∧ (b 8 = true → v31 = .pointer (some ⟨mb, 1, none⟩)) ∧ (b 9 = true → v32 = .slice (some ⟨sb, 0, none⟩) n n) ∧ (b 10 = true → v33 = .pointer (some ⟨wr.heap.size, 0, none⟩)) ∧ (b 11 = true → v34 = .int .i64 (x : Int)) ∧ (b 12 = true → v35 = .pointer (some ⟨sb, x, none⟩)) ∧ (b 13 = true → v36 = .slice ra nL rc) ∧ (b 14 = true → v37 = .pointer (some ⟨wr.heap.size, 1, none⟩)) ∧ (b 15 = true → v38 = .int .i64 (y : Int)) ∧ (b 16 = true → b 17 = false → ∃ g : Nat, v39 = .slice (some ⟨g, 0, none⟩) 1 1 ∧ w'.heap[g]? = some (.cells #[.int .i64 (y : Int)] 3 (0, 0))) ∧ (b 17 = true → ∃ (a : Option Addr) (c : Nat), v40 = .slice a (nL + 1) c ∧ ∀ k, v40.ownBlock = some k → (Value.slice ra nL rc).ownBlock = some k ∨ V.heap.size ≤ k) ∧ (b 18 = true → v41 = .pointer (some ⟨sb, x, none⟩)) ∧ (b 19 = false → w'.heap[sb]? = some (.cells vs.toArray 23 (0, 0))) ∧ (b 19 = true → w'.heap[sb]? = some (.cells (vs.set x v40).toArray 23 (0, 0))) ∧ (b 17 = false → w'.ownsRow w5.heap.size 3 1 (.slice ra nL rc) nL (ints Lx)) ∧ (b 17 = true → w'.ownsRow w5.heap.size 3 1 v40 (nL + 1) (ints Lx ++ [.int .i64 (y : Int)])) ∧ (b 1 = true → b 0 = true) ∧ (b 2 = true → b 1 = true) ∧ (b 3 = true → b 2 = true) ∧ (b 5 = true → b 4 = true) ∧ (b 7 = true → b 6 = true) ∧ (b 8 = true → b 7 = true) ∧ (b 9 = true → b 8 = true) ∧ (b 11 = true → b 10 = true) ∧ (b 12 = true → b 9 = true) ∧ (b 12 = true → b 11 = true) ∧ (b 13 = true → b 12 = true) ∧ (b 15 = true → b 14 = true) ∧ (b 16 = true → b 15 = true) ∧ (b 17 = true → b 13 = true) ∧ (b 17 = true → b 16 = true) ∧ (b 18 = true → b 3 = true) ∧ (b 18 = true → b 5 = true) ∧ (b 19 = true → b 18 = true) ∧ (b 19 = true → b 17 = true)) (by kernel_rfl) (back_of (by kernel_rfl)) ?step2 ?done2 ?init2
          case step2 =>
            rintro b a' w' i o ho ⟨v23, v24, v25, v26, v27, v28, v29, v30, v31, v32, v33, v34, v35, v36, v37, v38, v39, v40, v41, rfl, hk, hx, hm, h0, h1, h2, h3, h4, h5, h6, h7, h8, h9, h10, h11, h12, h13, h14, h15, h16, h17, h18, bo, bn, ro, rn, q1_0, q2_1, q3_2, q5_4, q7_6, q8_7, q9_8, q11_10, q12_9, q12_11, q13_12, q15_14, q16_15, q17_13, q17_16, q18_3, q18_5, q19_18, q19_17⟩ hbi hd K hK
            have hlt : i < 20 := by have := (Array.getElem?_eq_some_iff.1 ho).1; simpa using this
            have dep : ∀ k, (o.after.any fun e => Region.binds .any e && e.on == k) = true → b k = true := fun k hk => by
              obtain ⟨e, he, h⟩ := Array.any_eq_true'.1 hk
              simp only [Bool.and_eq_true, beq_iff_eq] at h
              rw [← h.2]; exact hd e he h.1
            clear hd
            have hi : i = 0 ∨ i = 1 ∨ i = 2 ∨ i = 3 ∨ i = 4 ∨ i = 5 ∨ i = 6 ∨ i = 7 ∨ i = 8 ∨ i = 9 ∨ i = 10 ∨ i = 11 ∨ i = 12 ∨ i = 13 ∨ i = 14 ∨ i = 15 ∨ i = 16 ∨ i = 17 ∨ i = 18 ∨ i = 19 := by omega
            clear hlt
            rcases hi with rfl | rfl | rfl | rfl | rfl | rfl | rfl | rfl | rfl | rfl | rfl | rfl | rfl | rfl | rfl | rfl | rfl | rfl | rfl | rfl
            · simp only [List.getElem?_toArray, List.getElem?_cons_zero, List.getElem?_cons_succ, Option.some.injEq] at ho
              subst ho
              go_simp
              refine hK.out _ _ ⟨_, _, _, _, _, _, _, _, _, _, _, _, _, _, _, _, _, _, _, rfl, hk, hx, hm, fun _ => rfl, fun h => h1 (by simpa using h), fun h => h2 (by simpa using h), fun h => h3 (by simpa using h), fun h => h4 (by simpa using h), fun h => h5 (by simpa using h), fun h => h6 (by simpa using h), fun h => h7 (by simpa using h), fun h => h8 (by simpa using h), fun h => h9 (by simpa using h), fun h => h10 (by simpa using h), fun h => h11 (by simpa using h), fun h => h12 (by simpa using h), fun h => h13 (by simpa using h), fun h => h14 (by simpa using h), fun h => h15 (by simpa using h), fun h h9 => h16 (by simpa using h) (by simpa using h9), fun h => h17 (by simpa using h), fun h => h18 (by simpa using h), fun h => bo (by simpa using h), fun h => bn (by simpa using h), fun h => ro (by simpa using h), fun h => rn (by simpa using h), fun h => by simp [q1_0 (by simpa using h)], fun h => by simp [q2_1 (by simpa using h)], fun h => by simp [q3_2 (by simpa using h)], fun h => by simp [q5_4 (by simpa using h)], fun h => by simp [q7_6 (by simpa using h)], fun h => by simp [q8_7 (by simpa using h)], fun h => by simp [q9_8 (by simpa using h)], fun h => by simp [q11_10 (by simpa using h)], fun h => by simp [q12_9 (by simpa using h)], fun h => by simp [q12_11 (by simpa using h)], fun h => by simp [q13_12 (by simpa using h)], fun h => by simp [q15_14 (by simpa using h)], fun h => by simp [q16_15 (by simpa using h)], fun h => by simp [q17_13 (by simpa using h)], fun h => by simp [q17_16 (by simpa using h)], fun h => by simp [q18_3 (by simpa using h)], fun h => by simp [q18_5 (by simpa using h)], fun h => by simp [q19_18 (by simpa using h)], fun h => by simp [q19_17 (by simpa using h)]⟩
            · simp only [List.getElem?_toArray, List.getElem?_cons_zero, List.getElem?_cons_succ, Option.some.injEq] at ho
              subst ho
              have e_0 := dep 0 (by kernel_rfl)
              obtain rfl := h0 e_0
              go_simp
              refine hK.out _ _ ⟨_, _, _, _, _, _, _, _, _, _, _, _, _, _, _, _, _, _, _, rfl, hk, hx, hm, fun _ => rfl, fun _ => rfl, fun h => h2 (by simpa using h), fun h => h3 (by simpa using h), fun h => h4 (by simpa using h), fun h => h5 (by simpa using h), fun h => h6 (by simpa using h), fun h => h7 (by simpa using h), fun h => h8 (by simpa using h), fun h => h9 (by simpa using h), fun h => h10 (by simpa using h), fun h => h11 (by simpa using h), fun h => h12 (by simpa using h), fun h => h13 (by simpa using h), fun h => h14 (by simpa using h), fun h => h15 (by simpa using h), fun h h9 => h16 (by simpa using h) (by simpa using h9), fun h => h17 (by simpa using h), fun h => h18 (by simpa using h), fun h => bo (by simpa using h), fun h => bn (by simpa using h), fun h => ro (by simpa using h), fun h => rn (by simpa using h), fun _ => by simp [e_0], fun h => by simp [q2_1 (by simpa using h)], fun h => by simp [q3_2 (by simpa using h)], fun h => by simp [q5_4 (by simpa using h)], fun h => by simp [q7_6 (by simpa using h)], fun h => by simp [q8_7 (by simpa using h)], fun h => by simp [q9_8 (by simpa using h)], fun h => by simp [q11_10 (by simpa using h)], fun h => by simp [q12_9 (by simpa using h)], fun h => by simp [q12_11 (by simpa using h)], fun h => by simp [q13_12 (by simpa using h)], fun h => by simp [q15_14 (by simpa using h)], fun h => by simp [q16_15 (by simpa using h)], fun h => by simp [q17_13 (by simpa using h)], fun h => by simp [q17_16 (by simpa using h)], fun h => by simp [q18_3 (by simpa using h)], fun h => by simp [q18_5 (by simpa using h)], fun h => by simp [q19_18 (by simpa using h)], fun h => by simp [q19_17 (by simpa using h)]⟩
            · simp only [List.getElem?_toArray, List.getElem?_cons_zero, List.getElem?_cons_succ, Option.some.injEq] at ho
              subst ho
              have e_1 := dep 1 (by kernel_rfl)
              have e_0 := q1_0 e_1
              obtain rfl := h0 e_0
              obtain rfl := h1 e_1
              go_simp
              refine hK.out _ _ ⟨_, _, _, _, _, _, _, _, _, _, _, _, _, _, _, _, _, _, _, rfl, hk, hx, hm, fun _ => rfl, fun _ => rfl, fun _ => rfl, fun h => h3 (by simpa using h), fun h => h4 (by simpa using h), fun h => h5 (by simpa using h), fun h => h6 (by simpa using h), fun h => h7 (by simpa using h), fun h => h8 (by simpa using h), fun h => h9 (by simpa using h), fun h => h10 (by simpa using h), fun h => h11 (by simpa using h), fun h => h12 (by simpa using h), fun h => h13 (by simpa using h), fun h => h14 (by simpa using h), fun h => h15 (by simpa using h), fun h h9 => h16 (by simpa using h) (by simpa using h9), fun h => h17 (by simpa using h), fun h => h18 (by simpa using h), fun h => bo (by simpa using h), fun h => bn (by simpa using h), fun h => ro (by simpa using h), fun h => rn (by simpa using h), fun h => by simp [q1_0 (by simpa using h)], fun _ => by simp [e_1], fun h => by simp [q3_2 (by simpa using h)], fun h => by simp [q5_4 (by simpa using h)], fun h => by simp [q7_6 (by simpa using h)], fun h => by simp [q8_7 (by simpa using h)], fun h => by simp [q9_8 (by simpa using h)], fun h => by simp [q11_10 (by simpa using h)], fun h => by simp [q12_9 (by simpa using h)], fun h => by simp [q12_11 (by simpa using h)], fun h => by simp [q13_12 (by simpa using h)], fun h => by simp [q15_14 (by simpa using h)], fun h => by simp [q16_15 (by simpa using h)], fun h => by simp [q17_13 (by simpa using h)], fun h => by simp [q17_16 (by simpa using h)], fun h => by simp [q18_3 (by simpa using h)], fun h => by simp [q18_5 (by simpa using h)], fun h => by simp [q19_18 (by simpa using h)], fun h => by simp [q19_17 (by simpa using h)]⟩
            · simp only [List.getElem?_toArray, List.getElem?_cons_zero, List.getElem?_cons_succ, Option.some.injEq] at ho
              subst ho
              have e_2 := dep 2 (by kernel_rfl)
              have e_1 := q2_1 e_2
              have e_0 := q1_0 e_1
              obtain rfl := h0 e_0
              obtain rfl := h1 e_1
              obtain rfl := h2 e_2
              obtain ⟨d0, d1, d2⟩ := cells3 hm
              go_simp
              refine hK.out _ _ ⟨_, _, _, _, _, _, _, _, _, _, _, _, _, _, _, _, _, _, _, rfl, hk, hx, hm, fun _ => rfl, fun _ => rfl, fun _ => rfl, fun _ => rfl, fun h => h4 (by simpa using h), fun h => h5 (by simpa using h), fun h => h6 (by simpa using h), fun h => h7 (by simpa using h), fun h => h8 (by simpa using h), fun h => h9 (by simpa using h), fun h => h10 (by simpa using h), fun h => h11 (by simpa using h), fun h => h12 (by simpa using h), fun h => h13 (by simpa using h), fun h => h14 (by simpa using h), fun h => h15 (by simpa using h), fun h h9 => h16 (by simpa using h) (by simpa using h9), fun h => h17 (by simpa using h), fun h => h18 (by simpa using h), fun h => bo (by simpa using h), fun h => bn (by simpa using h), fun h => ro (by simpa using h), fun h => rn (by simpa using h), fun h => by simp [q1_0 (by simpa using h)], fun h => by simp [q2_1 (by simpa using h)], fun _ => by simp [e_2], fun h => by simp [q5_4 (by simpa using h)], fun h => by simp [q7_6 (by simpa using h)], fun h => by simp [q8_7 (by simpa using h)], fun h => by simp [q9_8 (by simpa using h)], fun h => by simp [q11_10 (by simpa using h)], fun h => by simp [q12_9 (by simpa using h)], fun h => by simp [q12_11 (by simpa using h)], fun h => by simp [q13_12 (by simpa using h)], fun h => by simp [q15_14 (by simpa using h)], fun h => by simp [q16_15 (by simpa using h)], fun h => by simp [q17_13 (by simpa using h)], fun h => by simp [q17_16 (by simpa using h)], fun h => by simp [q18_3 (by simpa using h)], fun h => by simp [q18_5 (by simpa using h)], fun h => by simp [q19_18 (by simpa using h)], fun h => by simp [q19_17 (by simpa using h)]⟩
            · simp only [List.getElem?_toArray, List.getElem?_cons_zero, List.getElem?_cons_succ, Option.some.injEq] at ho
              subst ho
              go_simp
              refine hK.out _ _ ⟨_, _, _, _, _, _, _, _, _, _, _, _, _, _, _, _, _, _, _, rfl, hk, hx, hm, fun h => h0 (by simpa using h), fun h => h1 (by simpa using h), fun h => h2 (by simpa using h), fun h => h3 (by simpa using h), fun _ => rfl, fun h => h5 (by simpa using h), fun h => h6 (by simpa using h), fun h => h7 (by simpa using h), fun h => h8 (by simpa using h), fun h => h9 (by simpa using h), fun h => h10 (by simpa using h), fun h => h11 (by simpa using h), fun h => h12 (by simpa using h), fun h => h13 (by simpa using h), fun h => h14 (by simpa using h), fun h => h15 (by simpa using h), fun h h9 => h16 (by simpa using h) (by simpa using h9), fun h => h17 (by simpa using h), fun h => h18 (by simpa using h), fun h => bo (by simpa using h), fun h => bn (by simpa using h), fun h => ro (by simpa using h), fun h => rn (by simpa using h), fun h => by simp [q1_0 (by simpa using h)], fun h => by simp [q2_1 (by simpa using h)], fun h => by simp [q3_2 (by simpa using h)], fun h => by simp [q5_4 (by simpa using h)], fun h => by simp [q7_6 (by simpa using h)], fun h => by simp [q8_7 (by simpa using h)], fun h => by simp [q9_8 (by simpa using h)], fun h => by simp [q11_10 (by simpa using h)], fun h => by simp [q12_9 (by simpa using h)], fun h => by simp [q12_11 (by simpa using h)], fun h => by simp [q13_12 (by simpa using h)], fun h => by simp [q15_14 (by simpa using h)], fun h => by simp [q16_15 (by simpa using h)], fun h => by simp [q17_13 (by simpa using h)], fun h => by simp [q17_16 (by simpa using h)], fun h => by simp [q18_3 (by simpa using h)], fun h => by simp [q18_5 (by simpa using h)], fun h => by simp [q19_18 (by simpa using h)], fun h => by simp [q19_17 (by simpa using h)]⟩
            · simp only [List.getElem?_toArray, List.getElem?_cons_zero, List.getElem?_cons_succ, Option.some.injEq] at ho
              subst ho
              have e_4 := dep 4 (by kernel_rfl)
              obtain rfl := h4 e_4
              obtain ⟨c0, c1, -⟩ := cells7a hx
              go_simp
              refine hK.out _ _ ⟨_, _, _, _, _, _, _, _, _, _, _, _, _, _, _, _, _, _, _, rfl, hk, hx, hm, fun h => h0 (by simpa using h), fun h => h1 (by simpa using h), fun h => h2 (by simpa using h), fun h => h3 (by simpa using h), fun _ => rfl, fun _ => rfl, fun h => h6 (by simpa using h), fun h => h7 (by simpa using h), fun h => h8 (by simpa using h), fun h => h9 (by simpa using h), fun h => h10 (by simpa using h), fun h => h11 (by simpa using h), fun h => h12 (by simpa using h), fun h => h13 (by simpa using h), fun h => h14 (by simpa using h), fun h => h15 (by simpa using h), fun h h9 => h16 (by simpa using h) (by simpa using h9), fun h => h17 (by simpa using h), fun h => h18 (by simpa using h), fun h => bo (by simpa using h), fun h => bn (by simpa using h), fun h => ro (by simpa using h), fun h => rn (by simpa using h), fun h => by simp [q1_0 (by simpa using h)], fun h => by simp [q2_1 (by simpa using h)], fun h => by simp [q3_2 (by simpa using h)], fun _ => by simp [e_4], fun h => by simp [q7_6 (by simpa using h)], fun h => by simp [q8_7 (by simpa using h)], fun h => by simp [q9_8 (by simpa using h)], fun h => by simp [q11_10 (by simpa using h)], fun h => by simp [q12_9 (by simpa using h)], fun h => by simp [q12_11 (by simpa using h)], fun h => by simp [q13_12 (by simpa using h)], fun h => by simp [q15_14 (by simpa using h)], fun h => by simp [q16_15 (by simpa using h)], fun h => by simp [q17_13 (by simpa using h)], fun h => by simp [q17_16 (by simpa using h)], fun h => by simp [q18_3 (by simpa using h)], fun h => by simp [q18_5 (by simpa using h)], fun h => by simp [q19_18 (by simpa using h)], fun h => by simp [q19_17 (by simpa using h)]⟩
            · simp only [List.getElem?_toArray, List.getElem?_cons_zero, List.getElem?_cons_succ, Option.some.injEq] at ho
              subst ho
              go_simp
              refine hK.out _ _ ⟨_, _, _, _, _, _, _, _, _, _, _, _, _, _, _, _, _, _, _, rfl, hk, hx, hm, fun h => h0 (by simpa using h), fun h => h1 (by simpa using h), fun h => h2 (by simpa using h), fun h => h3 (by simpa using h), fun h => h4 (by simpa using h), fun h => h5 (by simpa using h), fun _ => rfl, fun h => h7 (by simpa using h), fun h => h8 (by simpa using h), fun h => h9 (by simpa using h), fun h => h10 (by simpa using h), fun h => h11 (by simpa using h), fun h => h12 (by simpa using h), fun h => h13 (by simpa using h), fun h => h14 (by simpa using h), fun h => h15 (by simpa using h), fun h h9 => h16 (by simpa using h) (by simpa using h9), fun h => h17 (by simpa using h), fun h => h18 (by simpa using h), fun h => bo (by simpa using h), fun h => bn (by simpa using h), fun h => ro (by simpa using h), fun h => rn (by simpa using h), fun h => by simp [q1_0 (by simpa using h)], fun h => by simp [q2_1 (by simpa using h)], fun h => by simp [q3_2 (by simpa using h)], fun h => by simp [q5_4 (by simpa using h)], fun h => by simp [q7_6 (by simpa using h)], fun h => by simp [q8_7 (by simpa using h)], fun h => by simp [q9_8 (by simpa using h)], fun h => by simp [q11_10 (by simpa using h)], fun h => by simp [q12_9 (by simpa using h)], fun h => by simp [q12_11 (by simpa using h)], fun h => by simp [q13_12 (by simpa using h)], fun h => by simp [q15_14 (by simpa using h)], fun h => by simp [q16_15 (by simpa using h)], fun h => by simp [q17_13 (by simpa using h)], fun h => by simp [q17_16 (by simpa using h)], fun h => by simp [q18_3 (by simpa using h)], fun h => by simp [q18_5 (by simpa using h)], fun h => by simp [q19_18 (by simpa using h)], fun h => by simp [q19_17 (by simpa using h)]⟩
            · simp only [List.getElem?_toArray, List.getElem?_cons_zero, List.getElem?_cons_succ, Option.some.injEq] at ho
              subst ho
              have e_6 := dep 6 (by kernel_rfl)
              obtain rfl := h6 e_6
              go_simp
              refine hK.out _ _ ⟨_, _, _, _, _, _, _, _, _, _, _, _, _, _, _, _, _, _, _, rfl, hk, hx, hm, fun h => h0 (by simpa using h), fun h => h1 (by simpa using h), fun h => h2 (by simpa using h), fun h => h3 (by simpa using h), fun h => h4 (by simpa using h), fun h => h5 (by simpa using h), fun _ => rfl, fun _ => rfl, fun h => h8 (by simpa using h), fun h => h9 (by simpa using h), fun h => h10 (by simpa using h), fun h => h11 (by simpa using h), fun h => h12 (by simpa using h), fun h => h13 (by simpa using h), fun h => h14 (by simpa using h), fun h => h15 (by simpa using h), fun h h9 => h16 (by simpa using h) (by simpa using h9), fun h => h17 (by simpa using h), fun h => h18 (by simpa using h), fun h => bo (by simpa using h), fun h => bn (by simpa using h), fun h => ro (by simpa using h), fun h => rn (by simpa using h), fun h => by simp [q1_0 (by simpa using h)], fun h => by simp [q2_1 (by simpa using h)], fun h => by simp [q3_2 (by simpa using h)], fun h => by simp [q5_4 (by simpa using h)], fun _ => by simp [e_6], fun h => by simp [q8_7 (by simpa using h)], fun h => by simp [q9_8 (by simpa using h)], fun h => by simp [q11_10 (by simpa using h)], fun h => by simp [q12_9 (by simpa using h)], fun h => by simp [q12_11 (by simpa using h)], fun h => by simp [q13_12 (by simpa using h)], fun h => by simp [q15_14 (by simpa using h)], fun h => by simp [q16_15 (by simpa using h)], fun h => by simp [q17_13 (by simpa using h)], fun h => by simp [q17_16 (by simpa using h)], fun h => by simp [q18_3 (by simpa using h)], fun h => by simp [q18_5 (by simpa using h)], fun h => by simp [q19_18 (by simpa using h)], fun h => by simp [q19_17 (by simpa using h)]⟩
            · simp only [List.getElem?_toArray, List.getElem?_cons_zero, List.getElem?_cons_succ, Option.some.injEq] at ho
              subst ho
              have e_7 := dep 7 (by kernel_rfl)
              have e_6 := q7_6 e_7
              obtain rfl := h6 e_6
              obtain rfl := h7 e_7
              go_simp
              refine hK.out _ _ ⟨_, _, _, _, _, _, _, _, _, _, _, _, _, _, _, _, _, _, _, rfl, hk, hx, hm, fun h => h0 (by simpa using h), fun h => h1 (by simpa using h), fun h => h2 (by simpa using h), fun h => h3 (by simpa using h), fun h => h4 (by simpa using h), fun h => h5 (by simpa using h), fun _ => rfl, fun _ => rfl, fun _ => rfl, fun h => h9 (by simpa using h), fun h => h10 (by simpa using h), fun h => h11 (by simpa using h), fun h => h12 (by simpa using h), fun h => h13 (by simpa using h), fun h => h14 (by simpa using h), fun h => h15 (by simpa using h), fun h h9 => h16 (by simpa using h) (by simpa using h9), fun h => h17 (by simpa using h), fun h => h18 (by simpa using h), fun h => bo (by simpa using h), fun h => bn (by simpa using h), fun h => ro (by simpa using h), fun h => rn (by simpa using h), fun h => by simp [q1_0 (by simpa using h)], fun h => by simp [q2_1 (by simpa using h)], fun h => by simp [q3_2 (by simpa using h)], fun h => by simp [q5_4 (by simpa using h)], fun h => by simp [q7_6 (by simpa using h)], fun _ => by simp [e_7], fun h => by simp [q9_8 (by simpa using h)], fun h => by simp [q11_10 (by simpa using h)], fun h => by simp [q12_9 (by simpa using h)], fun h => by simp [q12_11 (by simpa using h)], fun h => by simp [q13_12 (by simpa using h)], fun h => by simp [q15_14 (by simpa using h)], fun h => by simp [q16_15 (by simpa using h)], fun h => by simp [q17_13 (by simpa using h)], fun h => by simp [q17_16 (by simpa using h)], fun h => by simp [q18_3 (by simpa using h)], fun h => by simp [q18_5 (by simpa using h)], fun h => by simp [q19_18 (by simpa using h)], fun h => by simp [q19_17 (by simpa using h)]⟩
            · simp only [List.getElem?_toArray, List.getElem?_cons_zero, List.getElem?_cons_succ, Option.some.injEq] at ho
              subst ho
              have e_8 := dep 8 (by kernel_rfl)
              have e_7 := q8_7 e_8
              have e_6 := q7_6 e_7
              obtain rfl := h6 e_6
              obtain rfl := h7 e_7
              obtain rfl := h8 e_8
              obtain ⟨d0, d1, d2⟩ := cells3 hm
              go_simp
              refine hK.out _ _ ⟨_, _, _, _, _, _, _, _, _, _, _, _, _, _, _, _, _, _, _, rfl, hk, hx, hm, fun h => h0 (by simpa using h), fun h => h1 (by simpa using h), fun h => h2 (by simpa using h), fun h => h3 (by simpa using h), fun h => h4 (by simpa using h), fun h => h5 (by simpa using h), fun _ => rfl, fun _ => rfl, fun _ => rfl, fun _ => rfl, fun h => h10 (by simpa using h), fun h => h11 (by simpa using h), fun h => h12 (by simpa using h), fun h => h13 (by simpa using h), fun h => h14 (by simpa using h), fun h => h15 (by simpa using h), fun h h9 => h16 (by simpa using h) (by simpa using h9), fun h => h17 (by simpa using h), fun h => h18 (by simpa using h), fun h => bo (by simpa using h), fun h => bn (by simpa using h), fun h => ro (by simpa using h), fun h => rn (by simpa using h), fun h => by simp [q1_0 (by simpa using h)], fun h => by simp [q2_1 (by simpa using h)], fun h => by simp [q3_2 (by simpa using h)], fun h => by simp [q5_4 (by simpa using h)], fun h => by simp [q7_6 (by simpa using h)], fun h => by simp [q8_7 (by simpa using h)], fun _ => by simp [e_8], fun h => by simp [q11_10 (by simpa using h)], fun h => by simp [q12_9 (by simpa using h)], fun h => by simp [q12_11 (by simpa using h)], fun h => by simp [q13_12 (by simpa using h)], fun h => by simp [q15_14 (by simpa using h)], fun h => by simp [q16_15 (by simpa using h)], fun h => by simp [q17_13 (by simpa using h)], fun h => by simp [q17_16 (by simpa using h)], fun h => by simp [q18_3 (by simpa using h)], fun h => by simp [q18_5 (by simpa using h)], fun h => by simp [q19_18 (by simpa using h)], fun h => by simp [q19_17 (by simpa using h)]⟩
            · simp only [List.getElem?_toArray, List.getElem?_cons_zero, List.getElem?_cons_succ, Option.some.injEq] at ho
              subst ho
              go_simp
              refine hK.out _ _ ⟨_, _, _, _, _, _, _, _, _, _, _, _, _, _, _, _, _, _, _, rfl, hk, hx, hm, fun h => h0 (by simpa using h), fun h => h1 (by simpa using h), fun h => h2 (by simpa using h), fun h => h3 (by simpa using h), fun h => h4 (by simpa using h), fun h => h5 (by simpa using h), fun h => h6 (by simpa using h), fun h => h7 (by simpa using h), fun h => h8 (by simpa using h), fun h => h9 (by simpa using h), fun _ => rfl, fun h => h11 (by simpa using h), fun h => h12 (by simpa using h), fun h => h13 (by simpa using h), fun h => h14 (by simpa using h), fun h => h15 (by simpa using h), fun h h9 => h16 (by simpa using h) (by simpa using h9), fun h => h17 (by simpa using h), fun h => h18 (by simpa using h), fun h => bo (by simpa using h), fun h => bn (by simpa using h), fun h => ro (by simpa using h), fun h => rn (by simpa using h), fun h => by simp [q1_0 (by simpa using h)], fun h => by simp [q2_1 (by simpa using h)], fun h => by simp [q3_2 (by simpa using h)], fun h => by simp [q5_4 (by simpa using h)], fun h => by simp [q7_6 (by simpa using h)], fun h => by simp [q8_7 (by simpa using h)], fun h => by simp [q9_8 (by simpa using h)], fun h => by simp [q11_10 (by simpa using h)], fun h => by simp [q12_9 (by simpa using h)], fun h => by simp [q12_11 (by simpa using h)], fun h => by simp [q13_12 (by simpa using h)], fun h => by simp [q15_14 (by simpa using h)], fun h => by simp [q16_15 (by simpa using h)], fun h => by simp [q17_13 (by simpa using h)], fun h => by simp [q17_16 (by simpa using h)], fun h => by simp [q18_3 (by simpa using h)], fun h => by simp [q18_5 (by simpa using h)], fun h => by simp [q19_18 (by simpa using h)], fun h => by simp [q19_17 (by simpa using h)]⟩
            · simp only [List.getElem?_toArray, List.getElem?_cons_zero, List.getElem?_cons_succ, Option.some.injEq] at ho
              subst ho
              have e_10 := dep 10 (by kernel_rfl)
              obtain rfl := h10 e_10
              obtain ⟨c0, c1, -⟩ := cells7a hx
              go_simp
              refine hK.out _ _ ⟨_, _, _, _, _, _, _, _, _, _, _, _, _, _, _, _, _, _, _, rfl, hk, hx, hm, fun h => h0 (by simpa using h), fun h => h1 (by simpa using h), fun h => h2 (by simpa using h), fun h => h3 (by simpa using h), fun h => h4 (by simpa using h), fun h => h5 (by simpa using h), fun h => h6 (by simpa using h), fun h => h7 (by simpa using h), fun h => h8 (by simpa using h), fun h => h9 (by simpa using h), fun _ => rfl, fun _ => rfl, fun h => h12 (by simpa using h), fun h => h13 (by simpa using h), fun h => h14 (by simpa using h), fun h => h15 (by simpa using h), fun h h9 => h16 (by simpa using h) (by simpa using h9), fun h => h17 (by simpa using h), fun h => h18 (by simpa using h), fun h => bo (by simpa using h), fun h => bn (by simpa using h), fun h => ro (by simpa using h), fun h => rn (by simpa using h), fun h => by simp [q1_0 (by simpa using h)], fun h => by simp [q2_1 (by simpa using h)], fun h => by simp [q3_2 (by simpa using h)], fun h => by simp [q5_4 (by simpa using h)], fun h => by simp [q7_6 (by simpa using h)], fun h => by simp [q8_7 (by simpa using h)], fun h => by simp [q9_8 (by simpa using h)], fun _ => by simp [e_10], fun h => by simp [q12_9 (by simpa using h)], fun h => by simp [q12_11 (by simpa using h)], fun h => by simp [q13_12 (by simpa using h)], fun h => by simp [q15_14 (by simpa using h)], fun h => by simp [q16_15 (by simpa using h)], fun h => by simp [q17_13 (by simpa using h)], fun h => by simp [q17_16 (by simpa using h)], fun h => by simp [q18_3 (by simpa using h)], fun h => by simp [q18_5 (by simpa using h)], fun h => by simp [q19_18 (by simpa using h)], fun h => by simp [q19_17 (by simpa using h)]⟩
            · simp only [List.getElem?_toArray, List.getElem?_cons_zero, List.getElem?_cons_succ, Option.some.injEq] at ho
              subst ho
              have e_9 := dep 9 (by kernel_rfl)
              have e_11 := dep 11 (by kernel_rfl)
              have e_8 := q9_8 e_9
              have e_10 := q11_10 e_11
              have e_7 := q8_7 e_8
              have e_6 := q7_6 e_7
              obtain rfl := h6 e_6
              obtain rfl := h7 e_7
              obtain rfl := h8 e_8
              obtain rfl := h9 e_9
              obtain rfl := h10 e_10
              obtain rfl := h11 e_11
              have hx0 : (0 : Int) ≤ (x : Int) := by omega
              have hx1 : (x : Int) < (n : Int) := by omega
              go_simp
              refine hK.out _ _ ⟨_, _, _, _, _, _, _, _, _, _, _, _, _, _, _, _, _, _, _, rfl, hk, hx, hm, fun h => h0 (by simpa using h), fun h => h1 (by simpa using h), fun h => h2 (by simpa using h), fun h => h3 (by simpa using h), fun h => h4 (by simpa using h), fun h => h5 (by simpa using h), fun _ => rfl, fun _ => rfl, fun _ => rfl, fun _ => rfl, fun _ => rfl, fun _ => rfl, fun _ => rfl, fun h => h13 (by simpa using h), fun h => h14 (by simpa using h), fun h => h15 (by simpa using h), fun h h9 => h16 (by simpa using h) (by simpa using h9), fun h => h17 (by simpa using h), fun h => h18 (by simpa using h), fun h => bo (by simpa using h), fun h => bn (by simpa using h), fun h => ro (by simpa using h), fun h => rn (by simpa using h), fun h => by simp [q1_0 (by simpa using h)], fun h => by simp [q2_1 (by simpa using h)], fun h => by simp [q3_2 (by simpa using h)], fun h => by simp [q5_4 (by simpa using h)], fun h => by simp [q7_6 (by simpa using h)], fun h => by simp [q8_7 (by simpa using h)], fun h => by simp [q9_8 (by simpa using h)], fun h => by simp [q11_10 (by simpa using h)], fun _ => by simp [e_9], fun _ => by simp [e_11], fun h => by simp [q13_12 (by simpa using h)], fun h => by simp [q15_14 (by simpa using h)], fun h => by simp [q16_15 (by simpa using h)], fun h => by simp [q17_13 (by simpa using h)], fun h => by simp [q17_16 (by simpa using h)], fun h => by simp [q18_3 (by simpa using h)], fun h => by simp [q18_5 (by simpa using h)], fun h => by simp [q19_18 (by simpa using h)], fun h => by simp [q19_17 (by simpa using h)]⟩
            · simp only [List.getElem?_toArray, List.getElem?_cons_zero, List.getElem?_cons_succ, Option.some.injEq] at ho
              subst ho
              have e_12 := dep 12 (by kernel_rfl)
              have e_9 := q12_9 e_12
              have e_11 := q12_11 e_12
              have e_8 := q9_8 e_9
              have e_10 := q11_10 e_11
              have e_7 := q8_7 e_8
              have e_6 := q7_6 e_7
              obtain rfl := h6 e_6
              obtain rfl := h7 e_7
              obtain rfl := h8 e_8
              obtain rfl := h9 e_9
              obtain rfl := h10 e_10
              obtain rfl := h11 e_11
              obtain rfl := h12 e_12
              have n19 : b 19 = false := by
                cases hb : b 19
                · rfl
                · have := q17_13 (q19_17 hb); rw [hbi] at this; cases this
              have cs : w'.cell? ⟨sb, x, none⟩ = some (.slice ra nL rc) := by
                have h1 := bo n19
                simp only [World.cell?, h1]
                simpa using HVX.out
              go_simp
              refine hK.out _ _ ⟨_, _, _, _, _, _, _, _, _, _, _, _, _, _, _, _, _, _, _, rfl, hk, hx, hm, fun h => h0 (by simpa using h), fun h => h1 (by simpa using h), fun h => h2 (by simpa using h), fun h => h3 (by simpa using h), fun h => h4 (by simpa using h), fun h => h5 (by simpa using h), fun _ => rfl, fun _ => rfl, fun _ => rfl, fun _ => rfl, fun _ => rfl, fun _ => rfl, fun _ => rfl, fun _ => rfl, fun h => h14 (by simpa using h), fun h => h15 (by simpa using h), fun h h9 => h16 (by simpa using h) (by simpa using h9), fun h => h17 (by simpa using h), fun h => h18 (by simpa using h), fun h => bo (by simpa using h), fun h => bn (by simpa using h), fun h => ro (by simpa using h), fun h => rn (by simpa using h), fun h => by simp [q1_0 (by simpa using h)], fun h => by simp [q2_1 (by simpa using h)], fun h => by simp [q3_2 (by simpa using h)], fun h => by simp [q5_4 (by simpa using h)], fun h => by simp [q7_6 (by simpa using h)], fun h => by simp [q8_7 (by simpa using h)], fun h => by simp [q9_8 (by simpa using h)], fun h => by simp [q11_10 (by simpa using h)], fun h => by simp [q12_9 (by simpa using h)], fun h => by simp [q12_11 (by simpa using h)], fun _ => by simp [e_12], fun h => by simp [q15_14 (by simpa using h)], fun h => by simp [q16_15 (by simpa using h)], fun h => by simp [q17_13 (by simpa using h)], fun h => by simp [q17_16 (by simpa using h)], fun h => by simp [q18_3 (by simpa using h)], fun h => by simp [q18_5 (by simpa using h)], fun h => by simp [q19_18 (by simpa using h)], fun h => by simp [q19_17 (by simpa using h)]⟩
            · simp only [List.getElem?_toArray, List.getElem?_cons_zero, List.getElem?_cons_succ, Option.some.injEq] at ho
              subst ho
              go_simp
              refine hK.out _ _ ⟨_, _, _, _, _, _, _, _, _, _, _, _, _, _, _, _, _, _, _, rfl, hk, hx, hm, fun h => h0 (by simpa using h), fun h => h1 (by simpa using h), fun h => h2 (by simpa using h), fun h => h3 (by simpa using h), fun h => h4 (by simpa using h), fun h => h5 (by simpa using h), fun h => h6 (by simpa using h), fun h => h7 (by simpa using h), fun h => h8 (by simpa using h), fun h => h9 (by simpa using h), fun h => h10 (by simpa using h), fun h => h11 (by simpa using h), fun h => h12 (by simpa using h), fun h => h13 (by simpa using h), fun _ => rfl, fun h => h15 (by simpa using h), fun h h9 => h16 (by simpa using h) (by simpa using h9), fun h => h17 (by simpa using h), fun h => h18 (by simpa using h), fun h => bo (by simpa using h), fun h => bn (by simpa using h), fun h => ro (by simpa using h), fun h => rn (by simpa using h), fun h => by simp [q1_0 (by simpa using h)], fun h => by simp [q2_1 (by simpa using h)], fun h => by simp [q3_2 (by simpa using h)], fun h => by simp [q5_4 (by simpa using h)], fun h => by simp [q7_6 (by simpa using h)], fun h => by simp [q8_7 (by simpa using h)], fun h => by simp [q9_8 (by simpa using h)], fun h => by simp [q11_10 (by simpa using h)], fun h => by simp [q12_9 (by simpa using h)], fun h => by simp [q12_11 (by simpa using h)], fun h => by simp [q13_12 (by simpa using h)], fun h => by simp [q15_14 (by simpa using h)], fun h => by simp [q16_15 (by simpa using h)], fun h => by simp [q17_13 (by simpa using h)], fun h => by simp [q17_16 (by simpa using h)], fun h => by simp [q18_3 (by simpa using h)], fun h => by simp [q18_5 (by simpa using h)], fun h => by simp [q19_18 (by simpa using h)], fun h => by simp [q19_17 (by simpa using h)]⟩
            · simp only [List.getElem?_toArray, List.getElem?_cons_zero, List.getElem?_cons_succ, Option.some.injEq] at ho
              subst ho
              have e_14 := dep 14 (by kernel_rfl)
              obtain rfl := h14 e_14
              obtain ⟨c0, c1, -⟩ := cells7a hx
              go_simp
              refine hK.out _ _ ⟨_, _, _, _, _, _, _, _, _, _, _, _, _, _, _, _, _, _, _, rfl, hk, hx, hm, fun h => h0 (by simpa using h), fun h => h1 (by simpa using h), fun h => h2 (by simpa using h), fun h => h3 (by simpa using h), fun h => h4 (by simpa using h), fun h => h5 (by simpa using h), fun h => h6 (by simpa using h), fun h => h7 (by simpa using h), fun h => h8 (by simpa using h), fun h => h9 (by simpa using h), fun h => h10 (by simpa using h), fun h => h11 (by simpa using h), fun h => h12 (by simpa using h), fun h => h13 (by simpa using h), fun _ => rfl, fun _ => rfl, fun h h9 => h16 (by simpa using h) (by simpa using h9), fun h => h17 (by simpa using h), fun h => h18 (by simpa using h), fun h => bo (by simpa using h), fun h => bn (by simpa using h), fun h => ro (by simpa using h), fun h => rn (by simpa using h), fun h => by simp [q1_0 (by simpa using h)], fun h => by simp [q2_1 (by simpa using h)], fun h => by simp [q3_2 (by simpa using h)], fun h => by simp [q5_4 (by simpa using h)], fun h => by simp [q7_6 (by simpa using h)], fun h => by simp [q8_7 (by simpa using h)], fun h => by simp [q9_8 (by simpa using h)], fun h => by simp [q11_10 (by simpa using h)], fun h => by simp [q12_9 (by simpa using h)], fun h => by simp [q12_11 (by simpa using h)], fun h => by simp [q13_12 (by simpa using h)], fun _ => by simp [e_14], fun h => by simp [q16_15 (by simpa using h)], fun h => by simp [q17_13 (by simpa using h)], fun h => by simp [q17_16 (by simpa using h)], fun h => by simp [q18_3 (by simpa using h)], fun h => by simp [q18_5 (by simpa using h)], fun h => by simp [q19_18 (by simpa using h)], fun h => by simp [q19_17 (by simpa using h)]⟩
            · simp only [List.getElem?_toArray, List.getElem?_cons_zero, List.getElem?_cons_succ, Option.some.injEq] at ho
              subst ho
              have e_15 := dep 15 (by kernel_rfl)
              have e_14 := q15_14 e_15
              obtain rfl := h14 e_14
              obtain rfl := h15 e_15
              have n17 : b 17 = false := by
                cases hb : b 17
                · rfl
                · have := q17_16 hb; rw [hbi] at this; cases this
              have b5 := bel1 w' (.cells #[.int .i64 (y : Int)] 3)
              go_simp
              refine hK.out _ _ ⟨_, _, _, _, _, _, _, _, _, _, _, _, _, _, _, _, _, _, _, rfl, hk.trans (Kept.below b5 fun b hb => .inr (.inr (Nat.le_trans hk.size hb))), (b5.block _ (heap_lt hx)).trans hx, (b5.block _ (heap_lt hm)).trans hm, fun h => h0 (by simpa using h), fun h => h1 (by simpa using h), fun h => h2 (by simpa using h), fun h => h3 (by simpa using h), fun h => h4 (by simpa using h), fun h => h5 (by simpa using h), fun h => h6 (by simpa using h), fun h => h7 (by simpa using h), fun h => h8 (by simpa using h), fun h => h9 (by simpa using h), fun h => h10 (by simpa using h), fun h => h11 (by simpa using h), fun h => h12 (by simpa using h), fun h => h13 (by simpa using h), fun _ => rfl, fun _ => rfl, fun _ _ => ⟨w'.heap.size, rfl, alloc_new _ _⟩, fun h => h17 (by simpa using h), fun h => h18 (by simpa using h), fun h => (b5.block _ (heap_lt (bo (by simpa using h)))).trans (bo (by simpa using h)), fun h => (b5.block _ (heap_lt (bn (by simpa using h)))).trans (bn (by simpa using h)), fun h => ownsRow_keep (ro (by simpa using h)) fun k hk9 => b5.block k ((ro (by simpa using h)).lt k hk9).2, fun h => ownsRow_keep (rn (by simpa using h)) fun k hk9 => b5.block k ((rn (by simpa using h)).lt k hk9).2, fun h => by simp [q1_0 (by simpa using h)], fun h => by simp [q2_1 (by simpa using h)], fun h => by simp [q3_2 (by simpa using h)], fun h => by simp [q5_4 (by simpa using h)], fun h => by simp [q7_6 (by simpa using h)], fun h => by simp [q8_7 (by simpa using h)], fun h => by simp [q9_8 (by simpa using h)], fun h => by simp [q11_10 (by simpa using h)], fun h => by simp [q12_9 (by simpa using h)], fun h => by simp [q12_11 (by simpa using h)], fun h => by simp [q13_12 (by simpa using h)], fun h => by simp [q15_14 (by simpa using h)], fun _ => by simp [e_15], fun h => by simp [q17_13 (by simpa using h)], fun h => by simp [q17_16 (by simpa using h)], fun h => by simp [q18_3 (by simpa using h)], fun h => by simp [q18_5 (by simpa using h)], fun h => by simp [q19_18 (by simpa using h)], fun h => by simp [q19_17 (by simpa using h)]⟩
            · simp only [List.getElem?_toArray, List.getElem?_cons_zero, List.getElem?_cons_succ, Option.some.injEq] at ho
              subst ho
              have e_13 := dep 13 (by kernel_rfl)
              have e_16 := dep 16 (by kernel_rfl)
              have e_12 := q13_12 e_13
              have e_15 := q16_15 e_16
              have e_9 := q12_9 e_12
              have e_11 := q12_11 e_12
              have e_14 := q15_14 e_15
              have e_8 := q9_8 e_9
              have e_10 := q11_10 e_11
              have e_7 := q8_7 e_8
              have e_6 := q7_6 e_7
              obtain rfl := h6 e_6
              obtain rfl := h7 e_7
              obtain rfl := h8 e_8
              obtain rfl := h9 e_9
              obtain rfl := h10 e_10
              obtain rfl := h11 e_11
              obtain rfl := h12 e_12
              obtain rfl := h13 e_13
              obtain rfl := h14 e_14
              obtain rfl := h15 e_15
              have n19 : b 19 = false := by
                cases hb : b 19
                · rfl
                · have := q19_17 hb; rw [hbi] at this; cases this
              obtain ⟨g4, rfl, hg4⟩ := h16 e_16 hbi
              have hro := ro hbi
              have hsz := hk.size
              refine step_append_lies _ (by rfl) (.tmp 36) (.tmp 39) 23 (by rfl) w5.heap.size 3 i3 (.int .i64 0) 1 8 Tryd.underlying23 hi3 hz03 hz13 hz23 (by rfl) (by decide) (.slice ra nL rc) nL _ (by rfl) hro ⟨g4, 0, none⟩ 1 1 [.int .i64 (y : Int)] (by rfl) (by rfl) (World.news_of_block hg4) (by intro u hu; simp at hu; subst hu; rfl) (by decide) (by unfold maxLen; omega) (by omega) (by omega) _ rfl ?_
              intro g5 cap5 w5x hown' hgrow hat _
              have hkeep : ∀ k, (Value.slice ra nL rc).ownBlock ≠ some k → k < w'.heap.size → w5x.heap[k]? = w'.heap[k]? := fun k hne hl => hgrow.block k hl (fun e => hne e.symm)
              have hbo := bo n19
              have hk5 : Kept (fun b => b = sb ∨ (Value.slice ra nL rc).ownBlock = some b ∨ V.heap.size ≤ b) V w5x := hk.trans ⟨hgrow.os, hgrow.tape, hgrow.output, hgrow.size, fun k hF => hgrow.block k (by have : ¬ V.heap.size ≤ k := fun h => hF (.inr (.inr h)); omega) (fun e => hF (.inr (.inl e.symm)))⟩
              refine hK.out _ _ ⟨_, _, _, _, _, _, _, _, _, _, _, _, _, _, _, _, _, _, _, rfl, hk5, (hkeep _ hrx (heap_lt hx)).trans hx, (hkeep _ hrb (heap_lt hm)).trans hm, fun h => h0 (by simpa using h), fun h => h1 (by simpa using h), fun h => h2 (by simpa using h), fun h => h3 (by simpa using h), fun h => h4 (by simpa using h), fun h => h5 (by simpa using h), fun _ => rfl, fun _ => rfl, fun _ => rfl, fun _ => rfl, fun _ => rfl, fun _ => rfl, fun _ => rfl, fun _ => rfl, fun _ => rfl, fun _ => rfl, fun _ h => absurd h (by simp), fun _ => ⟨_, _, rfl, fun k hk => (by simp [Value.ownBlock] at hk; subst hk; rcases hat with h | h; exact .inl h; exact .inr (by omega))⟩, fun h => h18 (by simpa using h), fun _ => (hkeep _ (own_ne_block hro hbo (by decide)) (heap_lt hbo)).trans hbo, fun h => absurd h (by simp [n19]), fun h => absurd h (by simp), fun _ => hown', fun h => by simp [q1_0 (by simpa using h)], fun h => by simp [q2_1 (by simpa using h)], fun h => by simp [q3_2 (by simpa using h)], fun h => by simp [q5_4 (by simpa using h)], fun h => by simp [q7_6 (by simpa using h)], fun h => by simp [q8_7 (by simpa using h)], fun h => by simp [q9_8 (by simpa using h)], fun h => by simp [q11_10 (by simpa using h)], fun h => by simp [q12_9 (by simpa using h)], fun h => by simp [q12_11 (by simpa using h)], fun h => by simp [q13_12 (by simpa using h)], fun h => by simp [q15_14 (by simpa using h)], fun h => by simp [q16_15 (by simpa using h)], fun _ => by simp [e_13], fun _ => by simp [e_16], fun h => by simp [q18_3 (by simpa using h)], fun h => by simp [q18_5 (by simpa using h)], fun h => by simp [q19_18 (by simpa using h)], fun h => by simp [q19_17 (by simpa using h)]⟩
            · simp only [List.getElem?_toArray, List.getElem?_cons_zero, List.getElem?_cons_succ, Option.some.injEq] at ho
              subst ho
              have e_3 := dep 3 (by kernel_rfl)
              have e_5 := dep 5 (by kernel_rfl)
              have e_2 := q3_2 e_3
              have e_4 := q5_4 e_5
              have e_1 := q2_1 e_2
              have e_0 := q1_0 e_1
              obtain rfl := h0 e_0
              obtain rfl := h1 e_1
              obtain rfl := h2 e_2
              obtain rfl := h3 e_3
              obtain rfl := h4 e_4
              obtain rfl := h5 e_5
              have hx0 : (0 : Int) ≤ (x : Int) := by omega
              have hx1 : (x : Int) < (n : Int) := by omega
              go_simp
              refine hK.out _ _ ⟨_, _, _, _, _, _, _, _, _, _, _, _, _, _, _, _, _, _, _, rfl, hk, hx, hm, fun _ => rfl, fun _ => rfl, fun _ => rfl, fun _ => rfl, fun _ => rfl, fun _ => rfl, fun h => h6 (by simpa using h), fun h => h7 (by simpa using h), fun h => h8 (by simpa using h), fun h => h9 (by simpa using h), fun h => h10 (by simpa using h), fun h => h11 (by simpa using h), fun h => h12 (by simpa using h), fun h => h13 (by simpa using h), fun h => h14 (by simpa using h), fun h => h15 (by simpa using h), fun h h9 => h16 (by simpa using h) (by simpa using h9), fun h => h17 (by simpa using h), fun _ => rfl, fun h => bo (by simpa using h), fun h => bn (by simpa using h), fun h => ro (by simpa using h), fun h => rn (by simpa using h), fun h => by simp [q1_0 (by simpa using h)], fun h => by simp [q2_1 (by simpa using h)], fun h => by simp [q3_2 (by simpa using h)], fun h => by simp [q5_4 (by simpa using h)], fun h => by simp [q7_6 (by simpa using h)], fun h => by simp [q8_7 (by simpa using h)], fun h => by simp [q9_8 (by simpa using h)], fun h => by simp [q11_10 (by simpa using h)], fun h => by simp [q12_9 (by simpa using h)], fun h => by simp [q12_11 (by simpa using h)], fun h => by simp [q13_12 (by simpa using h)], fun h => by simp [q15_14 (by simpa using h)], fun h => by simp [q16_15 (by simpa using h)], fun h => by simp [q17_13 (by simpa using h)], fun h => by simp [q17_16 (by simpa using h)], fun _ => by simp [e_3], fun _ => by simp [e_5], fun h => by simp [q19_18 (by simpa using h)], fun h => by simp [q19_17 (by simpa using h)]⟩
            · simp only [List.getElem?_toArray, List.getElem?_cons_zero, List.getElem?_cons_succ, Option.some.injEq] at ho
              subst ho
              have e_18 := dep 18 (by kernel_rfl)
              have e_17 := dep 17 (by kernel_rfl)
              have e_3 := q18_3 e_18
              have e_5 := q18_5 e_18
              have e_13 := q17_13 e_17
              have e_16 := q17_16 e_17
              have e_2 := q3_2 e_3
              have e_4 := q5_4 e_5
              have e_12 := q13_12 e_13
              have e_15 := q16_15 e_16
              have e_1 := q2_1 e_2
              have e_9 := q12_9 e_12
              have e_11 := q12_11 e_12
              have e_14 := q15_14 e_15
              have e_0 := q1_0 e_1
              have e_8 := q9_8 e_9
              have e_10 := q11_10 e_11
              have e_7 := q8_7 e_8
              have e_6 := q7_6 e_7
              obtain rfl := h0 e_0
              obtain rfl := h1 e_1
              obtain rfl := h2 e_2
              obtain rfl := h3 e_3
              obtain rfl := h4 e_4
              obtain rfl := h5 e_5
              obtain rfl := h6 e_6
              obtain rfl := h7 e_7
              obtain rfl := h8 e_8
              obtain rfl := h9 e_9
              obtain rfl := h10 e_10
              obtain rfl := h11 e_11
              obtain rfl := h12 e_12
              obtain rfl := h13 e_13
              obtain rfl := h14 e_14
              obtain rfl := h15 e_15
              obtain rfl := h18 e_18
              have hbo := bo hbi
              have cs : w'.cell? ⟨sb, x, none⟩ = some (.slice ra nL rc) := by
                simp only [World.cell?, hbo]
                simpa using HVX.out
              have f1 := Go.Frame.free hbo x
              obtain ⟨a7, c7, rfl, hA7⟩ := h17 e_17
              have hrn := rn e_17
              go_simp
              refine hK.out _ _ ⟨_, _, _, _, _, _, _, _, _, _, _, _, _, _, _, _, _, _, _, rfl, hk.setCell (p := ⟨sb, x, none⟩) (.inl rfl) _, blk_set hx (fun e => by have h1 := hx; rw [show wr.heap.size = sb from e, hbo] at h1; simp at h1), blk_set hm (fun e => by have h1 := hm; rw [show mb = sb from e, hbo] at h1; simp at h1), fun _ => rfl, fun _ => rfl, fun _ => rfl, fun _ => rfl, fun _ => rfl, fun _ => rfl, fun _ => rfl, fun _ => rfl, fun _ => rfl, fun _ => rfl, fun _ => rfl, fun _ => rfl, fun _ => rfl, fun _ => rfl, fun _ => rfl, fun _ => rfl, fun _ h => absurd h (by simp [e_17]), fun _ => ⟨_, _, rfl, hA7⟩, fun _ => rfl, fun h => absurd h (by simp), fun _ => set_rows hbo, fun h => absurd h (by simp [e_17]), fun _ => ownsRow_keep hrn fun k hk9 => heap_setCell_other _ _ _ _ (fun e => own_ne_block hrn hbo (by decide) ((show k = sb from e) ▸ hk9)), fun h => by simp [q1_0 (by simpa using h)], fun h => by simp [q2_1 (by simpa using h)], fun h => by simp [q3_2 (by simpa using h)], fun h => by simp [q5_4 (by simpa using h)], fun h => by simp [q7_6 (by simpa using h)], fun h => by simp [q8_7 (by simpa using h)], fun h => by simp [q9_8 (by simpa using h)], fun h => by simp [q11_10 (by simpa using h)], fun h => by simp [q12_9 (by simpa using h)], fun h => by simp [q12_11 (by simpa using h)], fun h => by simp [q13_12 (by simpa using h)], fun h => by simp [q15_14 (by simpa using h)], fun h => by simp [q16_15 (by simpa using h)], fun h => by simp [q17_13 (by simpa using h)], fun h => by simp [q17_16 (by simpa using h)], fun h => by simp [q18_3 (by simpa using h)], fun h => by simp [q18_5 (by simpa using h)], fun _ => by simp [e_18], fun _ => by simp [e_17]⟩
          case done2 =>
            rintro b a' w' ⟨v23, v24, v25, v26, v27, v28, v29, v30, v31, v32, v33, v34, v35, v36, v37, v38, v39, v40, v41, rfl, hk, hx, hm, h0, h1, h2, h3, h4, h5, h6, h7, h8, h9, h10, h11, h12, h13, h14, h15, h16, h17, h18, bo, bn, ro, rn, q1_0, q2_1, q3_2, q5_4, q7_6, q8_7, q9_8, q11_10, q12_9, q12_11, q13_12, q15_14, q16_15, q17_13, q17_16, q18_3, q18_5, q19_18, q19_17⟩ hall
            obtain rfl := h0 (hall 0)
            obtain rfl := h1 (hall 1)
            obtain rfl := h2 (hall 2)
            obtain rfl := h3 (hall 3)
            obtain rfl := h4 (hall 4)
            obtain rfl := h5 (hall 5)
            obtain rfl := h6 (hall 6)
            obtain rfl := h7 (hall 7)
            obtain rfl := h8 (hall 8)
            obtain rfl := h9 (hall 9)
            obtain rfl := h10 (hall 10)
            obtain rfl := h11 (hall 11)
            obtain rfl := h12 (hall 12)
            obtain rfl := h13 (hall 13)
            obtain rfl := h14 (hall 14)
            obtain rfl := h15 (hall 15)
            obtain rfl := h18 (hall 18)
            obtain ⟨ra', rc', rfl, hA7⟩ := h17 (hall 17)
            have HR2 := hid (And.intro (bn (hall 19)) (And.intro (rn (hall 17)) (And.intro hk hA7)))
            clear h0 h1 h2 h3 h4 h5 h6 h7 h8 h9 h10 h11 h12 h13 h14 h15 h16 h17 h18 bo bn ro rn hk hx hm hA7 hall
            dsimp only
            obtain ⟨w2, hw2⟩ : ∃ w2, w2 = w' := ⟨_, rfl⟩
            rw [← hw2] at HR2 ⊢
            clear hw2
            go_wp2
            go_roundg (gk - 1)
            case measure => omega
            case rel =>
              refine ⟨i + 1, vs.set x (.slice ra' (nL + 1) rc'), by go_num, by omega, ?_, ?_⟩
              · rw [List.take_add_one, HS.out.2.2]
                refine HE.out.snoc hxn HVX.out HG.out.2.2.1 HG.out.2.2.2 HR2.out.1 ?_ HR2.out.2.2.2 HR2.out.2.2.1
                have h9 := HR2.out.2.1
                rw [HNL.out] at h9 ⊢
                exact h9
              · exact (HS.out.2.1.trans (Kept.below HV.out.2 fun b hb => .inr (by omega))).trans (HR2.out.2.2.1.mono fun b hb => by
                  rcases hb with e | e | e
                  · exact .inl e
                  · exact .inr (HRO.out.lt b e).1
                  · exact .inr (by omega))
          case init2 =>
            exact ⟨_, _, _, _, _, _, _, _, _, _, _, _, _, _, _, _, _, _, _, rfl, (Kept.refl _ _).drew, HV.out.1, HBX.out, fun h => absurd h (by simp), fun h => absurd h (by simp), fun h => absurd h (by simp), fun h => absurd h (by simp), fun h => absurd h (by simp), fun h => absurd h (by simp), fun h => absurd h (by simp), fun h => absurd h (by simp), fun h => absurd h (by simp), fun h => absurd h (by simp), fun h => absurd h (by simp), fun h => absurd h (by simp), fun h => absurd h (by simp), fun h => absurd h (by simp), fun h => absurd h (by simp), fun h => absurd h (by simp), fun h => absurd h (by simp), fun h => absurd h (by simp), fun h => absurd h (by simp), fun _ => HSB.out, fun h => absurd h (by simp), fun _ => HRO.out, fun h => absurd h (by simp), fun h => absurd h (by simp), fun h => absurd h (by simp), fun h => absurd h (by simp), fun h => absurd h (by simp), fun h => absurd h (by simp), fun h => absurd h (by simp), fun h => absurd h (by simp), fun h => absurd h (by simp), fun h => absurd h (by simp), fun h => absurd h (by simp), fun h => absurd h (by simp), fun h => absurd h (by simp), fun h => absurd h (by simp), fun h => absurd h (by simp), fun h => absurd h (by simp), fun h => absurd h (by simp), fun h => absurd h (by simp), fun h => absurd h (by simp), fun h => absurd h (by simp)⟩
      · have hlt' : ¬ (i : Int) < (m : Int) := by omega
        have HS := hid (And.intro hsi hkw)
        clear hsi hkw
        go_wp2
        go_ret
        obtain ⟨hsi, hkw⟩ := HS.out
        obtain ⟨u7, g3, g4, u4, u5, u6, hb, hx, u4b⟩ := HM.out
        obtain ⟨hAS, hMS, hKS⟩ := HD.out
        have kb : ∀ b, b ≠ sb → b < w5.heap.size → wr.heap[b]? = w5.heap[b]? := fun b h1 h2 => hkw.block b fun h => by rcases h with h | h; exact h1 h; omega
        have ht : arcs.take i = arcs := List.take_of_length_le (by have := HR.out.1; simp at this; omega)
        rw [ht] at hsi
        refine ⟨⟨_, rfl, mb, AB, sb, km, n, n, rfl, ⟨(kb mb hMS (heap_lt u7)).trans u7, fun x hx => ?_, fun x hx => ?_, ⟨[], [], ⟨rfl, #[], 0, (kb km hKS (heap_lt u5)).trans u5, rfl, rfl⟩, fun j p hj => by simp at hj⟩, ⟨trivial, HNK.out.1⟩, ⟨trivial, HNK.out.2.1, Nat.lt_of_lt_of_le (heap_lt g3) hkw.size⟩, ⟨trivial, HNK.out.2.2, heap_lt hsi.blk⟩, Nat.lt_of_lt_of_le (heap_lt u5) hkw.size, HVN.out⟩, u6⟩, hb.trans (hkw.toBelow fun b h => by rcases h with h | h; omega; have := hb.size; omega)⟩
        · obtain ⟨v, p1, a, kk, c, r, rfl, p2, p3, p4, p5⟩ := g4 x hx
          refine ⟨a, kk, c, r, (World.cell?_of_block (kb AB hAS (heap_lt g3))).trans p1, CRow_kept p2 hkw.size fun h0 b off e hb9 => kb b (fun e9 => by obtain ⟨v, hv⟩ := row_first p2 h0 e; exact sil_ne u4 hv e9) hb9, p3, p4, fun h0 b9 off e => ⟨trivial, fun e9 => ?_⟩⟩
          obtain ⟨v, hv⟩ := row_first p2 h0 e
          exact cell_cells hv (e9 ▸ u5)
        · obtain ⟨L, v, g1, g2, g3', g5⟩ := hsi.rows x hx
          obtain ⟨ra, rc, rfl⟩ := own_form g2
          refine ⟨ra, L.length, rc, L, ?_, own_row' g2, by have := HR.out.1; simp at this; omega, fun y => g5 y, fun h0 b off e => ⟨trivial, fun e9 => ?_⟩⟩
          · have hbk := hsi.blk
            simp only [World.cell?, hbk]
            simpa using g1
          · have h1 := (g2.lt b (by rw [e]; rfl)).1
            have := heap_lt u5
            omega
  case init =>
    exact ⟨_, _, _, _, _, _, _, _, _, 0, 0, 0, rfl, HB.out.drew, HW.out, fun h => absurd h (by simp), fun h => absurd h (by simp), fun h => absurd h (by simp), fun h => absurd h (by simp), fun h => absurd h (by simp), fun h => absurd h (by simp), fun h => absurd h (by simp), fun h => absurd h (by simp), fun h => absurd h (by simp), fun h => absurd h (by simp), fun h => absurd h (by simp), fun h => absurd h (by simp), fun h => absurd h (by simp), fun h => absurd h (by simp)⟩
end Go.Proofs.YtogpnlkjcdedlaaDoor
end
