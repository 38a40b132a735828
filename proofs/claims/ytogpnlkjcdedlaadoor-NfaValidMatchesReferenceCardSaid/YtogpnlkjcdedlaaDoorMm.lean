/-
  The machine in memory; contracts: noStates, targets.
-/
import Derived.Test.YtogpnlkjcdedlaaDoorMp
import Derived.Test.YtogpnlkjcdedlaaDoorC
import Derived.BigQuiet
import Derived.Deep.RegionHeld3
set_option linter.unusedSimpArgs false
set_option linter.unusedVariables false
namespace Go.Proofs.YtogpnlkjcdedlaaDoor
open Go.RowKit Bs Rg Nf Go.Frame
attribute [local go_sem] eq_zero eq_set

/-- How many words. -/
def mw (n : Nat) : Nat := (n + 63) / 64
theorem mw_le {n : Nat} (h : n ≤ 2000) : mw n ≤ 1000 := by unfold mw; omega
theorem mw_lt {n x : Nat} (h : x < n) : x < 64 * mw n := by unfold mw; omega
theorem mw_pos {n : Nat} (h : 1 ≤ n) : 0 < mw n := by unfold mw; omega
theorem info46b : (Tryd.prog.info? 46).map (fun i => (i.zero, i.size, i.bytes)) = some (some (.int .u64 0), 1, 8) := by kernel_rfl
theorem wd_no (i : Nat) : wd (fun _ => false) i = 0 := nb_zero 64
theorem made_swc (m : Nat) : madeCells #[.int .u64 0] m = (swc (fun _ => false) m).toArray := by
  apply Array.ext'
  rw [toList_madeCells_one]
  apply List.ext_getElem?
  intro i
  by_cases h : i < m
  · rw [List.getElem?_replicate, if_pos h]
    show _ = (swc (fun _ => false) m)[i]?
    rw [swc_at h, wd_no]; rfl
  · rw [List.getElem?_replicate, if_neg h]
    show _ = (swc (fun _ => false) m)[i]?
    rw [List.getElem?_eq_none (by rw [swc_length]; omega)]
set_option maxRecDepth 100000 in
theorem make_words (m : Nat) (hm : m ≤ 1000000) (w : World) :
    (Instr.makeSlice 61 (.int .i64 (m : Int)) (.int .i64 (m : Int))).run Tryd.prog w = .ok (.slice (some ⟨w.heap.size, 0, none⟩) m m) (w.alloc (.cells (swc (fun _ => false) m).toArray 46)) := by
  obtain ⟨i, hi, h0, h1, h2⟩ := info_parts info46b
  have := run_make (P := Tryd.prog) w 61 46 i _ Tryd.underlying61 hi h0 .i64 .i64 m m (by omega) (Int.le_refl _) (by rw [h2]; omega) (by omega)
  rw [h1, show (Value.int .u64 0).cells = #[.int .u64 0] by kernel_rfl] at this
  rw [← made_swc]
  simpa using this
theorem CRow_kept {c : Nat} {W W' : World} {p : Option Addr} {n : Nat} {C : List (List Value)} (h : CRow c W p n C) (hs : W.heap.size ≤ W'.heap.size) (hk : n ≠ 0 → ∀ b off, p = some ⟨b, off, none⟩ → b < W.heap.size → W'.heap[b]? = W.heap[b]?) : CRow c W' p n C := by
  by_cases h0 : n = 0
  · exact ⟨h.1, .inl h0⟩
  refine ⟨h.1, h.2.imp id ?_⟩
  rintro ⟨b, off, rfl, hlt, hx⟩
  exact ⟨b, off, rfl, Nat.lt_of_lt_of_le hlt hs, fun i cs hi j v hj => (World.cell?_of_block (hk h0 b off rfl hlt)).trans (hx i cs hi j v hj)⟩
theorem Row_kept {W W' : World} {p : Option Addr} {n : Nat} {l : List Value} (h : Row W p n l) (hs : W.heap.size ≤ W'.heap.size) (hk : n ≠ 0 → ∀ b off, p = some ⟨b, off, none⟩ → b < W.heap.size → W'.heap[b]? = W.heap[b]?) : Row W' p n l := by
  by_cases h0 : n = 0
  · exact ⟨h.1, .inl h0⟩
  refine ⟨h.1, h.2.imp id ?_⟩
  rintro ⟨b, off, rfl, hlt, hx⟩
  exact ⟨b, off, rfl, Nat.lt_of_lt_of_le hlt hs, fun i x hi => (World.cell?_of_block (hk h0 b off rfl hlt)).trans (hx i x hi)⟩
/-- Where one state leads on a byte. -/
def tg (N : Nfa) (p : Nat × Nat) : Nat → Bool := tgt N (fun z => z == p.1) (UInt8.ofNat p.2)
/-- The machine in memory: its blocks, but for the map K, are of G. -/
structure MC (G : Nat → Prop) (W : World) (mb ab sb K ca cs : Nat) (N : Nfa) (n : Nat) : Prop where
  box : W.heap[mb]? = some (.cells #[.slice (some ⟨ab, 0, none⟩) n ca, .slice (some ⟨sb, 0, none⟩) n cs, .map (some K)] 98 (0, 0))
  arcs : ∀ x, x < n → ∃ (a : Option Addr) (k c : Nat) (l : List Arc), W.cell? ⟨ab, x, none⟩ = some (.slice a k c) ∧ CRow 7 W a k (l.map acs) ∧ k ≤ 140737488355328 ∧ (∀ z, z ∈ l ↔ z ∈ N.arcs ∧ z.f = (x : Int)) ∧ (k ≠ 0 → ∀ b off, a = some ⟨b, off, none⟩ → G b ∧ b ≠ K)
  sil : ∀ x, x < n → ∃ (a : Option Addr) (k c : Nat) (l : List Nat), W.cell? ⟨sb, x, none⟩ = some (.slice a k c) ∧ Row W a k (ints l) ∧ k ≤ 140737488355328 ∧ (∀ y, y ∈ l ↔ Ep N x y) ∧ (k ≠ 0 → ∀ b off, a = some ⟨b, off, none⟩ → G b ∧ b ≠ K)
  known : ∃ ps vs, MapM W K ps vs ∧ ∀ (j : Nat) (p : Nat × Nat), ps[j]? = some p → ∃ blk, vs[j]? = some (.slice (some ⟨blk, 0, none⟩) (mw n) (mw n)) ∧ MB W blk (tg N p) (mw n) ∧ G blk ∧ blk ≠ K
  gm : G mb ∧ mb ≠ K
  ga : G ab ∧ ab ≠ K ∧ ab < W.heap.size
  gs : G sb ∧ sb ≠ K ∧ sb < W.heap.size
  gk : K < W.heap.size
  vn : Vn N n
theorem MC.keep {G G' : Nat → Prop} {W W' : World} {mb ab sb K ca cs n : Nat} {N : Nfa} (h : MC G W mb ab sb K ca cs N n) (hs : W.heap.size ≤ W'.heap.size) (hk : ∀ b, b < W.heap.size → G b → b ≠ K → W'.heap[b]? = W.heap[b]?) (hK : W'.heap[K]? = W.heap[K]?) (hG : ∀ b, b < W.heap.size → G b → G' b) : MC G' W' mb ab sb K ca cs N n := by
  have lm := heap_lt h.box
  have lr : ∀ {c k : Nat} {a : Option Addr} {C : List (List Value)}, CRow c W a k C → k ≠ 0 → ∀ b off, a = some ⟨b, off, none⟩ → b < W.heap.size := fun hr h0 b off e => by
    rcases hr.2 with h | ⟨b', off', e', hb', _⟩
    · exact absurd h h0
    · rw [e] at e'; simp at e'; omega
  have lr' : ∀ {k : Nat} {a : Option Addr} {C : List Value}, Row W a k C → k ≠ 0 → ∀ b off, a = some ⟨b, off, none⟩ → b < W.heap.size := fun hr h0 b off e => by
    rcases hr.2 with h | ⟨b', off', e', hb', _⟩
    · exact absurd h h0
    · rw [e] at e'; simp at e'; omega
  refine ⟨(hk mb lm h.gm.1 h.gm.2).trans h.box, fun x hx => ?_, fun x hx => ?_, ?_, ⟨hG _ lm h.gm.1, h.gm.2⟩, ⟨hG _ h.ga.2.2 h.ga.1, h.ga.2.1, Nat.lt_of_lt_of_le h.ga.2.2 hs⟩, ⟨hG _ h.gs.2.2 h.gs.1, h.gs.2.1, Nat.lt_of_lt_of_le h.gs.2.2 hs⟩, Nat.lt_of_lt_of_le h.gk hs, h.vn⟩
  · obtain ⟨a, k, c, l, h1, h2, h3, h4, h5⟩ := h.arcs x hx
    exact ⟨a, k, c, l, (World.cell?_of_block (hk ab h.ga.2.2 h.ga.1 h.ga.2.1)).trans h1, CRow_kept h2 hs fun h0 b off e hb => hk b hb (h5 h0 b off e).1 (h5 h0 b off e).2, h3, h4, fun h0 b off e => ⟨hG b (lr h2 h0 b off e) (h5 h0 b off e).1, (h5 h0 b off e).2⟩⟩
  · obtain ⟨a, k, c, l, h1, h2, h3, h4, h5⟩ := h.sil x hx
    exact ⟨a, k, c, l, (World.cell?_of_block (hk sb h.gs.2.2 h.gs.1 h.gs.2.1)).trans h1, Row_kept h2 hs fun h0 b off e hb => hk b hb (h5 h0 b off e).1 (h5 h0 b off e).2, h3, h4, fun h0 b off e => ⟨hG b (lr' h2 h0 b off e) (h5 h0 b off e).1, (h5 h0 b off e).2⟩⟩
  · obtain ⟨ps, vs, h1, h2⟩ := h.known
    refine ⟨ps, vs, h1.keep hK, fun j p hj => ?_⟩
    obtain ⟨blk, h3, h4, h5, h6⟩ := h2 j p hj
    exact ⟨blk, h3, (hk blk h4.lt h5 h6).trans h4, hG _ h4.lt h5, h6⟩
theorem MC.below {G : Nat → Prop} {W W' : World} {mb ab sb K ca cs n : Nat} {N : Nfa} (h : MC G W mb ab sb K ca cs N n) (hb : Below W.heap.size W W') : MC G W' mb ab sb K ca cs N n :=
  h.keep hb.size (fun b hl _ _ => hb.block b hl) (hb.block K h.gk) (fun _ _ h => h)
theorem MC.more {G G' : Nat → Prop} {W : World} {mb ab sb K ca cs n : Nat} {N : Nfa} (h : MC G W mb ab sb K ca cs N n) (hG : ∀ b, b < W.heap.size → G b → G' b) : MC G' W mb ab sb K ca cs N n :=
  h.keep (Nat.le_refl _) (fun _ _ _ _ => rfl) rfl hG
/-- A call that writes only to blocks that are not the machine's. -/
theorem MC.kept {G F : Nat → Prop} {W W' : World} {mb ab sb K ca cs n : Nat} {N : Nfa} (h : MC G W mb ab sb K ca cs N n) (hb : Kept F W W') (hF : ∀ b, b < W.heap.size → G b → ¬ F b) (hK : ¬ F K) : MC G W' mb ab sb K ca cs N n :=
  h.keep hb.size (fun b hl hg _ => hb.block b (hF b hl hg)) (hb.block K hK) (fun _ _ h => h)
theorem kv_inj {p q : Nat × Nat} (h : kv p = kv q) : p = q := by
  obtain ⟨a, b⟩ := p
  obtain ⟨a', b'⟩ := q
  unfold kv at h
  simp at h
  rw [show a = a' by omega, show b = b' by omega]
theorem map_inj {α β : Type} {f : α → β} (hf : ∀ x y, f x = f y → x = y) : ∀ {l m : List α}, l.map f = m.map f → l = m
  | [], [], _ => rfl
  | [], _ :: _, h => by simp at h
  | _ :: _, [], h => by simp at h
  | x :: l, y :: m, h => by
    simp only [List.map_cons, List.cons.injEq] at h
    rw [hf x y h.1, map_inj hf h.2]
theorem MapM.uniq {W : World} {m : Nat} {ps ps' : List (Nat × Nat)} {vs vs' : List Value} (h : MapM W m ps vs) (k : MapM W m ps' vs') : ps = ps' ∧ vs = vs' := by
  obtain ⟨_, es, ck, h1, h2, h3⟩ := h
  obtain ⟨_, es', ck', k1, k2, k3⟩ := k
  rw [h1] at k1
  simp at k1
  obtain ⟨rfl, rfl⟩ := k1
  exact ⟨map_inj (fun _ _ => kv_inj) (h2.symm.trans k2), h3.symm.trans k3⟩
/-- One more set known. -/
theorem MC.add {G : Nat → Prop} {W W' : World} {mb ab sb K ca cs n blk : Nat} {N : Nfa} {ps : List (Nat × Nat)} {vs : List Value} {q : Nat × Nat} (h : MC G W mb ab sb K ca cs N n) (hm : MapM W K ps vs) (hm' : MapM W' K (ps ++ [q]) (vs ++ [.slice (some ⟨blk, 0, none⟩) (mw n) (mw n)])) (hk : Kept (· = K) W W') (hs : W'.heap.size = W.heap.size)
    (hb : MB W blk (tg N q) (mw n)) (hK : blk ≠ K) : MC (fun b => G b ∨ b = blk) W' mb ab sb K ca cs N n := by
  have h1 : MC (fun b => G b ∨ b = blk) W mb ab sb K ca cs N n := h.more fun _ _ h => .inl h
  have kb : ∀ b, b ≠ K → W'.heap[b]? = W.heap[b]? := fun b hb => hk.block b hb
  refine ⟨(kb mb h1.gm.2).trans h1.box, fun x hx => ?_, fun x hx => ?_, ⟨_, _, hm', fun j p hj => ?_⟩, h1.gm, ⟨h1.ga.1, h1.ga.2.1, by rw [hs]; exact h1.ga.2.2⟩, ⟨h1.gs.1, h1.gs.2.1, by rw [hs]; exact h1.gs.2.2⟩, by rw [hs]; exact h1.gk, h1.vn⟩
  · obtain ⟨a, k, c, l, g1, g2, g3, g4, g5⟩ := h1.arcs x hx
    exact ⟨a, k, c, l, (World.cell?_of_block (kb ab h1.ga.2.1)).trans g1, CRow_kept g2 (by omega) fun h0 b off e _ => kb b (g5 h0 b off e).2, g3, g4, g5⟩
  · obtain ⟨a, k, c, l, g1, g2, g3, g4, g5⟩ := h1.sil x hx
    exact ⟨a, k, c, l, (World.cell?_of_block (kb sb h1.gs.2.1)).trans g1, Row_kept g2 (by omega) fun h0 b off e _ => kb b (g5 h0 b off e).2, g3, g4, g5⟩
  · obtain ⟨ps', vs', u1, u2⟩ := h1.known
    obtain ⟨rfl, rfl⟩ := hm.uniq u1
    by_cases hjl : j < ps.length
    · rw [List.getElem?_append_left hjl] at hj
      obtain ⟨b, g1, g2, g3, g4⟩ := u2 j p hj
      exact ⟨b, by rw [List.getElem?_append_left (by rw [← hm.1]; exact hjl)]; exact g1, (kb b g4).trans g2, g3, g4⟩
    · rw [List.getElem?_append_right (by omega)] at hj
      have hj0 : j - ps.length = 0 := by have := (List.getElem?_eq_some_iff.1 hj).1; simp at this; omega
      rw [hj0] at hj
      simp at hj
      subst hj
      exact ⟨blk, by rw [List.getElem?_append_right (by rw [← hm.1]; omega), ← hm.1, hj0]; rfl, (kb blk hK).trans hb, .inr rfl, hK⟩
theorem MC.cells {G : Nat → Prop} {W : World} {mb ab sb K ca cs n : Nat} {N : Nfa} (h : MC G W mb ab sb K ca cs N n) : W.cell? ⟨mb, 0, none⟩ = some (.slice (some ⟨ab, 0, none⟩) n ca) ∧ W.cell? ⟨mb, 1, none⟩ = some (.slice (some ⟨sb, 0, none⟩) n cs) ∧ W.cell? ⟨mb, 2, none⟩ = some (.map (some K)) := Go.Frame.cells3 h.box
set_option maxRecDepth 100000 in
set_option maxHeartbeats 4000000 in
theorem noStates_any (G : Nat → Prop) (W : World) (mb ab sb K ca cs n : Nat) (N : Nfa) (h : MC G W mb ab sb K ca cs N n) :
    Calls Tryd.prog 56 #[.pointer (some ⟨mb, 0, none⟩)] W fun e w' => e = .returned (.slice (some ⟨W.heap.size, 0, none⟩) (mw n) (mw n)) ∧ MB w' W.heap.size (fun _ => false) (mw n) ∧ Below W.heap.size W w' ∧ w'.heap.size = W.heap.size + 1 := by
  obtain ⟨z0, z1, z2⟩ := h.cells
  have hn : n ≤ 2000 := h.vn.le
  have q1 : Int.tdiv ((n : Int) + 64 - 1) 64 = ((mw n : Nat) : Int) := by rw [Int.tdiv_eq_ediv_of_nonneg (by omega)]; unfold mw; omega
  have q2 : ((n : Int) + 64 - 1) / 64 = ((mw n : Nat) : Int) := by unfold mw; omega
  have hm : mw n ≤ 1000 := mw_le hn
  have e2 := fun w => make_words (mw n) (by omega) w
  obtain ⟨m, hm'⟩ : ∃ m, m = mw n := ⟨_, rfl⟩
  rw [← hm'] at q1 q2 e2 hm ⊢
  clear hm' h
  go_enter Tryd.func56, Tryd.ntmps56
  go_wp2
  go_ret
  exact ⟨rfl, alloc_new _ _, bel1 _ _, by simp⟩
end Go.Proofs.YtogpnlkjcdedlaaDoor
