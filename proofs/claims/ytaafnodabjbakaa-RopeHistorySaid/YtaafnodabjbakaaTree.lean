/-
  Plain mathematics of ropes: trees of blocks, the order of their blocks, heights and their bound. Nothing of the program is imported here.
-/
namespace Go.Proofs.Ytaafnodabjbakaa.Rp

inductive BT where
  | leaf (s : ByteArray)
  | node (l r : BT)

/-- The blocks in order. -/
def BT.lv : BT → List ByteArray
  | .leaf s => [s]
  | .node l r => l.lv ++ r.lv
def BT.size : BT → Nat
  | .leaf s => s.size
  | .node l r => l.size + r.size
def BT.ht : BT → Nat
  | .leaf _ => 0
  | .node l r => 1 + max l.ht r.ht
def BT.text : BT → List UInt8
  | .leaf s => s.data.toList
  | .node l r => l.text ++ r.text
def BT.first : BT → ByteArray
  | .leaf s => s
  | .node l _ => l.first
def BT.last : BT → ByteArray
  | .leaf s => s
  | .node _ r => r.last

def sz : List ByteArray → Nat
  | [] => 0
  | a :: r => a.size + sz r
def tx : List ByteArray → List UInt8
  | [] => []
  | a :: r => a.data.toList ++ tx r

theorem sz_append (a b : List ByteArray) : sz (a ++ b) = sz a + sz b := by
  induction a with
  | nil => simp [sz]
  | cons x r ih => simp [sz, ih]; omega
theorem tx_append (a b : List ByteArray) : tx (a ++ b) = tx a ++ tx b := by
  induction a with
  | nil => simp [tx]
  | cons x r ih => simp [tx, ih]
theorem tx_length (a : List ByteArray) : (tx a).length = sz a := by
  induction a with
  | nil => rfl
  | cons x r ih => simp [tx, sz, ih]
theorem BT.size_lv (T : BT) : T.size = sz T.lv := by
  induction T with
  | leaf s => simp [BT.size, BT.lv, sz]
  | node l r hl hr => simp [BT.size, BT.lv, sz_append, hl, hr]
theorem BT.text_lv (T : BT) : T.text = tx T.lv := by
  induction T with
  | leaf s => simp [BT.text, BT.lv, tx]
  | node l r hl hr => simp [BT.text, BT.lv, tx_append, hl, hr]
theorem BT.text_length (T : BT) : T.text.length = T.size := by rw [BT.text_lv, BT.size_lv, tx_length]
theorem BT.lv_ne (T : BT) : T.lv ≠ [] := by
  induction T with
  | leaf s => simp [BT.lv]
  | node l r hl hr => simp [BT.lv, hl]
theorem BT.head_lv (T : BT) : T.lv.head? = some T.first := by
  induction T with
  | leaf s => simp [BT.lv, BT.first]
  | node l r hl hr => simp [BT.lv, BT.first, List.head?_append, hl]
theorem BT.getLast_lv (T : BT) : T.lv.getLast? = some T.last := by
  induction T with
  | leaf s => simp [BT.lv, BT.last]
  | node l r hl hr => simp [BT.lv, BT.last, List.getLast?_append, hr]

/-- The number of binary digits. -/
def bl (n : Nat) : Nat := if n = 0 then 0 else n.log2 + 1
/-- The height bound. -/
def hb (n : Nat) : Nat := if n ≤ 64 then 0 else 2 * bl ((n - 1) / 64) + 2

theorem lt_bl (n : Nat) : n < 2 ^ bl n := by
  unfold bl
  by_cases h : n = 0
  · simp [h]
  · rw [if_neg h]; exact Nat.lt_log2_self
theorem bl_le {n k : Nat} (h : n < 2 ^ k) : bl n ≤ k := by
  unfold bl
  by_cases h0 : n = 0
  · simp [h0]
  · rw [if_neg h0]; exact (Nat.log2_lt h0).2 h
theorem hb_le {n : Nat} (h : n < 2 ^ 62) : hb n ≤ 130 := by
  unfold hb
  split
  · omega
  · have : bl ((n - 1) / 64) ≤ 62 := bl_le (by omega)
    omega

def BT.hok : BT → Prop
  | .leaf _ => True
  | .node l r => l.hok ∧ r.hok ∧ 1 + max l.ht r.ht ≤ hb (l.size + r.size)

/-- Blocks are not empty, hold at most 64 bytes, and two neighbors do not fit into one. -/
def Tight : List ByteArray → Prop
  | [] => True
  | a :: r => 1 ≤ a.size ∧ a.size ≤ 64 ∧ (∀ b, r.head? = some b → 64 < a.size + b.size) ∧ Tight r

theorem tight_append (xs ys : List ByteArray) : Tight (xs ++ ys) ↔ Tight xs ∧ Tight ys ∧ ∀ a b, xs.getLast? = some a → ys.head? = some b → 64 < a.size + b.size := by
  induction xs with
  | nil => simp [Tight]
  | cons x r ih =>
    cases r with
    | nil =>
      simp only [List.singleton_append, Tight, List.head?_nil, List.getLast?_singleton, Option.some.injEq]
      constructor
      · rintro ⟨h1, h2, h3, h4⟩
        exact ⟨⟨h1, h2, fun b hb => (by cases hb), trivial⟩, h4, fun a b ha hb => by subst ha; exact h3 b hb⟩
      · rintro ⟨⟨h1, h2, _, _⟩, h4, h5⟩
        exact ⟨h1, h2, fun b hb => h5 x b rfl hb, h4⟩
    | cons y r =>
      have e : (x :: y :: r) ++ ys = x :: ((y :: r) ++ ys) := rfl
      rw [e]
      simp only [Tight] at ih ⊢
      have e2 : (y :: r ++ ys).head? = some y := rfl
      rw [List.getLast?_cons_cons, e2]
      simp only [List.head?_cons]
      constructor
      · rintro ⟨h1, h2, h3, h4⟩
        obtain ⟨i1, i2, i3⟩ := ih.1 h4
        exact ⟨⟨h1, h2, h3, i1⟩, i2, i3⟩
      · rintro ⟨⟨h1, h2, h3, i1⟩, i2, i3⟩
        exact ⟨h1, h2, h3, ih.2 ⟨i1, i2, i3⟩⟩

theorem Tight.left {xs ys : List ByteArray} (h : Tight (xs ++ ys)) : Tight xs := ((tight_append xs ys).1 h).1
theorem Tight.right {xs ys : List ByteArray} (h : Tight (xs ++ ys)) : Tight ys := ((tight_append xs ys).1 h).2.1
theorem Tight.mem {ss : List ByteArray} (h : Tight ss) : ∀ s ∈ ss, 1 ≤ s.size ∧ s.size ≤ 64 := by
  induction ss with
  | nil => simp
  | cons a r ih =>
    intro s hs
    rcases List.mem_cons.1 hs with rfl | hs
    · exact ⟨h.1, h.2.1⟩
    · exact ih h.2.2.2 s hs

theorem tight_sz : ∀ (n : Nat) (ss : List ByteArray), ss.length = n → Tight ss → 65 * (n / 2) + n % 2 ≤ sz ss := by
  intro n
  induction n using Nat.strongRecOn with
  | ind n ih =>
    intro ss hl ht
    match ss, hl, ht with
    | [], hl, _ => subst hl; simp [sz]
    | [a], hl, ht => subst hl; have := ht.1; simp [sz]; omega
    | a :: b :: r, hl, ht =>
      have h1 := ih r.length (by simp at hl; omega) r rfl ht.2.2.2.2.2.2
      have h2 := ht.2.2.1 b rfl
      simp at hl
      simp only [sz]
      omega

theorem tight_count {ss : List ByteArray} (ht : Tight ss) (h2 : 2 ≤ ss.length) : ss.length ≤ 2 * ((sz ss - 1) / 64) + 1 ∧ 64 < sz ss := by
  have := tight_sz _ ss rfl ht
  omega

/-- A tree of least height over tight blocks respects the bound. -/
theorem built_height {ss : List ByteArray} (ht : Tight ss) (h2 : 2 ≤ ss.length) {h : Nat} (hh : ∀ k, ss.length ≤ 2 ^ k → h ≤ k) : h ≤ hb (sz ss) := by
  obtain ⟨hc, h64⟩ := tight_count ht h2
  have h1 := lt_bl ((sz ss - 1) / 64)
  have h3 := hh (bl ((sz ss - 1) / 64) + 1) (by rw [Nat.pow_succ]; omega)
  unfold hb
  rw [if_neg (by omega)]
  omega

structure Good (T : BT) : Prop where
  h : T.hok
  t : Tight T.lv

theorem Good.left {l r : BT} (g : Good (.node l r)) : Good l := ⟨g.h.1, Tight.left g.t⟩
theorem Good.right {l r : BT} (g : Good (.node l r)) : Good r := ⟨g.h.2.1, Tight.right g.t⟩
theorem Good.meet {l r : BT} (g : Good (.node l r)) : 64 < l.last.size + r.first.size :=
  ((tight_append _ _).1 g.t).2.2 _ _ l.getLast_lv r.head_lv
theorem Good.ht_le {T : BT} (g : Good T) : T.ht ≤ hb T.size := by
  cases T with
  | leaf s => simp [BT.ht]
  | node l r => exact g.h.2.2
theorem Good.leaf {s : ByteArray} (h1 : 1 ≤ s.size) (h2 : s.size ≤ 64) : Good (.leaf s) := ⟨trivial, h1, h2, fun b hb => (by cases hb), trivial⟩
theorem Good.of_leaf {s : ByteArray} (g : Good (.leaf s)) : 1 ≤ s.size ∧ s.size ≤ 64 := ⟨g.t.1, g.t.2.1⟩
theorem Good.node {l r : BT} (gl : Good l) (gr : Good r) (hm : 64 < l.last.size + r.first.size) (hh : 1 + max l.ht r.ht ≤ hb (l.size + r.size)) : Good (.node l r) := by
  refine ⟨⟨gl.h, gr.h, hh⟩, ?_⟩
  show Tight (l.lv ++ r.lv)
  refine (tight_append _ _).2 ⟨gl.t, gr.t, fun a b ha hb => ?_⟩
  rw [l.getLast_lv] at ha; rw [r.head_lv] at hb
  cases ha; cases hb; exact hm
theorem Good.size_pos {T : BT} (g : Good T) : 1 ≤ T.size := by
  induction T with
  | leaf s => exact g.t.1
  | node l r hl hr => have := hl g.left; simp [BT.size]; omega
theorem Good.first_pos {T : BT} (g : Good T) : 1 ≤ T.first.size ∧ T.first.size ≤ 64 := g.t.mem _ (List.mem_of_mem_head? T.head_lv)
theorem Good.last_pos {T : BT} (g : Good T) : 1 ≤ T.last.size ∧ T.last.size ≤ 64 := g.t.mem _ (List.mem_of_getLast? T.getLast_lv)
theorem BT.size_of_lv {T : BT} {ss : List ByteArray} (h : T.lv = ss) : T.size = sz ss := by rw [T.size_lv, h]

/-! ### trees that may be missing -/
def olv : Option BT → List ByteArray
  | none => []
  | some T => T.lv
def otx : Option BT → List UInt8
  | none => []
  | some T => T.text
def osz : Option BT → Nat
  | none => 0
  | some T => T.size
def oht : Option BT → Nat
  | none => 0
  | some T => T.ht
def OGood : Option BT → Prop
  | none => True
  | some T => Good T
theorem otx_olv (T : Option BT) : otx T = tx (olv T) := by cases T with | none => rfl | some T => exact T.text_lv
theorem osz_olv (T : Option BT) : osz T = sz (olv T) := by cases T with | none => rfl | some T => exact T.size_lv
theorem otx_length (T : Option BT) : (otx T).length = osz T := by rw [otx_olv, osz_olv, tx_length]
theorem OGood.tight {T : Option BT} (g : OGood T) : Tight (olv T) := by cases T with | none => exact trivial | some T => exact g.t
theorem OGood.ht_le {T : Option BT} (g : OGood T) : oht T ≤ hb (osz T) := by cases T with | none => exact Nat.zero_le _ | some T => exact Good.ht_le g

/-! ### merging the blocks that meet -/
theorem tight_withLast {xs : List ByteArray} {a t : ByteArray} (h : Tight (xs ++ [a])) (h1 : a.size ≤ t.size) (h2 : t.size ≤ 64) : Tight (xs ++ [t]) := by
  obtain ⟨hx, ha, hm⟩ := (tight_append _ _).1 h
  refine (tight_append _ _).2 ⟨hx, ⟨by have := ha.1; omega, h2, fun b hb => (by cases hb), trivial⟩, fun c d hc hd => ?_⟩
  have := hm c a hc rfl
  simp at hd; subst hd; omega
theorem BT.lv_last (T : BT) : T.lv = T.lv.dropLast ++ [T.last] := by
  have h := T.getLast_lv
  have hn := T.lv_ne
  rw [List.getLast?_eq_some_getLast hn] at h
  have h' : T.lv.getLast hn = T.last := by simpa using h
  rw [← h']; exact (List.dropLast_concat_getLast hn).symm
theorem BT.lv_first (T : BT) : T.lv = T.first :: T.lv.tail := by
  have h := T.head_lv
  cases hl : T.lv with
  | nil => exact absurd hl T.lv_ne
  | cons a r => rw [hl] at h; simp at h; simp [h]

end Go.Proofs.Ytaafnodabjbakaa.Rp
