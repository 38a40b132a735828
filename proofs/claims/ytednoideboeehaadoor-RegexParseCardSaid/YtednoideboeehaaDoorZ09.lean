/-
  Rows of expressions of the call's own.
  Plain maths: what is read has no more kids at a node than its text has bytes (namespace Rg; no program).
  Contract: expr.
  The deferred closure of Parse.
  Plain maths: the text form of expressions, written; and that reading it gives them back (namespace Rg; no program).
-/
import Derived.Test.YtednoideboeehaaDoorZ08
import Derived.Test.YtednoideboeehaaDoorZ06
import Derived.Deep.LoopGhost
import Derived.LoopIn
import Derived.TacticsInMore
import Derived.Deep.AppendLies
import Derived.Test.YtednoideboeehaaDoorZ07
import Derived.Deep.CutRange
import Derived.Deep.CutBlock
import Derived.BigRegion
import Derived.Recover
import Derived.Tactics
import Derived.Tactics2
import Derived.Defers
section
set_option linter.unusedSimpArgs false
set_option linter.unusedVariables false
namespace Go.Proofs.YtednoideboeehaaDoor
open Go.RowKit Bs Rg Go.Frame
attribute [local go_sem] eq_zero eq_set

theorem Tryd.info27 : (Tryd.prog.info? 27).map (fun i => (i.zero, i.size, i.bytes)) = some (some (.agg #[.int .i64 0, .int .u64 0, .int .u64 0, .int .u64 0, .int .u64 0, .slice none 0 0]), 6, 64) := by kernel_rfl
theorem RC.six {g : Nat → Prop} {W : World} {x : Rx} {cs : List Value} (h : RC g W x cs) : cs.length = 6 := by
  obtain ⟨k, s, l⟩ := x
  obtain ⟨a, n, c, rfl, _⟩ := RC_mk.1 h
  rfl
theorem RC.one {g : Nat → Prop} {W : World} {x : Rx} {cs : List Value} (h : RC g W x cs) : ∀ u ∈ cs, u.oneCell' = true := by
  obtain ⟨k, s, l⟩ := x
  obtain ⟨a, n, c, rfl, _⟩ := RC_mk.1 h
  intro u hu
  simp [rcs] at hu
  rcases hu with rfl | rfl | rfl | rfl | rfl | rfl <;> rfl
theorem RC.more {g g' : Nat → Prop} {W : World} (hg : ∀ b, g b → g' b) {x : Rx} {cs : List Value} (h : RC g W x cs) : RC g' W x cs := RC.keep (Nat.le_refl _) (fun _ _ _ => rfl) hg x h
/-- The blocks of an expression lie in memory. -/
theorem RC.lt {g : Nat → Prop} {W : World} {x : Rx} : ∀ {cs : List Value}, RC g W x cs → RC (fun b => g b ∧ b < W.heap.size) W x cs := by
  induction x using Rx.ind with
  | h k s l ih =>
    intro cs h
    rw [RC_mk] at h ⊢
    obtain ⟨a, n, c, rfl, h1, h2, h3⟩ := h
    refine ⟨a, n, c, rfl, h1, h2, h3.imp id ?_⟩
    rintro ⟨b, off, rfl, hb, hlt, hK⟩
    refine ⟨b, off, rfl, ⟨hb, hlt⟩, hlt, RK_of fun i x hi => ?_⟩
    obtain ⟨cs, h4, h5⟩ := RK_get hK hi
    exact ⟨cs, h4, ih x (List.mem_of_getElem? hi) h5⟩
/-- A row of the call's own that holds expressions, whose kids lie elsewhere. -/
def OX (base : Nat) (W : World) (v : Value) (l : List Rx) : Prop :=
  ∃ vs, W.ownsRow base 27 6 v l.length vs ∧ ∀ (i : Nat) (x : Rx), l[i]? = some x → ∃ cs : List Value, RC (fun b => base ≤ b ∧ v.ownBlock ≠ some b) W x cs ∧ ∀ (j : Nat) (u : Value), cs[j]? = some u → vs[i * 6 + j]? = some u
theorem OX.nil (base : Nat) (W : World) : OX base W (.slice none 0 0) [] := ⟨[], World.ownsRow_nil _ _ _ _, fun i x h => by simp at h⟩
theorem OX.kd {base : Nat} {W : World} {v : Value} {l : List Rx} (h : OX base W v l) (hl : l.length < 140737488355328) : ∃ a c, v = .slice a l.length c ∧ Kd (ge base) W a l.length l := by
  obtain ⟨vs, ho, hall⟩ := h
  rcases ho.2 with ⟨rfl, h0⟩ | ⟨g, cap, cur, rfl, hb, hg, hn, _, hc, ht⟩
  · exact ⟨none, 0, by rw [h0], rfl, hl, .inl h0⟩
  · refine ⟨_, cap, rfl, rfl, hl, .inr ⟨g, 0, rfl, hb, heap_lt hg, RK_of fun i x hi => ?_⟩⟩
    obtain ⟨cs, h1, h2⟩ := hall i x hi
    refine ⟨cs, fun j u hj => ?_, h1.more fun b hb => hb.1⟩
    have h3 := h2 j u hj
    rw [← ht, List.getElem?_take] at h3
    split at h3
    · simp only [World.cell?, hg, Nat.zero_add]
      simpa using h3
    · cases h3
theorem OX.keep {base : Nat} {W W' : World} {v : Value} {l : List Rx} (h : OX base W v l) (hs : W.heap.size ≤ W'.heap.size) (hk : ∀ b, base ≤ b → b < W.heap.size → W'.heap[b]? = W.heap[b]?) : OX base W' v l := by
  obtain ⟨vs, ho, hall⟩ := h
  refine ⟨vs, ownsRow_keep ho fun k hk' => hk k (ho.lt k hk').1 (ho.lt k hk').2, fun i x hi => ?_⟩
  obtain ⟨cs, h1, h2⟩ := hall i x hi
  exact ⟨cs, RC.keep hs (fun b hb hl => hk b hb.1 hl) (fun _ h => h) x h1, h2⟩
theorem OX.bel {base : Nat} {W W' : World} {v : Value} {l : List Rx} (h : OX base W v l) (hb : Below W.heap.size W W') : OX base W' v l := h.keep hb.size fun b _ hl => hb.block b hl
theorem OX.put {base rb j : Nat} {W : World} {v u : Value} {l : List Rx} (h : OX base W v l) (hr : rb < base) : OX base (W.setCell ⟨rb, j, none⟩ u) v l :=
  h.keep (by simp [World.setCell]) fun b hb _ => heap_setCell_other _ _ _ _ (by show b ≠ rb; omega)
theorem OX.len {base : Nat} {W : World} {v : Value} {l : List Rx} (h : OX base W v l) : ∃ vs, W.ownsRow base 27 6 v l.length vs := ⟨_, h.choose_spec.1⟩
theorem OX.own {base : Nat} {W : World} {v : Value} {l : List Rx} (h : OX base W v l) : ∀ b, v.ownBlock = some b → base ≤ b ∧ b < W.heap.size := fun b hb => h.choose_spec.1.lt b hb
theorem OX.form {base : Nat} {W : World} {v : Value} {l : List Rx} (h : OX base W v l) : ∃ a n c, v = .slice a n c := by
  obtain ⟨vs, ho⟩ := h.len
  obtain ⟨a, c, rfl⟩ := own_form ho
  exact ⟨a, _, c, rfl⟩
/-- One more. -/
theorem OX.snoc {base n g cap : Nat} {W W' : World} {v : Value} {l : List Rx} {x : Rx} {cs vs : List Value} (h : W.ownsRow base 27 6 v l.length vs) (hall : ∀ (i : Nat) (x : Rx), l[i]? = some x → ∃ cs : List Value, RC (fun b => base ≤ b ∧ v.ownBlock ≠ some b) W x cs ∧ ∀ (j : Nat) (u : Value), cs[j]? = some u → vs[i * 6 + j]? = some u)
    (h' : W'.ownsRow base 27 6 (.slice (some ⟨g, 0, none⟩) (l.length + 1) cap) (l.length + 1) (vs ++ cs)) (hg : W.grownBy W' v.ownBlock) (hn : ∀ b, v.ownBlock = some b → b < n) (hb : base ≤ n) (hat : v.ownBlock = some g ∨ W.heap.size ≤ g)
    (hx : RC (ge n) W x cs) : OX base W' (.slice (some ⟨g, 0, none⟩) (l.length + 1) cap) (l ++ [x]) := by
  have hvl : vs.length = l.length * 6 := by have := h.1; omega
  have key : ∀ {y : Rx} {zs : List Value}, RC (fun b => base ≤ b ∧ v.ownBlock ≠ some b) W y zs → RC (fun b => base ≤ b ∧ (Value.slice (some ⟨g, 0, none⟩) (l.length + 1) cap).ownBlock ≠ some b) W' y zs := fun {y zs} hyz =>
    RC.keep (g := fun b => (base ≤ b ∧ v.ownBlock ≠ some b) ∧ b < W.heap.size) hg.size (fun b hb hl => hg.block b hl (Ne.symm hb.1.2)) (fun b hb => ⟨hb.1.1, by
      intro e
      simp [Value.ownBlock] at e
      subst e
      rcases hat with h1 | h1
      · exact hb.1.2 h1
      · have := hb.2; omega⟩) y hyz.lt
  refine ⟨vs ++ cs, by simpa using h', fun i y hi => ?_⟩
  by_cases e : i < l.length
  · rw [List.getElem?_append_left e] at hi
    obtain ⟨zs, h1, h2⟩ := hall i y hi
    refine ⟨zs, by simpa using key h1, fun j u hj => ?_⟩
    have := h2 j u hj
    rw [List.getElem?_append_left (List.getElem?_eq_some_iff.1 this).1]; exact this
  · rw [List.getElem?_append_right (by omega)] at hi
    have hi0 : i - l.length = 0 := by have := (List.getElem?_eq_some_iff.1 hi).1; simp at this; omega
    rw [hi0] at hi
    simp at hi
    subst hi
    refine ⟨cs, ?_, fun j u hj => ?_⟩
    · have := key (RC.more (g' := fun b => base ≤ b ∧ v.ownBlock ≠ some b) (fun b hb' => ⟨Nat.le_trans hb hb', fun e => by have h1 := hn b e; have hb2 : n ≤ b := hb'; omega⟩) hx)
      simpa using this
    · rw [List.getElem?_append_right (by omega), show i * 6 + j - vs.length = j by omega]; exact hj
end Go.Proofs.YtednoideboeehaaDoor
end
section
namespace Rg
/-- No node has very many kids. -/
inductive Wd : Rx → Prop
  | mk {k : Int} {s : BS} {l : List Rx} : l.length < 1000000000 → (∀ x ∈ l, Wd x) → Wd (.mk k s l)
theorem Wd.len {k : Int} {s : BS} {l : List Rx} (h : Wd (.mk k s l)) : l.length < 1000000000 := by cases h; assumption
theorem Wd.kid {k : Int} {s : BS} {l : List Rx} (h : Wd (.mk k s l)) : ∀ x ∈ l, Wd x := by cases h; assumption
theorem wd_eps : Wd eps := .mk (by simp) (by simp)
theorem wd_setx (s : BS) : Wd (setx s) := .mk (by simp) (by simp)
theorem wd_star {x : Rx} (h : Wd x) : Wd (star x) := .mk (by simp) (by simpa using h)
theorem wd_cat {l : List Rx} (h : l.length < 1000000000) (hl : ∀ x ∈ l, Wd x) : Wd (cat l) := .mk h hl
theorem wd_alt {l : List Rx} (h : l.length < 1000000000) (hl : ∀ x ∈ l, Wd x) : Wd (alt l) := .mk h hl
theorem wd_br {xs : List Rx} (hn : xs.length < 1000000000) (h : ∀ x ∈ xs, Wd x) : Wd (br xs) := by
  match xs, hn, h with
  | [], _, _ => exact wd_eps
  | [x], _, h => exact h x (by simp)
  | x :: y :: l, hn, h => exact wd_cat hn h
theorem wd_al {xs : List Rx} (hn : xs.length < 1000000000) (h : ∀ x ∈ xs, Wd x) : Wd (al xs) := by
  match xs, hn, h with
  | [], hn, h => exact wd_alt hn h
  | [x], _, h => exact h x (by simp)
  | x :: y :: l, hn, h => exact wd_alt hn h
theorem post_wd : ∀ (l : List UInt8) {x : Rx}, Wd x → Wd (post x l).1
  | [], x, h => by simpa [post] using h
  | b :: t, x, h => by
    rw [post]
    split; · exact post_wd t (wd_star h)
    split; · exact post_wd t (wd_cat (by simp) (by simp; exact ⟨h, wd_star h⟩))
    split; · exact post_wd t (wd_alt (by simp) (by simp; exact ⟨h, wd_eps⟩))
    · exact h
theorem p_count : ∀ (n : Nat) {a xs : List Rx} {l t : List UInt8}, pReps n a l = .ok xs t → xs.length + t.length ≤ a.length + l.length
  | 0, _, _, _, _, h => by simp [pReps] at h
  | n + 1, a, xs, l, t, h => by
    rw [pReps] at h
    split at h
    · injection h with h0 h; subst h h0; exact Nat.le_refl _
    · cases h1 : pRepeat n l with
      | bad u => rw [h1] at h; cases h
      | ok y u =>
        rw [h1] at h
        have q1 := (p_len n).2.1 h1
        have q2 := p_count n h
        simp at q2
        omega
theorem p_wd : ∀ n : Nat, (∀ {l t : List UInt8} {x : Rx}, pAtom n l = .ok x t → l.length ≤ 1000000 → Wd x) ∧ (∀ {l t : List UInt8} {x : Rx}, pRepeat n l = .ok x t → l.length ≤ 1000000 → Wd x) ∧
    (∀ {a xs : List Rx} {l t : List UInt8}, pReps n a l = .ok xs t → l.length ≤ 1000000 → (∀ y ∈ a, Wd y) → ∀ y ∈ xs, Wd y) ∧ (∀ {l t : List UInt8} {x : Rx}, pRegex n l = .ok x t → l.length ≤ 1000000 → Wd x) ∧
    (∀ {a : List Rx} {x : Rx} {l t : List UInt8}, pAlts n a l = .ok x t → a.length + l.length ≤ 1000001 → (∀ y ∈ a, Wd y) → Wd x)
  | 0 => ⟨fun h => by simp [pAtom] at h, fun h => by simp [pRepeat] at h, fun h => by simp [pReps] at h, fun h => by simp [pRegex] at h, fun h => by simp [pAlts] at h⟩
  | n + 1 => by
    obtain ⟨i1, i2, i3, i4, i5⟩ := p_wd n
    refine ⟨fun {l t x} h hl => ?_, fun {l t x} h hl => ?_, fun {a xs l t} h hl ha => ?_, fun {l t x} h hl => ?_, fun {a x l t} h hl ha => ?_⟩
    · rw [pAtom] at h
      cases h1 : skip 40 l with
      | some u =>
        rw [h1] at h
        have e := skip_some h1
        have el : l.length = u.length + 1 := by rw [e]; rfl
        simp only at h
        cases h2 : pRegex n u with
        | bad v => rw [h2] at h; cases h
        | ok y v =>
          rw [h2] at h
          simp only at h
          cases h3 : skip 41 v with
          | none => rw [h3] at h; cases h
          | some z => rw [h3] at h; injection h with h0 h; subst h0; exact i4 h2 (by omega)
      | none =>
        rw [h1] at h
        simp only at h
        cases h2 : setM l with
        | bad u => rw [h2] at h; cases h
        | ok s u => rw [h2] at h; injection h with h0 h; subst h0; exact wd_setx s
    · rw [pRepeat] at h
      cases h1 : pAtom n l with
      | bad u => rw [h1] at h; cases h
      | ok y u => rw [h1] at h; injection h with h0 h; subst h0; exact post_wd u (i1 h1 hl)
    · rw [pReps] at h
      split at h
      · injection h with h0 h; subst h0; exact ha
      · cases h1 : pRepeat n l with
        | bad u => rw [h1] at h; cases h
        | ok y u =>
          rw [h1] at h
          have q := (p_len n).2.1 h1
          refine i3 h (by omega) fun z hz => ?_
          rcases List.mem_append.1 hz with hz | hz
          · exact ha z hz
          · simp at hz; subst hz; exact i2 h1 hl
    · rw [pRegex] at h
      cases h1 : pReps n [] l with
      | bad u => rw [h1] at h; cases h
      | ok xs u =>
        rw [h1] at h
        have q1 := p_count n h1
        have q2 := (p_len n).2.2.1 h1
        have q3 : xs.length ≤ 1000000 := by simp at q1; omega
        refine i5 h (by simp; omega) ?_
        intro y hy
        simp at hy
        subst hy
        exact wd_br (Nat.lt_of_le_of_lt q3 (by decide)) (i3 h1 hl (by simp))
    · rw [pAlts] at h
      cases h1 : skip 124 l with
      | none =>
        rw [h1] at h; injection h with h0 h; subst h0
        have q3 : a.length ≤ 1000001 := by omega
        exact wd_al (Nat.lt_of_le_of_lt q3 (by decide)) ha
      | some u =>
        rw [h1] at h
        have e := skip_some h1
        have el : l.length = u.length + 1 := by rw [e]; rfl
        simp only at h
        cases h2 : pReps n [] u with
        | bad v => rw [h2] at h; cases h
        | ok xs v =>
          rw [h2] at h
          have q1 := p_count n h2
          have q2 := (p_len n).2.2.1 h2
          have q3 : xs.length ≤ 1000001 := by simp at q1; omega
          by_cases ha0 : l.length ≤ 1000000
          · refine i5 h (by simp; omega) fun z hz => ?_
            rcases List.mem_append.1 hz with hz | hz
            · exact ha z hz
            · simp at hz; subst hz; exact wd_br (Nat.lt_of_le_of_lt q3 (by decide)) (i3 h2 (by omega) (by simp))
          · have a0 : a.length = 0 := by omega
            have a0' : a = [] := List.eq_nil_of_length_eq_zero a0
            refine i5 h (by simp; omega) fun z hz => ?_
            rw [a0'] at hz
            simp at hz
            subst hz
            exact wd_br (Nat.lt_of_le_of_lt q3 (by decide)) (i3 h2 (by omega) (by simp))
end Rg
end
section
set_option linter.unusedSimpArgs false
set_option linter.unusedVariables false
namespace Go.Proofs.YtednoideboeehaaDoor
open Go.RowKit Bs Rg Go.Frame
attribute [local go_sem] eq_zero eq_set

theorem six_set {W : World} {b : Nat} {x0 x1 x2 x3 x4 x5 y0 y1 y2 y3 y4 y5 : Value} {t : TypeId} (h : W.heap[b]? = some (.cells #[x0, x1, x2, x3, x4, x5] t (0, 0))) : ((((((W.setCell ⟨b, 0, none⟩ y0).setCell ⟨b, 1, none⟩ y1).setCell ⟨b, 2, none⟩ y2).setCell ⟨b, 3, none⟩ y3).setCell ⟨b, 4, none⟩ y4).setCell ⟨b, 5, none⟩ y5).heap[b]? = some (.cells #[y0, y1, y2, y3, y4, y5] t (0, 0)) := by
  rw [blk_put (blk_put (blk_put (blk_put (blk_put (blk_put h)))))]; rfl
theorem Kd.put {g : Nat → Prop} {rb j : Nat} {W : World} {u : Value} {a : Option Addr} {n : Nat} {l : List Rx} (h : Kd g W a n l) (hr : ∀ b, g b → b ≠ rb) : Kd g (W.setCell ⟨rb, j, none⟩ u) a n l :=
  h.keep (by simp [World.setCell]) (fun b hb _ => heap_setCell_other _ _ _ _ (hr b hb)) fun _ h => h
theorem Kd.more {g g' : Nat → Prop} {W : World} {a : Option Addr} {n : Nat} {l : List Rx} (h : Kd g W a n l) (hg : ∀ b, g b → g' b) : Kd g' W a n l := h.keep (Nat.le_refl _) (fun _ _ _ => rfl) hg

set_option maxRecDepth 100000 in
set_option maxHeartbeats 4000000 in
theorem expr_any (g : Nat → Prop) (r : Rx) : ∀ (w : World) (v : Value), Wd r → PT g w r v →
    Calls Tryd.prog 34 #[v] w fun e w' => (∃ cs : List Value, e = .returned (.agg cs.toArray) ∧ RC (ge w.heap.size) w' r cs) ∧ Below w.heap.size w w' := by
  induction r using Rx.ind with
  | h k s l ih =>
  intro w v hwide h
  have HN := hid hwide.len
  have HWD := hid hwide.kid
  obtain ⟨kb, a, n, c, rfl, _, hkb, hR⟩ := PT_mk.1 h
  obtain ⟨i0, hi, hz0, hz1, hz2⟩ := info_parts Tryd.info27
  obtain ⟨p0, p1, p2, p3, p4, p5, p6⟩ := cells7 hkb
  have hkl := heap_lt hkb
  obtain ⟨W0, hW0⟩ : ∃ W0, W0 = w.alloc (.cells #[.int .i64 0, .int .u64 0, .int .u64 0, .int .u64 0, .int .u64 0, .slice none 0 0] 27) := ⟨_, rfl⟩
  have B0 : Below w.heap.size w W0 := by rw [hW0]; exact bel1 _ _
  have x0 : W0.heap[w.heap.size]? = some (.cells #[.int .i64 0, .int .u64 0, .int .u64 0, .int .u64 0, .int .u64 0, .slice none 0 0] 27 (0, 0)) := by rw [hW0]; exact alloc_new _ _
  have hs0 : W0.heap.size = w.heap.size + 1 := by rw [hW0]; simp
  have q0 := (B0.cell (p := ⟨kb, 0, none⟩) hkl).trans p0
  have q1 := (B0.cell (p := ⟨kb, 1, none⟩) hkl).trans p1
  have q2 := (B0.cell (p := ⟨kb, 2, none⟩) hkl).trans p2
  have q3 := (B0.cell (p := ⟨kb, 3, none⟩) hkl).trans p3
  have q4 := (B0.cell (p := ⟨kb, 4, none⟩) hkl).trans p4
  go_enter Tryd.func34, Tryd.ntmps34
  go_wp2_with fail
  have p0' := p0
  go_region
  clear p0 p1 p2 p3 p4 p0' q0 q1 q2 q3 q4
  obtain ⟨W1, hW1⟩ : ∃ W1, W1 = ((w.alloc (.cells #[.int .i64 0, .int .u64 0, .int .u64 0, .int .u64 0, .int .u64 0, .slice none 0 0] 27)).alloc (.cells #[.int .i64 k, .int .u64 (ws s 0 : Int), .int .u64 (ws s 1 : Int), .int .u64 (ws s 2 : Int), .int .u64 (ws s 3 : Int), .slice none 0 0] 27)).drew := ⟨_, rfl⟩
  rw [← hW1]
  have B1 : Below w.heap.size w W1 := by rw [hW1]; exact ((bel1 _ _).alloc (by simp) _).drew
  have y0 : W1.heap[w.heap.size]? = some (.cells #[.int .i64 0, .int .u64 0, .int .u64 0, .int .u64 0, .int .u64 0, .slice none 0 0] 27 (0, 0)) := by rw [hW1]; exact blk_alloc (alloc_new _ _)
  have y1 : W1.heap[w.heap.size + 1]? = some (.cells #[.int .i64 k, .int .u64 (ws s 0 : Int), .int .u64 (ws s 1 : Int), .int .u64 (ws s 2 : Int), .int .u64 (ws s 3 : Int), .slice none 0 0] 27 (0, 0)) := by rw [hW1]; exact alloc_at _ _ (by simp)
  have hs1 : W1.heap.size = w.heap.size + 2 := by rw [hW1]; simp [World.drew]
  have c5 := (cells7 ((B1.block _ hkl).trans hkb)).2.2.2.2.2.1
  have hln := hid hR.1
  have hnl := hR.2.1
  have IH := hid (fun x hx V u (hV : Below w.heap.size w V) (hu : PT g w x u) => ih x hx V u (HWD.out x hx) (PT.bel hV hu))
  have HK := hid (And.intro hR (And.intro B1 (And.intro y0 (And.intro y1 hs1))))
  clear hR ih B1 y0 y1 hs1 hW1 hW0 B0 x0 hs0
  go_wp2_with fail
  go_loopg [20] n (fun k1 sl wr => ∃ (i : Nat) (sv : Value), sl = .int .i64 i ∧ i + k1 = n ∧ OX (w.heap.size + 2) wr sv (l.take i) ∧ wr.heap[w.heap.size]? = some (.cells #[.int .i64 0, .int .u64 0, .int .u64 0, .int .u64 0, .int .u64 0, .slice none 0 0] 27 (0, 0)) ∧ wr.heap[w.heap.size + 1]? = some (.cells #[.int .i64 k, .int .u64 (ws s 0 : Int), .int .u64 (ws s 1 : Int), .int .u64 (ws s 2 : Int), .int .u64 (ws s 3 : Int), sv] 27 (0, 0)) ∧ Below w.heap.size w wr)
  case atStart => exact ⟨0, _, rfl, by omega, by simpa using OX.nil _ _, HK.out.2.2.1, HK.out.2.2.2.1, HK.out.2.1⟩
  case round =>
    obtain ⟨i, sv, rfl, hk, hO, hz, hb, hbw⟩ := hrel
    by_cases hlt : i < n
    · have hlt' : (i : Int) < (n : Int) := by omega
      obtain ⟨b0, off, xb, x, rfl, hbl, hx, q0, hPT⟩ := HK.out.1.get hlt
      obtain ⟨k', s', l'⟩ := x
      have q0 := (hbw.cell (p := ⟨b0, off + i, none⟩) hbl).trans q0
      have HX := hid (And.intro hO (And.intro hz (And.intro hb (And.intro hbw (And.intro hx hPT)))))
      have HO := hid (show (∀ b, sv.ownBlock = some b → b < wr.heap.size) ∧ w.heap.size + 2 ≤ wr.heap.size from ⟨fun b hb => (hO.own b hb).2, by have := heap_lt hb; omega⟩)
      have hI : (l.take i).length + 1 < 140737488355328 / 64 := by
        have h1 : (l.take i).length ≤ i := List.length_take_le i l
        have h2 := HN.out
        have h3 := hln.out
        omega
      have H16 := hid hI
      clear hI
      have HT := hid (show l.take i ++ [.mk k' s' l'] = l.take (i + 1) by rw [List.take_add_one, hx]; rfl)
      clear hO hz hb hbw hx hPT
      go_wp2_with fail
      refine region_inv (fun b a' w' => ∃ v24 v25 v26 v27 v28 v29 v30 : Value, a' = { tmps := #[.pointer (some ⟨kb, 0, none⟩), undef, .pointer (some ⟨w.heap.size, 0, none⟩), .pointer (some ⟨w.heap.size + 1, 0, none⟩), undef, .pointer (some ⟨xb, 0, none⟩), .pointer (some ⟨kb, 0, none⟩), .pointer (some ⟨kb, 0, none⟩), .pointer (some ⟨kb, 0, none⟩), .int .i64 k, .pointer (some ⟨kb, 0, none⟩), .pointer (some ⟨kb, 0, none⟩), .pointer (some ⟨kb, 1, none⟩), .agg #[.int .u64 (ws s 0 : Int), .int .u64 (ws s 1 : Int), .int .u64 (ws s 2 : Int), .int .u64 (ws s 3 : Int)], .agg #[.int .i64 k, .int .u64 (ws s 0 : Int), .int .u64 (ws s 1 : Int), .int .u64 (ws s 2 : Int), .int .u64 (ws s 3 : Int), .slice none 0 0], .pointer (some ⟨kb, 0, none⟩), .pointer (some ⟨kb, 0, none⟩), .pointer (some ⟨kb, 5, none⟩), .slice (some ⟨b0, off, none⟩) n c, .int .i64 (n : Int), .int .i64 (i : Int), .bool true, .pointer (some ⟨b0, off + i, none⟩), .pointer (some ⟨xb, 0, none⟩), v24, v25, v26, v27, v28, v29, v30, u31, undef], defers := [] } ∧ (b 0 = true → v24 = .pointer (some ⟨w.heap.size + 1, 5, none⟩)) ∧ (b 1 = true → v25 = sv) ∧ (b 2 = true → v26 = .pointer (some ⟨xb, 0, none⟩)) ∧ (b 3 = true → b 4 = false → ∃ a' n' c', v27 = .agg #[.int .i64 k', .int .u64 (ws s' 0 : Int), .int .u64 (ws s' 1 : Int), .int .u64 (ws s' 2 : Int), .int .u64 (ws s' 3 : Int), .slice a' n' c'] ∧ Kd (ge wr.heap.size) w' a' n' l') ∧ (b 4 = true → b 5 = false → ∃ g a' n' c', v28 = .slice (some ⟨g, 0, none⟩) 1 1 ∧ w'.heap[g]? = some (.cells #[.int .i64 k', .int .u64 (ws s' 0 : Int), .int .u64 (ws s' 1 : Int), .int .u64 (ws s' 2 : Int), .int .u64 (ws s' 3 : Int), .slice a' n' c'] 27 (0, 0)) ∧ Kd (ge wr.heap.size) w' a' n' l' ∧ wr.heap.size ≤ g) ∧ (b 5 = false → OX (w.heap.size + 2) w' sv (l.take i)) ∧ (b 5 = true → OX (w.heap.size + 2) w' v29 (l.take (i + 1))) ∧ (b 6 = true → v30 = .pointer (some ⟨w.heap.size + 1, 5, none⟩)) ∧ (b 7 = false → w'.heap[w.heap.size + 1]? = some (.cells #[.int .i64 k, .int .u64 (ws s 0 : Int), .int .u64 (ws s 1 : Int), .int .u64 (ws s 2 : Int), .int .u64 (ws s 3 : Int), sv] 27 (0, 0))) ∧ (b 7 = true → w'.heap[w.heap.size + 1]? = some (.cells #[.int .i64 k, .int .u64 (ws s 0 : Int), .int .u64 (ws s 1 : Int), .int .u64 (ws s 2 : Int), .int .u64 (ws s 3 : Int), v29] 27 (0, 0)) ∧ b 1 = true ∧ b 5 = true ∧ b 6 = true) ∧ w'.heap[w.heap.size]? = some (.cells #[.int .i64 0, .int .u64 0, .int .u64 0, .int .u64 0, .int .u64 0, .slice none 0 0] 27 (0, 0)) ∧ Below w.heap.size w w' ∧ wr.heap.size ≤ w'.heap.size) (by kernel_rfl) (back_of (by kernel_rfl)) ?step ?done ?init
      case step =>
        rintro b a' w' i o ho ⟨v24, v25, v26, v27, v28, v29, v30, rfl, h0, h1, h2, h3, h4, h5n, h5, h6, h7n, h7, hz, hbw, hM⟩ hbi hd K hK
        have hlt : i < 8 := by have := (Array.getElem?_eq_some_iff.1 ho).1; simpa using this
        have dep : ∀ k, (o.after.any fun e => Region.binds .any e && e.on == k) = true → b k = true := fun k hk => by
          obtain ⟨e, he, h⟩ := Array.any_eq_true'.1 hk
          simp only [Bool.and_eq_true, beq_iff_eq] at h
          rw [← h.2]; exact hd e he h.1
        clear hd
        have hi : i = 0 ∨ i = 1 ∨ i = 2 ∨ i = 3 ∨ i = 4 ∨ i = 5 ∨ i = 6 ∨ i = 7 := by omega
        clear hlt
        rcases hi with rfl | rfl | rfl | rfl | rfl | rfl | rfl | rfl
        · simp only [List.getElem?_toArray, List.getElem?_cons_zero, List.getElem?_cons_succ, Option.some.injEq] at ho
          subst ho
          go_simp
          refine hK.out _ _ ⟨_, _, _, _, _, _, _, rfl, fun _ => rfl, fun h => h1 (by simpa using h), fun h => h2 (by simpa using h), fun h h' => h3 (by simpa using h) (by simpa using h'), fun h h' => h4 (by simpa using h) (by simpa using h'), fun h => h5n (by simpa using h), fun h => h5 (by simpa using h), fun h => h6 (by simpa using h), fun h => h7n (by simpa using h), fun h => ⟨(h7 (by simpa using h)).1, by simp [(h7 (by simpa using h)).2.1], by simp [(h7 (by simpa using h)).2.2.1], by simp [(h7 (by simpa using h)).2.2.2]⟩, hz, hbw, hM⟩
        · simp only [List.getElem?_toArray, List.getElem?_cons_zero, List.getElem?_cons_succ, Option.some.injEq] at ho
          subst ho
          obtain rfl := h0 (dep 0 (by kernel_rfl))
          have hb7 : b 7 = false := by
            cases hb : b 7
            · rfl
            · have := (h7 hb).2.1; rw [hbi] at this; cases this
          have y1 := h7n hb7
          obtain ⟨d0, d1, d2, d3, d4, d5⟩ := cells6 y1
          go_simp
          refine hK.out _ _ ⟨_, _, _, _, _, _, _, rfl, fun _ => rfl, fun _ => rfl, fun h => h2 (by simpa using h), fun h h' => h3 (by simpa using h) (by simpa using h'), fun h h' => h4 (by simpa using h) (by simpa using h'), fun h => h5n (by simpa using h), fun h => h5 (by simpa using h), fun h => h6 (by simpa using h), fun h => h7n (by simpa using h), fun h => absurd h (by simp [hb7]), hz, hbw, hM⟩
        · simp only [List.getElem?_toArray, List.getElem?_cons_zero, List.getElem?_cons_succ, Option.some.injEq] at ho
          subst ho
          go_simp
          refine hK.out _ _ ⟨_, _, _, _, _, _, _, rfl, fun h => h0 (by simpa using h), fun h => h1 (by simpa using h), fun _ => rfl, fun h h' => h3 (by simpa using h) (by simpa using h'), fun h h' => h4 (by simpa using h) (by simpa using h'), fun h => h5n (by simpa using h), fun h => h5 (by simpa using h), fun h => h6 (by simpa using h), fun h => h7n (by simpa using h), fun h => ⟨(h7 (by simpa using h)).1, by simp [(h7 (by simpa using h)).2.1], by simp [(h7 (by simpa using h)).2.2.1], by simp [(h7 (by simpa using h)).2.2.2]⟩, hz, hbw, hM⟩
        · simp only [List.getElem?_toArray, List.getElem?_cons_zero, List.getElem?_cons_succ, Option.some.injEq] at ho
          subst ho
          obtain rfl := h2 (dep 2 (by kernel_rfl))
          have CE := hid (IH.out _ (List.mem_of_getElem? HX.out.2.2.2.2.1) w' _ hbw HX.out.2.2.2.2.2)
          go_simp
          refine CE.out.mono ?_
          rintro e w5 ⟨⟨cs, rfl, hcs⟩, b5⟩
          obtain ⟨a', n', c', rfl, hKd⟩ := RC_mk.1 hcs
          refine hK.out _ _ ⟨_, _, _, _, _, _, _, rfl, fun h => h0 (by simpa using h), fun h => h1 (by simpa using h), fun _ => rfl, fun _ _ => ⟨a', n', c', rfl, hKd.more fun b hb => Nat.le_trans hM hb⟩, fun h h' => (by obtain ⟨g, a', n', c', e1, e2, e3, e4⟩ := h4 (by simpa using h) (by simpa using h'); exact ⟨g, a', n', c', e1, (b5.block _ (heap_lt e2)).trans e2, e3.below b5, e4⟩), fun h => (h5n (by simpa using h)).bel b5, fun h => (h5 (by simpa using h)).bel b5, fun h => h6 (by simpa using h), fun h => (b5.block _ (heap_lt (h7n (by simpa using h)))).trans (h7n (by simpa using h)), fun h => ⟨(b5.block _ (heap_lt (h7 (by simpa using h)).1)).trans (h7 (by simpa using h)).1, by simp [(h7 (by simpa using h)).2.1], by simp [(h7 (by simpa using h)).2.2.1], by simp [(h7 (by simpa using h)).2.2.2]⟩, (b5.block _ (heap_lt hz)).trans hz, hbw.trans (b5.mono hbw.size), Nat.le_trans hM b5.size⟩
        · simp only [List.getElem?_toArray, List.getElem?_cons_zero, List.getElem?_cons_succ, Option.some.injEq] at ho
          subst ho
          obtain ⟨a', n', c', rfl, hKd⟩ := h3 (dep 3 (by kernel_rfl)) hbi
          have b5 := bel1 w' (.cells #[.int .i64 k', .int .u64 (ws s' 0 : Int), .int .u64 (ws s' 1 : Int), .int .u64 (ws s' 2 : Int), .int .u64 (ws s' 3 : Int), .slice a' n' c'] 27)
          go_simp
          refine hK.out _ _ ⟨_, _, _, _, _, _, _, rfl, fun h => h0 (by simpa using h), fun h => h1 (by simpa using h), fun h => h2 (by simpa using h), fun _ h' => absurd h' (by simp), fun _ _ => ⟨w'.heap.size, a', n', c', rfl, alloc_new _ _, hKd.below b5, hM⟩, fun h => (h5n (by simpa using h)).bel b5, fun h => (h5 (by simpa using h)).bel b5, fun h => h6 (by simpa using h), fun h => (b5.block _ (heap_lt (h7n (by simpa using h)))).trans (h7n (by simpa using h)), fun h => ⟨(b5.block _ (heap_lt (h7 (by simpa using h)).1)).trans (h7 (by simpa using h)).1, by simp [(h7 (by simpa using h)).2.1], by simp [(h7 (by simpa using h)).2.2.1], by simp [(h7 (by simpa using h)).2.2.2]⟩, (b5.block _ (heap_lt hz)).trans hz, hbw.trans (b5.mono hbw.size), Nat.le_trans hM b5.size⟩
        · simp only [List.getElem?_toArray, List.getElem?_cons_zero, List.getElem?_cons_succ, Option.some.injEq] at ho
          subst ho
          obtain rfl := h1 (dep 1 (by kernel_rfl))
          obtain ⟨g4, a', n', c', rfl, hg4, hKd, hg4M⟩ := h4 (dep 4 (by kernel_rfl)) hbi
          have hO := h5n hbi
          obtain ⟨vs, ho, hall⟩ := hO
          have hol := HO.out
          have hs := hbw.size
          have h16 := H16.out
          refine step_append_lies _ (by rfl) (.tmp 25) (.tmp 28) 25 (by rfl) (w.heap.size + 2) 27 i0 _ 6 64 Tryd.underlying25 hi hz0 hz1 hz2 (by rfl) (by decide) v25 (l.take i).length vs (by rfl) ho ⟨g4, 0, none⟩ 1 1 (rcs k' s' (.slice a' n' c')) (by rfl) (by rfl) (World.news_of_block hg4) (by intro u hu; simp [rcs] at hu; rcases hu with rfl | rfl | rfl | rfl | rfl | rfl <;> rfl) (by decide) (by unfold maxLen; omega) (by omega) (by omega) _ rfl ?_
          intro g5 cap5 w5 hown' hgrow hat _
          have hb4 := dep 4 (by kernel_rfl)
          have hb1 := dep 1 (by kernel_rfl)
          have hOX := OX.snoc (n := wr.heap.size) (x := .mk k' s' l') ho hall hown' hgrow hol.1 hol.2 (hat.imp id fun e => by rw [e]; exact Nat.le_refl _) (RC_mk.2 ⟨a', n', c', rfl, hKd⟩)
          have hkeep : ∀ b, b < w.heap.size + 2 → b < w'.heap.size → w5.heap[b]? = w'.heap[b]? := fun b hb hl => hgrow.block b hl (fun e => by have h1 := (ho.lt b e.symm).1; omega)
          have hz5 := (hkeep _ (by omega) (heap_lt hz)).trans hz
          have hbw5 : Below w.heap.size w w5 := below_grown hbw hgrow hs (fun k hk => by have h1 := (ho.lt k hk).1; omega)
          have htk := HT.out
          rw [htk] at hOX
          refine hK.out _ _ ⟨_, _, _, _, _, _, _, rfl, fun h => h0 (by simpa using h), fun h => h1 (by simpa using h), fun h => h2 (by simpa using h), fun _ h' => absurd h' (by simp [hb4]), fun _ h' => absurd h' (by simp), fun h => absurd h (by simp), fun _ => by simpa using hOX, fun h => h6 (by simpa using h), fun h => (hkeep _ (by omega) (heap_lt (h7n (by simpa using h)))).trans (h7n (by simpa using h)), fun h => (by have h8 := (h7 (by simpa using h)).2.2.1; rw [hbi] at h8; cases h8), hz5, hbw5, Nat.le_trans hM hgrow.size⟩
        · simp only [List.getElem?_toArray, List.getElem?_cons_zero, List.getElem?_cons_succ, Option.some.injEq] at ho
          subst ho
          go_simp
          refine hK.out _ _ ⟨_, _, _, _, _, _, _, rfl, fun h => h0 (by simpa using h), fun h => h1 (by simpa using h), fun h => h2 (by simpa using h), fun h h' => h3 (by simpa using h) (by simpa using h'), fun h h' => h4 (by simpa using h) (by simpa using h'), fun h => h5n (by simpa using h), fun h => h5 (by simpa using h), fun _ => rfl, fun h => h7n (by simpa using h), fun h => ⟨(h7 (by simpa using h)).1, by simp [(h7 (by simpa using h)).2.1], by simp [(h7 (by simpa using h)).2.2.1], by simp [(h7 (by simpa using h)).2.2.2]⟩, hz, hbw, hM⟩
        · simp only [List.getElem?_toArray, List.getElem?_cons_zero, List.getElem?_cons_succ, Option.some.injEq] at ho
          subst ho
          obtain rfl := h6 (dep 6 (by kernel_rfl))
          have hb1 := dep 1 (by kernel_rfl)
          have hb5 := dep 5 (by kernel_rfl)
          have hb6 := dep 6 (by kernel_rfl)
          have hb4 := dep 4 (by kernel_rfl)
          have y1 := h7n hbi
          have d5 := (cells6 y1).2.2.2.2.2
          have f5 := free y1 5
          have hO5 := h5 hb5
          obtain ⟨a9, n9, c9, rfl⟩ := hO5.form
          go_simp
          refine hK.out _ _ ⟨_, _, _, _, _, _, _, rfl, fun h => h0 (by simpa using h), fun _ => by first | rfl | exact h1 hb1, fun h => h2 (by simpa using h), fun _ h' => absurd h' (by simp [hb4]), fun _ h' => absurd h' (by simp [hb5]), fun h => absurd h (by simp [hb5]), fun h => OX.put (rb := w.heap.size + 1) hO5 (by omega), fun _ => rfl, fun h => absurd h (by simp), fun _ => ⟨(blk_put (k := 5) (v := .slice a9 n9 c9) y1).trans rfl, by simp [hb1], by simp [hb5], by simp [hb6]⟩, blk_set hz (by show w.heap.size ≠ w.heap.size + 1; omega), below_put hbw (by omega), by simpa using hM⟩
      case done =>
        rintro b a' w' ⟨v24, v25, v26, v27, v28, v29, v30, rfl, h0, h1, h2, h3, h4, h5n, h5, h6, h7n, h7, hz, hbw, hM⟩ hall
        obtain rfl := h0 (hall 0)
        obtain rfl := h1 (hall 1)
        obtain rfl := h2 (hall 2)
        have hO := h5 (hall 5)
        obtain rfl := h6 (hall 6)
        have hB := (h7 (hall 7)).1
        have HZ := hid (And.intro hO (And.intro hz (And.intro hB hbw)))
        clear hO hz hB hbw h0 h1 h2 h3 h4 h5 h5n h6 h7 h7n
        go_wp2
        go_roundg (gk - 1)
        case measure => omega
        case rel => exact ⟨i + 1, v29, by go_num, by omega, HZ.out.1, HZ.out.2.1, HZ.out.2.2.1, HZ.out.2.2.2⟩
      case init =>
        exact ⟨_, _, _, _, _, _, _, rfl, fun h => absurd h (by simp), fun h => absurd h (by simp), fun h => absurd h (by simp), fun h => absurd h (by simp), fun h => absurd h (by simp), fun _ => HX.out.1.bel (Below.refl _ _).drew, fun h => absurd h (by simp), fun h => absurd h (by simp), fun _ => HX.out.2.2.1, fun h => absurd h (by simp), HX.out.2.1, HX.out.2.2.2.1.drew, Nat.le_refl _⟩

    · have hin : ¬ (i : Int) < (n : Int) := by omega
      have htk : l.take i = l := List.take_of_length_le (by have := hln.out; omega)
      rw [htk] at hO
      obtain ⟨a2, c2, rfl, hKd⟩ := hO.kd (by have := hln.out; omega)
      obtain ⟨d0, d1, d2, d3, d4, d5⟩ := cells6 hb
      obtain ⟨e0, e1, e2, e3, e4, e5⟩ := cells6 hz
      have f0 := free hz 0
      have f1 := free hz 1
      have f2 := free hz 2
      have f3 := free hz 3
      have f4 := free hz 4
      have f5 := free hz 5
      have HX := hid (And.intro hKd (And.intro hz (And.intro hb hbw)))
      clear hKd hz hb hbw hO
      have z := six_set (y0 := .int .i64 k) (y1 := .int .u64 (ws s 0 : Int)) (y2 := .int .u64 (ws s 1 : Int)) (y3 := .int .u64 (ws s 2 : Int)) (y4 := .int .u64 (ws s 3 : Int)) (y5 := .slice a2 l.length c2) HX.out.2.1
      obtain ⟨r0, r1, r2, r3, r4, r5⟩ := cells6 z
      clear z
      go_wp2
      refine bodyPost_ret (v := .agg #[.int .i64 k, .int .u64 (ws s 0 : Int), .int .u64 (ws s 1 : Int), .int .u64 (ws s 2 : Int), .int .u64 (ws s 3 : Int), .slice a2 l.length c2]) ?_ rfl ⟨⟨rcs k s (.slice a2 l.length c2), rfl, RC_mk.2 ⟨a2, l.length, c2, rfl, ?_⟩⟩, ?_⟩
      · simp [results, Tryd.results34, go_sem, r0, r1, r2, r3, r4, r5]
      · have hne : ∀ b, ge (w.heap.size + 2) b → b ≠ w.heap.size := fun b hb => by have h1 : w.heap.size + 2 ≤ b := hb; omega
        exact Kd.more (Kd.put (Kd.put (Kd.put (Kd.put (Kd.put (Kd.put HX.out.1 hne) hne) hne) hne) hne) hne) fun b hb => by have h1 : w.heap.size + 2 ≤ b := hb; exact Nat.le_trans (by omega) h1
      · exact below_put (below_put (below_put (below_put (below_put (below_put HX.out.2.2.2 (Nat.le_refl _)) (Nat.le_refl _)) (Nat.le_refl _)) (Nat.le_refl _)) (Nat.le_refl _)) (Nat.le_refl _)
end Go.Proofs.YtednoideboeehaaDoor
end
section
set_option linter.unusedSimpArgs false
set_option linter.unusedVariables false
namespace Go.Proofs.YtednoideboeehaaDoor
open Go.RowKit Bs Rg Go.Frame
attribute [local go_sem] eq_zero eq_set

theorem hmf : ∀ (fn : Fn) (first cap : Array Value) (w : World), (Instr.makeFunc fn first cap).run Tryd.prog w = .ok (.func fn first cap) w := fun _ _ _ _ => rfl

set_option maxRecDepth 100000 in
set_option maxHeartbeats 4000000 in
theorem catch_p (b0 b1 b2 b4 pb : Nat) (p : Nat) (s : ByteArray) (x0 x1 x2 x3 x4 x5 y z : Value) (u : TypeId) (pv : Value) (older : List PanicEntry) (w : World)
    (h4 : w.heap[b4]? = some (.cells #[.pointer (some ⟨pb, 0, none⟩)] 45 (0, 0))) (hP : w.heap[pb]? = some (.cells #[.string s, .int .i64 (p : Int)] 47 (0, 0)))
    (h0 : w.heap[b0]? = some (.cells #[x0, x1, x2, x3, x4, x5] 27 (0, 0))) (h1 : w.heap[b1]? = some (.cells #[y] 3 (0, 0))) (h2 : w.heap[b2]? = some (.cells #[z] 31 (0, 0))) (n01 : b0 ≠ b1) (n02 : b0 ≠ b2) (n12 : b1 ≠ b2) :
    CallsD Tryd.prog 31 #[.pointer (some ⟨b4, 0, none⟩), .pointer (some ⟨b0, 0, none⟩), .pointer (some ⟨b1, 0, none⟩), .pointer (some ⟨b2, 0, none⟩)] (.panicking ({ v := .iface u pv, recovered := false } :: older)) w fun e u' w' =>
      e = .returned (.tuple #[]) ∧ u' = .panicking ({ v := .iface u pv, recovered := true } :: older) ∧ w' = (((((((w.setCell ⟨b0, 0, none⟩ (.int .i64 0)).setCell ⟨b0, 1, none⟩ (.int .u64 0)).setCell ⟨b0, 2, none⟩ (.int .u64 0)).setCell ⟨b0, 3, none⟩ (.int .u64 0)).setCell ⟨b0, 4, none⟩ (.int .u64 0)).setCell ⟨b0, 5, none⟩ (.slice none 0 0)).setCell ⟨b1, 0, none⟩ (.int .i64 (p : Int))).setCell ⟨b2, 0, none⟩ (.int .i64 3) := by
  obtain ⟨c0, c1, c2, c3, c4, c5⟩ := cells6 h0
  have f0 := free h0 0
  have f1 := free h0 1
  have f2 := free h0 2
  have f3 := free h0 3
  have f4 := free h0 4
  have f5 := free h0 5
  have d1 := cells1 h1
  have g1 := free h1 0
  have d2 := cells1 h2
  have g2 := free h2 0
  have e4 := cells1 h4
  obtain ⟨e0, e1⟩ := cells2 hP
  refine callsD_of_wpS Tryd.func31 rfl fun k₀ ks hu => ?_
  apply wpS_seq
  apply wpS_region
  simp [wpOpsS, go_sem, recoverD, hu, Tryd.ntmps31, Exit.thenS]
  refine wpS_cond (t := true) (by simp [Act.eval, Array.replicate]) ?_
  simp only [if_true]
  refine wpS_of_wp ?_
  go_wp2
  simp [bodyPostS, results, Tryd.results31]

set_option maxRecDepth 100000 in
set_option maxHeartbeats 4000000 in
theorem catch_idle (b0 b1 b2 b4 : Nat) (w : World) :
    CallsD Tryd.prog 31 #[.pointer (some ⟨b4, 0, none⟩), .pointer (some ⟨b0, 0, none⟩), .pointer (some ⟨b1, 0, none⟩), .pointer (some ⟨b2, 0, none⟩)] .returning w fun e u' w' => e = .returned (.tuple #[]) ∧ u' = .returning ∧ w' = w := by
  refine callsD_of_wpS Tryd.func31 rfl fun k₀ ks hu => ?_
  apply wpS_seq
  apply wpS_region
  simp [wpOpsS, go_sem, recoverD, hu, Tryd.ntmps31, Exit.thenS]
  refine wpS_cond (t := false) (by simp [Act.eval, Array.replicate]) ?_
  simp only [Bool.false_eq_true, if_false]
  refine wpS_of_wp (wp_skip ?_)
  cases k₀
  simp_all [bodyPostS, results, Tryd.results31]

/-- The expression that stands for no result. -/
def zr : Rx := .mk 0 none8 []
/-- What Parse answers: expression, offset, error. -/
def parseR (l : List UInt8) : Rx × Nat × Nat :=
  match pRegex (4 * l.length + 4) l with
  | .bad t => (zr, l.length - t.length, 3)
  | .ok x [] => if depth x ≤ 30 then (x, 0, 0) else (zr, 0, 11)
  | .ok x (b :: t) => (zr, l.length - (t.length + 1), 3)
theorem zcs : rcs 0 none8 (.slice none 0 0) = [.int .i64 0, .int .u64 0, .int .u64 0, .int .u64 0, .int .u64 0, .slice none 0 0] := by
  unfold rcs; rw [ws_none, ws_none, ws_none, ws_none]; rfl
theorem zr_rc (g : Nat → Prop) (W : World) : RC g W zr [.int .i64 0, .int .u64 0, .int .u64 0, .int .u64 0, .int .u64 0, .slice none 0 0] := by
  rw [← zcs]; exact RC_mk.2 ⟨none, 0, 0, rfl, rfl, by omega, .inl rfl⟩
theorem zws : .agg #[.int .i64 0, .int .u64 (ws none8 0 : Int), .int .u64 (ws none8 1 : Int), .int .u64 (ws none8 2 : Int), .int .u64 (ws none8 3 : Int), .slice none 0 0] = Value.agg #[.int .i64 0, .int .u64 0, .int .u64 0, .int .u64 0, .int .u64 0, .slice none 0 0] := by
  rw [ws_none, ws_none, ws_none, ws_none]; rfl
end Go.Proofs.YtednoideboeehaaDoor
end
section
namespace Rg

def okb (b : UInt8) : Bool := prn b || b == 9 || b == 10
/-- Not empty, and only bytes that can be written. -/
def wr (s : BS) : Bool := !emp s && (List.range 256).all fun i => !s (UInt8.ofNat i) || okb (UInt8.ofNat i)
theorem wr_iff {s : BS} : wr s = true ↔ s ≠ none8 ∧ ∀ b, s b = true → okb b = true := by
  unfold wr
  rw [Bool.and_eq_true, List.all_eq_true]
  constructor
  · rintro ⟨h1, h2⟩
    refine ⟨fun e => ?_, fun b hb => ?_⟩
    · rw [emp_iff.2 e] at h1; cases h1
    · have := h2 b.toNat (by simpa using b.toNat_lt)
      simpa [hb] using this
  · rintro ⟨h1, h2⟩
    refine ⟨?_, fun i _ => ?_⟩
    · cases h : emp s
      · rfl
      · exact absurd (emp_iff.1 h) h1
    · cases h : s (UInt8.ofNat i)
      · rfl
      · rw [h2 _ h]; rfl
def nt (s : BS) (n : Nat) : Bool := s (UInt8.ofNat n)
theorem nt_nat (s : BS) (b : UInt8) : nt s b.toNat = s b := by unfold nt; simp
/-- A byte, with a sign of escape where one is needed. -/
def wch (sp : List UInt8) (b : UInt8) : List UInt8 := if b = 10 then [92, 110] else if b = 9 then [92, 116] else if sp.contains b = true then [92, b] else [b]
def spJ : List UInt8 := [93, 92, 45, 94]
/-- The last of the run from b on. -/
def lor (s : BS) : Nat → Nat → Nat
  | 0, b => b
  | n + 1, b => if nt s (b + 1) = true then lor s n (b + 1) else b
/-- The elements from b on. -/
def elms (s : BS) : Nat → Nat → List UInt8
  | 0, _ => []
  | n + 1, b => if 126 < b then [] else if nt s b = false then elms s n (b + 1)
    else if b + 2 ≤ lor s 256 b then wch spJ (UInt8.ofNat b) ++ 45 :: (wch spJ (UInt8.ofNat (lor s 256 b)) ++ elms s n (lor s 256 b + 1))
    else wch spJ (UInt8.ofNat b) ++ elms s n (b + 1)
/-- The only element. -/
def only (s : BS) : Option UInt8 := match (List.range 256).filter (nt s) with
  | [b] => some (UInt8.ofNat b)
  | _ => none
def eqd (s t : BS) : Bool := (List.range 256).all fun i => nt s i == nt t i
theorem eqd_iff {s t : BS} : eqd s t = true ↔ s = t := by
  constructor
  · intro h
    funext b
    unfold eqd at h
    rw [List.all_eq_true] at h
    have := h b.toNat (by simpa using b.toNat_lt)
    rw [nt_nat, nt_nat] at this
    simpa using this
  · rintro rfl
    simp [eqd]
def fmtS (s : BS) : List UInt8 :=
  if eqd s dot = true then [46] else match only s with
    | some b => wch spO b
    | none => if wr s = true then 91 :: (elms s 200 0 ++ [93]) else 91 :: 94 :: (elms (cpl s) 200 0 ++ [93])
def grp (p : Bool) (l : List UInt8) : List UInt8 := if p = true then 40 :: (l ++ [41]) else l
mutual
def fmt : Rx → List UInt8
  | .mk k s l => if k = 2 then [40, 41] else if k = 3 then fmtS s else if k = 4 then fmtC l else if k = 5 then fmtU l else if k = 6 then fmtK l else []
def fmtC : List Rx → List UInt8
  | [] => []
  | x :: l => grp (x.k == 4 || x.k == 5) (fmt x) ++ fmtC l
def fmtU : List Rx → List UInt8
  | [] => []
  | x :: l => grp (x.k == 5) (fmt x) ++ fmtV l
def fmtV : List Rx → List UInt8
  | [] => []
  | x :: l => 124 :: (grp (x.k == 5) (fmt x) ++ fmtV l)
def fmtK : List Rx → List UInt8
  | [] => []
  | x :: _ => grp (!(x.k == 3)) (fmt x) ++ [42]
end
mutual
/-- Whether it has a text. -/
def prt : Rx → Bool
  | .mk k s l => if k = 1 then false else if k = 3 then wr s || wr (cpl s) else prtL l
def prtL : List Rx → Bool
  | [] => true
  | x :: l => prt x && prtL l
end
theorem prtL_iff {l : List Rx} : prtL l = true ↔ ∀ x ∈ l, prt x = true := by
  induction l with
  | nil => simp [prtL]
  | cons x l ih => simp [prtL, ih]

/-! A char read back. -/
theorem chr_I {b : UInt8} (h : okb b = true) (t : List UInt8) : chr spI (wch spJ b ++ t) = .ok b t := by
  unfold wch
  by_cases h1 : b = 10
  · subst h1; rfl
  rw [if_neg h1]
  by_cases h2 : b = 9
  · subst h2; rfl
  rw [if_neg h2]
  have hp : prn b = true := by unfold okb at h; simpa [h1, h2] using h
  by_cases h3 : spJ.contains b = true
  · rw [if_pos h3]
    have : b = 93 ∨ b = 92 ∨ b = 45 ∨ b = 94 := by simpa [spJ] using h3
    rcases this with rfl | rfl | rfl | rfl <;> rfl
  · rw [if_neg h3]
    have : b ≠ 93 ∧ b ≠ 92 ∧ b ≠ 45 ∧ b ≠ 94 := by simpa [spJ] using h3
    simp [chr, hp, spI, this.1, this.2.1, this.2.2.1]
theorem chr_O {b : UInt8} (h : okb b = true) (t : List UInt8) : chr spO (wch spO b ++ t) = .ok b t := by
  unfold wch
  by_cases h1 : b = 10
  · subst h1; rfl
  rw [if_neg h1]
  by_cases h2 : b = 9
  · subst h2; rfl
  rw [if_neg h2]
  have hp : prn b = true := by unfold okb at h; simpa [h1, h2] using h
  by_cases h3 : spO.contains b = true
  · rw [if_pos h3]
    have : b = 40 ∨ b = 41 ∨ b = 91 ∨ b = 93 ∨ b = 124 ∨ b = 42 ∨ b = 43 ∨ b = 63 ∨ b = 46 ∨ b = 92 := by simpa [spO] using h3
    rcases this with rfl | rfl | rfl | rfl | rfl | rfl | rfl | rfl | rfl | rfl <;> rfl
  · rw [if_neg h3]
    have h92 : b ≠ 92 := fun e => h3 (by subst e; rfl)
    rw [Bool.not_eq_true] at h3
    simp only [List.cons_append, List.nil_append, chr, if_neg h92, hp, h3]
    simp
/-- No escape begins like this. -/
theorem wchJ_hd {b c : UInt8} (hc : c = 93 ∨ c = 45 ∨ c = 94) (t u : List UInt8) : wch spJ b ++ t ≠ c :: u := by
  intro h
  unfold wch at h
  split at h
  · rcases hc with rfl | rfl | rfl <;> simp at h
  split at h
  · rcases hc with rfl | rfl | rfl <;> simp at h
  split at h
  · rcases hc with rfl | rfl | rfl <;> simp at h
  · rename_i h3
    simp at h
    rw [h.1] at h3
    rcases hc with rfl | rfl | rfl <;> exact h3 rfl
theorem wchO_hd {b : UInt8} : ∃ c u, wch spO b = c :: u ∧ c ≠ 40 ∧ c ≠ 41 ∧ c ≠ 91 ∧ c ≠ 124 ∧ c ≠ 42 ∧ c ≠ 43 ∧ c ≠ 63 ∧ c ≠ 46 := by
  unfold wch
  split
  · exact ⟨_, _, rfl, by decide⟩
  split
  · exact ⟨_, _, rfl, by decide⟩
  split
  · exact ⟨_, _, rfl, by decide⟩
  · rename_i h3
    refine ⟨_, _, rfl, ?_⟩
    refine ⟨?_, ?_, ?_, ?_, ?_, ?_, ?_, ?_⟩ <;> (rintro rfl; exact h3 rfl)
theorem skip_hd {c : UInt8} {l : List UInt8} (h : ∀ u, l ≠ c :: u) : skip c l = none := by
  cases h' : skip c l with
  | none => rfl
  | some t => exact absurd (skip_some h') (h t)
theorem elt_one {b : UInt8} (h : okb b = true) {t : List UInt8} (ht : ∀ u, t ≠ 45 :: u) : elt (wch spJ b ++ t) = .ok (rng b b) t := by
  unfold elt
  rw [chr_I h]
  simp only [skip_hd ht]
theorem elt_two {a b : UInt8} (ha : okb a = true) (hb : okb b = true) (hab : ¬ b < a) {t : List UInt8} : elt (wch spJ a ++ 45 :: (wch spJ b ++ t)) = .ok (rng a b) t := by
  unfold elt
  rw [chr_I ha]
  simp only [skip_cons, chr_I hb]
  rw [if_neg hab]

theorem lor_spec (s : BS) : ∀ (n b : Nat), b ≤ lor s n b ∧ (∀ x, b < x → x ≤ lor s n b → nt s x = true) ∧ lor s n b ≤ b + n
  | 0, b => by rw [lor]; exact ⟨Nat.le_refl _, fun x h1 h2 => by omega, by omega⟩
  | n + 1, b => by
    rw [lor]
    split
    · rename_i h
      obtain ⟨h1, h2, h3⟩ := lor_spec s n (b + 1)
      refine ⟨by omega, fun x x1 x2 => ?_, by omega⟩
      by_cases e : x = b + 1
      · rw [e]; exact h
      · exact h2 x (by omega) x2
    · exact ⟨Nat.le_refl _, fun x h1 h2 => by omega, by omega⟩
theorem nt_ok {s : BS} (hs : ∀ b, s b = true → okb b = true) {n : Nat} (hn : n < 256) (h : nt s n = true) : okb (UInt8.ofNat n) = true ∧ n ≤ 126 := by
  have h1 := hs _ h
  refine ⟨h1, ?_⟩
  unfold okb prn at h1
  simp only [Bool.or_eq_true, Bool.and_eq_true, decide_eq_true_eq, beq_iff_eq] at h1
  have e : (UInt8.ofNat n).toNat = n := by simp; omega
  rcases h1 with (⟨_, h1⟩ | h1) | h1
  · rw [UInt8.le_iff_toNat_le, e] at h1; exact h1
  · have := congrArg UInt8.toNat h1; rw [e] at this; simp at this; omega
  · have := congrArg UInt8.toNat h1; rw [e] at this; simp at this; omega
theorem lor_lt {s : BS} (hs : ∀ b, s b = true → okb b = true) {n : Nat} : ∀ {b : Nat}, b ≤ 126 → lor s n b ≤ 126 := by
  induction n with
  | zero => intro b hb; rw [lor]; exact hb
  | succ n ih =>
    intro b hb
    rw [lor]
    split
    · rename_i h; exact ih (nt_ok hs (by omega) h).2
    · exact hb
/-- Those from b on. -/
def fro (s : BS) (b : Nat) : BS := fun x => s x && decide (b ≤ x.toNat)
theorem fro_none {s : BS} {b : Nat} (hs : ∀ b, s b = true → okb b = true) (hb : 126 < b) : fro s b = none8 := by
  funext x
  unfold fro none8
  cases h : s x
  · rfl
  · have := (nt_ok hs (n := x.toNat) x.toNat_lt (by rw [nt_nat]; exact h)).2
    simp; omega
theorem fro_skip {s : BS} {b : Nat} (h : nt s b = false) : fro s b = fro s (b + 1) := by
  funext x
  unfold fro
  by_cases e : x.toNat = b
  · have : s x = false := by rw [← nt_nat s x, e]; exact h
    simp [this]
  · rw [show decide (b ≤ x.toNat) = decide (b + 1 ≤ x.toNat) by rw [decide_eq_decide]; omega]
theorem toNat_of {n : Nat} (h : n < 256) : (UInt8.ofNat n).toNat = n := by simp; omega
theorem fro_run {s : BS} {b e : Nat} (hb : b ≤ e) (he : e < 256) (h : ∀ x, b ≤ x → x ≤ e → nt s x = true) : fro s b = uni (rng (UInt8.ofNat b) (UInt8.ofNat e)) (fro s (e + 1)) := by
  funext x
  unfold fro uni rng
  simp only [UInt8.le_iff_toNat_le, toNat_of he, toNat_of (show b < 256 by omega)]
  by_cases h1 : b ≤ x.toNat
  · by_cases h2 : x.toNat ≤ e
    · have := h x.toNat h1 h2
      rw [nt_nat] at this
      simp [this, h1, h2]
    · have h3 : e + 1 ≤ x.toNat := by omega
      simp [h1, h2, h3]
  · have h3 : ¬ e + 1 ≤ x.toNat := by omega
    simp [h1, h3]
theorem uni_assoc (a b c : BS) : uni (uni a b) c = uni a (uni b c) := by funext x; simp [uni, Bool.or_assoc]
theorem uni_none (a : BS) : uni a none8 = a := by funext x; simp [uni, none8]
theorem elms_hd {s : BS} {c : UInt8} (hc : c = 45 ∨ c = 94) : ∀ (n b : Nat) (t u : List UInt8), elms s n b ++ 93 :: t ≠ c :: u
  | 0, b, t, u => by rw [elms]; intro h; simp at h; rcases hc with rfl | rfl <;> simp at h
  | n + 1, b, t, u => by
    rw [elms]
    split
    · intro h; simp at h; rcases hc with rfl | rfl <;> simp at h
    split
    · exact elms_hd hc n (b + 1) t u
    split
    · rw [List.append_assoc]; exact wchJ_hd (hc.elim (fun h => .inr (.inl h)) fun h => .inr (.inr h)) _ _
    · rw [List.append_assoc]; exact wchJ_hd (hc.elim (fun h => .inr (.inl h)) fun h => .inr (.inr h)) _ _
theorem ofNat_not_lt {a b : Nat} (h : a ≤ b) (hb : b < 256) : ¬ UInt8.ofNat b < UInt8.ofNat a := by
  rw [UInt8.lt_iff_toNat_lt, toNat_of hb, toNat_of (by omega)]; omega
theorem wch_pos (sp : List UInt8) (b : UInt8) : 0 < (wch sp b).length := by
  unfold wch
  split; · simp
  split; · simp
  split <;> simp
theorem brk_elms {s : BS} (hs : ∀ b, s b = true → okb b = true) : ∀ (n b N : Nat) (acc : BS) (t : List UInt8), 127 ≤ b + n → (elms s n b ++ 93 :: t).length < N → brk N acc (elms s n b ++ 93 :: t) = .ok (uni acc (fro s b)) t
  | 0, b, N, acc, t, hb, hN => by
    rw [elms] at hN ⊢
    rw [fro_none hs (by omega), uni_none]
    cases N with
    | zero => omega
    | succ N => rw [brk, List.nil_append, skip_cons]
  | n + 1, b, N, acc, t, hb, hN => by
    cases N with
    | zero => omega
    | succ N =>
    rw [elms] at hN ⊢
    by_cases h1 : 126 < b
    · rw [if_pos h1, brk, List.nil_append, skip_cons, fro_none hs h1, uni_none]
    rw [if_neg h1] at hN ⊢
    by_cases h2 : nt s b = false
    · rw [if_pos h2] at hN ⊢
      rw [fro_skip h2]
      exact brk_elms hs n (b + 1) (N + 1) acc t (by omega) hN
    rw [if_neg h2] at hN ⊢
    have h2 : nt s b = true := by simpa using h2
    obtain ⟨l1, l2, l3⟩ := lor_spec s 256 b
    have l4 := lor_lt hs (n := 256) (show b ≤ 126 by omega)
    have okB := (nt_ok hs (by omega) h2).1
    by_cases h3 : b + 2 ≤ lor s 256 b
    · rw [if_pos h3] at hN ⊢
      have okE := (nt_ok hs (show lor s 256 b < 256 by omega) (l2 _ (by omega) (Nat.le_refl _))).1
      rw [List.append_assoc, List.cons_append, List.append_assoc] at hN ⊢
      rw [brk, skip_hd (wchJ_hd (.inl rfl) _)]
      simp only [elt_two okB okE (ofNat_not_lt l1 (by omega))]
      rw [brk_elms hs n _ N _ t (by omega) (by simp at hN ⊢; omega), fro_run l1 (by omega) (fun x x1 x2 => ?_), uni_assoc]
      by_cases e : x = b
      · rw [e]; exact h2
      · exact l2 x (by omega) x2
    · rw [if_neg h3] at hN ⊢
      rw [List.append_assoc] at hN ⊢
      rw [brk, skip_hd (wchJ_hd (.inl rfl) _)]
      simp only [elt_one okB (elms_hd (.inl rfl) n (b + 1) t)]
      have := wch_pos spJ (UInt8.ofNat b)
      rw [brk_elms hs n _ N _ t (by omega) (by simp at hN ⊢; omega), fro_run (Nat.le_refl b) (by omega) (fun x x1 x2 => by rw [show x = b by omega]; exact h2), uni_assoc]
theorem elts_elms {s : BS} (hs : ∀ b, s b = true → okb b = true) : ∀ (n b : Nat) (t : List UInt8), 127 ≤ b + n → fro s b ≠ none8 → elts (elms s n b ++ 93 :: t) = .ok (fro s b) t
  | 0, b, t, hb, hne => absurd (fro_none hs (by omega)) hne
  | n + 1, b, t, hb, hne => by
    rw [elms]
    by_cases h1 : 126 < b
    · exact absurd (fro_none hs h1) hne
    rw [if_neg h1]
    by_cases h2 : nt s b = false
    · rw [if_pos h2, fro_skip h2]
      rw [fro_skip h2] at hne
      exact elts_elms hs n (b + 1) t (by omega) hne
    rw [if_neg h2]
    have h2 : nt s b = true := by simpa using h2
    obtain ⟨l1, l2, l3⟩ := lor_spec s 256 b
    have l4 := lor_lt hs (n := 256) (show b ≤ 126 by omega)
    have okB := (nt_ok hs (by omega) h2).1
    by_cases h3 : b + 2 ≤ lor s 256 b
    · rw [if_pos h3]
      have okE := (nt_ok hs (show lor s 256 b < 256 by omega) (l2 _ (by omega) (Nat.le_refl _))).1
      rw [List.append_assoc, List.cons_append, List.append_assoc]
      unfold elts
      rw [elt_two okB okE (ofNat_not_lt l1 (by omega))]
      simp only
      rw [brk_elms hs n _ _ _ t (by omega) (by omega), ← fro_run l1 (by omega) (fun x x1 x2 => ?_)]
      by_cases e : x = b
      · rw [e]; exact h2
      · exact l2 x (by omega) x2
    · rw [if_neg h3, List.append_assoc]
      unfold elts
      rw [elt_one okB (elms_hd (.inl rfl) n (b + 1) t)]
      simp only
      rw [brk_elms hs n _ _ _ t (by omega) (by omega), ← fro_run (Nat.le_refl b) (by omega) (fun x x1 x2 => by rw [show x = b by omega]; exact h2)]
theorem fro_zero (s : BS) : fro s 0 = s := by funext x; simp [fro]
theorem cpl_cpl (s : BS) : cpl (cpl s) = s := by funext x; simp [cpl]
theorem filter_one {p : Nat → Bool} {l : List Nat} {b : Nat} (h : l.filter p = [b]) : ∀ x ∈ l, (p x = true ↔ x = b) := by
  intro x hx
  constructor
  · intro hp
    have : x ∈ l.filter p := List.mem_filter.2 ⟨hx, hp⟩
    rw [h] at this; simpa using this
  · rintro rfl
    have : x ∈ l.filter p := by rw [h]; simp
    exact (List.mem_filter.1 this).2
theorem only_some {s : BS} {b : UInt8} (h : only s = some b) : s = one b := by
  unfold only at h
  split at h
  · rename_i c hc
    injection h with h
    subst h
    have hf := filter_one hc
    have hcm : c ∈ (List.range 256).filter (nt s) := by rw [hc]; simp
    have hc2 := List.mem_range.1 (List.mem_filter.1 hcm).1
    funext x
    have := hf x.toNat (by simpa using x.toNat_lt)
    rw [nt_nat] at this
    unfold one
    rw [Bool.eq_iff_iff, this, beq_iff_eq]
    constructor
    · intro e; rw [← e]; simp
    · intro e; rw [e, toNat_of hc2]
  · cases h
theorem setM_fmt {s : BS} (h : (wr s || wr (cpl s)) = true) (t : List UInt8) : setM (fmtS s ++ t) = .ok s t ∧ skip 40 (fmtS s ++ t) = none ∧ ∃ c u, fmtS s = c :: u ∧ c ≠ 41 ∧ c ≠ 124 ∧ c ≠ 42 ∧ c ≠ 43 ∧ c ≠ 63 := by
  unfold fmtS
  by_cases hd : eqd s dot = true
  · rw [if_pos hd, eqd_iff.1 hd]
    exact ⟨rfl, rfl, _, _, rfl, by decide⟩
  rw [if_neg hd]
  cases ho : only s with
  | some b =>
    simp only
    have hb : s b = true := by rw [only_some ho]; simp [one]
    have hok : okb b = true := by
      rw [Bool.or_eq_true, wr_iff, wr_iff] at h
      rcases h with h | h
      · exact h.2 b hb
      · exfalso
        have h1 := h.2 (if b = 200 then 201 else 200) (by
          unfold cpl; rw [only_some ho]; unfold one
          split
          · rename_i e; subst e; rfl
          · rename_i e; simp; exact fun e' => e e'.symm)
        split at h1 <;> exact absurd h1 (by decide)
    obtain ⟨c, u, hc, c1, c2, c3, c4, c5, c6, c7, c8⟩ := @wchO_hd b
    refine ⟨?_, ?_, c, u, hc, c2, c4, c5, c6, c7⟩
    · unfold setM
      rw [show skip 91 (wch spO b ++ t) = none from skip_hd (fun v hv => by rw [hc] at hv; simp at hv; exact c3 hv.1)]
      simp only
      rw [show skip 46 (wch spO b ++ t) = none from skip_hd (fun v hv => by rw [hc] at hv; simp at hv; exact c8 hv.1)]
      simp only
      rw [chr_O hok]
      simp only
      rw [only_some ho]
    · exact skip_hd (fun v hv => by rw [hc] at hv; simp at hv; exact c1 hv.1)
  | none =>
    simp only
    by_cases hw : wr s = true
    · rw [if_pos hw]
      have hs := (wr_iff.1 hw).2
      refine ⟨?_, skip_ne _ (by decide), _, _, rfl, by decide⟩
      show setM (91 :: (elms s 200 0 ++ [93] ++ t)) = _
      unfold setM
      rw [skip_cons]
      simp only
      unfold brackets
      rw [List.append_assoc, List.cons_append, List.nil_append, skip_hd (elms_hd (.inr rfl) 200 0 t)]
      simp only
      rw [elts_elms hs 200 0 t (by omega) (by rw [fro_zero]; exact (wr_iff.1 hw).1), fro_zero]
    · rw [if_neg hw]
      have hw' : wr (cpl s) = true := by simpa [hw] using h
      have hs := (wr_iff.1 hw').2
      refine ⟨?_, skip_ne _ (by decide), _, _, rfl, by decide⟩
      show setM (91 :: 94 :: (elms (cpl s) 200 0 ++ [93] ++ t)) = _
      unfold setM
      rw [skip_cons]
      simp only
      unfold brackets
      rw [skip_cons]
      simp only
      rw [List.append_assoc, List.cons_append, List.nil_append, elts_elms hs 200 0 t (by omega) (by rw [fro_zero]; exact (wr_iff.1 hw').1), fro_zero]
      simp only
      rw [cpl_cpl]
end Rg
end
