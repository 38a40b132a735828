/-
  Sets of states as words; contracts: has, add, addAll, list.
  A map from moves to sets of states: look-up, update.
  The machine in memory; contracts: noStates, targets.
  The machine: contract: targets.
-/
import Derived.Test.YtogpnlkjcdedlaaDoorZ04
import Derived.Test.YtogpnlkjcdedlaaDoorZ02
import Derived.OwnWalk
import Derived.Laws.OwnMore
import Derived.Laws.StructEq
import Derived.ChangeKeysEq
import Derived.RangeFuncRecord
import Derived.BigQuiet
import Derived.Deep.RegionHeld3
section
set_option linter.unusedSimpArgs false
set_option linter.unusedVariables false
namespace Go.Proofs.YtogpnlkjcdedlaaDoor
open Go.RowKit Bs Rg Nf Go.Frame
attribute [local go_sem] eq_zero eq_set

/-- The words of a set. -/
def swc (p : Nat → Bool) (m : Nat) : List Value := (List.range m).map fun i => .int .u64 (wd p i : Int)
theorem swc_length (p : Nat → Bool) (m : Nat) : (swc p m).length = m := by simp [swc]
theorem swc_at {p : Nat → Bool} {m i : Nat} (h : i < m) : (swc p m)[i]? = some (.int .u64 (wd p i : Int)) := by simp [swc, h]
/-- A set of states in a block. -/
def MB (W : World) (b : Nat) (p : Nat → Bool) (m : Nat) : Prop := W.heap[b]? = some (.cells (swc p m).toArray 46 (0, 0))
theorem MB.lt {W : World} {b m : Nat} {p : Nat → Bool} (h : MB W b p m) : b < W.heap.size := heap_lt h
theorem MB.below {W W' : World} {b m : Nat} {p : Nat → Bool} (h : MB W b p m) (hb : Below W.heap.size W W') : MB W' b p m := (hb.block _ h.lt).trans h
theorem MB.kept {F : Nat → Prop} {W W' : World} {b m : Nat} {p : Nat → Bool} (h : MB W b p m) (hb : Kept F W W') (hF : ¬ F b) : MB W' b p m := (hb.block _ hF).trans h
theorem MB.cell {W : World} {b m i : Nat} {p : Nat → Bool} (h : MB W b p m) (hi : i < m) : W.cell? ⟨b, i, none⟩ = some (.int .u64 (wd p i : Int)) := by
  have h1 : W.heap[b]? = some (.cells (swc p m).toArray 46 (0, 0)) := h
  simp only [World.cell?, h1]
  simp [swc_at hi]
theorem MB.free {W : World} {b m : Nat} {p : Nat → Bool} (h : MB W b p m) (i : Nat) : W.frozen? ⟨b, i, none⟩ = false := Go.Frame.free h i
theorem MB.upd {W : World} {b m i : Nat} {p q : Nat → Bool} (h : MB W b p m) (hq : ∀ k, k < m → k ≠ i → wd q k = wd p k) : MB (W.setCell ⟨b, i, none⟩ (.int .u64 (wd q i : Int))) b q m := by
  refine (blk_put h).trans ?_
  congr 2
  apply Array.ext'
  rw [Array.toList_setIfInBounds]
  apply List.ext_getElem?
  intro k
  rw [List.getElem?_set]
  show (if i = k then _ else (swc p m)[k]?) = (swc q m)[k]?
  by_cases hk : k < m
  · rw [swc_at hk, swc_at hk]
    by_cases e : i = k
    · subst e; simp [swc_length, hk]
    · rw [if_neg e, hq k hk (fun h => e h.symm)]
  · rw [List.getElem?_eq_none (by rw [swc_length]; omega), List.getElem?_eq_none (by rw [swc_length]; omega)]
    split
    · rw [if_neg (by simp [swc_length]; omega)]
    · rfl
theorem MB.other {W : World} {b b2 m i : Nat} {p : Nat → Bool} {v : Value} (h : MB W b p m) (hn : b ≠ b2) : MB (W.setCell ⟨b2, i, none⟩ v) b p m := blk_set h hn
theorem MB.congr {W : World} {b m : Nat} {p q : Nat → Bool} (h : MB W b p m) (e : ∀ x, x < 64 * m → p x = q x) : MB W b q m := by
  have : swc p m = swc q m := by
    unfold swc
    exact List.map_congr_left fun i hi => by rw [show wd p i = wd q i from nb_congr fun j hj => e _ (by have := List.mem_range.1 hi; omega)]
  unfold MB at h ⊢; rw [← this]; exact h
set_option maxRecDepth 100000 in
set_option maxHeartbeats 4000000 in
theorem has_any (W : World) (b m x : Nat) (p : Nat → Bool) (h : MB W b p m) (hx : x < 64 * m) (hm : m ≤ 1000) :
    Calls Tryd.prog 73 #[.slice (some ⟨b, 0, none⟩) m m, .int .i64 (x : Int)] W fun e w' => e = .returned (.bool (p x)) ∧ Below W.heap.size W w' := by
  obtain ⟨k, j, hk, hj, rfl⟩ : ∃ k j, k < m ∧ j < 64 ∧ x = 64 * k + j := ⟨x / 64, x % 64, by omega, by omega, by omega⟩
  obtain ⟨x, hx'⟩ : ∃ x, x = 64 * k + j := ⟨_, rfl⟩
  have q1 : (x : Int) / 64 = (k : Int) := by omega
  have q2 : (x : Int) % 64 = (j : Int) := by omega
  have q1' : Int.tdiv (x : Int) 64 = (k : Int) := by rw [Int.tdiv_eq_ediv_of_nonneg (by omega)]; omega
  have q2' : Int.tmod (x : Int) 64 = (j : Int) := by rw [Int.tmod_eq_emod_of_nonneg (by omega)]; omega
  have q3 : x / 64 = k := by omega
  have q4 : x % 64 = j := by omega
  have E := has_bit (p := p) (k := k) hj
  rw [← hx'] at E ⊢
  have hk2 : (k : Int) < (m : Int) := by omega
  have hk0 : (0 : Int) ≤ (k : Int) := by omega
  have hj2 : (0 : Int) ≤ (j : Int) := by omega
  have hx9 : (x : Int) ≤ 100000 := by omega
  have c0 := h.cell hk
  clear hx' hx h
  cases hp : p x
  all_goals (
    rw [hp] at E
    simp only [Bool.toNat_false, Bool.toNat_true, Int.natCast_zero, Int.natCast_one] at E
    clear hp
    go_enter Tryd.func73, Tryd.ntmps73
    go_wp2
    go_ret
    exact ⟨rfl, Below.refl _ _⟩)
set_option maxRecDepth 100000 in
set_option maxHeartbeats 4000000 in
theorem add_any (W : World) (b m x : Nat) (p : Nat → Bool) (h : MB W b p m) (hx : x < 64 * m) (hm : m ≤ 1000) :
    Calls Tryd.prog 57 #[.slice (some ⟨b, 0, none⟩) m m, .int .i64 (x : Int)] W fun e w' => e = .returned (.tuple #[]) ∧ MB w' b (add1 p x) m ∧ Kept (· = b) W w' ∧ w'.heap.size = W.heap.size := by
  obtain ⟨k, j, hk, hj, rfl⟩ : ∃ k j, k < m ∧ j < 64 ∧ x = 64 * k + j := ⟨x / 64, x % 64, by omega, by omega, by omega⟩
  obtain ⟨x, hx'⟩ : ∃ x, x = 64 * k + j := ⟨_, rfl⟩
  have q1 : (x : Int) / 64 = (k : Int) := by omega
  have q2 : (x : Int) % 64 = (j : Int) := by omega
  have q1' : Int.tdiv (x : Int) 64 = (k : Int) := by rw [Int.tdiv_eq_ediv_of_nonneg (by omega)]; omega
  have q2' : Int.tmod (x : Int) 64 = (j : Int) := by rw [Int.tmod_eq_emod_of_nonneg (by omega)]; omega
  have q3 : x / 64 = k := by omega
  have q4 : x % 64 = j := by omega
  have E := or_pow (p := p) (k := k) hj
  have HU := h.upd (i := k) (q := add1 p (64 * k + j)) fun k' _ hk' => wd_add_other p hj hk'
  rw [← hx'] at E HU ⊢
  have HU' := hid HU
  have hk2 : (k : Int) < (m : Int) := by omega
  have hk0 : (0 : Int) ≤ (k : Int) := by omega
  have hj2 : (0 : Int) ≤ (j : Int) := by omega
  have hx9 : (x : Int) ≤ 100000 := by omega
  have c0 := h.cell hk
  have f0 := h.free k
  clear hx' hx h HU
  go_enter Tryd.func57, Tryd.ntmps57
  go_region
  go_wp2
  go_end0
  exact ⟨rfl, HU'.out, (Kept.setCell (F := (· = b)) (p := ⟨b, k, none⟩) (Kept.refl _ W) rfl (.int .u64 (wd (add1 p x) k : Int))).drew, by simp⟩
/-- The first i words of another set too. -/
def un (p q : Nat → Bool) (i : Nat) (x : Nat) : Bool := p x || (q x && decide (x < 64 * i))
theorem un_zero (p q : Nat → Bool) : un p q 0 = p := by funext x; simp [un]
theorem un_same (p q : Nat → Bool) (i : Nat) : bits .or .u64 (wd (un p q i) i : Int) (wd q i : Int) = (wd (un p q (i + 1)) i : Int) := by
  rw [u64_or_nat _ _ (wd_lt _ _) (wd_lt _ _)]
  refine congrArg (fun (n : Nat) => (n : Int)) ?_
  have h1 : wd (un p q i) i = nb (fun j => p (64 * i + j)) 64 := nb_congr fun j hj => by unfold un; rw [decide_eq_false (by omega), Bool.and_false, Bool.or_false]
  have h2 : wd (un p q (i + 1)) i = nb (fun j => p (64 * i + j) || q (64 * i + j)) 64 := nb_congr fun j hj => by unfold un; rw [decide_eq_true (by omega), Bool.and_true]
  rw [h1, h2, nb_or]; rfl
theorem un_other (p q : Nat → Bool) {i k : Nat} (hk : k ≠ i) : wd (un p q (i + 1)) k = wd (un p q i) k := nb_congr fun j hj => by
  unfold un
  rw [show decide (64 * k + j < 64 * (i + 1)) = decide (64 * k + j < 64 * i) from by rw [Bool.eq_iff_iff, decide_eq_true_eq, decide_eq_true_eq]; omega]
set_option maxRecDepth 100000 in
set_option maxHeartbeats 4000000 in
theorem addAll_any (W : World) (b b2 m : Nat) (p q : Nat → Bool) (h : MB W b p m) (h2 : MB W b2 q m) (hn : b ≠ b2) (hm : m ≤ 1000) :
    Calls Tryd.prog 60 #[.slice (some ⟨b, 0, none⟩) m m, .slice (some ⟨b2, 0, none⟩) m m] W fun e w' => e = .returned (.tuple #[]) ∧ MB w' b (fun x => p x || q x) m ∧ Kept (· = b) W w' ∧ w'.heap.size = W.heap.size := by
  have H0 := hid (And.intro h h2)
  clear h h2
  go_enter Tryd.func60, Tryd.ntmps60
  go_wp2_with fail
  go_loopg [8] m (fun kk s8 wr => ∃ i : Nat, s8 = .int .i64 (i : Int) ∧ i + kk = m ∧ MB wr b (un p q i) m ∧ MB wr b2 q m ∧ Kept (· = b) W wr ∧ wr.heap.size = W.heap.size)
  case atStart => exact ⟨0, rfl, by omega, by rw [un_zero]; exact H0.out.1, H0.out.2, Kept.refl _ _, rfl⟩
  case round =>
    obtain ⟨i, rfl, hik, hb, hb2, hK, hS⟩ := hrel
    by_cases hlt : i < m
    · have hlt' : (i : Int) < (m : Int) := by omega
      have hi0 : (0 : Int) ≤ (i : Int) := by omega
      have c0 := hb.cell hlt
      have f0 := hb.free i
      have c1 := hb2.cell hlt
      have e1 := un_same p q i
      have HX := hid (And.intro (hb.upd (i := i) (q := un p q (i + 1)) fun k _ hk => un_other p q hk) (And.intro (hb2.other (i := i) (v := .int .u64 (wd (un p q (i + 1)) i : Int)) (Ne.symm hn)) (And.intro (hK.setCell (p := ⟨b, i, none⟩) rfl (.int .u64 (wd (un p q (i + 1)) i : Int))) hS)))
      clear hb hb2 hK hS
      go_wp2
      go_roundg (gk - 1)
      case measure => omega
      case rel => exact ⟨i + 1, by go_num, by omega, HX.out.1, HX.out.2.1, HX.out.2.2.1, by simpa using HX.out.2.2.2⟩
    · have hlt' : ¬ (i : Int) < (m : Int) := by omega
      have HX := hid (And.intro hb (And.intro hK hS))
      clear hb hb2 hK hS
      go_wp2
      go_end0
      refine ⟨rfl, HX.out.1.congr fun x hx => ?_, HX.out.2.1, HX.out.2.2⟩
      unfold un
      rw [decide_eq_true (by omega), Bool.and_true]
/-- What is left of word i from place m on. -/
def rst (p : Nat → Bool) (i m : Nat) : Nat := nb (fun j => p (64 * i + j) && decide (m ≤ j)) 64
theorem rst_zero (p : Nat → Bool) (i : Nat) : rst p i 0 = wd p i := nb_congr fun j _ => by simp
theorem rst_lt (p : Nat → Bool) (i m : Nat) : rst p i m < 18446744073709551616 := nb_lt 64 _
theorem elx_skip {p : Nat → Bool} {m : Nat} : ∀ {m' : Nat}, m ≤ m' → (∀ j, m ≤ j → j < m' → p j = false) → elx m' p = elx m p
  | 0, h, _ => by rw [show m = 0 by omega]
  | m' + 1, h, hp => by
    by_cases e : m = m' + 1
    · rw [e]
    · rw [elx_succ, hp m' (by omega) (by omega), elx_skip (m' := m') (by omega) fun j h1 h2 => hp j h1 (by omega)]; simp
theorem rst_end {p : Nat → Bool} {i m : Nat} (hm : m ≤ 64) (h : rst p i m = 0) : elx (64 * (i + 1)) p = elx (64 * i + m) p :=
  elx_skip (by omega) fun j h1 h2 => by
    have := nb_eq_zero h (j - 64 * i) (by omega)
    rw [show 64 * i + (j - 64 * i) = j by omega] at this
    simpa [show m ≤ j - 64 * i by omega] using this
theorem rst_next {p : Nat → Bool} {i m : Nat} (h : rst p i m ≠ 0) : ∃ (j y : Nat), j < 64 ∧ m ≤ j ∧ rst p i m = 2 ^ j * (1 + 2 * y) ∧ rst p i m &&& (rst p i m - 1) = rst p i (j + 1) ∧
    elx (64 * i + (j + 1)) p = elx (64 * i + m) p ++ [64 * i + j] := by
  obtain ⟨j, hj, hf, hl⟩ := nb_some 64 _ h
  obtain ⟨y, hy⟩ := nb_least j 64 _ hj hl hf
  have hc := nb_clear hj hl hf
  simp only [Bool.and_eq_true, decide_eq_true_eq] at hf
  refine ⟨j, y, hj, hf.2, hy, hc.trans (nb_congr fun x hx => ?_), ?_⟩
  · by_cases e : j < x
    · have e1 : m ≤ x := by omega
      simp [e, e1, show j + 1 ≤ x by omega]
    · simp [e, show ¬ j + 1 ≤ x by omega]
  · rw [← Nat.add_assoc, elx_succ, if_pos hf.1]
    refine congrArg (· ++ [64 * i + j]) ?_
    refine elx_skip (by omega) fun x h1 h2 => ?_
    have := hl (x - 64 * i) (by omega)
    rw [show 64 * i + (x - 64 * i) = x by omega] at this
    simpa [show m ≤ x - 64 * i by omega] using this
theorem rst_less {p : Nat → Bool} {i m : Nat} (h : rst p i m ≠ 0) : rst p i m &&& (rst p i m - 1) < rst p i m := by
  have : rst p i m &&& (rst p i m - 1) ≤ rst p i m - 1 := Nat.and_le_right
  omega
theorem Tryd.info3 : (Tryd.prog.info? 3).map (fun i => (i.zero, i.size, i.bytes)) = some (some (.int .i64 0), 1, 8) := by kernel_rfl
set_option maxRecDepth 100000 in
set_option maxHeartbeats 4000000 in
theorem list_any (W : World) (b m : Nat) (p : Nat → Bool) (h : MB W b p m) (hm : m ≤ 1000) (hT : Tb W) :
    Calls Tryd.prog 38 #[.slice (some ⟨b, 0, none⟩) m m] W fun e w' => (∃ v, e = .returned v ∧ w'.ownsRow W.heap.size 3 1 v (elx (64 * m) p).length (ints (elx (64 * m) p))) ∧ Below W.heap.size W w' := by
  obtain ⟨i0, hi, hz0, hz1, hz2⟩ := info_parts Tryd.info3
  have H0 := hid (And.intro h hT)
  clear h hT
  go_enter Tryd.func38, Tryd.ntmps38
  go_wp2_with fail
  go_loopg [3, 8] m (fun kk s3 s8 wr => ∃ i : Nat, s8 = .int .i64 (i : Int) ∧ i + kk = m ∧ wr.ownsRow W.heap.size 3 1 s3 (elx (64 * i) p).length (ints (elx (64 * i) p)) ∧ Below W.heap.size W wr)
  case atStart => exact ⟨0, rfl, by omega, World.ownsRow_nil _ _ _ _, Below.refl _ _⟩
  case round =>
    obtain ⟨i, rfl, hik, hown, hbw⟩ := hrel
    by_cases hlt : i < m
    · have hlt' : (i : Int) < (m : Int) := by omega
      have hi0 : (0 : Int) ≤ (i : Int) := by omega
      have c0 := (H0.out.1.below hbw).cell hlt
      have HX := hid (And.intro hown hbw)
      have e1 : IntKind.i64.wrap (64 * (i : Int)) = 64 * (i : Int) := wrapIn (by omega) (by omega)
      clear hown hbw
      obtain ⟨go, rfl⟩ : ∃ go, go = gk := ⟨_, rfl⟩
      go_wp2_with fail
      go_loopg [3, 5] 64 (fun k2 s3 s5 wr => ∃ (mm x : Nat), s5 = .int .u64 (x : Int) ∧ x = rst p i mm ∧ mm + k2 = 64 ∧ wr.ownsRow W.heap.size 3 1 s3 (elx (64 * i + mm) p).length (ints (elx (64 * i + mm) p)) ∧ Below W.heap.size W wr)
      case atStart => exact ⟨0, wd p i, rfl, (rst_zero p i).symm, by omega, HX.out.1, HX.out.2⟩
      case round =>
        obtain ⟨mm, x, rfl, hx, hmk, hown, hbw⟩ := hrel
        by_cases h0 : x = 0
        · have n0 : (x : Int) = 0 := by omega
          subst h0
          have HH := hid (And.intro hx (And.intro hown hbw))
          clear hx hown hbw
          go_wp2
          go_roundg (go - 1)
          case measure => omega
          case rel => exact ⟨i + 1, by go_num, by omega, by rw [rst_end (by omega) HH.out.1.symm]; exact HH.out.2.1, HH.out.2.2⟩
        · have n0 : ¬ (x : Int) = 0 := by omega
          obtain ⟨j, y, hj, hmj, hxy, hcl, hel⟩ := rst_next (p := p) (i := i) (m := mm) (by rw [← hx]; exact h0)
          have hxl := rst_lt p i mm
          rw [← hx] at hxy hcl hxl
          obtain ⟨z, hz⟩ : ∃ z, z = rst p i (j + 1) := ⟨_, rfl⟩
          rw [← hz] at hcl
          have CT := hid (tz_any x j y wr hxl hj hxy (H0.out.2.below hbw))
          have e3 : IntKind.i64.wrap (64 * (i : Int) + (j : Int)) = 64 * (i : Int) + (j : Int) := wrapIn (by omega) (by omega)
          have e5 : IntKind.u64.wrap ((x : Int) - 1) = ((x - 1 : Nat) : Int) := by rw [IntKind.wrap_u64]; omega
          have e6 : bits .and .u64 (x : Int) ((x - 1 : Nat) : Int) = (z : Int) := by rw [uand hxl (by omega), hcl]
          have hlen : (elx (64 * i + mm) p).length ≤ 64000 := Nat.le_trans (elx_length _ _) (by omega)
          have HH := hid (And.intro hx (And.intro hz (And.intro hel (And.intro hj (And.intro hmj hbw)))))
          clear hx hz hel hj hmj hbw hcl hxy hxl h0
          go_wp2_with fail
          refine CT.out.mono ?_
          rintro e w2 ⟨rfl, rfl⟩
          clear CT
          go_wp2_with (at_builtin; refine wpList_append_own _ rfl (.tmp 19) (.tmp 25) 23 rfl W.heap.size 3 i0 (.int .i64 0) 1 8 Tryd.underlying23 hi hz0 hz1 hz2 rfl (by decide) _ _ _ rfl (hown.alloc _) ⟨w2.heap.size, 0, none⟩ 1 1 [.int .i64 (64 * (i : Int) + (j : Int))] rfl rfl ?c1 ?c2 ?c3 ?c4 ?c5 ?_)
          case c1 => exact fun j u hj => one_cell _ _ _ _ _ hj
          case c2 => intro u hu; simp at hu; subst hu; rfl
          case c3 => unfold maxLen; omega
          case c4 => omega
          case c5 => have := HH.out.2.2.2.2.2.size; simp; omega
          intro v' w1 hown' hgrow _
          have hbw := HH.out.2.2.2.2.2
          have hb1 : Below W.heap.size W w1 := (hbw.alloc hbw.size _).grown hgrow (by have := hbw.size; simp; omega) (fun k hk => (hown.lt k hk).1)
          have hown2 : w1.ownsRow W.heap.size 3 1 v' (elx (64 * i + (j + 1)) p).length (ints (elx (64 * i + (j + 1)) p)) := by
            rw [HH.out.2.2.1]
            simpa [ints] using hown'
          have HN := hid (And.intro hown2 hb1)
          clear hown' hgrow hown hbw hb1 hown2
          go_wp2
          go_roundg (64 - (j + 1))
          case measure => have := HH.out.2.2.2.1; have := HH.out.2.2.2.2.1; omega
          case rel => exact ⟨j + 1, z, by go_num, HH.out.2.1, by have := HH.out.2.2.2.1; omega, HN.out.1, HN.out.2⟩
    · have hlt' : ¬ (i : Int) < (m : Int) := by omega
      obtain rfl : i = m := by omega
      have HX := hid (And.intro hown hbw)
      clear hown hbw
      go_wp2
      go_ret
      exact ⟨⟨_, rfl, HX.out.1⟩, HX.out.2⟩
end Go.Proofs.YtogpnlkjcdedlaaDoor
end
section
set_option linter.unusedSimpArgs false
set_option linter.unusedVariables false
namespace Go.Proofs.YtogpnlkjcdedlaaDoor
open Go.RowKit Bs Rg Nf Go.Frame
attribute [local go_sem] eq_zero eq_set

/-- A move as a value. -/
def kv (p : Nat × Nat) : Value := .agg #[.int .i64 (p.1 : Int), .int .u8 (p.2 : Int)]
theorem check_kv (p : Nat × Nat) (w : World) : (Instr.checkKey false 10000 105 (kv p)).run Tryd.prog w = .ok () w := by kernel_rfl
theorem check_kv' (p : Nat × Nat) (w : World) : (Instr.checkKey true 10000 105 (kv p)).run Tryd.prog w = .ok () w := by kernel_rfl
theorem u105 : Tryd.prog.underlying 105 = some (.struct (Tryd.prog.fieldsOf 105)) := by kernel_rfl
theorem f105 : ((Tryd.prog.fieldsOf 105).toList.map fun f => (f.name, f.type, f.offset)) = [("state", 3, 0), ("b", 5, 1)] := by kernel_rfl
theorem h105 : Tryd.prog.stoodInHeld 105 = false := by kernel_rfl
theorem kp0 (a b : Int) (w : World) : (Go.part 3 #[Value.int .i64 a, .int .u8 b] 0).run Tryd.prog w = .ok (.int .i64 a) w := by kernel_rfl
theorem kp1 (a b : Int) (w : World) : (Go.part 5 #[Value.int .i64 a, .int .u8 b] 1).run Tryd.prog w = .ok (.int .u8 b) w := by kernel_rfl
set_option maxRecDepth 100000 in
set_option maxHeartbeats 4000000 in
theorem eq_kv (p q : Nat × Nat) (w : World) : (Op.equal 105 (kv p) (kv q)).run Tryd.prog w = .ok (decide (p = q)) w := by
  obtain ⟨a, b⟩ := p
  obtain ⟨a', b'⟩ := q
  unfold Op.equal Op.maxDepth kv
  rw [show (10000 : Nat) = 9999 + 1 from rfl, run_equalIn_struct w 9999 105 _ _ u105 h105]
  generalize hf : (Tryd.prog.fieldsOf 105).toList = fs
  have := f105
  rw [hf] at this
  match fs, this with
  | [f0, f1], this =>
    simp only [List.map_cons, List.map_nil, List.cons.injEq, Prod.mk.injEq, and_true] at this
    obtain ⟨⟨n0, t0, o0⟩, n1, t1, o1⟩ := this
    have he : ∀ (x y : Int) (w : World), (Op.equalIn 9999 3 (.int .i64 x) (.int .i64 y)).run Tryd.prog w = .ok (decide (x = y)) w := fun x y w => by
      rw [show (9999 : Nat) = 9998 + 1 from rfl, run_equalIn_int w 9998 3 .i64 .i64 x y Tryd.underlying3]
      by_cases h : x = y <;> simp [h]
    have he5 : ∀ (x y : Int) (w : World), (Op.equalIn 9999 5 (.int .u8 x) (.int .u8 y)).run Tryd.prog w = .ok (decide (x = y)) w := fun x y w => by
      rw [show (9999 : Nat) = 9998 + 1 from rfl, run_equalIn_int w 9998 5 .u8 .u8 x y Tryd.underlying5]
      by_cases h : x = y <;> simp [h]
    by_cases h0 : a = a'
    · by_cases h1 : b = b'
      · simp [Op.eqFields, n0, n1, t0, t1, o0, o1, Sem.run_bind, kp0, kp1, he, he5, h0, h1]
      · have h1' : ¬ (b : Int) = (b' : Int) := by omega
        simp [Op.eqFields, n0, n1, t0, t1, o0, o1, Sem.run_bind, kp0, kp1, he, he5, h0, h1, h1']
    · have h0' : ¬ (a : Int) = (a' : Int) := by omega
      simp [Op.eqFields, n0, n1, t0, t1, o0, o1, Sem.run_bind, kp0, kp1, he, he5, h0, h0']
theorem run_findM (q : Nat × Nat) (w : World) : ∀ (l : List MapEntry) (ps : List (Nat × Nat)) (i : Nat), l.map (·.key) = ps.map kv → (Instr.findAsking 105 (kv q) l i).run Tryd.prog w = .ok (match ps.findIdx? (fun p => decide (q = p)) with | some j => (l[j]?).map fun e => (i + j, e.val) | none => none) w
  | [], [], i, _ => by simp [Instr.findAsking]
  | [], p :: ps, i, h => by simp at h
  | e :: l, [], i, h => by simp at h
  | e :: l, p :: ps, i, h => by
    simp only [List.map_cons, List.cons.injEq] at h
    have ih := run_findM q w l ps (i + 1) h.2
    have he : (Op.equal 105 (kv q) e.key).run Tryd.prog w = .ok (decide (q = p)) w := by rw [h.1]; exact eq_kv _ _ w
    rw [Instr.findAsking]
    simp only [Sem.run_bind, he, Result.andThen_ok, List.findIdx?_cons]
    by_cases hq : q = p
    · simp [hq]
    · simp only [decide_eq_false hq, Bool.false_eq_true, if_false]
      rw [ih]
      cases hf : List.findIdx? (fun p => decide (q = p)) ps with
      | none => simp
      | some j => simp [Nat.add_assoc, Nat.add_comm 1 j]
/-- A map from moves to values. -/
def MapM (W : World) (m : Nat) (ps : List (Nat × Nat)) (vs : List Value) : Prop := ps.length = vs.length ∧ ∃ (es : Array MapEntry) (ck : Nat), W.heap[m]? = some (.map es ck) ∧ es.toList.map (·.key) = ps.map kv ∧ es.toList.map (·.val) = vs
theorem und96 : Tryd.prog.underlying 96 = some (.map 105 61) := by kernel_rfl
theorem zero61 (w : World) : (zeroValue 61).run Tryd.prog w = .ok (.slice none 0 0) w := by kernel_rfl
theorem len_of_map {α β γ : Type} {f : α → γ} {h : β → γ} : ∀ {l : List α} {m : List β}, l.map f = m.map h → l.length = m.length := fun {l m} e => by have := congrArg List.length e; simpa using this
theorem run_findKeyM (q : Nat × Nat) (w : World) (l : List MapEntry) (ps : List (Nat × Nat)) (h : l.map (·.key) = ps.map kv) : (Instr.findKey 105 (kv q) l).run Tryd.prog w = .ok (match ps.findIdx? (fun p => decide (q = p)) with | some j => (l[j]?).map fun e => (j, e.val) | none => none) w := by
  unfold Instr.findKey
  have hu : (underlying 105).run Tryd.prog w = .ok (.struct (Tryd.prog.fieldsOf 105)) w := run_underlying u105 w
  simp only [Sem.run_bind, hu, Result.andThen_ok]
  cases l with
  | nil =>
    cases ps with
    | nil => simp [Instr.findNow]
    | cons p ps => simp at h
  | cons e l =>
    have hn : Instr.findNow (.struct (Tryd.prog.fieldsOf 105)) (kv q) (e :: l) 0 = none := by simp [Instr.findNow, Instr.sameNow, kv]
    rw [hn]
    simp only
    rw [run_findM q w (e :: l) ps 0 h]
    cases List.findIdx? (fun p => decide (q = p)) ps <;> simp
/-- The look-up. -/
theorem run_lookM {W : World} {m : Nat} {ps : List (Nat × Nat)} {vs : List Value} (h : MapM W m ps vs) (q : Nat × Nat) : (Instr.lookup 96 (.map (some m)) (kv q) true).run Tryd.prog W = .ok (match ps.findIdx? (fun p => decide (q = p)) with | some j => .tuple #[vs.getD j (.slice none 0 0), .bool true] | none => .tuple #[.slice none 0 0, .bool false]) W := by
  obtain ⟨hl, es, ck, h1, h2, h3⟩ := h
  have hu : (underlying 96).run Tryd.prog W = .ok (.map 105 61) W := run_underlying und96 W
  have hg : (getObj m).run Tryd.prog W = .ok (.map es ck) W := by simp [getObj, Sem.run, h1]
  have hc : (Instr.checkKey es.isEmpty 10000 105 (kv q)).run Tryd.prog W = .ok () W := by
    cases es.isEmpty
    · exact check_kv _ W
    · exact check_kv' _ W
  unfold Instr.lookup
  simp only [Sem.run_bind, hu, Result.andThen_ok, hg, Sem.run_pure, hc, run_findKeyM q W es.toList ps h2]
  cases hf : List.findIdx? (fun p => decide (q = p)) ps with
  | none => simp [zero61]
  | some j =>
    have hj : j < es.size := by
      have h4 := len_of_map h2
      have h5 := (List.findIdx?_eq_some_iff_findIdx_eq.1 hf).1
      rw [Array.length_toList] at h4
      omega
    have h6 : vs[j]? = some es[j].val := by rw [← h3, List.getElem?_map, Array.getElem?_toList, Array.getElem?_eq_getElem hj]; rfl
    simp [hj, List.getD_eq_getElem?_getD, h6]
/-- A new key. -/
theorem run_updM {W : World} {m : Nat} {ps : List (Nat × Nat)} {vs : List Value} (h : MapM W m ps vs) (q : Nat × Nat) (v : Value) (hq : ps.findIdx? (fun p => decide (q = p)) = none) : ∃ W', (Instr.mapUpdate 96 (.map (some m)) (kv q) v).run Tryd.prog W = .ok () W' ∧ MapM W' m (ps ++ [q]) (vs ++ [v]) ∧ Kept (· = m) W W' ∧ W'.heap.size = W.heap.size := by
  obtain ⟨hl, es, ck, h1, h2, h3⟩ := h
  have hu : (underlying 96).run Tryd.prog W = .ok (.map 105 61) W := run_underlying und96 W
  have hg : (getObj m).run Tryd.prog W = .ok (.map es ck) W := by simp [getObj, Sem.run, h1]
  have hc : (Instr.checkKey false 10000 105 (kv q)).run Tryd.prog W = .ok () W := check_kv _ W
  have hm := heap_lt h1
  refine ⟨W.putObj m (.map (es.push { key := kv q, val := v, born := ck }) (ck + 1)), ?_, ⟨by simp [hl], _, _, World.putObj_heap_same hm, by simp [h2], by simp [h3]⟩, ⟨rfl, rfl, rfl, by rw [World.putObj_size]; exact Nat.le_refl _, fun k hk => World.putObj_heap_other hk⟩, World.putObj_size⟩
  unfold Instr.mapUpdate
  simp only [Sem.run_bind, hu, Result.andThen_ok, hg, Sem.run_pure, hc, run_findKeyM q W es.toList ps h2, hq]
  simp [setObj, Sem.run, World.putObj, h1]
theorem MapM.keep {W W' : World} {m : Nat} {ps : List (Nat × Nat)} {vs : List Value} (h : MapM W m ps vs) (hb : W'.heap[m]? = W.heap[m]?) : MapM W' m ps vs := by
  obtain ⟨hl, es, ck, h1, h2⟩ := h
  exact ⟨hl, es, ck, hb.trans h1, h2⟩
end Go.Proofs.YtogpnlkjcdedlaaDoor
end
section
set_option linter.unusedSimpArgs false
set_option linter.unusedVariables false
namespace Go.Proofs.YtogpnlkjcdedlaaDoor
open Go.RowKit Bs Rg Nf Go.Frame
attribute [local go_sem] eq_zero eq_set

/-- How many words. -/
def mw (n : Nat) : Nat := (n + 63) / 64
theorem mw_le {n : Nat} (h : n ≤ 2000) : mw n ≤ 1000 := by unfold mw; omega
theorem mw_lt {n x : Nat} (h : x < n) : x < 64 * mw n := by unfold mw; omega
theorem mw_pos {n : Nat} (h : 1 ≤ n) : 0 < mw n := by unfold mw; omega
theorem info46b : (Tryd.prog.info? 46).map (fun i => (i.zero, i.size, i.bytes)) = some (some (.int .u64 0), 1, 8) := by kernel_rfl
theorem wd_no (i : Nat) : wd (fun _ => false) i = 0 := nb_zero 64
theorem made_swc (m : Nat) : madeCells #[.int .u64 0] m = (swc (fun _ => false) m).toArray := by
  apply Array.ext'
  rw [toList_madeCells_one]
  apply List.ext_getElem?
  intro i
  by_cases h : i < m
  · rw [List.getElem?_replicate, if_pos h]
    show _ = (swc (fun _ => false) m)[i]?
    rw [swc_at h, wd_no]; rfl
  · rw [List.getElem?_replicate, if_neg h]
    show _ = (swc (fun _ => false) m)[i]?
    rw [List.getElem?_eq_none (by rw [swc_length]; omega)]
set_option maxRecDepth 100000 in
theorem make_words (m : Nat) (hm : m ≤ 1000000) (w : World) :
    (Instr.makeSlice 61 (.int .i64 (m : Int)) (.int .i64 (m : Int))).run Tryd.prog w = .ok (.slice (some ⟨w.heap.size, 0, none⟩) m m) (w.alloc (.cells (swc (fun _ => false) m).toArray 46)) := by
  obtain ⟨i, hi, h0, h1, h2⟩ := info_parts info46b
  have := run_make (P := Tryd.prog) w 61 46 i _ Tryd.underlying61 hi h0 .i64 .i64 m m (by omega) (Int.le_refl _) (by rw [h2]; omega) (by omega)
  rw [h1, show (Value.int .u64 0).cells = #[.int .u64 0] by kernel_rfl] at this
  rw [← made_swc]
  simpa using this
theorem CRow_kept {c : Nat} {W W' : World} {p : Option Addr} {n : Nat} {C : List (List Value)} (h : CRow c W p n C) (hs : W.heap.size ≤ W'.heap.size) (hk : n ≠ 0 → ∀ b off, p = some ⟨b, off, none⟩ → b < W.heap.size → W'.heap[b]? = W.heap[b]?) : CRow c W' p n C := by
  by_cases h0 : n = 0
  · exact ⟨h.1, .inl h0⟩
  refine ⟨h.1, h.2.imp id ?_⟩
  rintro ⟨b, off, rfl, hlt, hx⟩
  exact ⟨b, off, rfl, Nat.lt_of_lt_of_le hlt hs, fun i cs hi j v hj => (World.cell?_of_block (hk h0 b off rfl hlt)).trans (hx i cs hi j v hj)⟩
theorem Row_kept {W W' : World} {p : Option Addr} {n : Nat} {l : List Value} (h : Row W p n l) (hs : W.heap.size ≤ W'.heap.size) (hk : n ≠ 0 → ∀ b off, p = some ⟨b, off, none⟩ → b < W.heap.size → W'.heap[b]? = W.heap[b]?) : Row W' p n l := by
  by_cases h0 : n = 0
  · exact ⟨h.1, .inl h0⟩
  refine ⟨h.1, h.2.imp id ?_⟩
  rintro ⟨b, off, rfl, hlt, hx⟩
  exact ⟨b, off, rfl, Nat.lt_of_lt_of_le hlt hs, fun i x hi => (World.cell?_of_block (hk h0 b off rfl hlt)).trans (hx i x hi)⟩
/-- Where one state leads on a byte. -/
def tg (N : Nfa) (p : Nat × Nat) : Nat → Bool := tgt N (fun z => z == p.1) (UInt8.ofNat p.2)
/-- The machine in memory: its blocks, but for the map K, are of G. -/
structure MC (G : Nat → Prop) (W : World) (mb ab sb K ca cs : Nat) (N : Nfa) (n : Nat) : Prop where
  box : W.heap[mb]? = some (.cells #[.slice (some ⟨ab, 0, none⟩) n ca, .slice (some ⟨sb, 0, none⟩) n cs, .map (some K)] 98 (0, 0))
  arcs : ∀ x, x < n → ∃ (a : Option Addr) (k c : Nat) (l : List Arc), W.cell? ⟨ab, x, none⟩ = some (.slice a k c) ∧ CRow 7 W a k (l.map acs) ∧ k ≤ 140737488355328 ∧ (∀ z, z ∈ l ↔ z ∈ N.arcs ∧ z.f = (x : Int)) ∧ (k ≠ 0 → ∀ b off, a = some ⟨b, off, none⟩ → G b ∧ b ≠ K)
  sil : ∀ x, x < n → ∃ (a : Option Addr) (k c : Nat) (l : List Nat), W.cell? ⟨sb, x, none⟩ = some (.slice a k c) ∧ Row W a k (ints l) ∧ k ≤ 140737488355328 ∧ (∀ y, y ∈ l ↔ Ep N x y) ∧ (k ≠ 0 → ∀ b off, a = some ⟨b, off, none⟩ → G b ∧ b ≠ K)
  known : ∃ ps vs, MapM W K ps vs ∧ ∀ (j : Nat) (p : Nat × Nat), ps[j]? = some p → ∃ blk, vs[j]? = some (.slice (some ⟨blk, 0, none⟩) (mw n) (mw n)) ∧ MB W blk (tg N p) (mw n) ∧ G blk ∧ blk ≠ K
  gm : G mb ∧ mb ≠ K
  ga : G ab ∧ ab ≠ K ∧ ab < W.heap.size
  gs : G sb ∧ sb ≠ K ∧ sb < W.heap.size
  gk : K < W.heap.size
  vn : Vn N n
theorem MC.keep {G G' : Nat → Prop} {W W' : World} {mb ab sb K ca cs n : Nat} {N : Nfa} (h : MC G W mb ab sb K ca cs N n) (hs : W.heap.size ≤ W'.heap.size) (hk : ∀ b, b < W.heap.size → G b → b ≠ K → W'.heap[b]? = W.heap[b]?) (hK : W'.heap[K]? = W.heap[K]?) (hG : ∀ b, b < W.heap.size → G b → G' b) : MC G' W' mb ab sb K ca cs N n := by
  have lm := heap_lt h.box
  have lr : ∀ {c k : Nat} {a : Option Addr} {C : List (List Value)}, CRow c W a k C → k ≠ 0 → ∀ b off, a = some ⟨b, off, none⟩ → b < W.heap.size := fun hr h0 b off e => by
    rcases hr.2 with h | ⟨b', off', e', hb', _⟩
    · exact absurd h h0
    · rw [e] at e'; simp at e'; omega
  have lr' : ∀ {k : Nat} {a : Option Addr} {C : List Value}, Row W a k C → k ≠ 0 → ∀ b off, a = some ⟨b, off, none⟩ → b < W.heap.size := fun hr h0 b off e => by
    rcases hr.2 with h | ⟨b', off', e', hb', _⟩
    · exact absurd h h0
    · rw [e] at e'; simp at e'; omega
  refine ⟨(hk mb lm h.gm.1 h.gm.2).trans h.box, fun x hx => ?_, fun x hx => ?_, ?_, ⟨hG _ lm h.gm.1, h.gm.2⟩, ⟨hG _ h.ga.2.2 h.ga.1, h.ga.2.1, Nat.lt_of_lt_of_le h.ga.2.2 hs⟩, ⟨hG _ h.gs.2.2 h.gs.1, h.gs.2.1, Nat.lt_of_lt_of_le h.gs.2.2 hs⟩, Nat.lt_of_lt_of_le h.gk hs, h.vn⟩
  · obtain ⟨a, k, c, l, h1, h2, h3, h4, h5⟩ := h.arcs x hx
    exact ⟨a, k, c, l, (World.cell?_of_block (hk ab h.ga.2.2 h.ga.1 h.ga.2.1)).trans h1, CRow_kept h2 hs fun h0 b off e hb => hk b hb (h5 h0 b off e).1 (h5 h0 b off e).2, h3, h4, fun h0 b off e => ⟨hG b (lr h2 h0 b off e) (h5 h0 b off e).1, (h5 h0 b off e).2⟩⟩
  · obtain ⟨a, k, c, l, h1, h2, h3, h4, h5⟩ := h.sil x hx
    exact ⟨a, k, c, l, (World.cell?_of_block (hk sb h.gs.2.2 h.gs.1 h.gs.2.1)).trans h1, Row_kept h2 hs fun h0 b off e hb => hk b hb (h5 h0 b off e).1 (h5 h0 b off e).2, h3, h4, fun h0 b off e => ⟨hG b (lr' h2 h0 b off e) (h5 h0 b off e).1, (h5 h0 b off e).2⟩⟩
  · obtain ⟨ps, vs, h1, h2⟩ := h.known
    refine ⟨ps, vs, h1.keep hK, fun j p hj => ?_⟩
    obtain ⟨blk, h3, h4, h5, h6⟩ := h2 j p hj
    exact ⟨blk, h3, (hk blk h4.lt h5 h6).trans h4, hG _ h4.lt h5, h6⟩
theorem MC.below {G : Nat → Prop} {W W' : World} {mb ab sb K ca cs n : Nat} {N : Nfa} (h : MC G W mb ab sb K ca cs N n) (hb : Below W.heap.size W W') : MC G W' mb ab sb K ca cs N n :=
  h.keep hb.size (fun b hl _ _ => hb.block b hl) (hb.block K h.gk) (fun _ _ h => h)
theorem MC.more {G G' : Nat → Prop} {W : World} {mb ab sb K ca cs n : Nat} {N : Nfa} (h : MC G W mb ab sb K ca cs N n) (hG : ∀ b, b < W.heap.size → G b → G' b) : MC G' W mb ab sb K ca cs N n :=
  h.keep (Nat.le_refl _) (fun _ _ _ _ => rfl) rfl hG
/-- A call that writes only to blocks that are not the machine's. -/
theorem MC.kept {G F : Nat → Prop} {W W' : World} {mb ab sb K ca cs n : Nat} {N : Nfa} (h : MC G W mb ab sb K ca cs N n) (hb : Kept F W W') (hF : ∀ b, b < W.heap.size → G b → ¬ F b) (hK : ¬ F K) : MC G W' mb ab sb K ca cs N n :=
  h.keep hb.size (fun b hl hg _ => hb.block b (hF b hl hg)) (hb.block K hK) (fun _ _ h => h)
theorem kv_inj {p q : Nat × Nat} (h : kv p = kv q) : p = q := by
  obtain ⟨a, b⟩ := p
  obtain ⟨a', b'⟩ := q
  unfold kv at h
  simp at h
  rw [show a = a' by omega, show b = b' by omega]
theorem map_inj {α β : Type} {f : α → β} (hf : ∀ x y, f x = f y → x = y) : ∀ {l m : List α}, l.map f = m.map f → l = m
  | [], [], _ => rfl
  | [], _ :: _, h => by simp at h
  | _ :: _, [], h => by simp at h
  | x :: l, y :: m, h => by
    simp only [List.map_cons, List.cons.injEq] at h
    rw [hf x y h.1, map_inj hf h.2]
theorem MapM.uniq {W : World} {m : Nat} {ps ps' : List (Nat × Nat)} {vs vs' : List Value} (h : MapM W m ps vs) (k : MapM W m ps' vs') : ps = ps' ∧ vs = vs' := by
  obtain ⟨_, es, ck, h1, h2, h3⟩ := h
  obtain ⟨_, es', ck', k1, k2, k3⟩ := k
  rw [h1] at k1
  simp at k1
  obtain ⟨rfl, rfl⟩ := k1
  exact ⟨map_inj (fun _ _ => kv_inj) (h2.symm.trans k2), h3.symm.trans k3⟩
/-- One more set known. -/
theorem MC.add {G : Nat → Prop} {W W' : World} {mb ab sb K ca cs n blk : Nat} {N : Nfa} {ps : List (Nat × Nat)} {vs : List Value} {q : Nat × Nat} (h : MC G W mb ab sb K ca cs N n) (hm : MapM W K ps vs) (hm' : MapM W' K (ps ++ [q]) (vs ++ [.slice (some ⟨blk, 0, none⟩) (mw n) (mw n)])) (hk : Kept (· = K) W W') (hs : W'.heap.size = W.heap.size)
    (hb : MB W blk (tg N q) (mw n)) (hK : blk ≠ K) : MC (fun b => G b ∨ b = blk) W' mb ab sb K ca cs N n := by
  have h1 : MC (fun b => G b ∨ b = blk) W mb ab sb K ca cs N n := h.more fun _ _ h => .inl h
  have kb : ∀ b, b ≠ K → W'.heap[b]? = W.heap[b]? := fun b hb => hk.block b hb
  refine ⟨(kb mb h1.gm.2).trans h1.box, fun x hx => ?_, fun x hx => ?_, ⟨_, _, hm', fun j p hj => ?_⟩, h1.gm, ⟨h1.ga.1, h1.ga.2.1, by rw [hs]; exact h1.ga.2.2⟩, ⟨h1.gs.1, h1.gs.2.1, by rw [hs]; exact h1.gs.2.2⟩, by rw [hs]; exact h1.gk, h1.vn⟩
  · obtain ⟨a, k, c, l, g1, g2, g3, g4, g5⟩ := h1.arcs x hx
    exact ⟨a, k, c, l, (World.cell?_of_block (kb ab h1.ga.2.1)).trans g1, CRow_kept g2 (by omega) fun h0 b off e _ => kb b (g5 h0 b off e).2, g3, g4, g5⟩
  · obtain ⟨a, k, c, l, g1, g2, g3, g4, g5⟩ := h1.sil x hx
    exact ⟨a, k, c, l, (World.cell?_of_block (kb sb h1.gs.2.1)).trans g1, Row_kept g2 (by omega) fun h0 b off e _ => kb b (g5 h0 b off e).2, g3, g4, g5⟩
  · obtain ⟨ps', vs', u1, u2⟩ := h1.known
    obtain ⟨rfl, rfl⟩ := hm.uniq u1
    by_cases hjl : j < ps.length
    · rw [List.getElem?_append_left hjl] at hj
      obtain ⟨b, g1, g2, g3, g4⟩ := u2 j p hj
      exact ⟨b, by rw [List.getElem?_append_left (by rw [← hm.1]; exact hjl)]; exact g1, (kb b g4).trans g2, g3, g4⟩
    · rw [List.getElem?_append_right (by omega)] at hj
      have hj0 : j - ps.length = 0 := by have := (List.getElem?_eq_some_iff.1 hj).1; simp at this; omega
      rw [hj0] at hj
      simp at hj
      subst hj
      exact ⟨blk, by rw [List.getElem?_append_right (by rw [← hm.1]; omega), ← hm.1, hj0]; rfl, (kb blk hK).trans hb, .inr rfl, hK⟩
theorem MC.cells {G : Nat → Prop} {W : World} {mb ab sb K ca cs n : Nat} {N : Nfa} (h : MC G W mb ab sb K ca cs N n) : W.cell? ⟨mb, 0, none⟩ = some (.slice (some ⟨ab, 0, none⟩) n ca) ∧ W.cell? ⟨mb, 1, none⟩ = some (.slice (some ⟨sb, 0, none⟩) n cs) ∧ W.cell? ⟨mb, 2, none⟩ = some (.map (some K)) := Go.Frame.cells3 h.box
set_option maxRecDepth 100000 in
set_option maxHeartbeats 4000000 in
theorem noStates_any (G : Nat → Prop) (W : World) (mb ab sb K ca cs n : Nat) (N : Nfa) (h : MC G W mb ab sb K ca cs N n) :
    Calls Tryd.prog 56 #[.pointer (some ⟨mb, 0, none⟩)] W fun e w' => e = .returned (.slice (some ⟨W.heap.size, 0, none⟩) (mw n) (mw n)) ∧ MB w' W.heap.size (fun _ => false) (mw n) ∧ Below W.heap.size W w' ∧ w'.heap.size = W.heap.size + 1 := by
  obtain ⟨z0, z1, z2⟩ := h.cells
  have hn : n ≤ 2000 := h.vn.le
  have q1 : Int.tdiv ((n : Int) + 64 - 1) 64 = ((mw n : Nat) : Int) := by rw [Int.tdiv_eq_ediv_of_nonneg (by omega)]; unfold mw; omega
  have q2 : ((n : Int) + 64 - 1) / 64 = ((mw n : Nat) : Int) := by unfold mw; omega
  have hm : mw n ≤ 1000 := mw_le hn
  have e2 := fun w => make_words (mw n) (by omega) w
  obtain ⟨m, hm'⟩ : ∃ m, m = mw n := ⟨_, rfl⟩
  rw [← hm'] at q1 q2 e2 hm ⊢
  clear hm' h
  go_enter Tryd.func56, Tryd.ntmps56
  go_wp2
  go_ret
  exact ⟨rfl, alloc_new _ _, bel1 _ _, by simp⟩
end Go.Proofs.YtogpnlkjcdedlaaDoor
end
section
set_option linter.unusedSimpArgs false
set_option linter.unusedVariables false
namespace Go.Proofs.YtogpnlkjcdedlaaDoor
open Go.RowKit Bs Rg Nf Go.Frame
attribute [local go_sem] eq_zero eq_set

/-- Where the first arcs of a list lead on a byte. -/
def ts (l : List Arc) (b : UInt8) (y : Nat) : Bool := l.any fun a => a.s b && decide (a.t = (y : Int))
theorem ts_nil (b : UInt8) : ts [] b = fun _ => false := rfl
theorem ts_snoc_no {l : List Arc} {a : Arc} {b : UInt8} (h : a.s b = false) : ts (l ++ [a]) b = ts l b := by
  funext y; unfold ts; rw [List.any_append]; simp [h]
theorem ts_snoc_yes {l : List Arc} {a : Arc} {b : UInt8} {t : Nat} (h : a.s b = true) (ht : a.t = (t : Int)) : ts (l ++ [a]) b = add1 (ts l b) t := by
  funext y; unfold ts add1; rw [List.any_append]
  refine congrArg (fun z => (_ || z)) ?_
  rw [Bool.eq_iff_iff]; simp [h, ht]; omega
theorem ts_tg {N : Nfa} {l : List Arc} {x : Nat} {b : Nat} (h : ∀ z, z ∈ l ↔ z ∈ N.arcs ∧ z.f = (x : Int)) : ts l (UInt8.ofNat b) = tg N (x, b) := by
  funext y
  rw [Bool.eq_iff_iff]
  show ts l _ y = true ↔ tgt N (fun z => z == x) (UInt8.ofNat b) y = true
  rw [tgt_iff]
  unfold ts
  rw [List.any_eq_true]
  constructor
  · rintro ⟨a, ha, h1⟩
    simp only [Bool.and_eq_true, decide_eq_true_eq] at h1
    obtain ⟨h2, h3⟩ := (h a).1 ha
    exact ⟨a, h2, h1.1, ⟨x, h3, by simp⟩, h1.2⟩
  · rintro ⟨a, ha, h1, ⟨z, h2, h3⟩, h4⟩
    have : z = x := by simpa using h3
    exact ⟨a, (h a).2 ⟨ha, by rw [h2, this]⟩, by simp [h1, h4]⟩
/-- A byte is in a set. -/
theorem lf_of (s : BS) (b : Nat) : lf s b = s (UInt8.ofNat b) := rfl
/-- What targets answers. -/
def TO (G : Nat → Prop) (mb ab sb K ca cs n : Nat) (N : Nfa) (p : Nat × Nat) (w : World) (e : Ending) (w' : World) : Prop :=
  ∃ blk, e = .returned (.slice (some ⟨blk, 0, none⟩) (mw n) (mw n)) ∧ MB w' blk (tg N p) (mw n) ∧ (G blk ∨ w.heap.size ≤ blk) ∧ blk ≠ K ∧ MC (fun b => G b ∨ w.heap.size ≤ b) w' mb ab sb K ca cs N n ∧ Kept (fun b => b = K ∨ w.heap.size ≤ b) w w'
theorem fi_none {q : Nat × Nat} {ps : List (Nat × Nat)} (h : ps.findIdx? (fun p => decide (q = p)) = none) : True := trivial
theorem fi_some {q : Nat × Nat} {ps : List (Nat × Nat)} {j : Nat} (h : ps.findIdx? (fun p => decide (q = p)) = some j) : ps[j]? = some q := by
  obtain ⟨h1, h2⟩ := List.findIdx?_eq_some_iff_getElem.1 h
  rw [List.getElem?_eq_getElem h1]
  have := h2.1
  rw [of_decide_eq_true this]
set_option maxRecDepth 100000 in
set_option maxHeartbeats 4000000 in
theorem targets_any (G : Nat → Prop) (w : World) (mb ab sb K ca cs n : Nat) (N : Nfa) (h : MC G w mb ab sb K ca cs N n) (x b : Nat) (hx : x < n) (hb : b < 256) :
    Calls Tryd.prog 61 #[.pointer (some ⟨mb, 0, none⟩), .agg #[.int .i64 (x : Int), .int .u8 (b : Int)]] w (TO G mb ab sb K ca cs n N (x, b) w) := by
  obtain ⟨W, hW⟩ : ∃ W, W = w.alloc (.cells #[.int .i64 (x : Int), .int .u8 (b : Int)] 105) := ⟨_, rfl⟩
  have bW : Below w.heap.size w W := by rw [hW]; exact bel1 _ _
  have hX : W.heap[w.heap.size]? = some (.cells #[.int .i64 (x : Int), .int .u8 (b : Int)] 105 (0, 0)) := by rw [hW]; exact alloc_new _ _
  have hM := (h.more (G' := fun b => G b ∨ w.heap.size ≤ b) fun _ _ h => .inl h).below bW
  have HB := hid bW
  have HX := hid hX
  have HM := hid hM
  have HG := hid h
  obtain ⟨ps, vs, hMap, hV⟩ := hM.known
  have hv := hid hV
  have HMap := hid hMap
  clear hV h hM bW hX
  obtain ⟨R, hR⟩ : ∃ R, R = (match ps.findIdx? (fun p => decide ((x, b) = p)) with | some j => Value.tuple #[vs.getD j (.slice none 0 0), .bool true] | none => .tuple #[.slice none 0 0, .bool false]) := ⟨_, rfl⟩
  have LK := hid (fun V (hV : Below W.heap.size W V) => show (Instr.lookup 96 (.map (some K)) (.agg #[.int .i64 (x : Int), .int .u8 (b : Int)]) true).run Tryd.prog V = .ok R V from by rw [hR]; exact run_lookM (HMap.out.keep (hV.block K HM.out.gk)) (x, b))
  go_enter Tryd.func61, Tryd.ntmps61
  go_upto_region 1 with fail
  rw [← hW]
  clear hW hMap
  refine wp_region_below (by kernel_rfl) (by kernel_rfl) ?_
  intro X f _ hf hs
  have z2 := fun y => (cells3 (((hf.out y).block _ (heap_lt HM.out.box)).trans HM.out.box)).2.2
  have k0 := fun y => (cells2 (((hf.out y).block _ (heap_lt HX.out)).trans HX.out)).1
  have k1 := fun y => (cells2 (((hf.out y).block _ (heap_lt HX.out)).trans HX.out)).2
  have LK2 := fun y => LK.out (f y) (hf.out y)
  cases hfi : ps.findIdx? (fun p => decide ((x, b) = p)) with
  | some j =>
    obtain ⟨blk, g1, g2, g3, g4⟩ := hv.out j (x, b) (fi_some hfi)
    rw [hfi] at hR
    simp only at hR
    rw [List.getD_eq_getElem?_getD, g1] at hR
    simp only [Option.getD_some] at hR
    have HS := hid (And.intro g2 (And.intro g3 g4))
    clear g1 g2 g3 g4 hfi
    subst hR
    repeat (go_big_quiet_step (first | fail))
    refine wpQuiet_nil ?_
    intro w2 hw2
    have H2 := hid hw2
    clear z2 k0 k1 LK2 hf hs hw2
    go_wp2
    go_ret
    exact ⟨blk, rfl, HS.out.1.below H2.out, HS.out.2.1, HS.out.2.2, HM.out.below H2.out, Kept.below (HB.out.trans (H2.out.mono HB.out.size)) fun b hb => .inr hb⟩
  | none =>
    rw [hfi] at hR
    simp only at hR
    have HF := hid hfi
    clear hfi
    subst hR
    repeat (go_big_quiet_step (first | fail))
    refine wpQuiet_nil ?_
    intro w2 hw2
    have H2 := hid (HB.out.trans (hw2.mono HB.out.size))
    have M2 := hid (HM.out.below hw2)
    have X2 := hid ((hw2.block _ (heap_lt HX.out)).trans HX.out)
    have MP2 := hid (HMap.out.keep (hw2.block K HM.out.gk))
    clear z2 k0 k1 LK2 hf hs hw2
    have CN := hid (noStates_any _ w2 mb ab sb K ca cs n N M2.out)
    go_wp2_with fail
    refine CN.out.mono ?_
    rintro e w3 ⟨rfl, hmb, b3, hs3⟩
    have H3 := hid (H2.out.trans (b3.mono H2.out.size))
    have M3 := hid ((M2.out.more (G' := fun b => (G b ∨ w.heap.size ≤ b) ∧ b < w2.heap.size) fun b hl hg => ⟨hg, hl⟩).below b3)
    have X3 := hid ((b3.block _ (heap_lt X2.out)).trans X2.out)
    have MP3 := hid (MP2.out.keep (b3.block K M2.out.gk))
    have hlo : w.heap.size ≤ w2.heap.size := H2.out.size
    obtain ⟨B, hB⟩ : ∃ B, B = w2.heap.size := ⟨_, rfl⟩
    rw [← hB] at hmb hlo ⊢
    have M3 := hid (M3.out.more (G' := fun b => (G b ∨ w.heap.size ≤ b) ∧ b < B) fun b _ hg => ⟨hg.1, by rw [hB]; exact hg.2⟩)
    have HS := hid (And.intro hmb (And.intro hlo (And.intro (show B ≠ K from by have := M2.out.gk; omega) (show w.heap.size < B from by rw [hB]; exact heap_lt X2.out))))
    clear b3 CN hmb hs3 hlo hB
    obtain ⟨a, k, c, l, q0, hrow, hk9, hl, hfar⟩ := M3.out.arcs x hx
    have HL := hid (And.intro hrow (And.intro hl hfar))
    clear hrow hl hfar
    go_upto_region 5 with fail
    have hx0 : (0 : Int) ≤ (x : Int) := by omega
    have hxn : (x : Int) < (n : Int) := by omega
    refine wp_region_below (by kernel_rfl) (by kernel_rfl) ?_
    intro X' f' _ hf hs
    have z0 := fun y => (cells3 (((hf.out y).block _ (heap_lt M3.out.box)).trans M3.out.box)).1
    have k0 := fun y => (cells2 (((hf.out y).block _ (heap_lt X3.out)).trans X3.out)).1
    have k1 := fun y => ((hf.out y).cell (p := ⟨ab, x, none⟩) M3.out.ga.2.2).trans q0
    repeat (go_big_quiet_step (first | fail))
    refine wpQuiet_nil ?_
    intro w4 hw4
    have H4 := hid (H3.out.trans (hw4.mono H3.out.size))
    have M4 := hid (M3.out.below hw4)
    have X4 := hid ((hw4.block _ (heap_lt X3.out)).trans X3.out)
    have MP4 := hid (MP3.out.keep (hw4.block K M3.out.gk))
    have S4 := hid (And.intro (HS.out.1.below hw4) HS.out.2)
    have L4 := hid (And.intro (HL.out.1.below hw4) HL.out.2)
    clear z0 k0 k1 hf hs hw4 q0
    clear H2 M2 X2 MP2 H3 M3 X3 MP3 HS HL
    go_wp2_with fail
    go_loopg [32] k (fun kk s32 wr => ∃ i : Nat, s32 = .int .i64 (i : Int) ∧ i + kk = k ∧ MB wr B (ts (l.take i) (UInt8.ofNat b)) (mw n) ∧ Kept (fun q => q = B ∨ w4.heap.size ≤ q) w4 wr)
    case atStart => exact ⟨0, rfl, by omega, by rw [List.take_zero, ts_nil]; exact S4.out.1, Kept.refl _ _⟩
    case round =>
      obtain ⟨i, rfl, hik, hmb, hkp⟩ := hrel
      by_cases hlt : i < k
      · have hlt' : (i : Int) < (k : Int) := by omega
        have hrow := CRow_kept L4.out.1 hkp.size (fun h0 b off e hb => hkp.block b (by have := (L4.out.2.2 h0 b off e).1.2; have := S4.out.1.lt; omega))
        obtain ⟨b0, off, f, t, e, s, rfl, hbl, ha, q0, q1, q2, q3, q4, q5, q6⟩ := arc_at hrow hlt
        obtain ⟨xt, yt, hxt, hyt, _, rfl, _⟩ := M4.out.vn.arcs _ ((L4.out.2.1 _).1 (List.mem_of_getElem? ha)).1
        have hX := (hkp.block w.heap.size (by have := S4.out.2.2.2; have := heap_lt X4.out; omega)).trans X4.out
        obtain ⟨V, hV⟩ : ∃ V, V = wr.alloc (.cells #[.int .i64 f, .int .i64 (yt : Int), .bool e, .int .u64 (ws s 0 : Int), .int .u64 (ws s 1 : Int), .int .u64 (ws s 2 : Int), .int .u64 (ws s 3 : Int)] 55) := ⟨_, rfl⟩
        have bV : Below wr.heap.size wr V := by rw [hV]; exact bel1 _ _
        have HV := hid (show V.heap[wr.heap.size]? = some (.cells #[.int .i64 f, .int .i64 (yt : Int), .bool e, .int .u64 (ws s 0 : Int), .int .u64 (ws s 1 : Int), .int .u64 (ws s 2 : Int), .int .u64 (ws s 3 : Int)] 55 (0, 0)) ∧ V.heap[w.heap.size]? = some (.cells #[.int .i64 (x : Int), .int .u8 (b : Int)] 105 (0, 0)) ∧ MB V B (ts (l.take i) (UInt8.ofNat b)) (mw n) ∧ Kept (fun q => q = B ∨ w4.heap.size ≤ q) w4 V from
          ⟨by rw [hV]; exact alloc_new _ _, (bV.block _ (heap_lt hX)).trans hX, hmb.below bV, hkp.trans (Kept.below bV fun b hb => .inr (Nat.le_trans hkp.size hb))⟩)
        have HA := hid (And.intro ha hyt)
        clear hmb hkp hX bV ha hrow hbl hyt hxt
        go_upto_region 8 with fail
        rw [← hV]
        clear hV q0 q1 q2 q3 q4 q5 q6
        obtain ⟨e0, e1, e2, e3, e4, e5, e6⟩ := cells7a HV.out.1
        obtain ⟨k0, k1⟩ := cells2 HV.out.2.1
        have CH := hid (show Calls Tryd.prog 74 #[.agg #[.int .u64 (ws s 0 : Int), .int .u64 (ws s 1 : Int), .int .u64 (ws s 2 : Int), .int .u64 (ws s 3 : Int)], .int .u8 (b : Int)] V fun e w' => e = .returned (.bool (s (UInt8.ofNat b))) ∧ Below V.heap.size V w' from by have := Has_any (lf s) b V hb; rw [sv_lf] at this; exact this)
        obtain ⟨yy, hyy⟩ : ∃ y, y = s (UInt8.ofNat b) := ⟨_, rfl⟩
        rw [← hyy] at CH
        have HY := hid hyy
        clear hyy
        go_wp2_with fail
        refine CH.out.mono ?_
        rintro e9 V2 ⟨rfl, b9⟩
        have HV2 := hid (show V2.heap[wr.heap.size]? = some (.cells #[.int .i64 f, .int .i64 (yt : Int), .bool e, .int .u64 (ws s 0 : Int), .int .u64 (ws s 1 : Int), .int .u64 (ws s 2 : Int), .int .u64 (ws s 3 : Int)] 55 (0, 0)) ∧ MB V2 B (ts (l.take i) (UInt8.ofNat b)) (mw n) ∧ Kept (fun q => q = B ∨ w4.heap.size ≤ q) w4 V2 from
          ⟨(b9.block _ (heap_lt HV.out.1)).trans HV.out.1, HV.out.2.2.1.below b9, HV.out.2.2.2.trans (Kept.below b9 fun b hb => .inr (Nat.le_trans HV.out.2.2.2.size hb))⟩)
        clear b9 CH e0 e1 e2 e3 e4 e5 e6 k0 k1
        cases yy with
        | false =>
          go_wp2
          go_roundg (gk - 1)
          case measure => omega
          case rel => exact ⟨i + 1, by go_num, by omega, by rw [List.take_add_one, HA.out.1]; show MB V2 B (ts (l.take i ++ [_]) _) _; rw [ts_snoc_no HY.out.symm]; exact HV2.out.2.1, HV2.out.2.2⟩
        | true =>
          obtain ⟨e0, e1, e2, e3, e4, e5, e6⟩ := cells7a HV2.out.1
          have CA := hid (add_any V2 B (mw n) yt _ HV2.out.2.1 (mw_lt HA.out.2) (mw_le M4.out.vn.le))
          go_wp2_with fail
          refine CA.out.mono ?_
          rintro e9 V3 ⟨rfl, hmb3, hkp3, hs3⟩
          have HV3 := hid (And.intro hmb3 (HV2.out.2.2.trans (hkp3.mono fun b hb => .inl hb)))
          clear hmb3 hkp3 hs3 CA e0 e1 e2 e3 e4 e5 e6
          go_wp2
          go_roundg (gk - 1)
          case measure => omega
          case rel => exact ⟨i + 1, by go_num, by omega, by rw [List.take_add_one, HA.out.1]; show MB V3 B (ts (l.take i ++ [_]) _) _; rw [ts_snoc_yes HY.out.symm rfl]; exact HV3.out.1, HV3.out.2⟩
      · have hlt' : ¬ (i : Int) < (k : Int) := by omega
        have hlk : l.length = k := by have := L4.out.1.1; simpa using this
        rw [List.take_of_length_le (by omega), ts_tg L4.out.2.1] at hmb
        have hBw := S4.out.1.lt
        have hX := (hkp.block w.heap.size (by have := S4.out.2.2.2; have := heap_lt X4.out; omega)).trans X4.out
        have MR := hid (M4.out.kept hkp (fun b hl hg hF => by have := hg.2; omega) (by have := S4.out.2.2.1; have := M4.out.gk; omega))
        have MPR := hid (MP4.out.keep (hkp.block K (by have := S4.out.2.2.1; have := M4.out.gk; omega)))
        obtain ⟨w9, hu, hu2, hu3, hu4⟩ := run_updM (W := wr.drew) (MPR.out.keep rfl) (x, b) (.slice (some ⟨B, 0, none⟩) (mw n) (mw n)) HF.out
        have hu : (Instr.mapUpdate 96 (.map (some K)) (.agg #[.int .i64 (x : Int), .int .u8 (b : Int)]) (.slice (some ⟨B, 0, none⟩) (mw n) (mw n))).run Tryd.prog wr.drew = .ok () w9 := hu
        have HH := hid (And.intro hmb (And.intro hkp (And.intro hu2 (And.intro hu3 hu4))))
        have z2 := MR.out.cells.2.2
        obtain ⟨k0, k1⟩ := cells2 hX
        clear hmb hkp hu2 hu3 hu4 hX
        go_wp2_with fail
        go_region
        go_wp2
        go_ret
        obtain ⟨hmb, hkp, hu2, hu3, hu4⟩ := HH.out
        have hBK := S4.out.2.2.1
        have hlo := S4.out.2.1
        have hadd := MC.add (W := wr) (blk := B) MR.out MPR.out hu2 ⟨hu3.os, hu3.tape, hu3.output, hu3.size, hu3.block⟩ hu4 hmb hBK
        refine ⟨B, rfl, (hu3.block B hBK).trans hmb, .inr hlo, hBK, hadd.more fun b hl hg => hg.elim (fun hg => hg.1) (fun e => .inr (e ▸ hlo)), ?_⟩
        have k1 : Kept (fun b => b = K ∨ w.heap.size ≤ b) w w4 := Kept.below H4.out fun b hb => .inr hb
        have k2 : Kept (fun b => b = K ∨ w.heap.size ≤ b) w4 wr := hkp.mono fun b hb => .inr (by rcases hb with rfl | hb; exact hlo; have := H4.out.size; omega)
        have k3 : Kept (fun b => b = K ∨ w.heap.size ≤ b) wr w9 := ⟨hu3.os, hu3.tape, hu3.output, hu3.size, fun b hb => hu3.block b (fun e => hb (.inl e))⟩
        exact (k1.trans k2).trans k3
end Go.Proofs.YtogpnlkjcdedlaaDoor
end
