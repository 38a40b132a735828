/-
  Sets of states as words; contracts: has, add, addAll, list.
-/
import Derived.Test.YtogpnlkjcdedlaaDoorVc
import Derived.Test.YtogpnlkjcdedlaaDoorC
import Derived.OwnWalk
import Derived.Laws.OwnMore
set_option linter.unusedSimpArgs false
set_option linter.unusedVariables false
namespace Go.Proofs.YtogpnlkjcdedlaaDoor
open Go.RowKit Bs Rg Nf Go.Frame
attribute [local go_sem] eq_zero eq_set

/-- The words of a set. -/
def swc (p : Nat → Bool) (m : Nat) : List Value := (List.range m).map fun i => .int .u64 (wd p i : Int)
theorem swc_length (p : Nat → Bool) (m : Nat) : (swc p m).length = m := by simp [swc]
theorem swc_at {p : Nat → Bool} {m i : Nat} (h : i < m) : (swc p m)[i]? = some (.int .u64 (wd p i : Int)) := by simp [swc, h]
/-- A set of states in a block. -/
def MB (W : World) (b : Nat) (p : Nat → Bool) (m : Nat) : Prop := W.heap[b]? = some (.cells (swc p m).toArray 46 (0, 0))
theorem MB.lt {W : World} {b m : Nat} {p : Nat → Bool} (h : MB W b p m) : b < W.heap.size := heap_lt h
theorem MB.below {W W' : World} {b m : Nat} {p : Nat → Bool} (h : MB W b p m) (hb : Below W.heap.size W W') : MB W' b p m := (hb.block _ h.lt).trans h
theorem MB.kept {F : Nat → Prop} {W W' : World} {b m : Nat} {p : Nat → Bool} (h : MB W b p m) (hb : Kept F W W') (hF : ¬ F b) : MB W' b p m := (hb.block _ hF).trans h
theorem MB.cell {W : World} {b m i : Nat} {p : Nat → Bool} (h : MB W b p m) (hi : i < m) : W.cell? ⟨b, i, none⟩ = some (.int .u64 (wd p i : Int)) := by
  have h1 : W.heap[b]? = some (.cells (swc p m).toArray 46 (0, 0)) := h
  simp only [World.cell?, h1]
  simp [swc_at hi]
theorem MB.free {W : World} {b m : Nat} {p : Nat → Bool} (h : MB W b p m) (i : Nat) : W.frozen? ⟨b, i, none⟩ = false := Go.Frame.free h i
theorem MB.upd {W : World} {b m i : Nat} {p q : Nat → Bool} (h : MB W b p m) (hq : ∀ k, k < m → k ≠ i → wd q k = wd p k) : MB (W.setCell ⟨b, i, none⟩ (.int .u64 (wd q i : Int))) b q m := by
  refine (blk_put h).trans ?_
  congr 2
  apply Array.ext'
  rw [Array.toList_setIfInBounds]
  apply List.ext_getElem?
  intro k
  rw [List.getElem?_set]
  show (if i = k then _ else (swc p m)[k]?) = (swc q m)[k]?
  by_cases hk : k < m
  · rw [swc_at hk, swc_at hk]
    by_cases e : i = k
    · subst e; simp [swc_length, hk]
    · rw [if_neg e, hq k hk (fun h => e h.symm)]
  · rw [List.getElem?_eq_none (by rw [swc_length]; omega), List.getElem?_eq_none (by rw [swc_length]; omega)]
    split
    · rw [if_neg (by simp [swc_length]; omega)]
    · rfl
theorem MB.other {W : World} {b b2 m i : Nat} {p : Nat → Bool} {v : Value} (h : MB W b p m) (hn : b ≠ b2) : MB (W.setCell ⟨b2, i, none⟩ v) b p m := blk_set h hn
theorem MB.congr {W : World} {b m : Nat} {p q : Nat → Bool} (h : MB W b p m) (e : ∀ x, x < 64 * m → p x = q x) : MB W b q m := by
  have : swc p m = swc q m := by
    unfold swc
    exact List.map_congr_left fun i hi => by rw [show wd p i = wd q i from nb_congr fun j hj => e _ (by have := List.mem_range.1 hi; omega)]
  unfold MB at h ⊢; rw [← this]; exact h
set_option maxRecDepth 100000 in
set_option maxHeartbeats 4000000 in
theorem has_any (W : World) (b m x : Nat) (p : Nat → Bool) (h : MB W b p m) (hx : x < 64 * m) (hm : m ≤ 1000) :
    Calls Tryd.prog 73 #[.slice (some ⟨b, 0, none⟩) m m, .int .i64 (x : Int)] W fun e w' => e = .returned (.bool (p x)) ∧ Below W.heap.size W w' := by
  obtain ⟨k, j, hk, hj, rfl⟩ : ∃ k j, k < m ∧ j < 64 ∧ x = 64 * k + j := ⟨x / 64, x % 64, by omega, by omega, by omega⟩
  obtain ⟨x, hx'⟩ : ∃ x, x = 64 * k + j := ⟨_, rfl⟩
  have q1 : (x : Int) / 64 = (k : Int) := by omega
  have q2 : (x : Int) % 64 = (j : Int) := by omega
  have q1' : Int.tdiv (x : Int) 64 = (k : Int) := by rw [Int.tdiv_eq_ediv_of_nonneg (by omega)]; omega
  have q2' : Int.tmod (x : Int) 64 = (j : Int) := by rw [Int.tmod_eq_emod_of_nonneg (by omega)]; omega
  have q3 : x / 64 = k := by omega
  have q4 : x % 64 = j := by omega
  have E := has_bit (p := p) (k := k) hj
  rw [← hx'] at E ⊢
  have hk2 : (k : Int) < (m : Int) := by omega
  have hk0 : (0 : Int) ≤ (k : Int) := by omega
  have hj2 : (0 : Int) ≤ (j : Int) := by omega
  have hx9 : (x : Int) ≤ 100000 := by omega
  have c0 := h.cell hk
  clear hx' hx h
  cases hp : p x
  all_goals (
    rw [hp] at E
    simp only [Bool.toNat_false, Bool.toNat_true, Int.natCast_zero, Int.natCast_one] at E
    clear hp
    go_enter Tryd.func73, Tryd.ntmps73
    go_wp2
    go_ret
    exact ⟨rfl, Below.refl _ _⟩)
set_option maxRecDepth 100000 in
set_option maxHeartbeats 4000000 in
theorem add_any (W : World) (b m x : Nat) (p : Nat → Bool) (h : MB W b p m) (hx : x < 64 * m) (hm : m ≤ 1000) :
    Calls Tryd.prog 57 #[.slice (some ⟨b, 0, none⟩) m m, .int .i64 (x : Int)] W fun e w' => e = .returned (.tuple #[]) ∧ MB w' b (add1 p x) m ∧ Kept (· = b) W w' ∧ w'.heap.size = W.heap.size := by
  obtain ⟨k, j, hk, hj, rfl⟩ : ∃ k j, k < m ∧ j < 64 ∧ x = 64 * k + j := ⟨x / 64, x % 64, by omega, by omega, by omega⟩
  obtain ⟨x, hx'⟩ : ∃ x, x = 64 * k + j := ⟨_, rfl⟩
  have q1 : (x : Int) / 64 = (k : Int) := by omega
  have q2 : (x : Int) % 64 = (j : Int) := by omega
  have q1' : Int.tdiv (x : Int) 64 = (k : Int) := by rw [Int.tdiv_eq_ediv_of_nonneg (by omega)]; omega
  have q2' : Int.tmod (x : Int) 64 = (j : Int) := by rw [Int.tmod_eq_emod_of_nonneg (by omega)]; omega
  have q3 : x / 64 = k := by omega
  have q4 : x % 64 = j := by omega
  have E := or_pow (p := p) (k := k) hj
  have HU := h.upd (i := k) (q := add1 p (64 * k + j)) fun k' _ hk' => wd_add_other p hj hk'
  rw [← hx'] at E HU ⊢
  have HU' := hid HU
  have hk2 : (k : Int) < (m : Int) := by omega
  have hk0 : (0 : Int) ≤ (k : Int) := by omega
  have hj2 : (0 : Int) ≤ (j : Int) := by omega
  have hx9 : (x : Int) ≤ 100000 := by omega
  have c0 := h.cell hk
  have f0 := h.free k
  clear hx' hx h HU
  go_enter Tryd.func57, Tryd.ntmps57
  go_region
  go_wp2
  go_end0
  exact ⟨rfl, HU'.out, (Kept.setCell (F := (· = b)) (p := ⟨b, k, none⟩) (Kept.refl _ W) rfl (.int .u64 (wd (add1 p x) k : Int))).drew, by simp⟩
/-- The first i words of another set too. -/
def un (p q : Nat → Bool) (i : Nat) (x : Nat) : Bool := p x || (q x && decide (x < 64 * i))
theorem un_zero (p q : Nat → Bool) : un p q 0 = p := by funext x; simp [un]
theorem un_same (p q : Nat → Bool) (i : Nat) : bits .or .u64 (wd (un p q i) i : Int) (wd q i : Int) = (wd (un p q (i + 1)) i : Int) := by
  rw [u64_or_nat _ _ (wd_lt _ _) (wd_lt _ _)]
  refine congrArg (fun (n : Nat) => (n : Int)) ?_
  have h1 : wd (un p q i) i = nb (fun j => p (64 * i + j)) 64 := nb_congr fun j hj => by unfold un; rw [decide_eq_false (by omega), Bool.and_false, Bool.or_false]
  have h2 : wd (un p q (i + 1)) i = nb (fun j => p (64 * i + j) || q (64 * i + j)) 64 := nb_congr fun j hj => by unfold un; rw [decide_eq_true (by omega), Bool.and_true]
  rw [h1, h2, nb_or]; rfl
theorem un_other (p q : Nat → Bool) {i k : Nat} (hk : k ≠ i) : wd (un p q (i + 1)) k = wd (un p q i) k := nb_congr fun j hj => by
  unfold un
  rw [show decide (64 * k + j < 64 * (i + 1)) = decide (64 * k + j < 64 * i) from by rw [Bool.eq_iff_iff, decide_eq_true_eq, decide_eq_true_eq]; omega]
set_option maxRecDepth 100000 in
set_option maxHeartbeats 4000000 in
theorem addAll_any (W : World) (b b2 m : Nat) (p q : Nat → Bool) (h : MB W b p m) (h2 : MB W b2 q m) (hn : b ≠ b2) (hm : m ≤ 1000) :
    Calls Tryd.prog 60 #[.slice (some ⟨b, 0, none⟩) m m, .slice (some ⟨b2, 0, none⟩) m m] W fun e w' => e = .returned (.tuple #[]) ∧ MB w' b (fun x => p x || q x) m ∧ Kept (· = b) W w' ∧ w'.heap.size = W.heap.size := by
  have H0 := hid (And.intro h h2)
  clear h h2
  go_enter Tryd.func60, Tryd.ntmps60
  go_wp2_with fail
  go_loopg [8] m (fun kk s8 wr => ∃ i : Nat, s8 = .int .i64 (i : Int) ∧ i + kk = m ∧ MB wr b (un p q i) m ∧ MB wr b2 q m ∧ Kept (· = b) W wr ∧ wr.heap.size = W.heap.size)
  case atStart => exact ⟨0, rfl, by omega, by rw [un_zero]; exact H0.out.1, H0.out.2, Kept.refl _ _, rfl⟩
  case round =>
    obtain ⟨i, rfl, hik, hb, hb2, hK, hS⟩ := hrel
    by_cases hlt : i < m
    · have hlt' : (i : Int) < (m : Int) := by omega
      have hi0 : (0 : Int) ≤ (i : Int) := by omega
      have c0 := hb.cell hlt
      have f0 := hb.free i
      have c1 := hb2.cell hlt
      have e1 := un_same p q i
      have HX := hid (And.intro (hb.upd (i := i) (q := un p q (i + 1)) fun k _ hk => un_other p q hk) (And.intro (hb2.other (i := i) (v := .int .u64 (wd (un p q (i + 1)) i : Int)) (Ne.symm hn)) (And.intro (hK.setCell (p := ⟨b, i, none⟩) rfl (.int .u64 (wd (un p q (i + 1)) i : Int))) hS)))
      clear hb hb2 hK hS
      go_wp2
      go_roundg (gk - 1)
      case measure => omega
      case rel => exact ⟨i + 1, by go_num, by omega, HX.out.1, HX.out.2.1, HX.out.2.2.1, by simpa using HX.out.2.2.2⟩
    · have hlt' : ¬ (i : Int) < (m : Int) := by omega
      have HX := hid (And.intro hb (And.intro hK hS))
      clear hb hb2 hK hS
      go_wp2
      go_end0
      refine ⟨rfl, HX.out.1.congr fun x hx => ?_, HX.out.2.1, HX.out.2.2⟩
      unfold un
      rw [decide_eq_true (by omega), Bool.and_true]
/-- What is left of word i from place m on. -/
def rst (p : Nat → Bool) (i m : Nat) : Nat := nb (fun j => p (64 * i + j) && decide (m ≤ j)) 64
theorem rst_zero (p : Nat → Bool) (i : Nat) : rst p i 0 = wd p i := nb_congr fun j _ => by simp
theorem rst_lt (p : Nat → Bool) (i m : Nat) : rst p i m < 18446744073709551616 := nb_lt 64 _
theorem elx_skip {p : Nat → Bool} {m : Nat} : ∀ {m' : Nat}, m ≤ m' → (∀ j, m ≤ j → j < m' → p j = false) → elx m' p = elx m p
  | 0, h, _ => by rw [show m = 0 by omega]
  | m' + 1, h, hp => by
    by_cases e : m = m' + 1
    · rw [e]
    · rw [elx_succ, hp m' (by omega) (by omega), elx_skip (m' := m') (by omega) fun j h1 h2 => hp j h1 (by omega)]; simp
theorem rst_end {p : Nat → Bool} {i m : Nat} (hm : m ≤ 64) (h : rst p i m = 0) : elx (64 * (i + 1)) p = elx (64 * i + m) p :=
  elx_skip (by omega) fun j h1 h2 => by
    have := nb_eq_zero h (j - 64 * i) (by omega)
    rw [show 64 * i + (j - 64 * i) = j by omega] at this
    simpa [show m ≤ j - 64 * i by omega] using this
theorem rst_next {p : Nat → Bool} {i m : Nat} (h : rst p i m ≠ 0) : ∃ (j y : Nat), j < 64 ∧ m ≤ j ∧ rst p i m = 2 ^ j * (1 + 2 * y) ∧ rst p i m &&& (rst p i m - 1) = rst p i (j + 1) ∧
    elx (64 * i + (j + 1)) p = elx (64 * i + m) p ++ [64 * i + j] := by
  obtain ⟨j, hj, hf, hl⟩ := nb_some 64 _ h
  obtain ⟨y, hy⟩ := nb_least j 64 _ hj hl hf
  have hc := nb_clear hj hl hf
  simp only [Bool.and_eq_true, decide_eq_true_eq] at hf
  refine ⟨j, y, hj, hf.2, hy, hc.trans (nb_congr fun x hx => ?_), ?_⟩
  · by_cases e : j < x
    · have e1 : m ≤ x := by omega
      simp [e, e1, show j + 1 ≤ x by omega]
    · simp [e, show ¬ j + 1 ≤ x by omega]
  · rw [← Nat.add_assoc, elx_succ, if_pos hf.1]
    refine congrArg (· ++ [64 * i + j]) ?_
    refine elx_skip (by omega) fun x h1 h2 => ?_
    have := hl (x - 64 * i) (by omega)
    rw [show 64 * i + (x - 64 * i) = x by omega] at this
    simpa [show m ≤ x - 64 * i by omega] using this
theorem rst_less {p : Nat → Bool} {i m : Nat} (h : rst p i m ≠ 0) : rst p i m &&& (rst p i m - 1) < rst p i m := by
  have : rst p i m &&& (rst p i m - 1) ≤ rst p i m - 1 := Nat.and_le_right
  omega
theorem Tryd.info3 : (Tryd.prog.info? 3).map (fun i => (i.zero, i.size, i.bytes)) = some (some (.int .i64 0), 1, 8) := by kernel_rfl
set_option maxRecDepth 100000 in
set_option maxHeartbeats 4000000 in
theorem list_any (W : World) (b m : Nat) (p : Nat → Bool) (h : MB W b p m) (hm : m ≤ 1000) (hT : Tb W) :
    Calls Tryd.prog 38 #[.slice (some ⟨b, 0, none⟩) m m] W fun e w' => (∃ v, e = .returned v ∧ w'.ownsRow W.heap.size 3 1 v (elx (64 * m) p).length (ints (elx (64 * m) p))) ∧ Below W.heap.size W w' := by
  obtain ⟨i0, hi, hz0, hz1, hz2⟩ := info_parts Tryd.info3
  have H0 := hid (And.intro h hT)
  clear h hT
  go_enter Tryd.func38, Tryd.ntmps38
  go_wp2_with fail
  go_loopg [3, 8] m (fun kk s3 s8 wr => ∃ i : Nat, s8 = .int .i64 (i : Int) ∧ i + kk = m ∧ wr.ownsRow W.heap.size 3 1 s3 (elx (64 * i) p).length (ints (elx (64 * i) p)) ∧ Below W.heap.size W wr)
  case atStart => exact ⟨0, rfl, by omega, World.ownsRow_nil _ _ _ _, Below.refl _ _⟩
  case round =>
    obtain ⟨i, rfl, hik, hown, hbw⟩ := hrel
    by_cases hlt : i < m
    · have hlt' : (i : Int) < (m : Int) := by omega
      have hi0 : (0 : Int) ≤ (i : Int) := by omega
      have c0 := (H0.out.1.below hbw).cell hlt
      have HX := hid (And.intro hown hbw)
      have e1 : IntKind.i64.wrap (64 * (i : Int)) = 64 * (i : Int) := wrapIn (by omega) (by omega)
      clear hown hbw
      obtain ⟨go, rfl⟩ : ∃ go, go = gk := ⟨_, rfl⟩
      go_wp2_with fail
      go_loopg [3, 5] 64 (fun k2 s3 s5 wr => ∃ (mm x : Nat), s5 = .int .u64 (x : Int) ∧ x = rst p i mm ∧ mm + k2 = 64 ∧ wr.ownsRow W.heap.size 3 1 s3 (elx (64 * i + mm) p).length (ints (elx (64 * i + mm) p)) ∧ Below W.heap.size W wr)
      case atStart => exact ⟨0, wd p i, rfl, (rst_zero p i).symm, by omega, HX.out.1, HX.out.2⟩
      case round =>
        obtain ⟨mm, x, rfl, hx, hmk, hown, hbw⟩ := hrel
        by_cases h0 : x = 0
        · have n0 : (x : Int) = 0 := by omega
          subst h0
          have HH := hid (And.intro hx (And.intro hown hbw))
          clear hx hown hbw
          go_wp2
          go_roundg (go - 1)
          case measure => omega
          case rel => exact ⟨i + 1, by go_num, by omega, by rw [rst_end (by omega) HH.out.1.symm]; exact HH.out.2.1, HH.out.2.2⟩
        · have n0 : ¬ (x : Int) = 0 := by omega
          obtain ⟨j, y, hj, hmj, hxy, hcl, hel⟩ := rst_next (p := p) (i := i) (m := mm) (by rw [← hx]; exact h0)
          have hxl := rst_lt p i mm
          rw [← hx] at hxy hcl hxl
          obtain ⟨z, hz⟩ : ∃ z, z = rst p i (j + 1) := ⟨_, rfl⟩
          rw [← hz] at hcl
          have CT := hid (tz_any x j y wr hxl hj hxy (H0.out.2.below hbw))
          have e3 : IntKind.i64.wrap (64 * (i : Int) + (j : Int)) = 64 * (i : Int) + (j : Int) := wrapIn (by omega) (by omega)
          have e5 : IntKind.u64.wrap ((x : Int) - 1) = ((x - 1 : Nat) : Int) := by rw [IntKind.wrap_u64]; omega
          have e6 : bits .and .u64 (x : Int) ((x - 1 : Nat) : Int) = (z : Int) := by rw [uand hxl (by omega), hcl]
          have hlen : (elx (64 * i + mm) p).length ≤ 64000 := Nat.le_trans (elx_length _ _) (by omega)
          have HH := hid (And.intro hx (And.intro hz (And.intro hel (And.intro hj (And.intro hmj hbw)))))
          clear hx hz hel hj hmj hbw hcl hxy hxl h0
          go_wp2_with fail
          refine CT.out.mono ?_
          rintro e w2 ⟨rfl, rfl⟩
          clear CT
          go_wp2_with (at_builtin; refine wpList_append_own _ rfl (.tmp 19) (.tmp 25) 23 rfl W.heap.size 3 i0 (.int .i64 0) 1 8 Tryd.underlying23 hi hz0 hz1 hz2 rfl (by decide) _ _ _ rfl (hown.alloc _) ⟨w2.heap.size, 0, none⟩ 1 1 [.int .i64 (64 * (i : Int) + (j : Int))] rfl rfl ?c1 ?c2 ?c3 ?c4 ?c5 ?_)
          case c1 => exact fun j u hj => one_cell _ _ _ _ _ hj
          case c2 => intro u hu; simp at hu; subst hu; rfl
          case c3 => unfold maxLen; omega
          case c4 => omega
          case c5 => have := HH.out.2.2.2.2.2.size; simp; omega
          intro v' w1 hown' hgrow _
          have hbw := HH.out.2.2.2.2.2
          have hb1 : Below W.heap.size W w1 := (hbw.alloc hbw.size _).grown hgrow (by have := hbw.size; simp; omega) (fun k hk => (hown.lt k hk).1)
          have hown2 : w1.ownsRow W.heap.size 3 1 v' (elx (64 * i + (j + 1)) p).length (ints (elx (64 * i + (j + 1)) p)) := by
            rw [HH.out.2.2.1]
            simpa [ints] using hown'
          have HN := hid (And.intro hown2 hb1)
          clear hown' hgrow hown hbw hb1 hown2
          go_wp2
          go_roundg (64 - (j + 1))
          case measure => have := HH.out.2.2.2.1; have := HH.out.2.2.2.2.1; omega
          case rel => exact ⟨j + 1, z, by go_num, HH.out.2.1, by have := HH.out.2.2.2.1; omega, HN.out.1, HN.out.2⟩
    · have hlt' : ¬ (i : Int) < (m : Int) := by omega
      obtain rfl : i = m := by omega
      have HX := hid (And.intro hown hbw)
      clear hown hbw
      go_wp2
      go_ret
      exact ⟨⟨_, rfl, HX.out.1⟩, HX.out.2⟩
end Go.Proofs.YtogpnlkjcdedlaaDoor
