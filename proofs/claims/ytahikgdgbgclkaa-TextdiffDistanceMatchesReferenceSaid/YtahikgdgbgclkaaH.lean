/-
  Contract: the reference's Table.
-/
import Derived.Test.YtahikgdgbgclkaaC
import Derived.Test.YtahikgdgbgclkaaRq
import Derived.Laws.MakeOwn
set_option linter.unusedSimpArgs false
set_option linter.unusedVariables false
namespace Go.Proofs.Ytahikgdgbgclkaa
open Go.RowKit Te Go.Frame

theorem info3 : (Try.prog.info? 3).map (fun i => (i.zero, i.size, i.bytes)) = some (some (.int .i64 0), 1, 8) := by kernel_rfl
/-- The cells of the reference's table. -/
def tr (N : Nat) (T : Nat → Int) : Array Value := (Array.range N).map fun t => .int .i64 (T t)
theorem make_tr (n : Nat) (hn : n ≤ 1000000000) (w : World) :
    (Instr.makeSlice 43 (.int .i64 (n : Int)) (.int .i64 (n : Int))).run Try.prog w = .ok (.slice (some ⟨w.heap.size, 0, none⟩) n n) (w.alloc (.cells (tr n fun _ => 0) 3)) := by
  obtain ⟨i, hi, h0, h1, h2⟩ := info_parts info3
  have := run_make (P := Try.prog) w 43 3 i _ Try.underlying43 hi h0 .i64 .i64 n n (by omega) (Int.le_refl _) (by rw [h2]; omega) (by omega)
  rw [h1, show (Value.int .i64 0).cells = #[.int .i64 0] by kernel_rfl] at this
  have e : madeCells #[Value.int .i64 0] n = tr n fun _ => 0 := by
    unfold madeCells tr
    congr 1
    funext t
    rw [show (#[Value.int .i64 0] : Array Value).size = 1 from rfl, Nat.mod_one]
    rfl
  simpa [e] using this
theorem tr_at {N t : Nat} (T : Nat → Int) (h : t < N) : (tr N T)[t]? = some (.int .i64 (T t)) := by
  unfold tr
  rw [Array.getElem?_map, Array.getElem?_eq_getElem (by simpa using h)]
  simp
theorem tr_upd {N k : Nat} (T : Nat → Int) (z : Int) : (tr N T).setIfInBounds k (.int .i64 z) = tr N (upd T k z) := by
  apply Array.ext_getElem?
  intro i
  rw [Array.getElem?_setIfInBounds]
  have hs : ∀ T, (tr N T).size = N := fun T => by simp [tr]
  by_cases hi : i < N
  · rw [tr_at _ hi, tr_at _ hi]
    by_cases e : k = i
    · rw [if_pos e, if_pos (by rw [hs]; omega)]
      simp [upd, e]
    · rw [if_neg e]
      have e' : ¬ i = k := fun h => e h.symm
      simp [upd, e']
  · rw [Array.getElem?_eq_none (by rw [hs]; omega), Array.getElem?_eq_none (by rw [hs]; omega)]
    by_cases e : k = i
    · rw [if_pos e, if_neg (by rw [hs]; omega)]
    · rw [if_neg e]
/-- The pairs of a rank below k are done. -/
def Done (a b : ByteArray) (T : Nat → Int) (k : Nat) : Prop := ∀ i j, i ≤ a.size → j ≤ b.size → (a.size - i) * (b.size + 1) + (b.size - j) < k → T (ix b i j) = (D a b i j : Int)
theorem Done.step {a b : ByteArray} {T : Nat → Int} {u v i j : Nat} (h : Done a b T (u * (b.size + 1) + v)) (hu : u ≤ a.size) (hv : v ≤ b.size) (hi : i = a.size - u) (hj : j = b.size - v) : Done a b (upd T (ix b i j) (D a b i j : Int)) (u * (b.size + 1) + v + 1) := by
  intro i' j' hi' hj' hr
  have e1 := rank_ix (n := b.size) hi' hj'
  have e2 := rank_ix (m := a.size) (n := b.size) (i := i) (j := j) (by omega) (by omega)
  have e3 : (a.size - i) * (b.size + 1) + (b.size - j) = u * (b.size + 1) + v := by rw [show a.size - i = u by omega]; omega
  by_cases hq : (a.size - i') * (b.size + 1) + (b.size - j') = u * (b.size + 1) + v
  · have p1 := pr_at (m := a.size) (n := b.size) (u := a.size - i') (v := b.size - j') (i := i') (j := j') (by omega) (by omega) (by omega)
    have p2 := pr_at (m := a.size) (n := b.size) (u := u) (v := v) (i := i) (j := j) (by omega) hi hj
    rw [hq, p2] at p1
    have := congrArg Subtype.val p1
    simp at this
    obtain ⟨rfl, rfl⟩ := this
    simp [upd]
  · unfold upd
    rw [if_neg (by unfold ix; omega)]
    exact h i' j' hi' hj' (by omega)
theorem Done.below {a b : ByteArray} {T : Nat → Int} {u v i j : Nat} (h : Done a b T (u * (b.size + 1) + v)) (hi : i + 1 + u = a.size + 1) (hj : j + v = b.size) (hu : 0 < u) : T (ix b (i + 1) j) = (D a b (i + 1) j : Int) := by
  refine h _ _ (by omega) (by omega) ?_
  rw [show a.size - (i + 1) = u - 1 by omega]
  have : u * (b.size + 1) = (u - 1) * (b.size + 1) + (b.size + 1) := by rw [← Nat.succ_mul]; congr 1; omega
  omega
theorem Done.right {a b : ByteArray} {T : Nat → Int} {u v i j : Nat} (h : Done a b T (u * (b.size + 1) + v)) (hi : i + u = a.size) (hj : j + 1 + v = b.size + 1) (hv : 0 < v) : T (ix b i (j + 1)) = (D a b i (j + 1) : Int) := by
  refine h _ _ (by omega) (by omega) ?_
  rw [show a.size - i = u by omega]
  omega
theorem Done.both {a b : ByteArray} {T : Nat → Int} {u v i j : Nat} (h : Done a b T (u * (b.size + 1) + v)) (hi : i + 1 + u = a.size + 1) (hj : j + 1 + v = b.size + 1) (hu : 0 < u) (hv : 0 < v) : T (ix b (i + 1) (j + 1)) = (D a b (i + 1) (j + 1) : Int) := by
  refine h _ _ (by omega) (by omega) ?_
  rw [show a.size - (i + 1) = u - 1 by omega]
  have : u * (b.size + 1) = (u - 1) * (b.size + 1) + (b.size + 1) := by rw [← Nat.succ_mul]; congr 1; omega
  omega
/-- What Table comes to. -/
def TbRes (a b : ByteArray) (w : World) (e : Ending) (w' : World) : Prop :=
  (∃ g T, e = .returned (.slice (some ⟨g, 0, none⟩) (nn a b) (nn a b)) ∧ w'.heap[g]? = some (.cells (tr (nn a b) T) 3 (0, 0)) ∧ (∀ i j, i ≤ a.size → j ≤ b.size → T (ix b i j) = (D a b i j : Int))) ∧ Below w.heap.size w w'

set_option maxRecDepth 100000 in
set_option maxHeartbeats 4000000 in
theorem Table_any (a b : ByteArray) (w : World) (ha : a.size ≤ 10000) (hb : b.size ≤ 10000) : Calls Try.prog 23 #[.string a, .string b] w fun e w' => TbRes a b w e w' := by
  have hn := nn_le ha hb
  have hmk := make_tr (nn a b) (by omega)
  have e1 : IntKind.i64.wrap (((a.size : Int) + 1) * ((b.size : Int) + 1)) = (nn a b : Int) := by
    have : ((a.size : Int) + 1) * ((b.size : Int) + 1) = (nn a b : Int) := by unfold nn; push_cast; rfl
    rw [this]; exact wrapIn (by omega) (by omega)
  have a1 : (a.size : Int) ≤ 10000 := by omega
  have b1 : (b.size : Int) ≤ 10000 := by omega
  go_enter Try.func23, Try.ntmps23
  go_wp2_with fail
  go_loopg [7] (a.size + 1) (fun k p wr => ∃ (u : Nat) (x : Int) (T : Nat → Int), p = .int .i64 x ∧ x = (a.size : Int) - u ∧ u + k = a.size + 1 ∧ wr.heap[w.heap.size]? = some (.cells (tr (nn a b) T) 3 (0, 0)) ∧ Done a b T (u * (b.size + 1)) ∧ Below w.heap.size w wr)
  case atStart => exact ⟨0, _, _, rfl, by omega, by omega, alloc_new _ _, fun _ _ _ _ h => by omega, (Below.refl _ _).alloc (Nat.le_refl _) _⟩
  case round =>
    obtain ⟨u, x, T, rfl, hx, hk, hblk, hdone, hbw⟩ := hrel
    by_cases hx0 : 0 ≤ x
    · obtain ⟨i, rfl⟩ : ∃ i : Nat, x = i := ⟨x.toNat, by omega⟩
      have HI := hid (show i + u = a.size by omega)
      have HK := hid hk
      have H0 := hid (And.intro hblk (And.intro hdone hbw))
      have i1 : (i : Int) ≤ 10000 := by omega
      clear hx hk hblk hdone hbw
      obtain ⟨go, rfl⟩ : ∃ go, go = gk := ⟨_, rfl⟩
      go_wp2_with fail
      go_loopg [8] (b.size + 1) (fun k p wr => ∃ (v : Nat) (y : Int) (T : Nat → Int), p = .int .i64 y ∧ y = (b.size : Int) - v ∧ v + k = b.size + 1 ∧ wr.heap[w.heap.size]? = some (.cells (tr (nn a b) T) 3 (0, 0)) ∧ Done a b T (u * (b.size + 1) + v) ∧ Below w.heap.size w wr)
      case atStart => exact ⟨0, _, T, rfl, by omega, by omega, H0.out.1, H0.out.2.1, H0.out.2.2⟩
      case round =>
        obtain ⟨v, y, T, rfl, hy, hk, hblk, hdone, hbw⟩ := hrel
        clear H0
        by_cases hy0 : 0 ≤ y
        · obtain ⟨j, rfl⟩ : ∃ j : Nat, y = j := ⟨y.toNat, by omega⟩
          have HJ := hid (show j + v = b.size by omega)
          have j1 : (j : Int) ≤ 10000 := by omega
          have hi := hid (show i ≤ a.size by have := HI.out; omega)
          have hj := hid (show j ≤ b.size by omega)
          have hx := ix_lt hi.out hj.out
          have x0 : (0 : Int) ≤ (ix b i j : Int) := by omega
          have x1 : ((ix b i j : Nat) : Int) < ((nn a b : Nat) : Int) := by omega
          have m0 : IntKind.i64.wrap ((i : Int) * ((b.size : Int) + 1)) = (ix b i 0 : Int) := by
            have e0 := ix_int (b := b) i 0
            have := ix_lt (b := b) hi.out (Nat.zero_le b.size)
            simp only [Int.natCast_zero, Int.add_zero] at e0
            rw [e0]; exact wrapIn (by omega) (by omega)
          have m1 : IntKind.i64.wrap ((ix b i 0 : Int) + (j : Int)) = (ix b i j : Int) := by
            rw [show (ix b i 0 : Int) + (j : Int) = (ix b i j : Int) by unfold ix; push_cast; omega]; exact wrapIn (by omega) (by omega)
          have HY := hid hy
          have HQ := hid hk
          have HB := hid (And.intro hblk (And.intro hdone hbw))
          have c0 : wr.cell? ⟨w.heap.size, ix b i j, none⟩ = some (.int .i64 (T (ix b i j))) := by simp only [World.cell?, hblk]; exact tr_at _ hx
          have f0 := free hblk (ix b i j)
          have up : ∀ z : Int, z = (D a b i j : Int) → ∀ W' : World, (W'.heap[w.heap.size]? = some (.cells (tr (nn a b) T) 3 (0, 0)) ∧ Below w.heap.size w W') →
              (W'.setCell ⟨w.heap.size, ix b i j, none⟩ (.int .i64 z)).heap[w.heap.size]? = some (.cells (tr (nn a b) (upd T (ix b i j) (D a b i j : Int))) 3 (0, 0)) ∧ Done a b (upd T (ix b i j) (D a b i j : Int)) (u * (b.size + 1) + v + 1) ∧ Below w.heap.size w (W'.setCell ⟨w.heap.size, ix b i j, none⟩ (.int .i64 z)) := by
            rintro z rfl W' ⟨h1, h2⟩
            exact ⟨by rw [blk_put h1, tr_upd], hdone.step (by have := HI.out; omega) (by omega) (by have := HI.out; omega) (by omega), below_put h2 (Nat.le_refl _)⟩
          have UP := hid up
          clear hy hk hblk hdone hbw up
          have w5 : IntKind.i64.wrap ((j : Int) - 1) = (j : Int) - 1 := wrapIn (by omega) (by omega)
          by_cases hia : i = a.size
          · have hD : (b.size : Int) - (j : Int) = (D a b i j : Int) := by rw [D_left _ (by omega)]; have := hj.out; omega
            have w1 : IntKind.i64.wrap ((b.size : Int) - (j : Int)) = (D a b i j : Int) := by rw [hD]; exact wrapIn (by omega) (by have := D_le a b i j; omega)
            subst hia
            have U1 := hid (UP.out _ rfl wr ⟨HB.out.1, HB.out.2.2⟩)
            clear hD UP
            go_wp2
            go_roundg (gk - 1)
            case measure => have := HQ.out; have := HY.out; omega
            case rel => exact ⟨v + 1, _, _, rfl, by have := HY.out; omega, by have := HQ.out; have := HY.out; omega, U1.out.1, U1.out.2.1, U1.out.2.2⟩
          · have n0 : ¬ (i : Int) = (a.size : Int) := by omega
            by_cases hjb : j = b.size
            · have hD : (a.size : Int) - (i : Int) = (D a b i j : Int) := by rw [D_right _ (by omega)]; have := hi.out; omega
              have w1 : IntKind.i64.wrap ((a.size : Int) - (i : Int)) = (D a b i j : Int) := by rw [hD]; exact wrapIn (by omega) (by have := D_le a b i j; omega)
              subst hjb
              have U1 := hid (UP.out _ rfl wr ⟨HB.out.1, HB.out.2.2⟩)
              clear hD UP
              go_wp2
              go_roundg (gk - 1)
              case measure => have := HQ.out; have := HY.out; omega
              case rel => exact ⟨v + 1, _, _, rfl, by have := HY.out; omega, by have := HQ.out; have := HY.out; omega, U1.out.1, U1.out.2.1, U1.out.2.2⟩
            · have n1 : ¬ (j : Int) = (b.size : Int) := by omega
              have hi1 : i < a.size := by have := hi.out; omega
              have hj1 : j < b.size := by have := hj.out; omega
              have hi2 : (i : Int) < (a.size : Int) := by omega
              have hj2 : (j : Int) < (b.size : Int) := by omega
              have hi0 : (0 : Int) ≤ (i : Int) := by omega
              have hj0 : (0 : Int) ≤ (j : Int) := by omega
              have k0 : IntKind.i64.wrap ((i : Int) + 1) = (i : Int) + 1 := wrapIn (by omega) (by omega)
              have hy1 := ix_lt (a := a) (b := b) (i := i + 1) (j := j) (by omega) (by omega)
              have hy2 := ix_lt (a := a) (b := b) (i := i) (j := j + 1) (by omega) (by omega)
              have hy3 := ix_lt (a := a) (b := b) (i := i + 1) (j := j + 1) (by omega) (by omega)
              have y1 : (0 : Int) ≤ (ix b (i + 1) j : Int) := by omega
              have y2 : ((ix b (i + 1) j : Nat) : Int) < ((nn a b : Nat) : Int) := by omega
              have y3 : (0 : Int) ≤ (ix b i (j + 1) : Int) := by omega
              have y4 : ((ix b i (j + 1) : Nat) : Int) < ((nn a b : Nat) : Int) := by omega
              have y5 : (0 : Int) ≤ (ix b (i + 1) (j + 1) : Int) := by omega
              have y6 : ((ix b (i + 1) (j + 1) : Nat) : Int) < ((nn a b : Nat) : Int) := by omega
              have m2 : IntKind.i64.wrap ((ix b i j : Int) + 1) = (ix b i (j + 1) : Int) := by
                rw [show (ix b i j : Int) + 1 = (ix b i (j + 1) : Int) by unfold ix; push_cast; omega]; exact wrapIn (by omega) (by omega)
              have m3 : IntKind.i64.wrap (((i : Int) + 1) * ((b.size : Int) + 1)) = (ix b (i + 1) 0 : Int) := by
                have e0 := ix_int (b := b) (i + 1) 0
                have := ix_lt (a := a) (b := b) (i := i + 1) (j := 0) (by omega) (Nat.zero_le b.size)
                push_cast at e0
                simp only [Int.add_zero] at e0
                rw [e0]; exact wrapIn (by omega) (by omega)
              have m4 : IntKind.i64.wrap ((ix b (i + 1) 0 : Int) + (j : Int)) = (ix b (i + 1) j : Int) := by
                rw [show (ix b (i + 1) 0 : Int) + (j : Int) = (ix b (i + 1) j : Int) by unfold ix; push_cast; omega]; exact wrapIn (by omega) (by omega)
              have m5 : IntKind.i64.wrap ((ix b (i + 1) j : Int) + 1) = (ix b (i + 1) (j + 1) : Int) := by
                rw [show (ix b (i + 1) j : Int) + 1 = (ix b (i + 1) (j + 1) : Int) by unfold ix; push_cast; omega]; exact wrapIn (by omega) (by omega)
              obtain ⟨hblk, hdone, hbw⟩ := HB.out
              have hu : 0 < u := by have := HI.out; omega
              have hv : 0 < v := by have := HJ.out; omega
              have c1 : wr.cell? ⟨w.heap.size, ix b (i + 1) j, none⟩ = some (.int .i64 (D a b (i + 1) j : Int)) := by
                simp only [World.cell?, hblk]; rw [← hdone.below (by have := HI.out; omega) HJ.out hu]; exact tr_at _ hy1
              have c2 : wr.cell? ⟨w.heap.size, ix b i (j + 1), none⟩ = some (.int .i64 (D a b i (j + 1) : Int)) := by
                simp only [World.cell?, hblk]; rw [← hdone.right HI.out (by have := HJ.out; omega) hv]; exact tr_at _ hy2
              have c3 : wr.cell? ⟨w.heap.size, ix b (i + 1) (j + 1), none⟩ = some (.int .i64 (D a b (i + 1) (j + 1) : Int)) := by
                simp only [World.cell?, hblk]; rw [← hdone.both (by have := HI.out; omega) (by have := HJ.out; omega) hu hv]; exact tr_at _ hy3
              clear hblk hdone hbw hu hv
              by_cases hm : Mt a b i j
              · have hc := byte_eq.1 ((mt_iff hi1 hj1).1 hm)
                rw [← D_mt hm] at c3
                clear hm
                go_wp2_with fail
                go_quiet (fail)
                go_wp2_with fail
                have U1 := UP.out _ rfl (wr.drewN nq) ⟨HB.out.1, below_drewN HB.out.2.2 nq⟩
                go_roundg (gk - 1)
                case measure => have := HQ.out; have := HY.out; omega
                case rel => exact ⟨v + 1, _, _, rfl, by have := HY.out; omega, by have := HQ.out; have := HY.out; omega, U1.1, U1.2.1, U1.2.2⟩
              · have hc : ¬ ((a[i]'hi1).toNat : Int) = ((b[j]'hj1).toNat : Int) := fun e => hm ((mt_iff hi1 hj1).2 (byte_eq.2 e))
                have hDD := D_no hi1 hj1 hm
                have HDD := hid hDD
                have l1 := D_le a b (i + 1) j
                have l2 := D_le a b i (j + 1)
                clear hm hDD
                go_wp2_with fail
                go_quiet (fail)
                go_wp2_with fail
                obtain ⟨V, hV⟩ : ∃ V, V = wr.drewN nq := ⟨_, rfl⟩
                have vB : V.heap[w.heap.size]? = some (.cells (tr (nn a b) T) 3 (0, 0)) := by rw [hV]; exact HB.out.1
                have bV : Below w.heap.size w V := by rw [hV]; exact below_drewN HB.out.2.2 nq
                have d0 : V.cell? ⟨w.heap.size, ix b (i + 1) j, none⟩ = some (.int .i64 (D a b (i + 1) j : Int)) := by rw [hV]; exact c1
                have d1 : V.cell? ⟨w.heap.size, ix b i (j + 1), none⟩ = some (.int .i64 (D a b i (j + 1) : Int)) := by rw [hV]; exact c2
                have lV := heap_lt vB
                have HVB := hid (And.intro vB bV)
                rw [← hV]
                clear hV c0 c1 c2 c3 f0 vB bV
                refine (wpIn_wide (n := 0)).1 (wpIn_region_below_tail 27 free_wide (by kernel_rfl) (by kernel_rfl) (by kernel_rfl) ?_)
                intro X f _ hf hs
                have k1 := fun x => ((hf.out x).cell (p := ⟨w.heap.size, ix b (i + 1) j, none⟩) lV).trans d0
                have k2 := fun x => ((hf.out x).cell (p := ⟨w.heap.size, ix b i (j + 1), none⟩) lV).trans d1
                simp only [List.take_succ_cons, List.take_zero, List.drop_succ_cons, List.drop_zero]
                repeat (go_big_quiet_step (fail))
                refine wpQuiet_nil ?_
                intro Y hY
                have yB := (hY.block _ lV).trans HVB.out.1
                have bY := HVB.out.2.trans (hY.mono HVB.out.2.size)
                have c0 : Y.cell? ⟨w.heap.size, ix b i j, none⟩ = some (.int .i64 (T (ix b i j))) := by simp only [World.cell?, yB]; exact tr_at _ hx
                have f0 := free yB (ix b i j)
                have HYB := hid (And.intro yB bY)
                clear yB bY hY k1 k2 hf hs d0 d1
                gi_wp2
                · have U1 := UP.out (1 + (D a b i (j + 1) : Int)) (by have := HDD.out; omega) Y HYB.out
                  go_wp2
                  go_roundg (gk - 1)
                  case measure => have := HQ.out; have := HY.out; omega
                  case rel => exact ⟨v + 1, _, _, rfl, by have := HY.out; omega, by have := HQ.out; have := HY.out; omega, U1.1, U1.2.1, U1.2.2⟩
                · have U1 := UP.out (1 + (D a b (i + 1) j : Int)) (by have := HDD.out; omega) Y HYB.out
                  go_wp2
                  go_roundg (gk - 1)
                  case measure => have := HQ.out; have := HY.out; omega
                  case rel => exact ⟨v + 1, _, _, rfl, by have := HY.out; omega, by have := HQ.out; have := HY.out; omega, U1.1, U1.2.1, U1.2.2⟩
        · have hvn : v = b.size + 1 := by omega
          have w1 : IntKind.i64.wrap ((i : Int) - 1) = (i : Int) - 1 := wrapIn (by omega) (by omega)
          have HB := hid (And.intro hblk (And.intro hdone hbw))
          clear hblk hdone hbw
          go_wp2
          go_roundg (go - 1)
          case measure => have := HI.out; have := HK.out; omega
          case rel => exact ⟨u + 1, _, T, rfl, by have := HI.out; omega, by have := HI.out; have := HK.out; omega, HB.out.1, by rw [show (u + 1) * (b.size + 1) = u * (b.size + 1) + v by rw [Nat.add_mul, Nat.one_mul, hvn]]; exact HB.out.2.1, HB.out.2.2⟩
    · have hun : u = a.size + 1 := by omega
      have HB := hid (And.intro hblk (And.intro hdone hbw))
      clear hblk hdone hbw
      go_wp2
      go_ret
      obtain ⟨hblk, hdone, hbw⟩ := HB.out
      refine ⟨⟨_, T, rfl, hblk, fun i j hi hj => hdone i j hi hj ?_⟩, hbw⟩
      have := rank_ix (n := b.size) hi hj
      rw [hun, Nat.add_mul]
      omega
end Go.Proofs.Ytahikgdgbgclkaa
