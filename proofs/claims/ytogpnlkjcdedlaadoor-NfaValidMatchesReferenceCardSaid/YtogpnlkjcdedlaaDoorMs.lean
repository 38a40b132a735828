/-
  Contracts: cmp.Compare, the order of arcs, IsSortedFunc.
-/
import Derived.Test.YtogpnlkjcdedlaaDoorMc
set_option linter.unusedSimpArgs false
set_option linter.unusedVariables false
namespace Go.Proofs.YtogpnlkjcdedlaaDoor
open Go.RowKit Bs Rg Nf Go.Frame
attribute [local go_sem] eq_zero eq_set

set_option maxRecDepth 100000 in
set_option maxHeartbeats 4000000 in
theorem isNaN_any (w : World) (x : Int) : Calls Tryd.prog 78 #[.int .i64 x] w fun e w' => e = .returned (.bool false) ∧ w' = w := by
  have h : (x != x) = false := by simp
  go_enter Tryd.func78, Tryd.ntmps78
  go_wp2
  go_ret
  exact ⟨rfl, rfl⟩
def cmpI (x y : Int) : Int := if x < y then -1 else if y < x then 1 else 0
theorem cmpI_neg {x y : Int} : cmpI x y < 0 ↔ x < y := by
  unfold cmpI
  split
  · simp; assumption
  · split
    · simp; omega
    · simp; omega
set_option maxRecDepth 100000 in
set_option maxHeartbeats 4000000 in
theorem compare_any (w : World) (x y : Int) : Calls Tryd.prog 69 #[.int .i64 x, .int .i64 y] w fun e w' => e = .returned (.int .i64 (cmpI x y)) ∧ w' = w := by
  have CN := hid (fun V x => isNaN_any V x)
  by_cases h1 : x < y
  · rw [show cmpI x y = -1 from if_pos h1]
    go_enter Tryd.func69, Tryd.ntmps69
    go_wp2_with (refine (CN.out _ _).mono ?_; rintro e V ⟨rfl, rfl⟩)
    go_ret
    exact ⟨rfl, rfl⟩
  · by_cases h2 : y < x
    · rw [show cmpI x y = 1 from by unfold cmpI; rw [if_neg h1, if_pos h2]]
      go_enter Tryd.func69, Tryd.ntmps69
      go_wp2_with (refine (CN.out _ _).mono ?_; rintro e V ⟨rfl, rfl⟩)
      go_ret
      exact ⟨rfl, rfl⟩
    · rw [show cmpI x y = 0 from by unfold cmpI; rw [if_neg h1, if_neg h2]]
      go_enter Tryd.func69, Tryd.ntmps69
      go_wp2_with (refine (CN.out _ _).mono ?_; rintro e V ⟨rfl, rfl⟩)
      go_ret
      exact ⟨rfl, rfl⟩
set_option maxRecDepth 100000 in
set_option maxHeartbeats 4000000 in
theorem clo68_any (w : World) (f1 t1 f2 t2 : Int) (e1 e2 : Bool) (s1 s2 : BS) : Calls Tryd.prog 68 #[.agg #[.int .i64 f1, .int .i64 t1, .bool e1, .int .u64 (ws s1 0 : Int), .int .u64 (ws s1 1 : Int), .int .u64 (ws s1 2 : Int), .int .u64 (ws s1 3 : Int)], .agg #[.int .i64 f2, .int .i64 t2, .bool e2, .int .u64 (ws s2 0 : Int), .int .u64 (ws s2 1 : Int), .int .u64 (ws s2 2 : Int), .int .u64 (ws s2 3 : Int)]] w fun e w' => e = .returned (.int .i64 (cmpI f1 f2)) ∧ w' = (w.alloc (.cells #[.int .i64 f1, .int .i64 t1, .bool e1, .int .u64 (ws s1 0 : Int), .int .u64 (ws s1 1 : Int), .int .u64 (ws s1 2 : Int), .int .u64 (ws s1 3 : Int)] 55)).alloc (.cells #[.int .i64 f2, .int .i64 t2, .bool e2, .int .u64 (ws s2 0 : Int), .int .u64 (ws s2 1 : Int), .int .u64 (ws s2 2 : Int), .int .u64 (ws s2 3 : Int)] 55) := by
  have CC := hid (fun V => compare_any V f1 f2)
  obtain ⟨W, hW⟩ : ∃ W, W = (w.alloc (.cells #[.int .i64 f1, .int .i64 t1, .bool e1, .int .u64 (ws s1 0 : Int), .int .u64 (ws s1 1 : Int), .int .u64 (ws s1 2 : Int), .int .u64 (ws s1 3 : Int)] 55)).alloc (.cells #[.int .i64 f2, .int .i64 t2, .bool e2, .int .u64 (ws s2 0 : Int), .int .u64 (ws s2 1 : Int), .int .u64 (ws s2 2 : Int), .int .u64 (ws s2 3 : Int)] 55) := ⟨_, rfl⟩
  obtain ⟨x0, x1, bW, hsz⟩ := Go.Frame.two w (.cells #[.int .i64 f1, .int .i64 t1, .bool e1, .int .u64 (ws s1 0 : Int), .int .u64 (ws s1 1 : Int), .int .u64 (ws s1 2 : Int), .int .u64 (ws s1 3 : Int)] 55) (.cells #[.int .i64 f2, .int .i64 t2, .bool e2, .int .u64 (ws s2 0 : Int), .int .u64 (ws s2 1 : Int), .int .u64 (ws s2 2 : Int), .int .u64 (ws s2 3 : Int)] 55)
  rw [← hW] at x0 x1 bW hsz
  rw [← hW]
  obtain ⟨c0, _⟩ := cells7a x0
  obtain ⟨d0, _⟩ := cells7a x1
  clear x0 x1
  go_enter Tryd.func68, Tryd.ntmps68
  go_upto_region 1 with fail
  rw [← hW]
  clear hW
  go_wp2_with fail
  refine (CC.out _).mono ?_
  rintro e V ⟨rfl, rfl⟩
  go_wp2
  go_ret
  exact ⟨rfl, rfl⟩
/-- In the order of the states that they leave. -/
def Srt (l : List Arc) : Prop := ∀ (i : Nat) (x y : Arc), l[i]? = some x → l[i + 1]? = some y → x.f ≤ y.f
def SoR (l : List Arc) (r : Ending) : Prop := ∃ y : Bool, r = .returned (.bool y) ∧ (y = true ↔ Srt l)
set_option maxRecDepth 100000 in
set_option maxHeartbeats 4000000 in
theorem sorted_any (w : World) (a1 : Option Addr) (m c1 : Nat) (l : List Arc) (hA : CRow 7 w a1 m (l.map acs)) (hm : m ≤ 140737488355328) :
    Calls Tryd.prog 70 #[.slice a1 m c1, .func (.func 68) #[] #[]] w fun r w' => SoR l r ∧ Below w.heap.size w w' := by
  have H0 := hid hA
  have hl : l.length = m := by have := hA.1; simpa using this
  have HL := hid hl
  clear hA hl
  go_enter Tryd.func70, Tryd.ntmps70
  go_wp2_with fail
  go_loopg [5] m (fun kk s5 wr => ∃ z : Int, s5 = .int .i64 z ∧ z < m ∧ z ≤ kk ∧ (∀ (i : Nat) (x y : Arc), z ≤ i → l[i]? = some x → l[i + 1]? = some y → x.f ≤ y.f) ∧ Below w.heap.size w wr)
  case atStart => exact ⟨(m : Int) - 1, rfl, by omega, by omega, fun i x y hi hx hy => by have := (List.getElem?_eq_some_iff.1 hy).1; have := HL.out; omega, Below.refl _ _⟩
  case round =>
    obtain ⟨z, rfl, hzm, hzk, hok, hbw⟩ := hrel
    by_cases hlt : 0 < z
    · obtain ⟨j, rfl⟩ : ∃ j : Nat, z = (j : Int) + 1 := ⟨(z - 1).toNat, by omega⟩
      obtain ⟨b, off, f1, t1, e1, s1, rfl, hbl, ha1, p0, p1, p2, p3, p4, p5, p6⟩ := arc_at (i := j + 1) (H0.out.below hbw) (by omega)
      obtain ⟨b', off', f2, t2, e2, s2, hbb, hbl', ha2, q0, q1, q2, q3, q4, q5, q6⟩ := arc_at (i := j) (H0.out.below hbw) (by omega)
      obtain ⟨rfl, rfl⟩ : b' = b ∧ off' = off := by simp at hbb; omega
      have HX := hid (And.intro hok (And.intro hbw (And.intro ha1 (And.intro ha2 (And.intro hzm hzk)))))
      have r1 : (0 : Int) ≤ (j : Int) + 1 := by omega
      have r2 : (j : Int) + 1 < (m : Int) := hzm
      have r3 : (0 : Int) ≤ (j : Int) := by omega
      have r4 : (j : Int) < (m : Int) := by omega
      have r5 : IntKind.i64.wrap ((j : Int) + 1 - 1) = (j : Int) := by rw [show (j : Int) + 1 - 1 = (j : Int) by omega]; exact wrapIn (by omega) (by omega)
      have HP := hid (And.intro (And.intro p0 (And.intro p1 (And.intro p2 (And.intro p3 (And.intro p4 (And.intro p5 p6)))))) (And.intro (And.intro q0 (And.intro q1 (And.intro q2 (And.intro q3 (And.intro q4 (And.intro q5 q6)))))) hbl))
      clear hok hbw ha1 ha2 hzm hzk hbb hbl' p0 p1 p2 p3 p4 p5 p6 q0 q1 q2 q3 q4 q5 q6 hbl
      have CC := hid (fun V => clo68_any V f1 t1 f2 t2 e1 e2 s1 s2)
      go_wp2_with fail
      refine wp_region_below (by kernel_rfl) (by kernel_rfl) ?_
      intro X' f _ hf hs
      have p0 := fun y => ((hf.out y).cell (p := ⟨b', off' + (j + 1) * 7, none⟩) HP.out.2.2).trans HP.out.1.1
      have p1 := fun y => ((hf.out y).cell (p := ⟨b', off' + (j + 1) * 7 + 1, none⟩) HP.out.2.2).trans HP.out.1.2.1
      have p2 := fun y => ((hf.out y).cell (p := ⟨b', off' + (j + 1) * 7 + 2, none⟩) HP.out.2.2).trans HP.out.1.2.2.1
      have p3 := fun y => ((hf.out y).cell (p := ⟨b', off' + (j + 1) * 7 + 3, none⟩) HP.out.2.2).trans HP.out.1.2.2.2.1
      have p4 := fun y => ((hf.out y).cell (p := ⟨b', off' + (j + 1) * 7 + 4, none⟩) HP.out.2.2).trans HP.out.1.2.2.2.2.1
      have p5 := fun y => ((hf.out y).cell (p := ⟨b', off' + (j + 1) * 7 + 5, none⟩) HP.out.2.2).trans HP.out.1.2.2.2.2.2.1
      have p6 := fun y => ((hf.out y).cell (p := ⟨b', off' + (j + 1) * 7 + 6, none⟩) HP.out.2.2).trans HP.out.1.2.2.2.2.2.2
      have q0 := fun y => ((hf.out y).cell (p := ⟨b', off' + j * 7, none⟩) HP.out.2.2).trans HP.out.2.1.1
      have q1 := fun y => ((hf.out y).cell (p := ⟨b', off' + j * 7 + 1, none⟩) HP.out.2.2).trans HP.out.2.1.2.1
      have q2 := fun y => ((hf.out y).cell (p := ⟨b', off' + j * 7 + 2, none⟩) HP.out.2.2).trans HP.out.2.1.2.2.1
      have q3 := fun y => ((hf.out y).cell (p := ⟨b', off' + j * 7 + 3, none⟩) HP.out.2.2).trans HP.out.2.1.2.2.2.1
      have q4 := fun y => ((hf.out y).cell (p := ⟨b', off' + j * 7 + 4, none⟩) HP.out.2.2).trans HP.out.2.1.2.2.2.2.1
      have q5 := fun y => ((hf.out y).cell (p := ⟨b', off' + j * 7 + 5, none⟩) HP.out.2.2).trans HP.out.2.1.2.2.2.2.2.1
      have q6 := fun y => ((hf.out y).cell (p := ⟨b', off' + j * 7 + 6, none⟩) HP.out.2.2).trans HP.out.2.1.2.2.2.2.2.2
      repeat (go_big_quiet_step (first | (go_at_call 68; exact calls_below hf hs ((CC.out _).mono fun e w' h => ⟨h.1, by rw [h.2]; exact ((Below.refl _ _).alloc (Nat.le_refl _) _).alloc (by simp) _⟩))))
      refine wpQuiet_nil ?_
      intro w4 hw4
      have H4 := hid (HX.out.2.1.trans (hw4.mono HX.out.2.1.size))
      clear p0 p1 p2 p3 p4 p5 p6 q0 q1 q2 q3 q4 q5 q6 hf hs hw4 CC
      by_cases hn : f1 < f2
      · have hd : cmpI f1 f2 < 0 := cmpI_neg.2 hn
        go_wp2
        go_ret
        exact ⟨⟨false, rfl, by simp; intro hs; have := hs j _ _ HX.out.2.2.2.1 HX.out.2.2.1; simp at this; omega⟩, H4.out⟩
      · have hd : ¬ cmpI f1 f2 < 0 := fun h => hn (cmpI_neg.1 h)
        go_wp2
        go_roundg (gk - 1)
        case measure => have := HX.out.2.2.2.2.2; omega
        case rel =>
          obtain ⟨hok, hbw, ha1, ha2, hzm, hzk⟩ := HX.out
          refine ⟨(j : Int), by simp, by omega, by omega, fun i x y hi hx hy => ?_, H4.out⟩
          by_cases e : i = j
          · subst e
            rw [ha2] at hx
            rw [ha1] at hy
            simp at hx hy
            subst hx hy
            simp; omega
          · exact hok i x y (by omega) hx hy
    · have HX := hid (And.intro hok hbw)
      clear hok hbw
      go_wp2
      go_ret
      exact ⟨⟨true, rfl, by simp; exact fun i x y hx hy => HX.out.1 i x y (by omega) hx hy⟩, HX.out.2⟩
end Go.Proofs.YtogpnlkjcdedlaaDoor
