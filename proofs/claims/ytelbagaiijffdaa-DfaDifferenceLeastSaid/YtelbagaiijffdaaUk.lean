/-
  Contract: classPairs.
-/
import Derived.Test.YtelbagaiijffdaaUj
set_option linter.unusedSimpArgs false
set_option linter.unusedVariables false
namespace Go.Proofs.Ytelbagaiijffdaa
open Go.RowKit Lx Go.Frame
attribute [-instance] instBEqProd

theorem info58 : (Try.prog.info? 58).map (fun i => (i.zero, i.size, i.bytes)) = some (some (.agg #[.int .i64 0, .int .i64 0]), 2, 16) := by kernel_rfl
theorem und59 : Try.prog.underlying 59 = some (.slice 58) := by kernel_rfl
/-- A list of pairs under way. -/
def pfil (l : List (Int × Int)) (i : Nat) : List (Int × Int) := l.take i ++ List.replicate (l.length - i) (0, 0)
theorem pfil_set {l : List (Int × Int)} {i : Nat} {x : Int × Int} (h : l[i]? = some x) : (pfil l i).set i x = pfil l (i + 1) := by
  obtain ⟨hl, rfl⟩ := List.getElem?_eq_some_iff.1 h
  unfold pfil
  have ht : (l.take i).length = i := by rw [List.length_take]; omega
  rw [List.set_append, if_neg (by omega), ht, Nat.sub_self, show l.length - i = (l.length - (i + 1)) + 1 by omega, List.replicate_succ, List.set_cons_zero, List.take_add_one, h, List.append_assoc]
  rfl
theorem pfil_all (l : List (Int × Int)) : pfil l l.length = l := by simp [pfil]
theorem pfil_len (l : List (Int × Int)) {i : Nat} (h : i ≤ l.length) : (pfil l i).length = l.length := by unfold pfil; simp; omega
theorem pcs_len : ∀ l : List (Int × Int), (pcs l).length = l.length * 2
  | [] => rfl
  | p :: l => by have := pcs_len l; show (_ :: _ :: pcs l).length = _; simp [this]; omega
theorem pcs_set : ∀ (l : List (Int × Int)) (i : Nat) (p : Int × Int), ((pcs l).set (i * 2) (.int .i64 p.1)).set (i * 2 + 1) (.int .i64 p.2) = pcs (l.set i p)
  | [], i, p => by simp [pcs]
  | q :: l, 0, p => rfl
  | q :: l, i + 1, p => by
    have := pcs_set l i p
    rw [show (i + 1) * 2 = i * 2 + 2 by omega]
    show Value.int .i64 q.1 :: Value.int .i64 q.2 :: ((pcs l).set (i * 2) (.int .i64 p.1)).set (i * 2 + 1) (.int .i64 p.2) = Value.int .i64 q.1 :: Value.int .i64 q.2 :: pcs (l.set i p)
    rw [this]
theorem PB.set {W : World} {b i : Nat} {l : List (Int × Int)} (h : PB W b l) (p : Int × Int) : PB ((W.setCell ⟨b, i * 2, none⟩ (.int .i64 p.1)).setCell ⟨b, i * 2 + 1, none⟩ (.int .i64 p.2)) b (l.set i p) := by
  unfold PB at h ⊢
  rw [blk_put (blk_put h), ← pcs_set]
  simp
theorem made_prs (n : Nat) : madeCells #[Value.int .i64 0, Value.int .i64 0] (n * 2) = (pcs (List.replicate n (0, 0))).toArray := by
  have hp : ∀ n : Nat, pcs (List.replicate n (0, 0)) = List.replicate (n * 2) (Value.int .i64 0) := fun n => by
    induction n with
    | zero => rfl
    | succ n ih =>
      rw [List.replicate_succ, show (n + 1) * 2 = n * 2 + 1 + 1 by omega, List.replicate_succ, List.replicate_succ, ← ih]
      rfl
  rw [hp]
  apply Array.ext_getElem?
  intro i
  unfold madeCells
  by_cases h : i < n * 2
  · have h2 : i % 2 = 0 ∨ i % 2 = 1 := by omega
    rcases h2 with h2 | h2 <;> simp [h, h2, List.getElem?_replicate]
  · simp [h, List.getElem?_replicate]
/-- What a function returns that makes a list of pairs. -/
def PRes (w : World) (l : List (Int × Int)) (e : Ending) (w' : World) : Prop := (∃ b, e = .returned (.slice (some ⟨b, 0, none⟩) l.length l.length) ∧ PB w' b l ∧ w.heap.size ≤ b) ∧ Below w.heap.size w w'
def cps (D E : Df) : List (Int × Int) := (List.range 256).map fun b => (D.cls.getD b 0, E.cls.getD b 0)
/-- 256 pairs of zeros. -/
def zp : Array Value := (pcs (List.replicate 256 (0, 0))).toArray
theorem make_p (w : World) : (Instr.makeSlice 59 (.int .i64 256) (.int .i64 256)).run Try.prog w = .ok (.slice (some ⟨w.heap.size, 0, none⟩) 256 256) (w.alloc (.cells zp 58)) := by
  obtain ⟨i, hi, h0, h1, h2⟩ := info_parts info58
  have := run_make (P := Try.prog) w 59 58 i _ und59 hi h0 .i64 .i64 ((256 : Nat) : Int) ((256 : Nat) : Int) (by omega) (Int.le_refl _) (by rw [h2]; omega) (by omega)
  rw [h1, show (Value.agg #[.int .i64 0, .int .i64 0]).cells = #[.int .i64 0, .int .i64 0] by kernel_rfl] at this
  rw [show ((256 : Nat) : Int).toNat * 2 = 256 * 2 from rfl, made_prs] at this
  exact this
set_option maxRecDepth 100000 in
set_option maxHeartbeats 8000000 in
theorem classPairs_any (w : World) (D E : Df) (n k m l : Nat) (hv : Vd D n k) (hw : Vd E m l) (a1 : Option Addr) (n1 c1 : Nat) (a2 : Option Addr) (n2 c2 : Nat) (a3 : Option Addr) (n3 c3 : Nat) (h : DA w D a1 n1 a2 n2 a3 n3) (b1 : Option Addr) (m1 d1 : Nat) (b2 : Option Addr) (m2 d2 : Nat) (b3 : Option Addr) (m3 d3 : Nat) (h' : DA w E b1 m1 b2 m2 b3 m3) :
    Calls Try.prog 34 #[.agg #[.slice a1 n1 c1, .slice a2 n2 c2, .slice a3 n3 c3], .agg #[.slice b1 m1 d1, .slice b2 m2 d2, .slice b3 m3 d3]] w (PRes w (cps D E)) := by
  have hn1 : n1 = 256 := by have h1 := h.l1; have h2 := hv.cl; omega
  have hm1 : m1 = 256 := by have h1 := h'.l1; have h2 := hw.cl; omega
  subst hn1 hm1
  have hml : (cps D E).length = 256 := by simp [cps]
  have HV := hid (And.intro h.cls (And.intro h'.cls (And.intro hv (And.intro hw hml))))
  have hmk := make_p
  obtain ⟨W, hW⟩ : ∃ W, W = ((w.alloc (.cells #[.slice a1 256 c1, .slice a2 n2 c2, .slice a3 n3 c3] 25)).alloc (.cells #[.slice b1 256 d1, .slice b2 m2 d2, .slice b3 m3 d3] 25)).alloc (.cells zp 58) := ⟨_, rfl⟩
  have x1 := alloc_new w (.cells #[.slice a1 256 c1, .slice a2 n2 c2, .slice a3 n3 c3] 25)
  have hWx : W.heap[w.heap.size]? = some (.cells #[.slice a1 256 c1, .slice a2 n2 c2, .slice a3 n3 c3] 25 (0, 0)) ∧ W.heap[w.heap.size + 1]? = some (.cells #[.slice b1 256 d1, .slice b2 m2 d2, .slice b3 m3 d3] 25 (0, 0)) ∧ PB W (w.heap.size + 1 + 1) (pfil (cps D E) 0) ∧ Below w.heap.size w W := by
    rw [hW]
    refine ⟨blk_alloc (blk_alloc x1), ?_, ?_, ((bel1 _ _).alloc (by simp) _).alloc (by simp only [World.size_alloc]; omega) _⟩
    · have := alloc_new (w.alloc (.cells #[.slice a1 256 c1, .slice a2 n2 c2, .slice a3 n3 c3] 25)) (.cells #[.slice b1 256 d1, .slice b2 m2 d2, .slice b3 m3 d3] 25)
      rw [World.size_alloc] at this
      exact blk_alloc this
    · have := alloc_new ((w.alloc (.cells #[.slice a1 256 c1, .slice a2 n2 c2, .slice a3 n3 c3] 25)).alloc (.cells #[.slice b1 256 d1, .slice b2 m2 d2, .slice b3 m3 d3] 25)) (.cells zp 58)
      rw [World.size_alloc, World.size_alloc] at this
      unfold PB pfil
      rw [List.take_zero, List.nil_append, hml]
      unfold zp at this
      exact this
  clear x1
  have HW := hid hWx
  unfold PRes
  rw [hml]
  clear hWx h h' hv hw hml
  go_enter Try.func34, Try.ntmps34
  go_wp2_with fail
  rw [← hW]
  clear hW hmk
  go_loopg [10] 256 (fun kk s10 wr => ∃ i : Nat, s10 = .int .i64 (i : Int) ∧ i + kk = 256 ∧ PB wr (w.heap.size + 1 + 1) (pfil (cps D E) i) ∧ wr.heap[w.heap.size]? = some (.cells #[.slice a1 256 c1, .slice a2 n2 c2, .slice a3 n3 c3] 25 (0, 0)) ∧ wr.heap[w.heap.size + 1]? = some (.cells #[.slice b1 256 d1, .slice b2 m2 d2, .slice b3 m3 d3] 25 (0, 0)) ∧ Below w.heap.size w wr)
  case atStart => exact ⟨0, rfl, by omega, HW.out.2.2.1, HW.out.1, HW.out.2.1, HW.out.2.2.2⟩
  case round =>
    obtain ⟨i, rfl, hk, hP, hx, hy, hb⟩ := hrel
    have HB := hid (And.intro hb (And.intro hP (And.intro hx hy)))
    by_cases hlt : i < 256
    · have hlt' : (i : Int) < 256 := by omega
      have hi0 : (0 : Int) ≤ (i : Int) := by omega
      have hi1 : IntKind.i64.wrap ((i : Int) + 1) = (i : Int) + 1 := wrapIn (by omega) (by omega)
      obtain ⟨ba, oa, x, rfl, _, hx1, pa⟩ := int_at (HV.out.1.below hb) hlt
      obtain ⟨bb, ob, y, rfl, _, hy1, pb⟩ := int_at (HV.out.2.1.below hb) hlt
      obtain ⟨e0, e1, e2⟩ := cells3 hx
      obtain ⟨f0, f1, f2⟩ := cells3 hy
      have hoi : (cps D E)[i]? = some (x, y) := by
        unfold cps
        rw [List.getElem?_map, List.getElem?_range hlt, Option.map_some, List.getD_eq_getElem?_getD, List.getD_eq_getElem?_getD, hx1, hy1]; rfl
      have hlp : (pfil (cps D E) i)[i]? = some ((pfil (cps D E) i)[i]'(by rw [pfil_len _ (by have := HV.out.2.2.2.2; omega), HV.out.2.2.2.2]; exact hlt)) := List.getElem?_eq_getElem _
      obtain ⟨q1, q2⟩ := hP.at_ hlp
      have g1 := Go.Frame.free hP (i * 2)
      have g2 := Go.Frame.free hP (i * 2 + 1)
      have HN := hid (show PB ((wr.setCell ⟨w.heap.size + 1 + 1, i * 2, none⟩ (.int .i64 x)).setCell ⟨w.heap.size + 1 + 1, i * 2 + 1, none⟩ (.int .i64 y)) (w.heap.size + 1 + 1) (pfil (cps D E) (i + 1)) from by
        rw [← pfil_set hoi]
        exact PB.set hP (x, y))
      clear hP hx hy hb hlp hoi hx1 hy1
      go_wp2
      go_region
      all_goals
        go_wp2
        go_roundg (gk - 1)
        case measure => omega
        case rel =>
          have hne0 : w.heap.size ≠ w.heap.size + 1 + 1 := by omega
          have hne1 : w.heap.size + 1 ≠ w.heap.size + 1 + 1 := by omega
          exact ⟨i + 1, by go_num, by omega, HN.out, blk_set (blk_set HB.out.2.2.1 hne0) hne0, blk_set (blk_set HB.out.2.2.2 hne1) hne1, (below_put (below_put HB.out.1 (show w.heap.size ≤ w.heap.size + 1 + 1 by omega)) (show w.heap.size ≤ w.heap.size + 1 + 1 by omega)).drew⟩
    · have hlt' : ¬ (i : Int) < 256 := by omega
      have hie : i = (cps D E).length := by have := HV.out.2.2.2.2; omega
      rw [hie, pfil_all] at hP
      have HI := hid hP
      clear hP hx hy hb hie
      go_wp2
      go_ret
      exact ⟨⟨w.heap.size + 1 + 1, rfl, HI.out, by omega⟩, HB.out.1⟩
end Go.Proofs.Ytelbagaiijffdaa
