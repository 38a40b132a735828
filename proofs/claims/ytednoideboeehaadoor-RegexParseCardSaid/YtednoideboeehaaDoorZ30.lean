/-
  The reference's parser: contract: Parse.
-/
import Derived.Test.YtednoideboeehaaDoorZ29
import Derived.Test.YtednoideboeehaaDoorZ09
section
set_option linter.unusedSimpArgs false
set_option linter.unusedVariables false
namespace Go.Proofs.YtednoideboeehaaDoor
open Go.RowKit Bs Rg Go.Frame
attribute [local go_sem] eq_zero eq_set

/-- What Parse answers behind the descent. -/
def endR (x : Rx) (n : Nat) : List UInt8 → Rx × Nat × Nat
  | [] => if depth x ≤ 30 then (x, 0, 0) else (zr, 0, 11)
  | _ :: t => (zr, n - (t.length + 1), 3)
/-- Parse's boxes: the result, what has been parsed, the parser. -/
structure PJ (s : ByteArray) (w W : World) (B : Nat) (k : Int) (S : BS) (l : List Rx) (a : Option Addr) (n c : Nat) (t : List UInt8) (bad : Bool) : Prop where
  res : W.heap[w.heap.size]? = some (.cells #[.int .i64 0, .int .u64 0, .int .u64 0, .int .u64 0, .int .u64 0, .slice none 0 0] 27 (0, 0))
  box : W.heap[B]? = some (.cells #[.int .i64 k, .int .u64 (ws S 0 : Int), .int .u64 (ws S 1 : Int), .int .u64 (ws S 2 : Int), .int .u64 (ws S 3 : Int), .slice a n c] 27 (0, 0))
  kd : Kd (ge (w.heap.size + 2)) W a n l
  bel : Below w.heap.size w W
  rs : RS (w.heap.size + 1) s W t bad
theorem PJ.below {s : ByteArray} {w W W' : World} {B n c : Nat} {k : Int} {S : BS} {l : List Rx} {a : Option Addr} {t : List UInt8} {bad : Bool} (h : PJ s w W B k S l a n c t bad) (hb : Below W.heap.size W W') : PJ s w W' B k S l a n c t bad :=
  ⟨(hb.block _ (heap_lt h.res)).trans h.res, (hb.block _ (heap_lt h.box)).trans h.box, h.kd.below hb, h.bel.trans (hb.mono h.bel.size), h.rs.below hb⟩
set_option maxRecDepth 100000 in
set_option maxHeartbeats 4000000 in
theorem rParse_any (s : ByteArray) (w : World) (hs : s.size ≤ 1000000) :
    Calls Tryd.prog 17 #[.string s] w fun e w' => (∃ cs : List Value, e = .returned (.tuple #[.agg cs.toArray, .int .i64 ((parseR s.data.toList).2.1 : Int), .int .i64 ((parseR s.data.toList).2.2 : Int)]) ∧ RC (ge w.heap.size) w' (parseR s.data.toList).1 cs) ∧ Below w.heap.size w w' := by
  obtain ⟨l, hl⟩ : ∃ l, l = s.data.toList := ⟨_, rfl⟩
  have hll : l.length = s.size := by rw [hl]; rfl
  rw [← hl]
  obtain ⟨W1, hW1⟩ : ∃ W1, W1 = (w.alloc (.cells #[.int .i64 0, .int .u64 0, .int .u64 0, .int .u64 0, .int .u64 0, .slice none 0 0] 27)).alloc (.cells #[.string s, .int .i64 0, .bool false] 56) := ⟨_, rfl⟩
  have h9 : W1.heap.size = w.heap.size + 2 := by rw [hW1]; simp
  have hR1 : RS (w.heap.size + 1) s W1 l false := by
    refine ⟨?_, by rw [hll]; simp [hl], by omega, hs⟩
    rw [hW1, hll, Nat.sub_self]
    exact alloc_at _ _ (by simp)
  have H1 := hid (show W1.heap[w.heap.size]? = some (.cells #[.int .i64 0, .int .u64 0, .int .u64 0, .int .u64 0, .int .u64 0, .slice none 0 0] 27 (0, 0)) ∧ Below w.heap.size w W1 ∧ W1.heap.size = w.heap.size + 2 from
    ⟨by rw [hW1]; exact blk_alloc (alloc_new _ _), by rw [hW1]; exact (bel1 _ _).alloc (by simp) _, h9⟩)
  have C := hid ((rdescent (w.heap.size + 1) s (4 * l.length + 4)).2.2.2 W1 l hR1 (Nat.le_refl _))
  obtain ⟨q, hq⟩ : ∃ q, q = parseR l := ⟨_, rfl⟩
  rw [← hq]
  have HQ := hid hq
  have HLL := hid hll
  clear hl h9 hR1 hq
  go_enter Tryd.func17, Tryd.ntmps17
  go_wp2_with fail
  rw [← hW1]
  clear hW1
  refine C.out.mono ?_
  rintro e W2 ⟨hpk, x', cs, rfl, hrc, hm⟩
  obtain ⟨k1, S1, l1⟩ := x'
  obtain ⟨a1, n1, c1, rfl, hKd⟩ := RC_mk.1 hrc
  rw [rcs_arr2]
  obtain ⟨W3, hW3⟩ : ∃ V, V = W2.alloc (.cells #[.int .i64 k1, .int .u64 (ws S1 0 : Int), .int .u64 (ws S1 1 : Int), .int .u64 (ws S1 2 : Int), .int .u64 (ws S1 3 : Int), .slice a1 n1 c1] 27) := ⟨_, rfl⟩
  have hbl : Below W2.heap.size W2 W3 := by rw [hW3]; exact bel1 _ _
  obtain ⟨bad, t, hRt, hat⟩ : ∃ bad t, RS (w.heap.size + 1) s W2 t bad ∧ (if bad = true then q = (zr, l.length - t.length, 3) else q = endR (.mk k1 S1 l1) l.length t ∧ Vd (.mk k1 S1 l1)) := by
    rw [HQ.out]
    unfold parseR
    cases hr : pRegex (4 * l.length + 4) l with
    | bad t => rw [hr] at hm; exact ⟨true, t, hm, by rw [if_pos rfl]⟩
    | ok x t =>
      rw [hr] at hm
      obtain ⟨rfl, hm⟩ := hm
      refine ⟨false, t, hm, ?_⟩
      rw [if_neg (by simp)]
      exact ⟨by cases t <;> rfl, (p_vd _).2.2.2.1 hr⟩
  have H3 := hid (show PJ s w W3 W2.heap.size k1 S1 l1 a1 n1 c1 t bad from
    ⟨((hpk.trans (Pk.of hbl)).block (by omega) (heap_lt H1.out.1)).trans H1.out.1, by rw [hW3]; exact alloc_new _ _, (hKd.more (fun b hb => (show w.heap.size + 2 ≤ b from by have h1 : W1.heap.size ≤ b := hb; have := H1.out.2.2; omega))).below hbl, Pk.toBelow H1.out.2.1 (by omega) (by have := H1.out.2.2; omega) (hpk.trans (Pk.of hbl)), hRt.below hbl⟩)
  have HA := hid hat
  clear hpk hrc hKd hm hbl hRt hat
  go_upto_region 3 with fail
  rw [← hW3]
  clear hW3
  obtain ⟨z0, z1, z2⟩ := H3.out.rs.cells
  cases bad with
  | true =>
    have HF := hid (show q = (zr, l.length - t.length, 3) from by have := HA.out; rwa [if_pos rfl] at this)
    obtain ⟨p, hp⟩ : ∃ p, p = s.size - t.length := ⟨_, rfl⟩
    rw [← hp] at z1
    have HP := hid hp
    clear hp
    go_upto_region 4 with fail
    have hres := H3.out.res
    obtain ⟨d0, d1, d2, d3, d4, d5⟩ := cells6 hres
    have f0 := Go.Frame.free hres 0
    have f1 := Go.Frame.free hres 1
    have f2 := Go.Frame.free hres 2
    have f3 := Go.Frame.free hres 3
    have f4 := Go.Frame.free hres 4
    have f5 := Go.Frame.free hres 5
    clear hres
    go_region
    have zz := six_set (y0 := .int .i64 0) (y1 := .int .u64 0) (y2 := .int .u64 0) (y3 := .int .u64 0) (y4 := .int .u64 0) (y5 := .slice none 0 0) H3.out.res
    obtain ⟨r0, r1, r2, r3, r4, r5⟩ := cells6 zz
    have hbel := below_six (x0 := .int .i64 0) (x1 := .int .u64 0) (x2 := .int .u64 0) (x3 := .int .u64 0) (x4 := .int .u64 0) (x5 := .slice none 0 0) H3.out.bel
    have hdr := hbel.drew
    go_wp2
    refine bodyPost_ret (v := .tuple #[.agg #[.int .i64 0, .int .u64 0, .int .u64 0, .int .u64 0, .int .u64 0, .slice none 0 0], .int .i64 (p : Int), .int .i64 3]) ?_ rfl ⟨⟨[.int .i64 0, .int .u64 0, .int .u64 0, .int .u64 0, .int .u64 0, .slice none 0 0], by rw [HF.out]; show Ending.returned _ = _; rw [HP.out, HLL.out]; rfl, by rw [HF.out]; exact zr_rc _ _⟩, hdr⟩
    simp [results, Tryd.results17, go_sem, r0, r1, r2, r3, r4, r5]
    all_goals (rw [HP.out]; simp)

  | false =>
    have HF0 := hid (show q = endR (.mk k1 S1 l1) l.length t ∧ Vd (.mk k1 S1 l1) from by have := HA.out; rwa [if_neg (by simp)] at this)
    cases t with
    | cons b t2 =>
      have HF := hid (show q = (zr, l.length - (b :: t2).length, 3) from HF0.out.1)
      obtain ⟨p, hp⟩ : ∃ p, p = s.size - (b :: t2).length := ⟨_, rfl⟩
      rw [← hp] at z1
      have HP := hid hp
      have hlt : (p : Int) < (s.size : Int) := by have := H3.out.rs.le; simp at this; have := HP.out; simp at this; omega
      clear hp
      go_upto_region 4 with fail
      have hres := H3.out.res
      obtain ⟨d0, d1, d2, d3, d4, d5⟩ := cells6 hres
      have f0 := Go.Frame.free hres 0
      have f1 := Go.Frame.free hres 1
      have f2 := Go.Frame.free hres 2
      have f3 := Go.Frame.free hres 3
      have f4 := Go.Frame.free hres 4
      have f5 := Go.Frame.free hres 5
      clear hres
      go_region
      have zz := six_set (y0 := .int .i64 0) (y1 := .int .u64 0) (y2 := .int .u64 0) (y3 := .int .u64 0) (y4 := .int .u64 0) (y5 := .slice none 0 0) H3.out.res
      obtain ⟨r0, r1, r2, r3, r4, r5⟩ := cells6 zz
      have hbel := below_six (x0 := .int .i64 0) (x1 := .int .u64 0) (x2 := .int .u64 0) (x3 := .int .u64 0) (x4 := .int .u64 0) (x5 := .slice none 0 0) H3.out.bel
      have hdr := hbel.drew
      go_wp2
      refine bodyPost_ret (v := .tuple #[.agg #[.int .i64 0, .int .u64 0, .int .u64 0, .int .u64 0, .int .u64 0, .slice none 0 0], .int .i64 (p : Int), .int .i64 3]) ?_ rfl ⟨⟨[.int .i64 0, .int .u64 0, .int .u64 0, .int .u64 0, .int .u64 0, .slice none 0 0], by rw [HF.out]; show Ending.returned _ = _; rw [HP.out, HLL.out]; rfl, by rw [HF.out]; exact zr_rc _ _⟩, hdr⟩
      simp [results, Tryd.results17, go_sem, r0, r1, r2, r3, r4, r5]
      all_goals (rw [HP.out]; simp)

    | nil =>
      rw [List.length_nil, Nat.sub_zero] at z1
      have hlt : ¬ (s.size : Int) < (s.size : Int) := by omega
      obtain ⟨p0, p1, p2, p3, p4, p5⟩ := cells6 H3.out.box
      have CV := hid (show Calls Tryd.prog 15 #[.agg #[.int .i64 k1, .int .u64 (ws S1 0 : Int), .int .u64 (ws S1 1 : Int), .int .u64 (ws S1 2 : Int), .int .u64 (ws S1 3 : Int), .slice a1 n1 c1]] W3 _ from rValid_any (ge (w.heap.size + 2)) (.mk k1 S1 l1) W3 (rcs k1 S1 (.slice a1 n1 c1)) (RC_mk.2 ⟨_, _, _, rfl, H3.out.kd⟩))
      obtain ⟨y, hy⟩ : ∃ y, y = fits (.mk k1 S1 l1) 30 := ⟨_, rfl⟩
      rw [← hy] at CV
      have HY := hid hy
      clear hy
      go_wp2_with fail
      refine CV.out.mono ?_
      rintro e W4 ⟨rfl, b4⟩
      have H4 := hid (H3.out.below b4)
      clear b4 p0 p1 p2 p3 p4 p5 z0 z1 z2
      cases y with
      | false =>
        have HF := hid (show q = (zr, 0, 11) from by
          rw [HF0.out.1]
          show (if depth (.mk k1 S1 l1) ≤ 30 then ((.mk k1 S1 l1 : Rx), 0, 0) else (zr, 0, 11)) = _
          rw [if_neg (fun h => by have := (fits_depth HF0.out.2).2 h; rw [← HY.out] at this; cases this)])
        have hres := H4.out.res
        obtain ⟨d0, d1, d2, d3, d4, d5⟩ := cells6 hres
        have f0 := Go.Frame.free hres 0
        have f1 := Go.Frame.free hres 1
        have f2 := Go.Frame.free hres 2
        have f3 := Go.Frame.free hres 3
        have f4 := Go.Frame.free hres 4
        have f5 := Go.Frame.free hres 5
        clear hres
        go_wp2
        have zz := six_set (y0 := .int .i64 0) (y1 := .int .u64 0) (y2 := .int .u64 0) (y3 := .int .u64 0) (y4 := .int .u64 0) (y5 := .slice none 0 0) H4.out.res
        obtain ⟨r0, r1, r2, r3, r4, r5⟩ := cells6 zz
        have hbel := below_six (x0 := .int .i64 0) (x1 := .int .u64 0) (x2 := .int .u64 0) (x3 := .int .u64 0) (x4 := .int .u64 0) (x5 := .slice none 0 0) H4.out.bel
        refine bodyPost_ret (v := .tuple #[.agg #[.int .i64 0, .int .u64 0, .int .u64 0, .int .u64 0, .int .u64 0, .slice none 0 0], .int .i64 0, .int .i64 11]) ?_ rfl ⟨⟨[.int .i64 0, .int .u64 0, .int .u64 0, .int .u64 0, .int .u64 0, .slice none 0 0], by rw [HF.out]; rfl, by rw [HF.out]; exact zr_rc _ _⟩, hbel⟩
        simp [results, Tryd.results17, go_sem, r0, r1, r2, r3, r4, r5]
      | true =>
        have HF := hid (show q = (.mk k1 S1 l1, 0, 0) from by
          rw [HF0.out.1]
          show (if depth (.mk k1 S1 l1) ≤ 30 then ((.mk k1 S1 l1 : Rx), 0, 0) else (zr, 0, 11)) = _
          rw [if_pos ((fits_depth HF0.out.2).1 HY.out.symm)])
        obtain ⟨p0, p1, p2, p3, p4, p5⟩ := cells6 H4.out.box
        have hres := H4.out.res
        obtain ⟨d0, d1, d2, d3, d4, d5⟩ := cells6 hres
        have f0 := Go.Frame.free hres 0
        have f1 := Go.Frame.free hres 1
        have f2 := Go.Frame.free hres 2
        have f3 := Go.Frame.free hres 3
        have f4 := Go.Frame.free hres 4
        have f5 := Go.Frame.free hres 5
        clear hres
        go_wp2
        have zz := six_set (y0 := .int .i64 k1) (y1 := .int .u64 (ws S1 0 : Int)) (y2 := .int .u64 (ws S1 1 : Int)) (y3 := .int .u64 (ws S1 2 : Int)) (y4 := .int .u64 (ws S1 3 : Int)) (y5 := .slice a1 n1 c1) H4.out.res
        obtain ⟨r0, r1, r2, r3, r4, r5⟩ := cells6 zz
        have hbel := below_six (x0 := .int .i64 k1) (x1 := .int .u64 (ws S1 0 : Int)) (x2 := .int .u64 (ws S1 1 : Int)) (x3 := .int .u64 (ws S1 2 : Int)) (x4 := .int .u64 (ws S1 3 : Int)) (x5 := .slice a1 n1 c1) H4.out.bel
        refine bodyPost_ret (v := .tuple #[.agg #[.int .i64 k1, .int .u64 (ws S1 0 : Int), .int .u64 (ws S1 1 : Int), .int .u64 (ws S1 2 : Int), .int .u64 (ws S1 3 : Int), .slice a1 n1 c1], .int .i64 0, .int .i64 0]) ?_ rfl ⟨⟨rcs k1 S1 (.slice a1 n1 c1), by rw [HF.out]; rfl, by rw [HF.out]; exact RC_mk.2 ⟨a1, n1, c1, rfl, (kd_six H4.out.kd fun b hb => by have h1 : w.heap.size + 2 ≤ b := hb; omega).more fun b hb => by have h1 : w.heap.size + 2 ≤ b := hb; show w.heap.size ≤ b; omega⟩⟩, hbel⟩
        simp [results, Tryd.results17, go_sem, r0, r1, r2, r3, r4, r5]
end Go.Proofs.YtednoideboeehaaDoor
end
