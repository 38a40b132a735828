/-
  Contracts: dfa.Valid and what it calls.
-/
import Derived.Test.YtelbagaiijffdaaA
set_option linter.unusedSimpArgs false
set_option linter.unusedVariables false
namespace Go.Proofs.Ytelbagaiijffdaa
open Go.RowKit Lx Go.Frame

def rowOk (k n : Nat) (r : List Int) : Bool := decide (r.length = k) && r.all (inR (-1) ((n : Int) - 1))
set_option maxRecDepth 100000 in
set_option maxHeartbeats 4000000 in
theorem clo32_any (w : World) (B1 B2 k n : Nat) (a : Option Addr) (c : Nat) (r : List Int) (h1 : w.heap[B1]? = some (.cells #[.int .i64 (k : Int)] 3 (0, 0))) (h2 : w.heap[B2]? = some (.cells #[.int .i64 (n : Int)] 3 (0, 0))) (hr : Row w a r.length (r.map iv)) (hl : r.length ≤ 140737488355328) (hn : n ≤ 140737488355328) :
    Calls Try.prog 23 #[.slice a r.length c, .pointer (some ⟨B1, 0, none⟩), .pointer (some ⟨B2, 0, none⟩)] w fun e w' => e = .returned (.bool (!rowOk k n r)) ∧ Below w.heap.size w w' := by
  have CA := hid (allFrom_any w (-1) ((n : Int) - 1) a r.length c r hr hl)
  have c1 := cells1 h1
  have c2 := cells1 h2
  obtain ⟨q, hq⟩ : ∃ q, q = !rowOk k n r := ⟨_, rfl⟩
  rw [← hq]
  have HQ := hid hq
  obtain ⟨y, hy⟩ : ∃ y, y = r.all (inR (-1) ((n : Int) - 1)) := ⟨_, rfl⟩
  rw [← hy] at CA
  have HY := hid hy
  obtain ⟨m, hm⟩ : ∃ m, m = r.length := ⟨_, rfl⟩
  have HM := hid hm
  rw [← hm] at CA hl ⊢
  have e1 : IntKind.i64.wrap ((n : Int) - 1) = (n : Int) - 1 := wrapIn (by omega) (by omega)
  clear h1 h2 hr hq hy hm
  by_cases g : m = k
  · subst g
    go_enter Try.func23, Try.ntmps23
    go_wp2_with fail
    refine CA.out.mono ?_
    rintro e V ⟨rfl, b1⟩
    go_wp2
    go_ret
    refine ⟨?_, b1⟩
    rw [HQ.out]; unfold rowOk; rw [← HY.out, ← HM.out]; simp
  · have g2 : ((m : Int) != (k : Int)) = true := by simp; omega
    go_enter Try.func23, Try.ntmps23
    go_wp2
    go_ret
    refine ⟨?_, Below.refl _ _⟩
    rw [HQ.out]; unfold rowOk; rw [← HM.out, decide_eq_false g]; rfl
set_option maxRecDepth 100000 in
set_option maxHeartbeats 4000000 in
theorem idx37_any (w : World) (B1 B2 k n : Nat) (a : Option Addr) (m c : Nat) (l : List (List Int)) (h1 : w.heap[B1]? = some (.cells #[.int .i64 (k : Int)] 3 (0, 0))) (h2 : w.heap[B2]? = some (.cells #[.int .i64 (n : Int)] 3 (0, 0))) (hr : Rows2 w a m l) (hm : m ≤ 140737488355328) (hn : n ≤ 140737488355328) :
    Calls Try.prog 40 #[.slice a m c, .func (.func 23) #[] #[.pointer (some ⟨B1, 0, none⟩), .pointer (some ⟨B2, 0, none⟩)]] w fun e w' => (∃ x : Int, e = .returned (.int .i64 x) ∧ decide (0 ≤ x) = !l.all (rowOk k n)) ∧ Below w.heap.size w w' := by
  have CL := hid (fun V (hV : Below w.heap.size w V) a c r (hr : Row V a r.length (r.map iv)) (hl : r.length ≤ 140737488355328) => clo32_any V B1 B2 k n a c r ((hV.block _ (heap_lt h1)).trans h1) ((hV.block _ (heap_lt h2)).trans h2) hr hl hn)
  have HR := hid hr
  have HL := hid (show l.length = m from hr.1)
  clear h1 h2 hr
  go_enter Try.func40, Try.ntmps40
  go_wp2_with fail
  go_loopg [8] m (fun kk s8 wr => ∃ i : Nat, s8 = .int .i64 (i : Int) ∧ i + kk = m ∧ (l.take i).all (rowOk k n) = true ∧ Below w.heap.size w wr)
  case atStart => exact ⟨0, rfl, by omega, by simp, Below.refl _ _⟩
  case round =>
    obtain ⟨i, rfl, hik, htk, hbw⟩ := hrel
    by_cases hlt : i < m
    · have hlt' : (i : Int) < (m : Int) := by omega
      obtain ⟨b, off, r, ra, rc, rfl, _, hx, q0, hrow, hrl⟩ := row_at (HR.out.below hbw) hlt
      have HX := hid (And.intro htk (And.intro hbw hx))
      have CC := hid (CL.out wr hbw ra rc r hrow hrl)
      obtain ⟨y, hy⟩ : ∃ y, y = rowOk k n r := ⟨_, rfl⟩
      rw [← hy] at CC
      have HY := hid hy
      obtain ⟨rl, hrl2⟩ : ∃ rl, rl = r.length := ⟨_, rfl⟩
      rw [← hrl2] at CC q0
      clear htk hbw hx hy hrow hrl hrl2
      go_wp2_with fail
      refine CC.out.mono ?_
      rintro e V ⟨rfl, b1⟩
      have HZ := hid (HX.out.2.1.trans (b1.mono HX.out.2.1.size))
      clear b1
      cases y
      · go_wp2
        go_ret
        refine ⟨⟨i, rfl, ?_⟩, HZ.out⟩
        have h1 : l.all (rowOk k n) = false := by
          rw [List.all_eq_false]
          exact ⟨_, List.mem_of_getElem? HX.out.2.2, by rw [← HY.out]; simp⟩
        rw [h1]; simp
      · go_wp2
        go_roundg (gk - 1)
        case measure => omega
        case rel =>
          refine ⟨i + 1, by go_num, by omega, ?_, HZ.out⟩
          rw [List.take_add_one, HX.out.2.2, List.all_append, HX.out.1, Bool.true_and]
          simpa using HY.out.symm
    · have hlt' : ¬ (i : Int) < (m : Int) := by omega
      have hall : l.all (rowOk k n) = true := by rw [List.take_of_length_le (by have := HL.out; omega)] at htk; exact htk
      have HZ := hid (And.intro hall hbw)
      clear htk hbw hall
      go_wp2
      go_ret
      exact ⟨⟨-1, rfl, by rw [HZ.out.1]; rfl⟩, HZ.out.2⟩
set_option maxRecDepth 100000 in
set_option maxHeartbeats 4000000 in
theorem cont31_any (w : World) (B1 B2 k n : Nat) (a : Option Addr) (m c : Nat) (l : List (List Int)) (h1 : w.heap[B1]? = some (.cells #[.int .i64 (k : Int)] 3 (0, 0))) (h2 : w.heap[B2]? = some (.cells #[.int .i64 (n : Int)] 3 (0, 0))) (hr : Rows2 w a m l) (hm : m ≤ 140737488355328) (hn : n ≤ 140737488355328) :
    Calls Try.prog 22 #[.slice a m c, .func (.func 23) #[] #[.pointer (some ⟨B1, 0, none⟩), .pointer (some ⟨B2, 0, none⟩)]] w fun e w' => e = .returned (.bool (!l.all (rowOk k n))) ∧ Below w.heap.size w w' := by
  have CI := hid (idx37_any w B1 B2 k n a m c l h1 h2 hr hm hn)
  obtain ⟨y, hy⟩ : ∃ y, y = !l.all (rowOk k n) := ⟨_, rfl⟩
  rw [← hy] at CI ⊢
  clear hy h1 h2 hr
  go_enter Try.func22, Try.ntmps22
  go_wp2_with fail
  refine CI.out.mono ?_
  rintro r V ⟨⟨x, rfl, hx⟩, b1⟩
  by_cases h0 : 0 ≤ x
  · rw [decide_eq_true h0] at hx
    subst hx
    go_wp2
    go_ret
    exact ⟨rfl, b1⟩
  · rw [decide_eq_false h0] at hx
    subst hx
    go_wp2
    go_ret
    exact ⟨by show Ending.returned (.bool (decide (0 ≤ x))) = _; rw [decide_eq_false (by omega : ¬ 0 ≤ x)], b1⟩
theorem acc_all {l : List Int} (h : ∀ x ∈ l, x ≤ 9223372036854775807) : l.all (inR (-1) 9223372036854775807) = l.all fun x => decide (-1 ≤ x) := by
  rw [Bool.eq_iff_iff, List.all_eq_true, List.all_eq_true]
  constructor
  · intro h1 x hx; have := h1 x hx; unfold inR at this; rw [Bool.and_eq_true] at this; exact this.1
  · intro h1 x hx; unfold inR; rw [h1 x hx, decide_eq_true (h x hx)]; rfl
theorem valid_eq (D : Df) (n1 n2 n3 : Nat) (h1 : D.cls.length = n1) (h2 : D.nxt.length = n2) (h3 : D.acc.length = n3) : valid D = (decide (1 ≤ n2) && decide (n2 ≤ 500) && decide (1 ≤ wid D) && decide (n1 = 256) && D.cls.all (inR 0 ((wid D : Int) - 1)) && D.nxt.all (rowOk (wid D) n2) && decide (n3 = n2) && D.acc.all fun x => decide (-1 ≤ x)) := by
  rw [← h1, ← h2, ← h3]; rfl
set_option maxRecDepth 100000 in
set_option maxHeartbeats 4000000 in
theorem Valid_any (w : World) (D : Df) (a1 : Option Addr) (n1 c1 : Nat) (a2 : Option Addr) (n2 c2 : Nat) (a3 : Option Addr) (n3 c3 : Nat) (h : DA w D a1 n1 a2 n2 a3 n3) :
    Calls Try.prog 10 #[.agg #[.slice a1 n1 c1, .slice a2 n2 c2, .slice a3 n3 c3]] w fun e w' => e = .returned (.bool (valid D)) ∧ Below w.heap.size w w' := by
  have hve := valid_eq D n1 n2 n3 h.l1 h.l2 h.l3
  obtain ⟨q, hq⟩ : ∃ q, q = valid D := ⟨_, rfl⟩
  rw [← hq]
  rw [← hq] at hve
  have HQ := hid hve
  have hb1 := h.h1
  have hb2 := h.h2
  have hb3 := h.h3
  have HD := hid h
  obtain ⟨W, hW⟩ : ∃ W, W = (w.alloc (.cells #[.slice a1 n1 c1, .slice a2 n2 c2, .slice a3 n3 c3] 25)).alloc (.cells #[.int .i64 (n2 : Int)] 3) := ⟨_, rfl⟩
  obtain ⟨x1, x2, bW, sW⟩ := two w (.cells #[.slice a1 n1 c1, .slice a2 n2 c2, .slice a3 n3 c3] 25) (.cells #[.int .i64 (n2 : Int)] 3)
  have c10 := hid (alloc_new w (.cells #[.slice a1 n1 c1, .slice a2 n2 c2, .slice a3 n3 c3] 25))
  rw [← hW] at x1 x2 bW sW
  have HW := hid (And.intro x1 (And.intro x2 (And.intro bW sW)))
  obtain ⟨e0, e1, e2⟩ := cells3 c10.out
  clear hq hve h x1 x2 bW sW
  go_enter Try.func10, Try.ntmps10
  go_upto_region 2 with fail
  rw [← hW]
  clear hW e0 e1 e2
  obtain ⟨d0, d1, d2⟩ := cells3 HW.out.1
  have d3 := cells1 HW.out.2.1
  by_cases g1 : n2 < 1
  · have g1' : (n2 : Int) < 1 := by omega
    go_wp2
    go_ret
    exact ⟨by rw [HQ.out, decide_eq_false (by omega : ¬ 1 ≤ n2)]; simp, HW.out.2.2.1⟩
  by_cases g2 : 500 < n2
  · have g2' : (500 : Int) < (n2 : Int) := by omega
    go_wp2
    go_ret
    exact ⟨by rw [HQ.out, decide_eq_false (by omega : ¬ n2 ≤ 500)]; simp, HW.out.2.2.1⟩
  have g1' : ¬ (n2 : Int) < 1 := by omega
  have g2' : ¬ (500 : Int) < (n2 : Int) := by omega
  obtain ⟨b, off, r, ra, rc, rfl, _, hr0, p0, hrow, hrl⟩ := row_at (HD.out.below HW.out.2.2.1).nxt (i := 0) (by omega)
  have hwd : wid D = r.length := by
    unfold wid
    cases hh : D.nxt with
    | nil => rw [hh] at hr0; simp at hr0
    | cons x l => rw [hh] at hr0; simp at hr0; rw [hr0]; rfl
  obtain ⟨k, hk⟩ : ∃ k, k = r.length := ⟨_, rfl⟩
  rw [← hk] at p0 hrl
  rw [hwd, ← hk] at HQ
  have HQ := HQ
  rw [Nat.add_zero] at p0
  obtain ⟨X, hX⟩ : ∃ X, X = W.alloc (.cells #[.int .i64 (k : Int)] 3) := ⟨_, rfl⟩
  have bX : Below W.heap.size W X := by rw [hX]; exact bel1 _ _
  have HX := hid (show X.heap[w.heap.size]? = some (.cells #[.slice a1 n1 c1, .slice (some ⟨b, off, none⟩) n2 c2, .slice a3 n3 c3] 25 (0, 0)) ∧ X.heap[w.heap.size + 1]? = some (.cells #[.int .i64 (n2 : Int)] 3 (0, 0)) ∧ X.heap[W.heap.size]? = some (.cells #[.int .i64 (k : Int)] 3 (0, 0)) ∧ Below w.heap.size w X from
    ⟨(bX.block _ (heap_lt HW.out.1)).trans HW.out.1, (bX.block _ (heap_lt HW.out.2.1)).trans HW.out.2.1, by rw [hX]; exact alloc_new _ _, HW.out.2.2.1.trans (bX.mono HW.out.2.2.1.size)⟩)
  clear hrow hr0 hwd hk bX
  go_upto_region 5 with fail
  rw [← hX]
  clear hX d0 d1 d2 d3 p0
  obtain ⟨d0, d1, d2⟩ := cells3 HX.out.1
  have d3 := cells1 HX.out.2.1
  have d4 := cells1 HX.out.2.2.1
  by_cases g3 : 1 ≤ k
  · have g3' : (1 : Int) ≤ (k : Int) := by omega
    by_cases g4 : n1 = 256
    · have g4' : ((n1 : Int) == 256) = true := by simp [g4]
      have e1 : IntKind.i64.wrap ((k : Int) - 1) = (k : Int) - 1 := wrapIn (by omega) (by omega)
      have C1 := hid (fun V (hV : Below w.heap.size w V) => allFrom_any V 0 ((k : Int) - 1) a1 n1 c1 D.cls (HD.out.below hV).cls hb1)
      have C2 := hid (fun V (hV : Below X.heap.size X V) => cont31_any V W.heap.size (w.heap.size + 1) k n2 (some ⟨b, off, none⟩) n2 c2 D.nxt ((hV.block _ (heap_lt HX.out.2.2.1)).trans HX.out.2.2.1) ((hV.block _ (heap_lt HX.out.2.1)).trans HX.out.2.1) (HD.out.below (HX.out.2.2.2.trans (hV.mono HX.out.2.2.2.size))).nxt hb2 hb2)
      have C3 := hid (fun V (hV : Below w.heap.size w V) => allFrom_any V (-1) 9223372036854775807 a3 n3 c3 D.acc (HD.out.below hV).acc hb3)
      obtain ⟨y1, hy1⟩ : ∃ y, y = D.cls.all (inR 0 ((k : Int) - 1)) := ⟨_, rfl⟩
      obtain ⟨y2, hy2⟩ : ∃ y, y = D.nxt.all (rowOk k n2) := ⟨_, rfl⟩
      obtain ⟨y3, hy3⟩ : ∃ y, y = D.acc.all (inR (-1) 9223372036854775807) := ⟨_, rfl⟩
      have hq9 : q = (y1 && y2 && decide (n3 = n2) && y3) := by
        rw [HQ.out, hy3, acc_all HD.out.mx, decide_eq_true (by omega : 1 ≤ n2), decide_eq_true (by omega : n2 ≤ 500), decide_eq_true g3, decide_eq_true g4, ← hy1, ← hy2]; simp
      rw [← hy1] at C1
      rw [← hy2] at C2
      rw [← hy3] at C3
      have HQ9 := hid hq9
      subst g4
      clear hy1 hy2 hy3 hq9 HQ
      go_wp2_with fail
      refine (C1.out _ HX.out.2.2.2).mono ?_
      rintro e V1 ⟨rfl, b1⟩
      have Z1 := hid b1
      have d0 := cells3 ((b1.block _ (heap_lt HX.out.1)).trans HX.out.1)
      have d3 := cells1 ((b1.block _ (heap_lt HX.out.2.1)).trans HX.out.2.1)
      obtain ⟨d0, d1, d2⟩ := d0
      clear b1 C1
      cases y1
      · go_wp2
        go_ret
        exact ⟨by rw [HQ9.out]; rfl, HX.out.2.2.2.trans (Z1.out.mono HX.out.2.2.2.size)⟩
      · go_wp2_with fail
        refine (C2.out _ Z1.out).mono ?_
        rintro e V2 ⟨rfl, b2⟩
        have Z2 := hid (Z1.out.trans (b2.mono Z1.out.size))
        clear b2 C2 d0 d1 d2 d3
        obtain ⟨d0, d1, d2⟩ := cells3 ((Z2.out.block _ (heap_lt HX.out.1)).trans HX.out.1)
        have d3 := cells1 ((Z2.out.block _ (heap_lt HX.out.2.1)).trans HX.out.2.1)
        cases y2
        · go_wp2
          go_ret
          exact ⟨by rw [HQ9.out]; rfl, HX.out.2.2.2.trans (Z2.out.mono HX.out.2.2.2.size)⟩
        · by_cases g5 : n3 = n2
          · subst g5
            go_wp2_with fail
            refine (C3.out _ (HX.out.2.2.2.trans (Z2.out.mono HX.out.2.2.2.size))).mono ?_
            rintro e V3 ⟨rfl, b3⟩
            go_wp2
            go_ret
            refine ⟨by rw [HQ9.out]; simp, HX.out.2.2.2.trans ((Z2.out.trans (b3.mono Z2.out.size)).mono HX.out.2.2.2.size)⟩
          · have g5' : ((n3 : Int) == (n2 : Int)) = false := by simp; omega
            go_wp2
            go_ret
            exact ⟨by rw [HQ9.out, decide_eq_false g5]; rfl, HX.out.2.2.2.trans (Z2.out.mono HX.out.2.2.2.size)⟩
    · have g4' : ((n1 : Int) == 256) = false := by simp; omega
      go_wp2
      go_ret
      exact ⟨by rw [HQ.out, decide_eq_false g4]; simp, HX.out.2.2.2⟩
  · have g3' : ¬ (1 : Int) ≤ (k : Int) := by omega
    go_wp2
    go_ret
    exact ⟨by rw [HQ.out, decide_eq_false g3]; simp, HX.out.2.2.2⟩

end Go.Proofs.Ytelbagaiijffdaa
