/-
  Contract: words.
-/
import Derived.Test.YtblcjjhjgoccgaaXj
import Derived.Test.YtblcjjhjgoccgaaL7
set_option linter.unusedSimpArgs false
set_option linter.unusedVariables false
namespace Go.Proofs.Ytblcjjhjgoccgaa
open Go.RowKit Lx Go.Frame Bs
attribute [local irreducible] nb cnt pc els cf fs

def cl (t : Nat) : Nat := if t = 32 then 1 else if 97 ≤ t ∧ t ≤ 122 then 2 else 0
def blank : ByteArray := ⟨#[32]⟩
def wE : List (Nat → Bool) := [rgp 97 (122 + 1), ofp blank blank.size]
theorem of_blank (x : Nat) : ofp blank blank.size x = decide (x = 32) := by
  have h : ofp blank (0 + 1) = add1 (ofp blank 0) (blank[0]'(by decide)).toNat := ofp_next blank (by decide)
  have h0 : ofp blank 0 x = false := rfl
  show ofp blank (0 + 1) x = _
  rw [h]
  unfold add1
  rw [h0]
  have : (blank[0]'(by decide)).toNat = 32 := rfl
  rw [this]
  by_cases e : x = 32 <;> simp [e]
theorem wE_em (a b : Nat) : Em wE a b = decide (cl a = cl b) := by
  unfold Em wE
  simp only [List.all_cons, List.all_nil, Bool.and_true, of_blank]
  unfold rgp cl
  by_cases a1 : a = 32
  · subst a1
    by_cases b1 : b = 32
    · subst b1; rfl
    · by_cases b2 : 97 ≤ b ∧ b ≤ 122
      · simp [b1, b2]
      · simp [b1, b2]
  · by_cases b1 : b = 32
    · subst b1
      by_cases a2 : 97 ≤ a ∧ a ≤ 122
      · simp [a1, a2]
      · simp [a1, a2]
    · have e1 : ∀ z : Nat, (decide (97 ≤ z) && decide (z < 122 + 1)) = decide (97 ≤ z ∧ z ≤ 122) := fun z => by
        rw [← Bool.decide_and]; exact decide_eq_decide.2 (by omega)
      rw [e1, e1]
      by_cases a2 : 97 ≤ a ∧ a ≤ 122 <;> by_cases b2 : 97 ≤ b ∧ b ≤ 122 <;> simp [a1, b1, a2, b2]
def fc (t : Nat) : Nat := if t = 32 then 32 else if 97 ≤ t ∧ t ≤ 122 then 97 else 0
theorem wE_fs (t : Nat) : fs (Em wE) t = fc t := by
  rw [fs]
  refine lst_eq ?_ (fun _ => ?_) (fun b hb => ?_)
  · unfold fc; split <;> (try split) <;> omega
  · rw [wE_em]
    unfold fc
    by_cases h1 : t = 32
    · subst h1; rfl
    · by_cases h2 : 97 ≤ t ∧ t ≤ 122
      · rw [if_neg h1, if_pos h2]; unfold cl; simp [h1, h2]
      · rw [if_neg h1, if_neg h2]; unfold cl; simp [h1, h2]
  · rw [wE_em]
    unfold fc at hb
    by_cases h1 : t = 32
    · subst h1
      simp at hb
      unfold cl
      have n1 : ¬ b = 32 := by omega
      have n2 : ¬ (97 ≤ b ∧ b ≤ 122) := by omega
      simp [n1, n2]
    · by_cases h2 : 97 ≤ t ∧ t ≤ 122
      · rw [if_neg h1, if_pos h2] at hb
        unfold cl
        have n2 : ¬ (97 ≤ b ∧ b ≤ 122) := by omega
        by_cases n1 : b = 32 <;> simp [h1, h2, n1, n2]
      · rw [if_neg h1, if_neg h2] at hb; omega
theorem wE_cf : ∀ n, cf (Em wE) n = (if 0 < n then 1 else 0) + (if 32 < n then 1 else 0) + (if 97 < n then 1 else 0)
  | 0 => by rw [cf]; rfl
  | n + 1 => by
    rw [cf, wE_cf n, wE_fs]
    unfold fc
    by_cases h1 : n = 32
    · subst h1; rfl
    · by_cases h2 : 97 ≤ n ∧ n ≤ 122
      · rw [if_neg h1, if_pos h2]
        by_cases h3 : 97 = n
        · subst h3; rfl
        · rw [if_neg h3, if_pos (by omega), if_pos (by omega), if_pos (by omega), if_pos (by omega), if_pos (by omega), if_pos (by omega)]
      · rw [if_neg h1, if_neg h2]
        by_cases h3 : 0 = n
        · subst h3; rfl
        · rw [if_neg h3, if_pos (by omega), if_pos (show 0 < n + 1 by omega)]
          have e1 : (32 < n + 1) ↔ (32 < n) := by omega
          have e2 : (97 < n + 1) ↔ (97 < n) := by omega
          simp only [e1, e2, Nat.add_zero]
theorem wE_num (t : Nat) : num (Em wE) t = cl t := by
  unfold num
  rw [wE_fs, wE_cf]
  unfold fc cl
  by_cases h1 : t = 32
  · simp [h1]
  · by_cases h2 : 97 ≤ t ∧ t ≤ 122 <;> simp [h1, h2]
/-- The automaton of the document's example: runs of letters, single blanks. -/
def wordD : Df := ⟨List.replicate 32 0 ++ [1] ++ List.replicate 64 0 ++ List.replicate 26 2 ++ List.replicate 133 0, [[-1, 2, 1], [-1, -1, 1], [-1, -1, -1]], [-1, 0, 1]⟩
theorem wordD_vd : Vd wordD 3 3 where
  hn := rfl
  pos := by decide
  le := by decide
  k1 := by decide
  cl := by kernel_rfl
  cls := by
    intro x hx
    simp only [wordD, List.mem_append, List.mem_replicate, List.mem_cons, List.not_mem_nil, or_false] at hx
    rcases hx with ((((⟨_, rfl⟩ | rfl) | ⟨_, rfl⟩) | ⟨_, rfl⟩) | ⟨_, rfl⟩)
    · exact ⟨0, by decide, rfl⟩
    · exact ⟨1, by decide, rfl⟩
    · exact ⟨0, by decide, rfl⟩
    · exact ⟨2, by decide, rfl⟩
    · exact ⟨0, by decide, rfl⟩
  row := by
    intro r hr
    simp only [wordD, List.mem_cons, List.not_mem_nil, or_false] at hr
    rcases hr with rfl | rfl | rfl <;> exact ⟨rfl, by decide⟩
  al := rfl
  acc := by decide
theorem word_cls : ic 256 (fun t => (num (Em wE) t : Int)) = (wordD.cls.map iv).toArray := by
  rw [ic_congr (T := fun t => (num (Em wE) t : Int)) (U := fun t => (cl t : Int)) (fun t _ => by rw [wE_num])]
  kernel_rfl
def wdObjs (s : Nat) : List Obj := [.cells #[.int .i64 (-1), .int .i64 2, .int .i64 1] 3, .cells #[.int .i64 (-1), .int .i64 (-1), .int .i64 1] 3, .cells #[.int .i64 (-1), .int .i64 (-1), .int .i64 (-1)] 3,
  .cells #[.slice (some ⟨s, 0, none⟩) 3 3, .slice (some ⟨s + 1, 0, none⟩) 3 3, .slice (some ⟨s + 1 + 1, 0, none⟩) 3 3] 22, .cells #[.int .i64 (-1), .int .i64 0, .int .i64 1] 3]
/-- What words returns. -/
def WdRes (w : World) (e : Ending) (w' : World) : Prop := ∃ a1 a2 a3, e = .returned (.agg #[.slice a1 256 256, .slice a2 3 3, .slice a3 3 3]) ∧ DA w' wordD a1 256 a2 3 a3 3 ∧ Below w.heap.size w w'
theorem sets_blk {W : World} {b : Nat} {p q : Nat → Bool} (h : W.heap[b]? = some (.cells #[.int .u64 (wd p 0 : Int), .int .u64 (wd p 1 : Int), .int .u64 (wd p 2 : Int), .int .u64 (wd p 3 : Int), .int .u64 (wd q 0 : Int), .int .u64 (wd q 1 : Int), .int .u64 (wd q 2 : Int), .int .u64 (wd q 3 : Int)] 64 (0, 0))) : Sets W (some ⟨b, 0, none⟩) 2 [p, q] := by
  refine ⟨rfl, .inr ⟨b, 0, rfl, heap_lt h, fun i cs hi j v hj => ?_⟩⟩
  simp only [World.cell?, h]
  match i, hi with
  | 0, hi =>
    simp only [List.map_cons, List.getElem?_cons_zero, Option.some.injEq] at hi
    subst hi
    match j, hj with
    | 0, hj => simpa [sl] using hj
    | 1, hj => simpa [sl] using hj
    | 2, hj => simpa [sl] using hj
    | 3, hj => simpa [sl] using hj
    | j + 4, hj => simp [sl] at hj
  | 1, hi =>
    simp only [List.map_cons, List.map_nil, List.getElem?_cons_succ, List.getElem?_cons_zero, Option.some.injEq] at hi
    subst hi
    match j, hj with
    | 0, hj => simpa [sl] using hj
    | 1, hj => simpa [sl] using hj
    | 2, hj => simpa [sl] using hj
    | 3, hj => simpa [sl] using hj
    | j + 4, hj => simp [sl] at hj
  | i + 2, hi => simp at hi
set_option maxRecDepth 100000 in
set_option maxHeartbeats 4000000 in
theorem words_any (w : World) : Calls Try.prog 19 #[] w (WdRes w) := by
  obtain ⟨W, hW⟩ : ∃ W, W = w.alloc (.cells #[.slice none 0 0, .slice none 0 0, .slice none 0 0] 25) := ⟨_, rfl⟩
  have x0 := alloc_new w (.cells #[.slice none 0 0, .slice none 0 0, .slice none 0 0] 25)
  have bW := bel1 w (.cells #[.slice none 0 0, .slice none 0 0, .slice none 0 0] 25)
  rw [← hW] at x0 bW
  have HW := hid (And.intro x0 bW)
  clear x0 bW
  have C1 := hid (fun V => show Calls Try.prog 33 #[.int .u8 97, .int .u8 122] V fun e w' => e = .returned (.agg #[.int .u64 (wd (rgp 97 (122 + 1)) 0 : Int), .int .u64 (wd (rgp 97 (122 + 1)) 1 : Int), .int .u64 (wd (rgp 97 (122 + 1)) 2 : Int), .int .u64 (wd (rgp 97 (122 + 1)) 3 : Int)]) ∧ Below V.heap.size V w' from rRange_any 97 122 V (by decide) (by decide))
  have C2 := hid (fun V => show Calls Try.prog 34 #[.string { data := #[32] }] V fun e w' => e = .returned (.agg #[.int .u64 (wd (ofp blank blank.size) 0 : Int), .int .u64 (wd (ofp blank blank.size) 1 : Int), .int .u64 (wd (ofp blank blank.size) 2 : Int), .int .u64 (wd (ofp blank blank.size) 3 : Int)]) ∧ Below V.heap.size V w' from rOf_any blank V (by decide))
  obtain ⟨P, hP⟩ : ∃ P, P = rgp 97 (122 + 1) := ⟨_, rfl⟩
  obtain ⟨Q, hQ⟩ : ∃ Q, Q = ofp blank blank.size := ⟨_, rfl⟩
  have HE := hid (show wE = [P, Q] from by rw [hP, hQ]; rfl)
  rw [← hP] at C1
  rw [← hQ] at C2
  clear hP hQ
  go_enter Try.func19, Try.ntmps19
  go_upto_region 1 with fail
  rw [← hW]
  clear hW
  go_wp2_with fail
  refine (C1.out W).mono ?_
  rintro e V1 ⟨rfl, b1⟩
  have H1 := hid (And.intro ((b1.block _ (heap_lt HW.out.1)).trans HW.out.1) (HW.out.2.trans (b1.mono HW.out.2.size)))
  clear b1
  go_wp2_with fail
  refine (C2.out V1).mono ?_
  rintro e V2 ⟨rfl, b2⟩
  have H2 := hid (And.intro ((b2.block _ (heap_lt H1.out.1)).trans H1.out.1) (H1.out.2.trans (b2.mono H1.out.2.size)))
  clear b2
  go_upto_region 2 with fail
  have CC := hid (rClasses_any (some ⟨V2.heap.size, 0, none⟩) 2 2 [P, Q] (V2.alloc (.cells #[.int .u64 (wd P 0 : Int), .int .u64 (wd P 1 : Int), .int .u64 (wd P 2 : Int), .int .u64 (wd P 3 : Int), .int .u64 (wd Q 0 : Int), .int .u64 (wd Q 1 : Int), .int .u64 (wd Q 2 : Int), .int .u64 (wd Q 3 : Int)] 64)) (by decide) (sets_blk (alloc_new _ _)))
  refine CC.out.mono ?_
  rintro e V3 ⟨⟨g, rfl, hg, hg2⟩, b3⟩
  have b23 := (bel1 V2 (.cells #[.int .u64 (wd P 0 : Int), .int .u64 (wd P 1 : Int), .int .u64 (wd P 2 : Int), .int .u64 (wd P 3 : Int), .int .u64 (wd Q 0 : Int), .int .u64 (wd Q 1 : Int), .int .u64 (wd Q 2 : Int), .int .u64 (wd Q 3 : Int)] 64)).trans (b3.mono (by simp))
  have H3 := hid (And.intro ((b23.block _ (heap_lt H2.out.1)).trans H2.out.1) (H2.out.2.trans (b23.mono H2.out.2.size)))
  rw [← HE.out, word_cls] at hg
  have HG := hid (And.intro hg (show w.heap.size < g from by have h1 := heap_lt H2.out.1; simp at hg2; omega))
  clear hg hg2 b3 b23 CC
  obtain ⟨X, hX⟩ : ∃ X, X = alls V3 (wdObjs V3.heap.size) := ⟨_, rfl⟩
  have bX := alls_below (wdObjs V3.heap.size) V3
  have at_ := fun i o h => alls_at (wdObjs V3.heap.size) V3 i o h
  rw [← hX] at bX at_
  have x0 := (bX.block _ (heap_lt H3.out.1)).trans H3.out.1
  have xg := (bX.block _ (heap_lt HG.out.1)).trans HG.out.1
  have xn := heap_lt H3.out.1
  have h0 := at_ 0 _ rfl
  have h1 := at_ 1 _ rfl
  have h2 := at_ 2 _ rfl
  have h3 := at_ 3 _ rfl
  have h4 := at_ 4 _ rfl
  have HX := hid (And.intro x0 (And.intro xg (And.intro xn (And.intro h0 (And.intro h1 (And.intro h2 (And.intro h3 (And.intro h4 bX))))))))
  obtain ⟨d0, d1, d2⟩ := cells3 x0
  obtain ⟨g0, g1, g2⟩ := frozen3 x0
  have HXX := hid hX
  rw [hX] at d0 d1 d2 g0 g1 g2
  simp only [alls, wdObjs] at d0 d1 d2 g0 g1 g2
  clear x0 xg xn h0 h1 h2 h3 h4 bX at_ hX
  go_wp2_with fail
  obtain ⟨Y, hY⟩ : ∃ Y, Y = ((X.setCell ⟨w.heap.size, 0, none⟩ (.slice (some ⟨g, 0, none⟩) 256 256)).setCell ⟨w.heap.size, 1, none⟩ (.slice (some ⟨V3.heap.size + 1 + 1 + 1, 0, none⟩) 3 3)).setCell ⟨w.heap.size, 2, none⟩ (.slice (some ⟨V3.heap.size + 1 + 1 + 1 + 1, 0, none⟩) 3 3) := ⟨_, rfl⟩
  have z := three_set (x' := .slice (some ⟨g, 0, none⟩) 256 256) (y' := .slice (some ⟨V3.heap.size + 1 + 1 + 1, 0, none⟩) 3 3) (z' := .slice (some ⟨V3.heap.size + 1 + 1 + 1 + 1, 0, none⟩) 3 3) HX.out.1
  rw [← hY] at z
  obtain ⟨r0, r1, r2⟩ := cells3 z
  rw [hY, HXX.out] at r0 r1 r2
  simp only [alls, wdObjs] at r0 r1 r2
  refine bodyPost_ret (v := .agg #[.slice (some ⟨g, 0, none⟩) 256 256, .slice (some ⟨V3.heap.size + 1 + 1 + 1, 0, none⟩) 3 3, .slice (some ⟨V3.heap.size + 1 + 1 + 1 + 1, 0, none⟩) 3 3]) ?_ rfl ⟨_, _, _, rfl, ?_, ?_⟩
  · simp [results, Try.results19, go_sem, r0, r1, r2]
  · have e : ((X.setCell ⟨w.heap.size, 0, none⟩ (.slice (some ⟨g, 0, none⟩) 256 256)).setCell ⟨w.heap.size, 1, none⟩ (.slice (some ⟨V3.heap.size + 1 + 1 + 1, 0, none⟩) 3 3)).setCell ⟨w.heap.size, 2, none⟩ (.slice (some ⟨V3.heap.size + 1 + 1 + 1 + 1, 0, none⟩) 3 3) = Y := hY.symm
    rw [HXX.out] at e
    simp only [alls, wdObjs] at e
    rw [e]
    obtain ⟨x0, xg, xn, h0, h1, h2, h3, h4, bX⟩ := HX.out
    have put : ∀ (b : Nat) (o : Obj), X.heap[b]? = some o → b ≠ w.heap.size → Y.heap[b]? = some o := fun b o h hn => by
      rw [hY]; exact far3 h hn
    have kg := put g _ xg (by have := HG.out.2; omega)
    have k0 := put _ _ h0 (by omega)
    have k1 := put _ _ h1 (by omega)
    have k2 := put _ _ h2 (by omega)
    have k3 := put _ _ h3 (by omega)
    have k4 := put _ _ h4 (by omega)
    refine ⟨row_blk kg rfl (by kernel_rfl), ⟨rfl, .inr ⟨V3.heap.size + 3, 0, rfl, heap_lt k3, ?_⟩⟩, row_blk k4 rfl rfl, by omega, by omega, by omega, by decide⟩
    intro i r hi
    have q0 : Y.cell? ⟨V3.heap.size + 3, 0 + 0, none⟩ = some (.slice (some ⟨V3.heap.size, 0, none⟩) 3 3) := by simp [World.cell?, k3]
    have q1 : Y.cell? ⟨V3.heap.size + 3, 0 + 1, none⟩ = some (.slice (some ⟨V3.heap.size + 1, 0, none⟩) 3 3) := by simp [World.cell?, k3]
    have q2 : Y.cell? ⟨V3.heap.size + 3, 0 + 2, none⟩ = some (.slice (some ⟨V3.heap.size + 1 + 1, 0, none⟩) 3 3) := by simp [World.cell?, k3]
    match i, hi with
    | 0, hi => cases hi; exact ⟨_, _, q0, row_blk k0 rfl rfl, by decide⟩
    | 1, hi => cases hi; exact ⟨_, _, q1, row_blk k1 rfl rfl, by decide⟩
    | 2, hi => cases hi; exact ⟨_, _, q2, row_blk k2 rfl rfl, by decide⟩
    | i + 3, hi => simp [wordD] at hi
  · repeat (refine Below.setCell ?_ (by first | (simp; done) | (simp; omega)) _)
    have bX := HX.out.2.2.2.2.2.2.2.2
    rw [HXX.out] at bX
    simp only [alls, wdObjs] at bX
    exact H3.out.2.trans (bX.mono H3.out.2.size)
end Go.Proofs.Ytblcjjhjgoccgaa
