/-
  The builder holds the position automaton of what it has seen (plain maths).
  Contract: FromRegexes.
  Contracts: the reference's Nodes, Check.
  Contract: the law's own set.
  Contract: awake.
-/
import Derived.Test.YtogpnlkjcdedlaaDoorZ13
import Derived.Test.YtogpnlkjcdedlaaDoorZ14
import Derived.Test.YtogpnlkjcdedlaaDoorZ03
import Derived.Test.YtogpnlkjcdedlaaDoorZ07
import Derived.Test.YtogpnlkjcdedlaaDoorZ04
section
set_option linter.unusedSimpArgs false
set_option linter.unusedVariables false
namespace Go.Proofs.YtogpnlkjcdedlaaDoor
open Go.RowKit Bs Rg Nf Go.Frame
attribute [local go_sem] eq_zero eq_set

theorem prW_snoc (l : List Rx) (x : Rx) : addM (orM (prW l) (pr x (1 + npL l))) [0] (fst x (1 + npL l)) = prW (l ++ [x]) := by
  funext i j
  simp only [addM, orM, prW, prU_append, prU_cons, prU_nil, fstU_append, fstU_cons, fstU_nil, List.append_nil, cont_append, Bool.or_false]
  have h0 : ([0] : List Nat).contains i = decide (i = 0) := by simp
  rw [h0]
  cases decide (i = 0) <;> cases prU l 1 i j <;> cases pr x (1 + npL l) i j <;> cases (fstU l 1).contains j <;> cases (fst x (1 + npL l)).contains j <;> rfl
theorem accW_snoc : ∀ (l : List Rx) (x : Rx) (i o : Nat) (A : Nat → Int), accW (l ++ [x]) i o A = acc1 x (i + l.length) (o + npL l) (accW l i o A)
  | [], x, i, o, A => by simp [accW, npL]
  | y :: l, x, i, o, A => by
    rw [List.cons_append, accW, accW_snoc l x, accW, npL, List.length_cons]
    rw [show i + 1 + l.length = i + (l.length + 1) by omega, show o + np y + npL l = o + (np y + npL l) by omega]
theorem acc1_far {x : Rx} {i o q : Nat} {A : Nat → Int} (hq : q ≠ 0) (h : o + np x ≤ q) : acc1 x i o A q = A q := by
  unfold acc1
  rw [if_neg hq, if_neg]
  intro hm
  have := (las_ok x o).2 q hm
  omega
theorem accW_far : ∀ (l : List Rx) (i o q : Nat) (A : Nat → Int), q ≠ 0 → o + npL l ≤ q → accW l i o A q = A q
  | [], i, o, q, A, _, _ => rfl
  | y :: l, i, o, q, A, hq, h => by
    rw [npL] at h
    rw [accW, accW_far l (i + 1) (o + np y) q _ hq (by omega), acc1_far hq (by omega)]
/-- The numbers of the first expressions. -/
def accL (l : List Rx) : List Int := (List.range (npL l + 1)).map (accW l 0 1 fun _ => -1)
theorem set_map {n q : Nat} {f : Nat → Int} {x : Int} : ((List.range n).map f).set q x = (List.range n).map fun p => if p = q then x else f p := by
  apply List.ext_getElem?
  intro i
  rw [List.getElem?_set]
  by_cases hi : i < n
  · by_cases e : q = i
    · subst e; simp [hi]
    · have e' : ¬ i = q := fun h => e h.symm
      simp [hi, e, e']
  · by_cases e : q = i
    · subst e; simp [hi]
    · simp [hi, e]
theorem fold_map {n : Nat} {x : Int} : ∀ (L : List Nat) (f : Nat → Int), L.foldl (fun A q => A.set q x) ((List.range n).map f) = (List.range n).map fun p => if p ∈ L then x else f p
  | [], f => by simp
  | q :: L, f => by
    rw [List.foldl_cons, set_map, fold_map L]
    congr 1
    funext p
    by_cases h1 : p ∈ L
    · simp [h1]
    · by_cases h2 : p = q
      · subst h2; simp [h1]
      · simp [h1, h2]
theorem acl_map {n i : Nat} {x : Rx} {o : Nat} {f : Nat → Int} (hn : 0 < n) (ho : 0 < o) : acl (nul x) (las x o) (i : Int) ((List.range n).map f) = (List.range n).map (acc1 x i o f) := by
  have h0 : ((List.range n).map f).getD 0 (-1) = f 0 := by simp [List.getD, hn]
  have hL : 0 ∉ las x o := fun h => by have := (las_ok x o).2 0 h; omega
  unfold acl
  rw [h0]
  split
  · rename_i hc
    rw [set_map, fold_map]
    congr 1
    funext p
    unfold acc1
    by_cases hp : p = 0
    · subst hp; simp [hL, hc]
    · simp [hp]
  · rename_i hc
    rw [fold_map]
    congr 1
    funext p
    unfold acc1
    by_cases hp : p = 0
    · subst hp; simp [hL, hc]
    · simp [hp]
theorem accL_nil : accL [] = [-1] := rfl
theorem accL_snoc (l : List Rx) (x : Rx) : acl (nul x) (las x (1 + npL l)) (l.length : Int) (accL l ++ List.replicate (np x) (-1)) = accL (l ++ [x]) := by
  have h1 : accL l ++ List.replicate (np x) (-1) = (List.range (npL l + 1 + np x)).map (accW l 0 1 fun _ => -1) := by
    unfold accL
    obtain ⟨n, hn⟩ : ∃ n, n = npL l + 1 := ⟨_, rfl⟩
    rw [← hn, List.range_add, List.map_append]
    congr 1
    rw [List.map_map]
    apply List.ext_getElem?
    intro i
    by_cases hi : i < np x
    · simp only [List.getElem?_replicate, hi, if_true, List.getElem?_map, List.getElem?_range hi, Option.map_some, Function.comp]
      rw [accW_far _ _ _ _ _ (by omega) (by omega)]
    · rw [List.getElem?_eq_none (by simpa using hi), List.getElem?_eq_none (by simpa using hi)]
  rw [h1, acl_map (by omega) (by omega)]
  unfold accL
  rw [accW_snoc, npL_append, npL, npL, Nat.add_zero, Nat.zero_add]
  congr 1
  congr 1
  omega
theorem setsW_snoc (l : List Rx) (x : Rx) : setsW l ++ os x = setsW (l ++ [x]) := by unfold setsW; rw [osL_append]; simp [osL]
theorem setsW_length (l : List Rx) : (setsW l).length = npL l + 1 := by unfold setsW; rw [List.length_cons, osL_length]
theorem prW_nil : prW [] = fun _ _ => false := by funext i j; simp [prW, prU_nil, fstU_nil]
end Go.Proofs.YtogpnlkjcdedlaaDoor
end
section
set_option linter.unusedSimpArgs false
set_option linter.unusedVariables false
namespace Go.Proofs.YtogpnlkjcdedlaaDoor
open Go.RowKit Bs Rg Nf Go.Frame
attribute [local go_sem] eq_zero eq_set

theorem np_le (r : Rx) : np r ≤ parts r := by
  induction r using Rx.ind with
  | h k s l ih =>
    have hl : ∀ m : List Rx, (∀ x ∈ m, np x ≤ parts x) → npL m ≤ partsL m := by
      intro m
      induction m with
      | nil => intro _; rw [npL, partsL]; exact Nat.le_refl _
      | cons y m ihm => intro hm; rw [npL, partsL]; have := hm y (by simp); have := ihm fun x hx => hm x (by simp [hx]); omega
    rw [np_mk, parts]
    split
    · omega
    · have := hl l ih; omega
theorem npL_le : ∀ l : List Rx, npL l ≤ partsL l
  | [] => by rw [npL, partsL]; exact Nat.le_refl _
  | x :: l => by rw [npL, partsL]; have := np_le x; have := npL_le l; omega
theorem pr_lt (r : Rx) : ∀ o i j, pr r o i j = true → j < o + np r := by
  induction r using Rx.ind with
  | h k s l ih =>
    have hFC : ∀ (m : List Rx) (o x : Nat), x ∈ fstC m o → x < o + npL m := fun m o x hx => by
      have := (fst_ok (.mk 4 none8 m) o).2
      rw [fst_mk, if_neg (by decide), if_pos rfl, np_mk, if_neg (by decide)] at this
      exact (this x hx).2
    have hFU : ∀ (m : List Rx) (o x : Nat), x ∈ fstU m o → x < o + npL m := fun m o x hx => by
      have := (fst_ok (.mk 5 none8 m) o).2
      rw [fst_mk, if_neg (by decide), if_neg (by decide), np_mk, if_neg (by decide)] at this
      exact (this x hx).2
    have hC : ∀ m : List Rx, (∀ x ∈ m, ∀ o i j, pr x o i j = true → j < o + np x) → ∀ o i j, prC m o i j = true → j < o + npL m := by
      intro m
      induction m with
      | nil => intro _ o i j h; rw [prC_nil] at h; cases h
      | cons y m ihm =>
        intro hm o i j h
        rw [prC_cons, Bool.or_eq_true, Bool.or_eq_true, Bool.and_eq_true] at h
        rw [npL]
        rcases h with (h | h) | h
        · have := hm y (by simp) o i j h; omega
        · have := ihm (fun x hx => hm x (by simp [hx])) (o + np y) i j h; omega
        · have := hFC m (o + np y) j (by simpa using h.2); omega
    have hU : ∀ m : List Rx, (∀ x ∈ m, ∀ o i j, pr x o i j = true → j < o + np x) → ∀ o i j, prU m o i j = true → j < o + npL m := by
      intro m
      induction m with
      | nil => intro _ o i j h; rw [prU_nil] at h; cases h
      | cons y m ihm =>
        intro hm o i j h
        rw [prU_cons, Bool.or_eq_true] at h
        rw [npL]
        rcases h with h | h
        · have := hm y (by simp) o i j h; omega
        · have := ihm (fun x hx => hm x (by simp [hx])) (o + np y) i j h; omega
    intro o i j h
    rw [pr_mk] at h
    rw [np_mk]
    by_cases h3 : k = 3
    · rw [if_pos h3] at h; cases h
    · rw [if_neg h3] at h ⊢
      by_cases h4 : k = 4
      · rw [if_pos h4] at h; exact hC l ih o i j h
      · rw [if_neg h4, Bool.or_eq_true, Bool.and_eq_true] at h
        rcases h with h | h
        · exact hU l ih o i j h
        · exact hFU l o j (by simpa using h.2)
theorem prW_lt (l : List Rx) (i j : Nat) (h : prW l i j = true) : j < npL l + 1 := by
  unfold prW at h
  rw [Bool.or_eq_true, Bool.and_eq_true] at h
  have h5 := pr_lt (.mk 5 none8 l) 1 i j
  rw [pr_mk, if_neg (by decide), if_neg (by decide), np_mk, if_neg (by decide)] at h5
  have h6 := (fst_ok (.mk 5 none8 l) 1).2 j
  rw [fst_mk, if_neg (by decide), if_neg (by decide), np_mk, if_neg (by decide)] at h6
  rcases h with h | h
  · have := h5 (by simp [h]); omega
  · have := (h6 (by simpa using h.2)).2; omega
def zNFA : Value := .agg #[.int .i64 0, .int .i64 0, .slice none 0 0, .slice none 0 0]
/-- What FromRegexes answers. -/
def FR (l : List Rx) (e : Ending) (w' : World) : Prop :=
  if (l.all fun x => fits x 30) = false then e = .returned (.tuple #[zNFA, .int .i64 1])
  else if 500 < partsL l then e = .returned (.tuple #[zNFA, .int .i64 11])
  else ∃ a1 m c1 a2 c2, e = .returned (.tuple #[.agg #[.int .i64 ((npL l + 1 : Nat) : Int), .int .i64 0, .slice a1 m c1, .slice a2 (npL l + 1) c2], .int .i64 0]) ∧ NA w' (PA l) a1 m a2 (npL l + 1) ∧ m ≤ c1 ∧ c1 ≤ maxLen ∧ (a1 = none → c1 = 0)
/-- A builder just made. -/
theorem BX.new {W : World} {bb most : Nat} (h : W.heap[bb]? = some (.cells #[.int .i64 (most : Int), .slice none 0 0, .slice none 0 0, .slice none 0 0] 77 (0, 0))) (hm : most ≤ 1000) : BX (· = bb) W bb bb most [] (fun _ _ => false) [] :=
  ⟨.slice none 0 0, .slice none 0 0, .slice none 0 0, fun _ => 0, ⟨h, ⟨rfl, .inl ⟨rfl, rfl⟩⟩, ⟨rfl, .inl ⟨rfl, rfl⟩⟩, ⟨rfl, .inl ⟨rfl, rfl⟩⟩, fun i hi => by simp at hi, fun i j hi => by simp at hi, rfl, fun k hk => by simp [Value.ownBlock] at hk, fun k hk => by simp [Value.ownBlock] at hk, fun k hk => by simp [Value.ownBlock] at hk, fun b hb => by subst hb; exact ⟨Nat.le_refl _, heap_lt h⟩, fun i j _ => rfl, hm, by simp⟩⟩
set_option maxRecDepth 100000 in
set_option maxHeartbeats 4000000 in
theorem FromRegexes_any (g : Nat → Prop) (l : List Rx) (a : Option Addr) (n c : Nat) (W : World) (hK : Kd g W a n l) :
    Calls Tryd.prog 24 #[.slice a n c] W fun e w' => FR l e w' ∧ Below W.heap.size W w' := by
  have HK := hid hK.bound
  have hll := hid hK.len
  have hnn := hK.lt
  obtain ⟨X, hX⟩ : ∃ X, X = W.alloc (.cells #[.int .i64 0, .int .i64 0, .slice none 0 0, .slice none 0 0] 25) := ⟨_, rfl⟩
  have BXX := hid (show Below W.heap.size W X ∧ X.heap.size = W.heap.size + 1 from by rw [hX]; exact ⟨bel1 _ _, by simp⟩)
  have HZ := hid (show X.heap[W.heap.size]? = some (.cells #[.int .i64 0, .int .i64 0, .slice none 0 0, .slice none 0 0] 25 (0, 0)) from by rw [hX]; exact alloc_new _ _)
  clear hK
  go_enter Tryd.func24, Tryd.ntmps24
  go_upto_region 1 with fail
  rw [← hX]
  clear hX
  go_wp2_with fail
  go_loopg [12] n (fun kk s12 wr => ∃ i : Nat, s12 = .int .i64 (i : Int) ∧ i + kk = n ∧ (∀ x ∈ l.take i, fits x 30 = true) ∧ Below X.heap.size X wr)
  case atStart => exact ⟨0, rfl, by omega, by simp, Below.refl _ _⟩
  case round =>
    obtain ⟨i, rfl, hik, hall, hbw⟩ := hrel
    by_cases hlt : i < n
    · have hlt' : (i : Int) < (n : Int) := by omega
      have hi0 : (0 : Int) ≤ (i : Int) := by omega
      obtain ⟨b, off, k, s, l2, a2, n2, c2, rfl, _, hb, hx, hK2, q0, q1, q2, q3, q4, q5⟩ := (HK.out.below (BXX.out.1.trans (hbw.mono BXX.out.1.size))).get hlt
      obtain ⟨U, hU⟩ : ∃ U, U = wr.alloc (.cells #[.int .i64 k, .int .u64 (ws s 0 : Int), .int .u64 (ws s 1 : Int), .int .u64 (ws s 2 : Int), .int .u64 (ws s 3 : Int), .slice a2 n2 c2] 50) := ⟨_, rfl⟩
      have hU6 : U.heap[wr.heap.size]? = some (.cells #[.int .i64 k, .int .u64 (ws s 0 : Int), .int .u64 (ws s 1 : Int), .int .u64 (ws s 2 : Int), .int .u64 (ws s 3 : Int), .slice a2 n2 c2] 50 (0, 0)) := by rw [hU]; exact alloc_new _ _
      have BU := hid (show Below wr.heap.size wr U from by rw [hU]; exact bel1 _ _)
      have CV := hid (show Calls Tryd.prog 45 #[.agg #[.int .i64 k, .int .u64 (ws s 0 : Int), .int .u64 (ws s 1 : Int), .int .u64 (ws s 2 : Int), .int .u64 (ws s 3 : Int), .slice a2 n2 c2]] U _ from Valid_any _ (.mk k s l2) U _ (RC_mk.2 ⟨a2, n2, c2, rfl, hK2.below BU.out⟩))
      have HX := hid (And.intro hx (And.intro hall hbw))
      obtain ⟨e0, e1, e2, e3, e4, e5⟩ := cells6 hU6
      obtain ⟨z, hz⟩ : ∃ z, z = fits (Rx.mk k s l2) 30 := ⟨_, rfl⟩
      rw [← hz] at CV
      have HZZ := hid hz
      clear hx hK2 hall hbw hU6 hb hz
      go_upto_region 4 with fail
      rw [← hU]
      clear hU q0 q1 q2 q3 q4 q5
      go_wp2_with fail
      refine CV.out.mono ?_
      rintro e w3 ⟨rfl, b3⟩
      have B3 := hid (HX.out.2.2.trans ((BU.out.trans (b3.mono BU.out.size)).mono HX.out.2.2.size))
      clear b3 CV e0 e1 e2 e3 e4 e5
      cases z with
      | true =>
        go_wp2
        go_roundg (gk - 1)
        case measure => omega
        case rel =>
          refine ⟨i + 1, by go_num, by omega, fun y hy => ?_, B3.out⟩
          rw [take_snoc HX.out.1] at hy
          rcases List.mem_append.1 hy with hy | hy
          · exact HX.out.2.1 y hy
          · simp at hy; subst hy; exact HZZ.out.symm
      | false =>
        have hz3 := (B3.out.block _ (heap_lt HZ.out)).trans HZ.out
        obtain ⟨z0, z1, z2, z3⟩ := cells4 hz3
        obtain ⟨f0, f1, f2, f3⟩ := frozen4 hz3
        have hR := four_set (x' := .int .i64 0) (y' := .int .i64 0) (z' := .slice none 0 0) (u' := .slice none 0 0) hz3
        obtain ⟨t0, t1, t2, t3⟩ := cells4 hR
        clear hz3 hR
        go_wp2
        refine bodyPost_ret (v := .tuple #[.agg #[.int .i64 0, .int .i64 0, .slice none 0 0, .slice none 0 0], .int .i64 1]) ?_ rfl ?_
        · simp [results, Tryd.results24, go_sem, t0, t1, t2, t3, z0, z1, z2, z3]
        · refine ⟨?_, below_put (below_put (below_put (below_put (BXX.out.1.trans (B3.out.mono BXX.out.1.size)) (Nat.le_refl _)) (Nat.le_refl _)) (Nat.le_refl _)) (Nat.le_refl _)⟩
          have hf : (l.all fun x => fits x 30) = false := by
            rw [← Bool.not_eq_true, List.all_eq_true]
            intro h9
            have h8 := h9 _ (List.mem_of_getElem? HX.out.1)
            rw [← HZZ.out] at h8; cases h8
          unfold FR
          rw [if_pos hf]
          rfl
    · have hlt' : ¬ (i : Int) < (n : Int) := by omega
      rw [show l.take i = l from List.take_of_length_le (by have := hll.out; omega)] at hall
      have HB := hid (And.intro hall hbw)
      have hft : ¬ (l.all fun x => fits x 30) = false := by rw [Bool.not_eq_false, List.all_eq_true]; exact hall
      have HFT := hid hft
      have CC := hid (count_any _ 30 l a n c wr (by decide) hall (HK.out.below (BXX.out.1.trans (hbw.mono BXX.out.1.size))))
      clear hall hbw hft
      go_wp2_with fail
      refine CC.out.mono ?_
      rintro e w2 ⟨⟨v, rfl, hcn⟩, b2⟩
      have B2 := hid (HB.out.2.trans (b2.mono HB.out.2.size))
      have HC := hid hcn
      have hvb := hcn.2.2
      have hz2 := (B2.out.block _ (heap_lt HZ.out)).trans HZ.out
      have HZ2 := hid hz2
      clear b2 CC hcn
      by_cases h5 : 500 < v
      · have h5' : (500 : Int) < (v : Int) := by omega
        obtain ⟨z0, z1, z2, z3⟩ := cells4 hz2
        obtain ⟨f0, f1, f2, f3⟩ := frozen4 hz2
        have hR := four_set (x' := .int .i64 0) (y' := .int .i64 0) (z' := .slice none 0 0) (u' := .slice none 0 0) hz2
        obtain ⟨t0, t1, t2, t3⟩ := cells4 hR
        clear hz2 hR
        go_wp2
        refine bodyPost_ret (v := .tuple #[.agg #[.int .i64 0, .int .i64 0, .slice none 0 0, .slice none 0 0], .int .i64 11]) ?_ rfl ?_
        · simp [results, Tryd.results24, go_sem, t0, t1, t2, t3, z0, z1, z2, z3]
        · refine ⟨?_, below_put (below_put (below_put (below_put (BXX.out.1.trans (B2.out.mono BXX.out.1.size)) (Nat.le_refl _)) (Nat.le_refl _)) (Nat.le_refl _)) (Nat.le_refl _)⟩
          have hp : 500 < partsL l := by
            rcases Nat.lt_or_ge 500 (partsL l) with h9 | h9
            · exact h9
            · have := HC.out.1 h9; omega
          unfold FR
          rw [if_neg HFT.out, if_pos hp]
          rfl
      · have h5' : ¬ (500 : Int) < (v : Int) := by omega
        have hp : ¬ 500 < partsL l := fun h9 => h5 (HC.out.2.1 h9)
        have hv := HC.out.1 (by omega)
        have HV := hid (And.intro hp hv)
        have hsum : IntKind.i64.wrap ((v : Int) + 1) = (v : Int) + 1 := wrapIn (by omega) (by omega)
        obtain ⟨V, hV⟩ : ∃ V, V = w2.alloc (.cells #[.int .i64 ((v : Int) + 1), .slice none 0 0, .slice none 0 0, .slice none 0 0] 77) := ⟨_, rfl⟩
        have BV := hid (show Below w2.heap.size w2 V ∧ V.heap.size = w2.heap.size + 1 from by rw [hV]; exact ⟨bel1 _ _, by simp⟩)
        have CA := hid (show Calls Tryd.prog 47 #[.pointer (some ⟨w2.heap.size, 0, none⟩), .agg #[.int .u64 0, .int .u64 0, .int .u64 0, .int .u64 0]] V _ from by
          have h9 := addState_X w2.heap.size w2.heap.size (v + 1) [] (fun _ _ => false) [] none8 (· = w2.heap.size) V (BX.new (by rw [hV, alloc_new]; push_cast; rfl) (by omega)) (by simp)
          rw [ws_none, ws_none, ws_none, ws_none] at h9
          exact h9)
        clear hz2 hp hv
        go_upto_region 11 with fail
        rw [← hV]
        clear hV
        go_wp2_with fail
        refine CA.out.mono ?_
        rintro e w3 ⟨rfl, ⟨G1, hbx1, hG1⟩, hkp1⟩
        have HB3 := hid (BV.out.1.trans ((hkp1.toBelow fun b hb => by rcases hb with h | h; rw [h]; exact Nat.le_refl _; have := BV.out.2; omega).mono (Nat.le_refl _)))
        have HX1 := hid hbx1
        have HG1 := hid (fun b hb => by rcases hG1 b hb with h | h; rw [h]; exact Nat.le_refl _; have := BV.out.2; omega : ∀ b, G1 b → w2.heap.size ≤ b)
        clear hbx1 hG1 hkp1 CA
        go_wp2_with fail
        go_loopg [35] n (fun kk s35 wr => ∃ (i : Nat) (G2 : Nat → Prop), s35 = .int .i64 (i : Int) ∧ i + kk = n ∧ BX G2 wr w2.heap.size w2.heap.size (v + 1) (setsW (l.take i)) (prW (l.take i)) (accL (l.take i)) ∧ (∀ b, G2 b → w2.heap.size ≤ b) ∧ Below w2.heap.size w2 wr)
        case atStart => exact ⟨0, G1, rfl, by omega, by rw [List.take_zero, prW_nil, accL_nil]; simpa [setsW, osL] using HX1.out, HG1.out, HB3.out⟩
        case round =>
          obtain ⟨i, G2, rfl, hik, hbx, hG2, hbw⟩ := hrel
          have hbW : Below W.heap.size W wr := (BXX.out.1.trans (B2.out.mono BXX.out.1.size)).trans (hbw.mono (by have := BXX.out.1.size; have := B2.out.size; omega))
          by_cases hlt : i < n
          · have hlt' : (i : Int) < (n : Int) := by omega
            have hi0 : (0 : Int) ≤ (i : Int) := by omega
            obtain ⟨b, off, k, s, l2, a2, n2, c2, rfl, _, hb, hx, hK2, q0, q1, q2, q3, q4, q5⟩ := (HK.out.below hbW).get hlt
            obtain ⟨U, hU⟩ : ∃ U, U = wr.alloc (.cells #[.int .i64 k, .int .u64 (ws s 0 : Int), .int .u64 (ws s 1 : Int), .int .u64 (ws s 2 : Int), .int .u64 (ws s 3 : Int), .slice a2 n2 c2] 50) := ⟨_, rfl⟩
            have hU6 : U.heap[wr.heap.size]? = some (.cells #[.int .i64 k, .int .u64 (ws s 0 : Int), .int .u64 (ws s 1 : Int), .int .u64 (ws s 2 : Int), .int .u64 (ws s 3 : Int), .slice a2 n2 c2] 50 (0, 0)) := by rw [hU]; exact alloc_new _ _
            have BU := hid (show Below wr.heap.size wr U ∧ U.heap.size = wr.heap.size + 1 from by rw [hU]; exact ⟨bel1 _ _, by simp⟩)
            have hp1 := partsL_eq l
            have hp2 := npL_le l
            have hp3 := npL_take hx
            have hp4 := setsW_length (l.take i)
            have hWw : W.heap.size ≤ w2.heap.size := by have := BXX.out.1.size; have := B2.out.size; omega
            have CE := hid (show Calls Tryd.prog 48 #[.pointer (some ⟨w2.heap.size, 0, none⟩), .int .i64 (i : Int), .agg #[.int .i64 k, .int .u64 (ws s 0 : Int), .int .u64 (ws s 1 : Int), .int .u64 (ws s 2 : Int), .int .u64 (ws s 3 : Int), .slice a2 n2 c2]] U _ from
              addExpression_any (.mk k s l2) ⟨30, HB.out.1 _ (List.mem_of_getElem? hx)⟩ i (by have := HV.out; have := hll.out; omega) w2.heap.size w2.heap.size (v + 1) _ _ _ G2 (fun b => g b ∧ b < W.heap.size) U (rcs k s (.slice a2 n2 c2)) (hbx.below BU.out.1) (RC_mk.2 ⟨a2, n2, c2, rfl, hK2.below BU.out.1⟩) (fun b hb h9 => by have := hG2 b h9; have := hb.2; omega) (by have := HV.out; omega) (by omega))
            have HX := hid (And.intro hx (And.intro hG2 hbw))
            obtain ⟨e0, e1, e2, e3, e4, e5⟩ := cells6 hU6
            clear hx hK2 hbx hG2 hbw hbW hU6 hb hp1 hp2 hp3 hp4 hWw
            go_upto_region 15 with fail
            rw [← hU]
            clear hU q0 q1 q2 q3 q4 q5
            go_wp2_with fail
            refine CE.out.mono ?_
            rintro e w5 ⟨rfl, G3, hbx3, hG3, hkp3⟩
            have HY := hid (And.intro hbx3 (And.intro hG3 hkp3))
            clear hbx3 hG3 hkp3 CE e0 e1 e2 e3 e4 e5
            go_wp2
            go_roundg (gk - 1)
            case measure => omega
            case rel =>
              obtain ⟨hx, hG2, hbw⟩ := HX.out
              obtain ⟨hbx3, hG3, hkp3⟩ := HY.out
              have hs2 := hbw.size
              have hs3 := BU.out.2
              have hl4 := setsW_length (l.take i)
              have hl5 : (l.take i).length = i := by rw [List.length_take]; have := hll.out; omega
              rw [setsW_snoc, hl4, Nat.add_comm (npL (l.take i)) 1, prW_snoc] at hbx3
              have h8 := accL_snoc (l.take i) (.mk k s l2)
              rw [hl5] at h8
              rw [h8, ← take_snoc hx] at hbx3
              refine ⟨i + 1, G3, by go_num, by omega, hbx3, fun b hb => ?_, hbw.trans ((BU.out.1.mono hs2).trans (hkp3.toBelow fun b hb => ?_))⟩
              · rcases hG3 b hb with h | h
                · exact hG2 b h
                · omega
              · rcases hb with h | h
                · exact hG2 b h
                · omega
          · have hlt' : ¬ (i : Int) < (n : Int) := by omega
            rw [show l.take i = l from List.take_of_length_le (by have := hll.out; omega)] at hbx
            obtain ⟨N, hN⟩ : ∃ N, N = npL l + 1 := ⟨_, rfl⟩
            have hp2 := npL_le l
            have CU := hid (show Calls Tryd.prog 49 #[.pointer (some ⟨w2.heap.size, 0, none⟩)] wr fun e w' => (∃ a1 m c1 a2 c2, e = .returned (.agg #[.int .i64 (N : Int), .int .i64 0, .slice a1 m c1, .slice a2 N c2]) ∧ NA w' (PA l) a1 m a2 N ∧ (∀ x, a1 = some x → w2.heap.size ≤ x.block) ∧ (∀ x, a2 = some x → w2.heap.size ≤ x.block) ∧ m ≤ c1 ∧ c1 ≤ maxLen ∧ (a1 = none → c1 = 0)) ∧ Below wr.heap.size wr w' from by
              have h9 := automaton_any w2.heap.size w2.heap.size (v + 1) (setsW l) (prW l) (accL l) G2 wr hbx (by rw [setsW_length]; have := HV.out; omega) (fun p q _ hq => by rw [setsW_length]; exact prW_lt l p q hq)
              rw [setsW_length, ← hN] at h9
              refine h9.mono ?_
              rintro e w' ⟨⟨a1, m, c1, a2, c2, rfl, h1, h2, h3⟩, h4⟩
              refine ⟨⟨a1, m, c1, a2, c2, rfl, ?_, h2, h3⟩, h4⟩
              have e9 : PA l = ⟨(N : Int), 0, arcsTo (setsW l) (prW l) N N, accL l⟩ := by rw [hN]; rfl
              rw [e9]; exact h1)
            have HBW := hid hbw
            have HNN := hid hN
            clear hbx hG2 hbw hbW hp2 hN
            go_upto_region 17 with fail
            go_wp2_with fail
            refine CU.out.mono ?_
            rintro e w6 ⟨⟨a1, m, c1, a2, c2, rfl, hna, hb1, hb2, hcap⟩, b6⟩
            have hWX := BXX.out.2
            have hX2 := B2.out.size
            have hbel : Below w2.heap.size w2 w6 := HBW.out.trans (b6.mono HBW.out.size)
            have hz6 := (hbel.block _ (heap_lt HZ2.out)).trans HZ2.out
            have HY := hid (And.intro hna (And.intro hb1 (And.intro hb2 hbel)))
            have HCAP := hid hcap
            clear hcap
            obtain ⟨z0, z1, z2, z3⟩ := cells4 hz6
            obtain ⟨f0, f1, f2, f3⟩ := frozen4 hz6
            have hR := four_set (x' := .int .i64 (N : Int)) (y' := .int .i64 0) (z' := .slice a1 m c1) (u' := .slice a2 N c2) hz6
            obtain ⟨t0, t1, t2, t3⟩ := cells4 hR
            clear hna hb1 hb2 b6 hbel hz6 hR hWX hX2 CU
            go_wp2
            refine bodyPost_ret (v := .tuple #[.agg #[.int .i64 (N : Int), .int .i64 0, .slice a1 m c1, .slice a2 N c2], .int .i64 0]) ?_ rfl ?_
            · simp [results, Tryd.results24, go_sem, t0, t1, t2, t3]
            · obtain ⟨hna, hb1, hb2, hbel⟩ := HY.out
              have hWX := BXX.out.2
              have hX2 := B2.out.size
              have hs1 : ∀ x : Addr, a1 = some x → x.block ≠ W.heap.size := fun x hx => by have := hb1 x hx; omega
              have hs2 : ∀ x : Addr, a2 = some x → x.block ≠ W.heap.size := fun x hx => by have := hb2 x hx; omega
              refine ⟨?_, below_put (below_put (below_put (below_put ((BXX.out.1.trans (B2.out.mono BXX.out.1.size)).trans (hbel.mono (by omega))) (Nat.le_refl _)) (Nat.le_refl _)) (Nat.le_refl _)) (Nat.le_refl _)⟩
              unfold FR
              rw [if_neg HFT.out, if_neg HV.out.1]
              rw [HNN.out] at hna
              refine ⟨a1, m, c1, a2, c2, by rw [HNN.out], ⟨?_, ?_, hna.hm, hna.hk⟩, HCAP.out⟩
              · exact CRow.set (CRow.set (CRow.set (CRow.set hna.arcs hs1) hs1) hs1) hs1
              · exact Row.set (Row.set (Row.set (Row.set hna.acc hs2) hs2) hs2) hs2
end Go.Proofs.YtogpnlkjcdedlaaDoor
end
section
set_option linter.unusedSimpArgs false
set_option linter.unusedVariables false
namespace Go.Proofs.YtogpnlkjcdedlaaDoor
open Go.RowKit Bs Rg Nf Go.Frame
attribute [local go_sem] eq_zero eq_set

theorem partsL_append : ∀ l m : List Rx, partsL (l ++ m) = partsL l + partsL m
  | [], m => by rw [List.nil_append, partsL]; omega
  | x :: l, m => by rw [List.cons_append, partsL, partsL, partsL_append l m]; omega
theorem partsL_snoc {l : List Rx} {i : Nat} {x : Rx} (h : l[i]? = some x) : partsL (l.take (i + 1)) = partsL (l.take i) + parts x := by rw [take_snoc h, partsL_append, partsL, partsL]; omega
theorem partsL_le (l : List Rx) (i : Nat) : partsL (l.take i) ≤ partsL l := by
  have h : partsL l = partsL (l.take i) + partsL (l.drop i) := by rw [← partsL_append, List.take_append_drop]
  omega
set_option maxRecDepth 100000 in
set_option maxHeartbeats 4000000 in
theorem Nodes_any (g : Nat → Prop) (r : Rx) : ∀ (w : World) (cs : List Value), parts r ≤ 1000000000 → RC g w r cs →
    Calls Tryd.prog 44 #[.agg cs.toArray] w fun e w' => e = .returned (.int .i64 (parts r : Int)) ∧ Below w.heap.size w w' := by
  induction r using Rx.ind with
  | h k s l ih =>
  intro w cs hp h
  obtain ⟨a, n, c, rfl, hK⟩ := RC_mk.1 h
  clear h
  show Calls Tryd.prog 44 #[.agg #[.int .i64 k, .int .u64 (ws s 0 : Int), .int .u64 (ws s 1 : Int), .int .u64 (ws s 2 : Int), .int .u64 (ws s 3 : Int), .slice a n c]] w _
  rw [parts] at hp ⊢
  obtain ⟨W, hW⟩ : ∃ W, W = w.alloc (.cells #[.int .i64 k, .int .u64 (ws s 0 : Int), .int .u64 (ws s 1 : Int), .int .u64 (ws s 2 : Int), .int .u64 (ws s 3 : Int), .slice a n c] 50) := ⟨_, rfl⟩
  have bW : Below w.heap.size w W := by rw [hW]; exact bel1 _ _
  have x0 : W.heap[w.heap.size]? = some (.cells #[.int .i64 k, .int .u64 (ws s 0 : Int), .int .u64 (ws s 1 : Int), .int .u64 (ws s 2 : Int), .int .u64 (ws s 3 : Int), .slice a n c] 50 (0, 0)) := by rw [hW]; exact alloc_new _ _
  have HK := hid (And.intro (hK.below bW) (And.intro bW x0))
  have IH := hid ih
  have HP := hid hp
  have hll := hid hK.len
  have hnn := hK.lt
  clear hK ih bW x0 hp
  go_enter Tryd.func44, Tryd.ntmps44
  go_wp2_with fail
  rw [← hW]
  clear hW
  go_loopg [3, 4] n (fun kk s3 s4 wr => ∃ i : Nat, s4 = .int .i64 (i : Int) ∧ s3 = .int .i64 ((1 + partsL (l.take i) : Nat) : Int) ∧ i + kk = n ∧ Below W.heap.size W wr)
  case atStart => exact ⟨0, rfl, by simp [partsL], by omega, Below.refl _ _⟩
  case round =>
    obtain ⟨i, rfl, rfl, hik, hbw⟩ := hrel
    obtain ⟨p0, p1, p2, p3, p4, p5⟩ := cells6 ((hbw.block _ (heap_lt HK.out.2.2)).trans HK.out.2.2)
    obtain ⟨v, hv⟩ : ∃ v, v = partsL (l.take i) := ⟨_, rfl⟩
    have hvb := partsL_le l i
    have hpb := HP.out
    rw [← hv] at hvb ⊢
    have hvv : v ≤ 1000000000 := by omega
    have HV := hid hv
    clear hv hvb hpb
    by_cases hlt : i < n
    · have hlt' : (i : Int) < (n : Int) := by omega
      have hi0 : (0 : Int) ≤ (i : Int) := by omega
      obtain ⟨b, off, k2, s2, l2, a2, n2, c2, rfl, _, hb, hx, hK2, q0, q1, q2, q3, q4, q5⟩ := (HK.out.1.below hbw).get hlt
      have hs1 := partsL_snoc hx
      have hs2 := partsL_le l (i + 1)
      have HX := hid (And.intro hs1 hbw)
      have hpx : parts (.mk k2 s2 l2) ≤ 1000000000 := by have := HP.out; omega
      have CC := hid (show Calls Tryd.prog 44 #[.agg #[.int .i64 k2, .int .u64 (ws s2 0 : Int), .int .u64 (ws s2 1 : Int), .int .u64 (ws s2 2 : Int), .int .u64 (ws s2 3 : Int), .slice a2 n2 c2]] wr fun e w' => e = .returned (.int .i64 (parts (.mk k2 s2 l2) : Int)) ∧ Below wr.heap.size wr w' from IH.out _ (List.mem_of_getElem? hx) wr _ hpx (RC_mk.2 ⟨a2, n2, c2, rfl, hK2⟩))
      obtain ⟨u, hu⟩ : ∃ u, u = parts (.mk k2 s2 l2) := ⟨_, rfl⟩
      rw [← hu] at CC hpx
      have HU := hid hu
      clear hu hs1 hs2 hx hK2 hbw hb
      have hsum : IntKind.i64.wrap (((1 + v : Nat) : Int) + (u : Int)) = ((1 + (v + u) : Nat) : Int) := by rw [wrapIn (by omega) (by omega)]; omega
      have hsum2 : IntKind.i64.wrap (1 + (v : Int) + (u : Int)) = ((1 + (v + u) : Nat) : Int) := by rw [wrapIn (by omega) (by omega)]; omega
      go_wp2_with fail
      refine CC.out.mono ?_
      rintro e w3 ⟨rfl, b3⟩
      have HB := hid b3
      clear b3 CC
      go_wp2
      go_roundg (gk - 1)
      case measure => omega
      case rel => exact ⟨i + 1, by go_num, by rw [HX.out.1, ← HV.out, ← HU.out]; first | rfl | (push_cast; omega) | (simp; omega), by omega, HX.out.2.trans (HB.out.mono HX.out.2.size)⟩
    · have hlt' : ¬ (i : Int) < (n : Int) := by omega
      have HX := hid hbw
      clear hbw
      go_wp2
      go_ret
      refine ⟨?_, HK.out.2.1.trans (HX.out.mono HK.out.2.1.size)⟩
      rw [HV.out, show l.take i = l from List.take_of_length_le (by have := hll.out; omega)]
      simp; try omega
/-- What Check answers. -/
def ckE (l : List Rx) : Nat := if (l.all fun x => fits x 30) = false then 1 else if 500 < partsL l then 11 else 0
set_option maxRecDepth 100000 in
set_option maxHeartbeats 4000000 in
theorem Check_any (g : Nat → Prop) (l : List Rx) (a : Option Addr) (n c : Nat) (W : World) (hp : partsL l ≤ 1000000000) (hK : Kd g W a n l) :
    Calls Tryd.prog 28 #[.slice a n c] W fun e w' => e = .returned (.int .i64 (ckE l : Int)) ∧ Below W.heap.size W w' := by
  have HK := hid hK
  have HP := hid hp
  have hll := hid hK.len
  have hnn := hK.lt
  clear hK hp
  go_enter Tryd.func28, Tryd.ntmps28
  go_wp2_with fail
  go_loopg [3, 4] n (fun kk s3 s4 wr => ∃ i : Nat, s4 = .int .i64 (i : Int) ∧ s3 = .int .i64 (partsL (l.take i) : Int) ∧ i + kk = n ∧ (∀ x ∈ l.take i, fits x 30 = true) ∧ Below W.heap.size W wr)
  case atStart => exact ⟨0, rfl, by simp [partsL], by omega, by simp, Below.refl _ _⟩
  case round =>
    obtain ⟨i, rfl, rfl, hik, hall, hbw⟩ := hrel
    obtain ⟨v, hv⟩ : ∃ v, v = partsL (l.take i) := ⟨_, rfl⟩
    have hvb := partsL_le l i
    have hpb := HP.out
    rw [← hv] at hvb ⊢
    have hvv : v ≤ 1000000000 := by omega
    have HV := hid hv
    clear hv hvb hpb
    by_cases hlt : i < n
    · have hlt' : (i : Int) < (n : Int) := by omega
      have hi0 : (0 : Int) ≤ (i : Int) := by omega
      obtain ⟨b, off, k2, s2, l2, a2, n2, c2, rfl, _, hb, hx, hK2, q0, q1, q2, q3, q4, q5⟩ := (HK.out.below hbw).get hlt
      have hs1 := partsL_snoc hx
      have hs2 := partsL_le l (i + 1)
      have hpx : parts (.mk k2 s2 l2) ≤ 1000000000 := by have := HP.out; omega
      have CV := hid (show Calls Tryd.prog 43 #[.agg #[.int .i64 k2, .int .u64 (ws s2 0 : Int), .int .u64 (ws s2 1 : Int), .int .u64 (ws s2 2 : Int), .int .u64 (ws s2 3 : Int), .slice a2 n2 c2]] wr fun e w' => e = .returned (.bool (fits (.mk k2 s2 l2) 30)) ∧ Below wr.heap.size wr w' from rValid_any g _ wr _ (RC_mk.2 ⟨a2, n2, c2, rfl, hK2⟩))
      have CC := hid (fun V (hV : Below wr.heap.size wr V) => show Calls Tryd.prog 44 #[.agg #[.int .i64 k2, .int .u64 (ws s2 0 : Int), .int .u64 (ws s2 1 : Int), .int .u64 (ws s2 2 : Int), .int .u64 (ws s2 3 : Int), .slice a2 n2 c2]] V fun e w' => e = .returned (.int .i64 (parts (.mk k2 s2 l2) : Int)) ∧ Below V.heap.size V w' from Nodes_any g _ V _ hpx (RC_mk.2 ⟨a2, n2, c2, rfl, hK2.below hV⟩))
      have HX := hid (And.intro hs1 (And.intro hbw (And.intro hall hx)))
      obtain ⟨u, hu⟩ : ∃ u, u = parts (.mk k2 s2 l2) := ⟨_, rfl⟩
      obtain ⟨y, hy⟩ : ∃ y, y = fits (.mk k2 s2 l2) 30 := ⟨_, rfl⟩
      rw [← hu] at CC hpx
      rw [← hy] at CV
      have HU := hid hu
      have HY := hid hy
      have Q := hid (And.intro q0 (And.intro q1 (And.intro q2 (And.intro q3 (And.intro q4 (And.intro q5 hb))))))
      clear hu hs1 hs2 hx hK2 hbw hall hy
      have hsum : IntKind.i64.wrap ((v : Int) + (u : Int)) = ((v + u : Nat) : Int) := by rw [wrapIn (by omega) (by omega)]; omega
      go_wp2_with fail
      refine CV.out.mono ?_
      rintro e w2 ⟨rfl, b2⟩
      have HB2 := hid b2
      clear b2 CV q0 q1 q2 q3 q4 q5 hb
      cases y
      · go_wp2
        go_ret
        refine ⟨?_, HX.out.2.1.trans (HB2.out.mono HX.out.2.1.size)⟩
        have e1 : (l.all fun x => fits x 30) = false := by
          rw [List.all_eq_false]
          exact ⟨_, List.mem_of_getElem? HX.out.2.2.2, by rw [← HY.out]; simp⟩
        unfold ckE
        rw [if_pos e1]; rfl
      · have q0 := (HB2.out.cell (p := ⟨b, off + i * 6, none⟩) Q.out.2.2.2.2.2.2).trans Q.out.1
        have q1 := (HB2.out.cell (p := ⟨b, off + i * 6 + 1, none⟩) Q.out.2.2.2.2.2.2).trans Q.out.2.1
        have q2 := (HB2.out.cell (p := ⟨b, off + i * 6 + 2, none⟩) Q.out.2.2.2.2.2.2).trans Q.out.2.2.1
        have q3 := (HB2.out.cell (p := ⟨b, off + i * 6 + 3, none⟩) Q.out.2.2.2.2.2.2).trans Q.out.2.2.2.1
        have q4 := (HB2.out.cell (p := ⟨b, off + i * 6 + 4, none⟩) Q.out.2.2.2.2.2.2).trans Q.out.2.2.2.2.1
        have q5 := (HB2.out.cell (p := ⟨b, off + i * 6 + 5, none⟩) Q.out.2.2.2.2.2.2).trans Q.out.2.2.2.2.2.1
        go_wp2_with fail
        refine (CC.out _ HB2.out).mono ?_
        rintro e w3 ⟨rfl, b3⟩
        have HB := hid (HB2.out.trans (b3.mono HB2.out.size))
        clear b3 CC
        go_wp2
        go_roundg (gk - 1)
        case measure => omega
        case rel => exact ⟨i + 1, by go_num, by rw [HX.out.1, ← HV.out, ← HU.out]; first | rfl | (push_cast; omega) | (simp; omega), by omega, take_all HX.out.2.2.1 HX.out.2.2.2 HY.out.symm, HX.out.2.1.trans (HB.out.mono HX.out.2.1.size)⟩
    · have hlt' : ¬ (i : Int) < (n : Int) := by omega
      have e1 : (l.all fun x => fits x 30) = true := by
        rw [List.all_eq_true]
        rwa [List.take_of_length_le (by have := hll.out; omega)] at hall
      have e2 : v = partsL l := by rw [HV.out, List.take_of_length_le (by have := hll.out; omega)]
      have HX := hid (And.intro hbw (And.intro e1 e2))
      clear hbw e1 e2 hall
      by_cases h5 : 500 < v
      · have h5' : (500 : Int) < (v : Int) := by omega
        go_wp2
        go_ret
        refine ⟨?_, HX.out.1⟩
        unfold ckE
        rw [HX.out.2.1, if_neg (by simp), if_pos (by rw [← HX.out.2.2]; exact h5)]; rfl
      · have h5' : ¬ (500 : Int) < (v : Int) := by omega
        go_wp2
        go_ret
        refine ⟨?_, HX.out.1⟩
        unfold ckE
        rw [HX.out.2.1, if_neg (by simp), if_neg (by rw [← HX.out.2.2]; exact h5)]; rfl
theorem acc1_ge (x : Rx) (i o : Nat) (A : Nat → Int) (h : ∀ q, -1 ≤ A q) (q : Nat) : -1 ≤ acc1 x i o A q := by
  unfold acc1
  have h0 := h 0
  have hq := h q
  split
  · split <;> omega
  · split <;> omega
theorem accW_ge : ∀ (l : List Rx) (i o : Nat) (A : Nat → Int), (∀ q, -1 ≤ A q) → ∀ q, -1 ≤ accW l i o A q
  | [], _, _, A, h, q => by rw [accW]; exact h q
  | x :: l, i, o, A, h, q => by rw [accW]; exact accW_ge l _ _ _ (acc1_ge x i o A h) q
/-- The position automaton is valid. -/
theorem PA_vn (l : List Rx) (h : npL l ≤ 1999) : Vn (PA l) (npL l + 1) := by
  refine ⟨rfl, by omega, by omega, ⟨0, by omega, rfl⟩, ?_, ?_, ?_⟩
  · intro a ha
    simp only [PA, List.mem_flatMap, List.mem_map, List.mem_filter, List.mem_range] at ha
    obtain ⟨i, hi, j, ⟨hj, _⟩, rfl⟩ := ha
    exact ⟨i, j, hi, hj, rfl, rfl, fun h => by cases h⟩
  · show ((List.range (npL l + 1)).map (accW l 0 1 fun _ => -1)).length = npL l + 1
    rw [List.length_map, List.length_range]
  · intro x hx
    have hx : x ∈ (List.range (npL l + 1)).map (accW l 0 1 fun _ => -1) := hx
    obtain ⟨q, _, rfl⟩ := List.mem_map.1 hx
    exact accW_ge l 0 1 _ (fun _ => Int.le_refl _) q
theorem ck_parts {l : List Rx} (h : ckE l = 0) : (l.all fun x => fits x 30) = true ∧ partsL l ≤ 500 := by
  unfold ckE at h
  by_cases h1 : (l.all fun x => fits x 30) = false
  · rw [if_pos h1] at h; cases h
  · rw [if_neg h1] at h
    refine ⟨by simpa using h1, ?_⟩
    by_cases h2 : 500 < partsL l
    · rw [if_pos h2] at h; cases h
    · omega
theorem ck_vn {l : List Rx} (h : ckE l = 0) : Vn (PA l) (npL l + 1) := PA_vn l (by have := (ck_parts h).2; have := npL_le l; omega)
end Go.Proofs.YtogpnlkjcdedlaaDoor
end
section
set_option linter.unusedSimpArgs false
set_option linter.unusedVariables false
namespace Go.Proofs.YtogpnlkjcdedlaaDoor
open Go.RowKit Bs Rg Nf Go.Frame
attribute [local go_sem] eq_zero eq_set

set_option maxRecDepth 100000 in
set_option maxHeartbeats 4000000 in
theorem lset_97 (W : World) : Calls Tryd.prog 29 #[.int .u8 97] W fun e w' => e = .returned (.agg #[.int .i64 3, .int .u64 0, .int .u64 8589934592, .int .u64 0, .int .u64 0, .slice none 0 0]) ∧ Below W.heap.size W w' := by
  go_enter Tryd.func29, Tryd.ntmps29
  go_wp2
  have h0 := two W (.cells #[.int .i64 3, .int .u64 0, .int .u64 8589934592, .int .u64 0, .int .u64 0, .slice none 0 0] 50) (.cells #[.int .u64 0, .int .u64 8589934592, .int .u64 0, .int .u64 0] 48)
  obtain ⟨c0, c1, c2, c3, c4, c5⟩ := cells6 h0.1
  refine bodyPost_ret (v := .agg #[.int .i64 3, .int .u64 0, .int .u64 8589934592, .int .u64 0, .int .u64 0, .slice none 0 0]) ?_ rfl ⟨rfl, h0.2.2.1⟩
  simp [results, Tryd.results29, go_sem, c0, c1, c2, c3, c4, c5]
set_option maxRecDepth 100000 in
set_option maxHeartbeats 4000000 in
theorem lset_98 (W : World) : Calls Tryd.prog 29 #[.int .u8 98] W fun e w' => e = .returned (.agg #[.int .i64 3, .int .u64 0, .int .u64 17179869184, .int .u64 0, .int .u64 0, .slice none 0 0]) ∧ Below W.heap.size W w' := by
  go_enter Tryd.func29, Tryd.ntmps29
  go_wp2
  have h0 := two W (.cells #[.int .i64 3, .int .u64 0, .int .u64 17179869184, .int .u64 0, .int .u64 0, .slice none 0 0] 50) (.cells #[.int .u64 0, .int .u64 17179869184, .int .u64 0, .int .u64 0] 48)
  obtain ⟨c0, c1, c2, c3, c4, c5⟩ := cells6 h0.1
  refine bodyPost_ret (v := .agg #[.int .i64 3, .int .u64 0, .int .u64 17179869184, .int .u64 0, .int .u64 0, .slice none 0 0]) ?_ rfl ⟨rfl, h0.2.2.1⟩
  simp [results, Tryd.results29, go_sem, c0, c1, c2, c3, c4, c5]
/-- The set of one byte. -/
def byt (b : UInt8) : BS := fun x => decide (x = b)
theorem ws97 : (ws (byt 97) 0 = 0 ∧ ws (byt 97) 1 = 8589934592) ∧ ws (byt 97) 2 = 0 ∧ ws (byt 97) 3 = 0 := by
  refine ⟨⟨?_, ?_⟩, ?_, ?_⟩ <;> kernel_rfl
theorem ws98 : (ws (byt 98) 0 = 0 ∧ ws (byt 98) 1 = 17179869184) ∧ ws (byt 98) 2 = 0 ∧ ws (byt 98) 3 = 0 := by
  refine ⟨⟨?_, ?_⟩, ?_, ?_⟩ <;> kernel_rfl
/-- awake's two expressions. -/
def exA : Rx := .mk 6 none8 [.mk 3 (byt 97) []]
def exB : Rx := .mk 4 none8 [.mk 3 (byt 97) [], .mk 3 (byt 98) []]
theorem ok_ab : ([exA, exB].all fun x => fits x 30) = true := by kernel_rfl
theorem parts_ab : partsL [exA, exB] = 5 := by kernel_rfl
theorem npL_ab : npL [exA, exB] = 3 := by kernel_rfl
theorem valid_ab : valid (PA [exA, exB]) = true := by kernel_rfl
theorem PA_plain (l : List Rx) : ∀ a ∈ (PA l).arcs, a.e = false := by
  intro a ha
  simp only [PA, List.mem_flatMap, List.mem_map] at ha
  obtain ⟨i, _, j, _, rfl⟩ := ha
  rfl
theorem PA_ep (l : List Rx) (x y : Nat) : ¬ Ep (PA l) x y := by
  rintro ⟨a, ha, he, _⟩
  rw [PA_plain l a ha] at he
  cases he
theorem PA_after (l : List Rx) (n : Nat) (s : List UInt8) : after (PA l) n s = s.foldl (tgt (PA l)) (ini n [(PA l).st]) := by
  have h1 : Nf.start (PA l) n = ini n [(PA l).st] := clo_none (PA_ep l) _
  have h2 : stp (PA l) = tgt (PA l) := by funext p b; exact clo_none (PA_ep l) _
  unfold after
  rw [h1, h2]
theorem PA_run (l : List Rx) (n : Nat) (s : List UInt8) : run (PA l) n s = least (PA l).acc (elx n (s.foldl (tgt (PA l)) (ini n [(PA l).st]))) := by unfold run; rw [PA_after]
theorem PA_srt (l : List Rx) : Srt (PA l).arcs := by
  have hp : (PA l).arcs.Pairwise fun x y => x.f ≤ y.f := by
    simp only [PA]
    rw [List.pairwise_flatMap]
    refine ⟨fun i _ => ?_, ?_⟩
    · rw [List.pairwise_map]
      exact List.pairwise_iff_getElem.2 fun _ _ _ _ _ => Int.le_refl _
    · refine List.pairwise_lt_range.imp fun {a b} h x hx y hy => ?_
      simp only [List.mem_map] at hx hy
      obtain ⟨_, _, rfl⟩ := hx
      obtain ⟨_, _, rfl⟩ := hy
      show (a : Int) ≤ (b : Int)
      omega
  intro i x y hx hy
  obtain ⟨h1, rfl⟩ := List.getElem?_eq_some_iff.1 hx
  obtain ⟨h2, rfl⟩ := List.getElem?_eq_some_iff.1 hy
  exact List.pairwise_iff_getElem.1 hp i (i + 1) h1 h2 (by omega)
theorem run_aa : run (PA [exA, exB]) 4 [97, 97] = 0 := by rw [PA_run]; kernel_rfl
theorem run_ab : run (PA [exA, exB]) 4 [97, 98] = 1 := by rw [PA_run]; kernel_rfl
theorem run_b : run (PA [exA, exB]) 4 [98] = -1 := by rw [PA_run]; kernel_rfl
end Go.Proofs.YtogpnlkjcdedlaaDoor
end
section
set_option linter.unusedSimpArgs false
set_option linter.unusedVariables false
namespace Go.Proofs.YtogpnlkjcdedlaaDoor
open Go.RowKit Bs Rg Nf Go.Frame
attribute [local go_sem] eq_zero eq_set

theorem cells6o {W : World} {b off : Nat} {xs : Array Value} {t : TypeId} (h : W.heap[b]? = some (.cells xs t (0, 0))) (j : Nat) (v : Value) (hj : xs[off + j]? = some v) : W.cell? ⟨b, off + j, none⟩ = some v := by
  simp [World.cell?, h]
  simpa using hj
theorem row1 {W : World} {b : Nat} {t : TypeId} {x0 x1 x2 x3 x4 x5 : Value} {r : Rx} {g : Nat → Prop} (h : W.heap[b]? = some (.cells #[x0, x1, x2, x3, x4, x5] t (0, 0))) (hg : g b) (hr : RC g W r [x0, x1, x2, x3, x4, x5]) : Kd g W (some ⟨b, 0, none⟩) 1 [r] := by
  refine ⟨rfl, by decide, .inr ⟨b, 0, rfl, hg, heap_lt h, ?_⟩⟩
  rw [RK, RK]
  refine ⟨⟨_, fun j v hj => cells6o h j v ?_, hr⟩, trivial⟩
  rw [Nat.zero_add]
  simpa using hj
theorem row2 {W : World} {b : Nat} {t : TypeId} {x0 x1 x2 x3 x4 x5 y0 y1 y2 y3 y4 y5 : Value} {r s : Rx} {g : Nat → Prop} (h : W.heap[b]? = some (.cells #[x0, x1, x2, x3, x4, x5, y0, y1, y2, y3, y4, y5] t (0, 0))) (hg : g b) (hr : RC g W r [x0, x1, x2, x3, x4, x5]) (hs : RC g W s [y0, y1, y2, y3, y4, y5]) : Kd g W (some ⟨b, 0, none⟩) 2 [r, s] := by
  refine ⟨rfl, by decide, .inr ⟨b, 0, rfl, hg, heap_lt h, ?_⟩⟩
  rw [RK, RK, RK]
  refine ⟨⟨_, fun j v hj => cells6o h j v ?_, hr⟩, ⟨_, fun j v hj => cells6o h j v ?_, hs⟩, trivial⟩
  · match j, hj with
    | 0, hj => simpa using hj
    | 1, hj => simpa using hj
    | 2, hj => simpa using hj
    | 3, hj => simpa using hj
    | 4, hj => simpa using hj
    | 5, hj => simpa using hj
    | j + 6, hj => simp at hj
  · match j, hj with
    | 0, hj => simpa using hj
    | 1, hj => simpa using hj
    | 2, hj => simpa using hj
    | 3, hj => simpa using hj
    | 4, hj => simpa using hj
    | 5, hj => simpa using hj
    | j + 6, hj => simp at hj
theorem rc97 (g : Nat → Prop) (W : World) : RC g W (.mk 3 (byt 97) []) [.int .i64 3, .int .u64 0, .int .u64 8589934592, .int .u64 0, .int .u64 0, .slice none 0 0] := by
  refine RC_mk.2 ⟨none, 0, 0, ?_, rfl, by decide, .inl rfl⟩
  unfold rcs; rw [ws97.1.1, ws97.1.2, ws97.2.1, ws97.2.2]; rfl
theorem rc98 (g : Nat → Prop) (W : World) : RC g W (.mk 3 (byt 98) []) [.int .i64 3, .int .u64 0, .int .u64 17179869184, .int .u64 0, .int .u64 0, .slice none 0 0] := by
  refine RC_mk.2 ⟨none, 0, 0, ?_, rfl, by decide, .inl rfl⟩
  unfold rcs; rw [ws98.1.1, ws98.1.2, ws98.2.1, ws98.2.2]; rfl
theorem ws_none8 : (ws none8 0 = 0 ∧ ws none8 1 = 0) ∧ ws none8 2 = 0 ∧ ws none8 3 = 0 := by refine ⟨⟨?_, ?_⟩, ?_, ?_⟩ <;> kernel_rfl
theorem rcK {g : Nat → Prop} {W : World} {k : Int} {a : Option Addr} {n c : Nat} {l : List Rx} (h : Kd g W a n l) : RC g W (.mk k none8 l) [.int .i64 k, .int .u64 0, .int .u64 0, .int .u64 0, .int .u64 0, .slice a n c] := by
  refine RC_mk.2 ⟨a, n, c, ?_, h⟩
  unfold rcs; rw [ws_none8.1.1, ws_none8.1.2, ws_none8.2.1, ws_none8.2.2]; rfl
/-- What awake needs of FromRegexes. -/
def EX (w : World) (e : Ending) (w' : World) : Prop := ∃ a1 m c1 a2 c2, e = .returned (.tuple #[.agg #[.int .i64 4, .int .i64 0, .slice a1 m c1, .slice a2 4 c2], .int .i64 0]) ∧ NA w' (PA [exA, exB]) a1 m a2 4 ∧ m ≤ c1 ∧ c1 ≤ maxLen ∧ (a1 = none → c1 = 0)
set_option maxRecDepth 100000 in
theorem ex_fr {g : Nat → Prop} {a : Option Addr} {c : Nat} {W : World} (hK : Kd g W a 2 [exA, exB]) : Calls Tryd.prog 24 #[.slice a 2 c] W fun e w' => EX W e w' ∧ Below W.heap.size W w' := by
  refine (FromRegexes_any g [exA, exB] a 2 c W hK).mono ?_
  rintro e w' ⟨h, hb⟩
  refine ⟨?_, hb⟩
  unfold FR at h
  rw [if_neg (by rw [ok_ab]; exact fun h => Bool.noConfusion h), if_neg (by rw [parts_ab]; decide), npL_ab] at h
  obtain ⟨a1, m, c1, a2, c2, rfl, h⟩ := h
  exact ⟨a1, m, c1, a2, c2, rfl, h⟩
theorem vn_ab : Vn (PA [exA, exB]) 4 := by
  obtain ⟨n, h⟩ := valid_iff.1 valid_ab
  have e : (n : Int) = ((npL [exA, exB] + 1 : Nat) : Int) := h.hn.symm
  rw [npL_ab] at e
  obtain rfl : n = 4 := by omega
  exact h
set_option maxRecDepth 100000 in
set_option maxHeartbeats 4000000 in
theorem awake_any (w : World) (hT : Tb w) : Calls Tryd.prog 11 #[] w fun e w' => e = .returned (.bool true) ∧ Below w.heap.size w w' := by
  have HT := hid hT
  clear hT
  go_enter Tryd.func11, Tryd.ntmps11
  go_wp2_with fail
  refine (lset_97 _).mono ?_
  rintro e W1 ⟨rfl, b1⟩
  have B1 := hid b1
  clear b1
  go_wp2_with fail
  refine (lset_97 _).mono ?_
  rintro e W2 ⟨rfl, b2⟩
  have B2 := hid b2
  clear b2
  go_wp2_with fail
  refine (lset_98 _).mono ?_
  rintro e W3 ⟨rfl, b3⟩
  have B3 := hid b3
  clear b3
  go_wp2_with fail
  obtain ⟨V, hV⟩ : ∃ V, V = (W3.alloc (.cells #[.int .i64 3, .int .u64 0, .int .u64 8589934592, .int .u64 0, .int .u64 0, .slice none 0 0, .int .i64 3, .int .u64 0, .int .u64 17179869184, .int .u64 0, .int .u64 0, .slice none 0 0] 50)).alloc (.cells #[.int .i64 6, .int .u64 0, .int .u64 0, .int .u64 0, .int .u64 0, .slice (some ⟨W1.heap.size, 0, none⟩) 1 1, .int .i64 4, .int .u64 0, .int .u64 0, .int .u64 0, .int .u64 0, .slice (some ⟨W3.heap.size, 0, none⟩) 2 2] 50) := ⟨_, rfl⟩
  have h12 : (W1.alloc (.cells #[.int .i64 3, .int .u64 0, .int .u64 8589934592, .int .u64 0, .int .u64 0, .slice none 0 0] 50)).heap.size = W1.heap.size + 1 := by simp
  have h3 := B3.out
  have h2 := B2.out
  have hV3 := two W3 (.cells #[.int .i64 3, .int .u64 0, .int .u64 8589934592, .int .u64 0, .int .u64 0, .slice none 0 0, .int .i64 3, .int .u64 0, .int .u64 17179869184, .int .u64 0, .int .u64 0, .slice none 0 0] 50) (.cells #[.int .i64 6, .int .u64 0, .int .u64 0, .int .u64 0, .int .u64 0, .slice (some ⟨W1.heap.size, 0, none⟩) 1 1, .int .i64 4, .int .u64 0, .int .u64 0, .int .u64 0, .int .u64 0, .slice (some ⟨W3.heap.size, 0, none⟩) 2 2] 50)
  rw [← hV] at hV3
  have h23 := h2.trans (h3.mono h2.size)
  have HV := hid (show Below w.heap.size w V ∧ Kd (fun _ => True) V (some ⟨W3.heap.size + 1, 0, none⟩) 2 [exA, exB] from by
    have e1 : Below W1.heap.size W1 (W1.alloc (.cells #[.int .i64 3, .int .u64 0, .int .u64 8589934592, .int .u64 0, .int .u64 0, .slice none 0 0] 50)) := bel1 _ _
    have e2 : Below W1.heap.size W1 W3 := e1.trans (h23.mono (by omega))
    have e3 : Below W1.heap.size W1 V := e2.trans (hV3.2.2.1.mono e2.size)
    have k1 : V.heap[W1.heap.size]? = some (.cells #[.int .i64 3, .int .u64 0, .int .u64 8589934592, .int .u64 0, .int .u64 0, .slice none 0 0] 50 (0, 0)) := by
      refine (hV3.2.2.1.block _ (by have := h23.size; omega)).trans ((h23.block _ (by omega)).trans (alloc_new _ _))
    refine ⟨B1.out.trans (e3.mono B1.out.size), row2 hV3.2.1 trivial (rcK (row1 k1 trivial (rc97 _ _))) (rcK (row2 hV3.1 trivial (rc97 _ _) (rc98 _ _)))⟩)
  rw [← hV]
  clear hV hV3 h23 h2 h3 h12 B1 B2 B3
  refine (ex_fr HV.out.2).mono ?_
  rintro e V1 ⟨⟨a1, m, c1, a2, c2, rfl, hN, hmc, hcc, hnil⟩, bV⟩
  have HN := hid (And.intro hN (And.intro hmc (And.intro hcc hnil)))
  have BV := hid bV
  clear hN hmc hcc hnil bV
  go_upto_region 3 with fail
  obtain ⟨X, hX⟩ : ∃ X, X = V1.alloc (.cells #[.int .i64 4, .int .i64 0, .slice a1 m c1, .slice a2 4 c2] 25) := ⟨_, rfl⟩
  have HX := hid (show Below w.heap.size w X ∧ X.heap[V1.heap.size]? = some (.cells #[.int .i64 4, .int .i64 0, .slice a1 m c1, .slice a2 4 c2] 25 (0, 0)) ∧ NA X (PA [exA, exB]) a1 m a2 4 from by
    rw [hX]
    have e1 := HV.out.1.trans (BV.out.mono HV.out.1.size)
    exact ⟨e1.trans ((bel1 _ _).mono e1.size), alloc_new _ _, HN.out.1.below (bel1 _ _)⟩)
  rw [← hX]
  clear hX
  have CV := hid (fun Z (hZ : Below X.heap.size X Z) => show Calls Tryd.prog 12 #[.agg #[.int .i64 4, .int .i64 0, .slice a1 m c1, .slice a2 4 c2]] Z fun r w' => r = .returned (.bool true) ∧ Below Z.heap.size Z w' from by
    have h := NValid_any Z (PA [exA, exB]) a1 a2 m c1 4 c2 (HX.out.2.2.below hZ)
    rw [valid_ab] at h
    exact h)
  have CR := hid (fun Z (s : ByteArray) (hs : s.size ≤ 1000000) (hZ : Below X.heap.size X Z) => show Calls Tryd.prog 20 #[.agg #[.int .i64 4, .int .i64 0, .slice a1 m c1, .slice a2 4 c2], .string s] Z fun r w' => r = .returned (.int .i64 (run (PA [exA, exB]) 4 s.data.toList)) ∧ Below Z.heap.size Z w' from
    NRun_any Z (PA [exA, exB]) 4 vn_ab a1 a2 m c1 4 c2 (HX.out.2.2.below hZ) (fun Y hY => newMachine_plain Y (PA [exA, exB]) 4 vn_ab a1 a2 m c1 4 c2 HN.out.2.1 HN.out.2.2.1 HN.out.2.2.2 ((HX.out.2.2.below hZ).below hY) (PA_srt _) (PA_plain _)) s hs (HT.out.below (HX.out.1.trans (hZ.mono HX.out.1.size))))
  have Raa := hid (fun Z (hZ : Below X.heap.size X Z) => show Calls Tryd.prog 20 #[.agg #[.int .i64 4, .int .i64 0, .slice a1 m c1, .slice a2 4 c2], .string { data := #[97, 97] }] Z fun r w' => r = .returned (.int .i64 0) ∧ Below Z.heap.size Z w' from by
    have h := CR.out Z ⟨#[97, 97]⟩ (by decide) hZ
    rw [show run (PA [exA, exB]) 4 (ByteArray.mk #[97, 97]).data.toList = 0 from run_aa] at h
    exact h)
  have Rab := hid (fun Z (hZ : Below X.heap.size X Z) => show Calls Tryd.prog 20 #[.agg #[.int .i64 4, .int .i64 0, .slice a1 m c1, .slice a2 4 c2], .string { data := #[97, 98] }] Z fun r w' => r = .returned (.int .i64 1) ∧ Below Z.heap.size Z w' from by
    have h := CR.out Z ⟨#[97, 98]⟩ (by decide) hZ
    rw [show run (PA [exA, exB]) 4 (ByteArray.mk #[97, 98]).data.toList = 1 from run_ab] at h
    exact h)
  have Rb := hid (fun Z (hZ : Below X.heap.size X Z) => show Calls Tryd.prog 20 #[.agg #[.int .i64 4, .int .i64 0, .slice a1 m c1, .slice a2 4 c2], .string { data := #[98] }] Z fun r w' => r = .returned (.int .i64 (-1)) ∧ Below Z.heap.size Z w' from by
    have h := CR.out Z ⟨#[98]⟩ (by decide) hZ
    rw [show run (PA [exA, exB]) 4 (ByteArray.mk #[98]).data.toList = -1 from run_b] at h
    exact h)
  have CZ := hid (fun Z => show Calls Tryd.prog 12 #[.agg #[.int .i64 0, .int .i64 0, .slice none 0 0, .slice none 0 0]] Z fun r w' => r = .returned (.bool false) ∧ Below Z.heap.size Z w' from
    NValid_any Z ⟨0, 0, [], []⟩ none none 0 0 0 0 ⟨⟨rfl, .inl rfl⟩, ⟨rfl, .inl rfl⟩, by decide, by decide⟩)
  have Z0 := hid (Below.refl X.heap.size X)
  clear CR HT HN BV HV
  obtain ⟨p0, p1, p2, p3⟩ := cells4 ((Z0.out.block _ (heap_lt HX.out.2.1)).trans HX.out.2.1)
  go_wp2_with fail
  refine (CV.out _ Z0.out).mono ?_
  rintro e U0 ⟨rfl, b0⟩
  clear p0 p1 p2 p3
  have Z1 := hid (Z0.out.trans (b0.mono Z0.out.size))
  clear b0
  obtain ⟨p0, p1, p2, p3⟩ := cells4 ((Z1.out.block _ (heap_lt HX.out.2.1)).trans HX.out.2.1)
  go_wp2_with fail
  refine (Raa.out _ Z1.out).mono ?_
  rintro e U1 ⟨rfl, b1⟩
  clear p0 p1 p2 p3
  have Z2 := hid (Z1.out.trans (b1.mono Z1.out.size))
  clear b1
  obtain ⟨p0, p1, p2, p3⟩ := cells4 ((Z2.out.block _ (heap_lt HX.out.2.1)).trans HX.out.2.1)
  go_wp2_with fail
  refine (Rab.out _ Z2.out).mono ?_
  rintro e U2 ⟨rfl, b2⟩
  clear p0 p1 p2 p3
  have Z3 := hid (Z2.out.trans (b2.mono Z2.out.size))
  clear b2
  obtain ⟨p0, p1, p2, p3⟩ := cells4 ((Z3.out.block _ (heap_lt HX.out.2.1)).trans HX.out.2.1)
  go_wp2_with fail
  refine (Rb.out _ Z3.out).mono ?_
  rintro e U3 ⟨rfl, b3⟩
  clear p0 p1 p2 p3
  have Z4 := hid (Z3.out.trans (b3.mono Z3.out.size))
  clear b3
  obtain ⟨p0, p1, p2, p3⟩ := cells4 ((Z4.out.block _ (heap_lt HX.out.2.1)).trans HX.out.2.1)
  go_wp2_with fail
  refine (CZ.out _).mono ?_
  rintro e U4 ⟨rfl, b4⟩
  clear p0 p1 p2 p3
  have Z5 := hid (Z4.out.trans (b4.mono Z4.out.size))
  clear b4
  go_wp2_with fail
  go_ret
  exact ⟨rfl, HX.out.1.trans (Z5.out.mono HX.out.1.size)⟩
end Go.Proofs.YtogpnlkjcdedlaaDoor
end
