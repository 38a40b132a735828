/-
  Contract: FromRegexes.
-/
import Derived.Test.YtogpnlkjcdedlaaDoorBo
import Derived.Test.YtogpnlkjcdedlaaDoorBp
set_option linter.unusedSimpArgs false
set_option linter.unusedVariables false
namespace Go.Proofs.YtogpnlkjcdedlaaDoor
open Go.RowKit Bs Rg Nf Go.Frame
attribute [local go_sem] eq_zero eq_set

theorem np_le (r : Rx) : np r ≤ parts r := by
  induction r using Rx.ind with
  | h k s l ih =>
    have hl : ∀ m : List Rx, (∀ x ∈ m, np x ≤ parts x) → npL m ≤ partsL m := by
      intro m
      induction m with
      | nil => intro _; rw [npL, partsL]; exact Nat.le_refl _
      | cons y m ihm => intro hm; rw [npL, partsL]; have := hm y (by simp); have := ihm fun x hx => hm x (by simp [hx]); omega
    rw [np_mk, parts]
    split
    · omega
    · have := hl l ih; omega
theorem npL_le : ∀ l : List Rx, npL l ≤ partsL l
  | [] => by rw [npL, partsL]; exact Nat.le_refl _
  | x :: l => by rw [npL, partsL]; have := np_le x; have := npL_le l; omega
theorem pr_lt (r : Rx) : ∀ o i j, pr r o i j = true → j < o + np r := by
  induction r using Rx.ind with
  | h k s l ih =>
    have hFC : ∀ (m : List Rx) (o x : Nat), x ∈ fstC m o → x < o + npL m := fun m o x hx => by
      have := (fst_ok (.mk 4 none8 m) o).2
      rw [fst_mk, if_neg (by decide), if_pos rfl, np_mk, if_neg (by decide)] at this
      exact (this x hx).2
    have hFU : ∀ (m : List Rx) (o x : Nat), x ∈ fstU m o → x < o + npL m := fun m o x hx => by
      have := (fst_ok (.mk 5 none8 m) o).2
      rw [fst_mk, if_neg (by decide), if_neg (by decide), np_mk, if_neg (by decide)] at this
      exact (this x hx).2
    have hC : ∀ m : List Rx, (∀ x ∈ m, ∀ o i j, pr x o i j = true → j < o + np x) → ∀ o i j, prC m o i j = true → j < o + npL m := by
      intro m
      induction m with
      | nil => intro _ o i j h; rw [prC_nil] at h; cases h
      | cons y m ihm =>
        intro hm o i j h
        rw [prC_cons, Bool.or_eq_true, Bool.or_eq_true, Bool.and_eq_true] at h
        rw [npL]
        rcases h with (h | h) | h
        · have := hm y (by simp) o i j h; omega
        · have := ihm (fun x hx => hm x (by simp [hx])) (o + np y) i j h; omega
        · have := hFC m (o + np y) j (by simpa using h.2); omega
    have hU : ∀ m : List Rx, (∀ x ∈ m, ∀ o i j, pr x o i j = true → j < o + np x) → ∀ o i j, prU m o i j = true → j < o + npL m := by
      intro m
      induction m with
      | nil => intro _ o i j h; rw [prU_nil] at h; cases h
      | cons y m ihm =>
        intro hm o i j h
        rw [prU_cons, Bool.or_eq_true] at h
        rw [npL]
        rcases h with h | h
        · have := hm y (by simp) o i j h; omega
        · have := ihm (fun x hx => hm x (by simp [hx])) (o + np y) i j h; omega
    intro o i j h
    rw [pr_mk] at h
    rw [np_mk]
    by_cases h3 : k = 3
    · rw [if_pos h3] at h; cases h
    · rw [if_neg h3] at h ⊢
      by_cases h4 : k = 4
      · rw [if_pos h4] at h; exact hC l ih o i j h
      · rw [if_neg h4, Bool.or_eq_true, Bool.and_eq_true] at h
        rcases h with h | h
        · exact hU l ih o i j h
        · exact hFU l o j (by simpa using h.2)
theorem prW_lt (l : List Rx) (i j : Nat) (h : prW l i j = true) : j < npL l + 1 := by
  unfold prW at h
  rw [Bool.or_eq_true, Bool.and_eq_true] at h
  have h5 := pr_lt (.mk 5 none8 l) 1 i j
  rw [pr_mk, if_neg (by decide), if_neg (by decide), np_mk, if_neg (by decide)] at h5
  have h6 := (fst_ok (.mk 5 none8 l) 1).2 j
  rw [fst_mk, if_neg (by decide), if_neg (by decide), np_mk, if_neg (by decide)] at h6
  rcases h with h | h
  · have := h5 (by simp [h]); omega
  · have := (h6 (by simpa using h.2)).2; omega
def zNFA : Value := .agg #[.int .i64 0, .int .i64 0, .slice none 0 0, .slice none 0 0]
/-- What FromRegexes answers. -/
def FR (l : List Rx) (e : Ending) (w' : World) : Prop :=
  if (l.all fun x => fits x 30) = false then e = .returned (.tuple #[zNFA, .int .i64 1])
  else if 500 < partsL l then e = .returned (.tuple #[zNFA, .int .i64 11])
  else ∃ a1 m c1 a2 c2, e = .returned (.tuple #[.agg #[.int .i64 ((npL l + 1 : Nat) : Int), .int .i64 0, .slice a1 m c1, .slice a2 (npL l + 1) c2], .int .i64 0]) ∧ NA w' (PA l) a1 m a2 (npL l + 1) ∧ m ≤ c1 ∧ c1 ≤ maxLen ∧ (a1 = none → c1 = 0)
/-- A builder just made. -/
theorem BX.new {W : World} {bb most : Nat} (h : W.heap[bb]? = some (.cells #[.int .i64 (most : Int), .slice none 0 0, .slice none 0 0, .slice none 0 0] 77 (0, 0))) (hm : most ≤ 1000) : BX (· = bb) W bb bb most [] (fun _ _ => false) [] :=
  ⟨.slice none 0 0, .slice none 0 0, .slice none 0 0, fun _ => 0, ⟨h, ⟨rfl, .inl ⟨rfl, rfl⟩⟩, ⟨rfl, .inl ⟨rfl, rfl⟩⟩, ⟨rfl, .inl ⟨rfl, rfl⟩⟩, fun i hi => by simp at hi, fun i j hi => by simp at hi, rfl, fun k hk => by simp [Value.ownBlock] at hk, fun k hk => by simp [Value.ownBlock] at hk, fun k hk => by simp [Value.ownBlock] at hk, fun b hb => by subst hb; exact ⟨Nat.le_refl _, heap_lt h⟩, fun i j _ => rfl, hm, by simp⟩⟩
set_option maxRecDepth 100000 in
set_option maxHeartbeats 4000000 in
theorem FromRegexes_any (g : Nat → Prop) (l : List Rx) (a : Option Addr) (n c : Nat) (W : World) (hK : Kd g W a n l) :
    Calls Tryd.prog 24 #[.slice a n c] W fun e w' => FR l e w' ∧ Below W.heap.size W w' := by
  have HK := hid hK.bound
  have hll := hid hK.len
  have hnn := hK.lt
  obtain ⟨X, hX⟩ : ∃ X, X = W.alloc (.cells #[.int .i64 0, .int .i64 0, .slice none 0 0, .slice none 0 0] 25) := ⟨_, rfl⟩
  have BXX := hid (show Below W.heap.size W X ∧ X.heap.size = W.heap.size + 1 from by rw [hX]; exact ⟨bel1 _ _, by simp⟩)
  have HZ := hid (show X.heap[W.heap.size]? = some (.cells #[.int .i64 0, .int .i64 0, .slice none 0 0, .slice none 0 0] 25 (0, 0)) from by rw [hX]; exact alloc_new _ _)
  clear hK
  go_enter Tryd.func24, Tryd.ntmps24
  go_upto_region 1 with fail
  rw [← hX]
  clear hX
  go_wp2_with fail
  go_loopg [12] n (fun kk s12 wr => ∃ i : Nat, s12 = .int .i64 (i : Int) ∧ i + kk = n ∧ (∀ x ∈ l.take i, fits x 30 = true) ∧ Below X.heap.size X wr)
  case atStart => exact ⟨0, rfl, by omega, by simp, Below.refl _ _⟩
  case round =>
    obtain ⟨i, rfl, hik, hall, hbw⟩ := hrel
    by_cases hlt : i < n
    · have hlt' : (i : Int) < (n : Int) := by omega
      have hi0 : (0 : Int) ≤ (i : Int) := by omega
      obtain ⟨b, off, k, s, l2, a2, n2, c2, rfl, _, hb, hx, hK2, q0, q1, q2, q3, q4, q5⟩ := (HK.out.below (BXX.out.1.trans (hbw.mono BXX.out.1.size))).get hlt
      obtain ⟨U, hU⟩ : ∃ U, U = wr.alloc (.cells #[.int .i64 k, .int .u64 (ws s 0 : Int), .int .u64 (ws s 1 : Int), .int .u64 (ws s 2 : Int), .int .u64 (ws s 3 : Int), .slice a2 n2 c2] 50) := ⟨_, rfl⟩
      have hU6 : U.heap[wr.heap.size]? = some (.cells #[.int .i64 k, .int .u64 (ws s 0 : Int), .int .u64 (ws s 1 : Int), .int .u64 (ws s 2 : Int), .int .u64 (ws s 3 : Int), .slice a2 n2 c2] 50 (0, 0)) := by rw [hU]; exact alloc_new _ _
      have BU := hid (show Below wr.heap.size wr U from by rw [hU]; exact bel1 _ _)
      have CV := hid (show Calls Tryd.prog 45 #[.agg #[.int .i64 k, .int .u64 (ws s 0 : Int), .int .u64 (ws s 1 : Int), .int .u64 (ws s 2 : Int), .int .u64 (ws s 3 : Int), .slice a2 n2 c2]] U _ from Valid_any _ (.mk k s l2) U _ (RC_mk.2 ⟨a2, n2, c2, rfl, hK2.below BU.out⟩))
      have HX := hid (And.intro hx (And.intro hall hbw))
      obtain ⟨e0, e1, e2, e3, e4, e5⟩ := cells6 hU6
      obtain ⟨z, hz⟩ : ∃ z, z = fits (Rx.mk k s l2) 30 := ⟨_, rfl⟩
      rw [← hz] at CV
      have HZZ := hid hz
      clear hx hK2 hall hbw hU6 hb hz
      go_upto_region 4 with fail
      rw [← hU]
      clear hU q0 q1 q2 q3 q4 q5
      go_wp2_with fail
      refine CV.out.mono ?_
      rintro e w3 ⟨rfl, b3⟩
      have B3 := hid (HX.out.2.2.trans ((BU.out.trans (b3.mono BU.out.size)).mono HX.out.2.2.size))
      clear b3 CV e0 e1 e2 e3 e4 e5
      cases z with
      | true =>
        go_wp2
        go_roundg (gk - 1)
        case measure => omega
        case rel =>
          refine ⟨i + 1, by go_num, by omega, fun y hy => ?_, B3.out⟩
          rw [take_snoc HX.out.1] at hy
          rcases List.mem_append.1 hy with hy | hy
          · exact HX.out.2.1 y hy
          · simp at hy; subst hy; exact HZZ.out.symm
      | false =>
        have hz3 := (B3.out.block _ (heap_lt HZ.out)).trans HZ.out
        obtain ⟨z0, z1, z2, z3⟩ := cells4 hz3
        obtain ⟨f0, f1, f2, f3⟩ := frozen4 hz3
        have hR := four_set (x' := .int .i64 0) (y' := .int .i64 0) (z' := .slice none 0 0) (u' := .slice none 0 0) hz3
        obtain ⟨t0, t1, t2, t3⟩ := cells4 hR
        clear hz3 hR
        go_wp2
        refine bodyPost_ret (v := .tuple #[.agg #[.int .i64 0, .int .i64 0, .slice none 0 0, .slice none 0 0], .int .i64 1]) ?_ rfl ?_
        · simp [results, Tryd.results24, go_sem, t0, t1, t2, t3, z0, z1, z2, z3]
        · refine ⟨?_, below_put (below_put (below_put (below_put (BXX.out.1.trans (B3.out.mono BXX.out.1.size)) (Nat.le_refl _)) (Nat.le_refl _)) (Nat.le_refl _)) (Nat.le_refl _)⟩
          have hf : (l.all fun x => fits x 30) = false := by
            rw [← Bool.not_eq_true, List.all_eq_true]
            intro h9
            have h8 := h9 _ (List.mem_of_getElem? HX.out.1)
            rw [← HZZ.out] at h8; cases h8
          unfold FR
          rw [if_pos hf]
          rfl
    · have hlt' : ¬ (i : Int) < (n : Int) := by omega
      rw [show l.take i = l from List.take_of_length_le (by have := hll.out; omega)] at hall
      have HB := hid (And.intro hall hbw)
      have hft : ¬ (l.all fun x => fits x 30) = false := by rw [Bool.not_eq_false, List.all_eq_true]; exact hall
      have HFT := hid hft
      have CC := hid (count_any _ 30 l a n c wr (by decide) hall (HK.out.below (BXX.out.1.trans (hbw.mono BXX.out.1.size))))
      clear hall hbw hft
      go_wp2_with fail
      refine CC.out.mono ?_
      rintro e w2 ⟨⟨v, rfl, hcn⟩, b2⟩
      have B2 := hid (HB.out.2.trans (b2.mono HB.out.2.size))
      have HC := hid hcn
      have hvb := hcn.2.2
      have hz2 := (B2.out.block _ (heap_lt HZ.out)).trans HZ.out
      have HZ2 := hid hz2
      clear b2 CC hcn
      by_cases h5 : 500 < v
      · have h5' : (500 : Int) < (v : Int) := by omega
        obtain ⟨z0, z1, z2, z3⟩ := cells4 hz2
        obtain ⟨f0, f1, f2, f3⟩ := frozen4 hz2
        have hR := four_set (x' := .int .i64 0) (y' := .int .i64 0) (z' := .slice none 0 0) (u' := .slice none 0 0) hz2
        obtain ⟨t0, t1, t2, t3⟩ := cells4 hR
        clear hz2 hR
        go_wp2
        refine bodyPost_ret (v := .tuple #[.agg #[.int .i64 0, .int .i64 0, .slice none 0 0, .slice none 0 0], .int .i64 11]) ?_ rfl ?_
        · simp [results, Tryd.results24, go_sem, t0, t1, t2, t3, z0, z1, z2, z3]
        · refine ⟨?_, below_put (below_put (below_put (below_put (BXX.out.1.trans (B2.out.mono BXX.out.1.size)) (Nat.le_refl _)) (Nat.le_refl _)) (Nat.le_refl _)) (Nat.le_refl _)⟩
          have hp : 500 < partsL l := by
            rcases Nat.lt_or_ge 500 (partsL l) with h9 | h9
            · exact h9
            · have := HC.out.1 h9; omega
          unfold FR
          rw [if_neg HFT.out, if_pos hp]
          rfl
      · have h5' : ¬ (500 : Int) < (v : Int) := by omega
        have hp : ¬ 500 < partsL l := fun h9 => h5 (HC.out.2.1 h9)
        have hv := HC.out.1 (by omega)
        have HV := hid (And.intro hp hv)
        have hsum : IntKind.i64.wrap ((v : Int) + 1) = (v : Int) + 1 := wrapIn (by omega) (by omega)
        obtain ⟨V, hV⟩ : ∃ V, V = w2.alloc (.cells #[.int .i64 ((v : Int) + 1), .slice none 0 0, .slice none 0 0, .slice none 0 0] 77) := ⟨_, rfl⟩
        have BV := hid (show Below w2.heap.size w2 V ∧ V.heap.size = w2.heap.size + 1 from by rw [hV]; exact ⟨bel1 _ _, by simp⟩)
        have CA := hid (show Calls Tryd.prog 47 #[.pointer (some ⟨w2.heap.size, 0, none⟩), .agg #[.int .u64 0, .int .u64 0, .int .u64 0, .int .u64 0]] V _ from by
          have h9 := addState_X w2.heap.size w2.heap.size (v + 1) [] (fun _ _ => false) [] none8 (· = w2.heap.size) V (BX.new (by rw [hV, alloc_new]; push_cast; rfl) (by omega)) (by simp)
          rw [ws_none, ws_none, ws_none, ws_none] at h9
          exact h9)
        clear hz2 hp hv
        go_upto_region 11 with fail
        rw [← hV]
        clear hV
        go_wp2_with fail
        refine CA.out.mono ?_
        rintro e w3 ⟨rfl, ⟨G1, hbx1, hG1⟩, hkp1⟩
        have HB3 := hid (BV.out.1.trans ((hkp1.toBelow fun b hb => by rcases hb with h | h; rw [h]; exact Nat.le_refl _; have := BV.out.2; omega).mono (Nat.le_refl _)))
        have HX1 := hid hbx1
        have HG1 := hid (fun b hb => by rcases hG1 b hb with h | h; rw [h]; exact Nat.le_refl _; have := BV.out.2; omega : ∀ b, G1 b → w2.heap.size ≤ b)
        clear hbx1 hG1 hkp1 CA
        go_wp2_with fail
        go_loopg [35] n (fun kk s35 wr => ∃ (i : Nat) (G2 : Nat → Prop), s35 = .int .i64 (i : Int) ∧ i + kk = n ∧ BX G2 wr w2.heap.size w2.heap.size (v + 1) (setsW (l.take i)) (prW (l.take i)) (accL (l.take i)) ∧ (∀ b, G2 b → w2.heap.size ≤ b) ∧ Below w2.heap.size w2 wr)
        case atStart => exact ⟨0, G1, rfl, by omega, by rw [List.take_zero, prW_nil, accL_nil]; simpa [setsW, osL] using HX1.out, HG1.out, HB3.out⟩
        case round =>
          obtain ⟨i, G2, rfl, hik, hbx, hG2, hbw⟩ := hrel
          have hbW : Below W.heap.size W wr := (BXX.out.1.trans (B2.out.mono BXX.out.1.size)).trans (hbw.mono (by have := BXX.out.1.size; have := B2.out.size; omega))
          by_cases hlt : i < n
          · have hlt' : (i : Int) < (n : Int) := by omega
            have hi0 : (0 : Int) ≤ (i : Int) := by omega
            obtain ⟨b, off, k, s, l2, a2, n2, c2, rfl, _, hb, hx, hK2, q0, q1, q2, q3, q4, q5⟩ := (HK.out.below hbW).get hlt
            obtain ⟨U, hU⟩ : ∃ U, U = wr.alloc (.cells #[.int .i64 k, .int .u64 (ws s 0 : Int), .int .u64 (ws s 1 : Int), .int .u64 (ws s 2 : Int), .int .u64 (ws s 3 : Int), .slice a2 n2 c2] 50) := ⟨_, rfl⟩
            have hU6 : U.heap[wr.heap.size]? = some (.cells #[.int .i64 k, .int .u64 (ws s 0 : Int), .int .u64 (ws s 1 : Int), .int .u64 (ws s 2 : Int), .int .u64 (ws s 3 : Int), .slice a2 n2 c2] 50 (0, 0)) := by rw [hU]; exact alloc_new _ _
            have BU := hid (show Below wr.heap.size wr U ∧ U.heap.size = wr.heap.size + 1 from by rw [hU]; exact ⟨bel1 _ _, by simp⟩)
            have hp1 := partsL_eq l
            have hp2 := npL_le l
            have hp3 := npL_take hx
            have hp4 := setsW_length (l.take i)
            have hWw : W.heap.size ≤ w2.heap.size := by have := BXX.out.1.size; have := B2.out.size; omega
            have CE := hid (show Calls Tryd.prog 48 #[.pointer (some ⟨w2.heap.size, 0, none⟩), .int .i64 (i : Int), .agg #[.int .i64 k, .int .u64 (ws s 0 : Int), .int .u64 (ws s 1 : Int), .int .u64 (ws s 2 : Int), .int .u64 (ws s 3 : Int), .slice a2 n2 c2]] U _ from
              addExpression_any (.mk k s l2) ⟨30, HB.out.1 _ (List.mem_of_getElem? hx)⟩ i (by have := HV.out; have := hll.out; omega) w2.heap.size w2.heap.size (v + 1) _ _ _ G2 (fun b => g b ∧ b < W.heap.size) U (rcs k s (.slice a2 n2 c2)) (hbx.below BU.out.1) (RC_mk.2 ⟨a2, n2, c2, rfl, hK2.below BU.out.1⟩) (fun b hb h9 => by have := hG2 b h9; have := hb.2; omega) (by have := HV.out; omega) (by omega))
            have HX := hid (And.intro hx (And.intro hG2 hbw))
            obtain ⟨e0, e1, e2, e3, e4, e5⟩ := cells6 hU6
            clear hx hK2 hbx hG2 hbw hbW hU6 hb hp1 hp2 hp3 hp4 hWw
            go_upto_region 15 with fail
            rw [← hU]
            clear hU q0 q1 q2 q3 q4 q5
            go_wp2_with fail
            refine CE.out.mono ?_
            rintro e w5 ⟨rfl, G3, hbx3, hG3, hkp3⟩
            have HY := hid (And.intro hbx3 (And.intro hG3 hkp3))
            clear hbx3 hG3 hkp3 CE e0 e1 e2 e3 e4 e5
            go_wp2
            go_roundg (gk - 1)
            case measure => omega
            case rel =>
              obtain ⟨hx, hG2, hbw⟩ := HX.out
              obtain ⟨hbx3, hG3, hkp3⟩ := HY.out
              have hs2 := hbw.size
              have hs3 := BU.out.2
              have hl4 := setsW_length (l.take i)
              have hl5 : (l.take i).length = i := by rw [List.length_take]; have := hll.out; omega
              rw [setsW_snoc, hl4, Nat.add_comm (npL (l.take i)) 1, prW_snoc] at hbx3
              have h8 := accL_snoc (l.take i) (.mk k s l2)
              rw [hl5] at h8
              rw [h8, ← take_snoc hx] at hbx3
              refine ⟨i + 1, G3, by go_num, by omega, hbx3, fun b hb => ?_, hbw.trans ((BU.out.1.mono hs2).trans (hkp3.toBelow fun b hb => ?_))⟩
              · rcases hG3 b hb with h | h
                · exact hG2 b h
                · omega
              · rcases hb with h | h
                · exact hG2 b h
                · omega
          · have hlt' : ¬ (i : Int) < (n : Int) := by omega
            rw [show l.take i = l from List.take_of_length_le (by have := hll.out; omega)] at hbx
            obtain ⟨N, hN⟩ : ∃ N, N = npL l + 1 := ⟨_, rfl⟩
            have hp2 := npL_le l
            have CU := hid (show Calls Tryd.prog 49 #[.pointer (some ⟨w2.heap.size, 0, none⟩)] wr fun e w' => (∃ a1 m c1 a2 c2, e = .returned (.agg #[.int .i64 (N : Int), .int .i64 0, .slice a1 m c1, .slice a2 N c2]) ∧ NA w' (PA l) a1 m a2 N ∧ (∀ x, a1 = some x → w2.heap.size ≤ x.block) ∧ (∀ x, a2 = some x → w2.heap.size ≤ x.block) ∧ m ≤ c1 ∧ c1 ≤ maxLen ∧ (a1 = none → c1 = 0)) ∧ Below wr.heap.size wr w' from by
              have h9 := automaton_any w2.heap.size w2.heap.size (v + 1) (setsW l) (prW l) (accL l) G2 wr hbx (by rw [setsW_length]; have := HV.out; omega) (fun p q _ hq => by rw [setsW_length]; exact prW_lt l p q hq)
              rw [setsW_length, ← hN] at h9
              refine h9.mono ?_
              rintro e w' ⟨⟨a1, m, c1, a2, c2, rfl, h1, h2, h3⟩, h4⟩
              refine ⟨⟨a1, m, c1, a2, c2, rfl, ?_, h2, h3⟩, h4⟩
              have e9 : PA l = ⟨(N : Int), 0, arcsTo (setsW l) (prW l) N N, accL l⟩ := by rw [hN]; rfl
              rw [e9]; exact h1)
            have HBW := hid hbw
            have HNN := hid hN
            clear hbx hG2 hbw hbW hp2 hN
            go_upto_region 17 with fail
            go_wp2_with fail
            refine CU.out.mono ?_
            rintro e w6 ⟨⟨a1, m, c1, a2, c2, rfl, hna, hb1, hb2, hcap⟩, b6⟩
            have hWX := BXX.out.2
            have hX2 := B2.out.size
            have hbel : Below w2.heap.size w2 w6 := HBW.out.trans (b6.mono HBW.out.size)
            have hz6 := (hbel.block _ (heap_lt HZ2.out)).trans HZ2.out
            have HY := hid (And.intro hna (And.intro hb1 (And.intro hb2 hbel)))
            have HCAP := hid hcap
            clear hcap
            obtain ⟨z0, z1, z2, z3⟩ := cells4 hz6
            obtain ⟨f0, f1, f2, f3⟩ := frozen4 hz6
            have hR := four_set (x' := .int .i64 (N : Int)) (y' := .int .i64 0) (z' := .slice a1 m c1) (u' := .slice a2 N c2) hz6
            obtain ⟨t0, t1, t2, t3⟩ := cells4 hR
            clear hna hb1 hb2 b6 hbel hz6 hR hWX hX2 CU
            go_wp2
            refine bodyPost_ret (v := .tuple #[.agg #[.int .i64 (N : Int), .int .i64 0, .slice a1 m c1, .slice a2 N c2], .int .i64 0]) ?_ rfl ?_
            · simp [results, Tryd.results24, go_sem, t0, t1, t2, t3]
            · obtain ⟨hna, hb1, hb2, hbel⟩ := HY.out
              have hWX := BXX.out.2
              have hX2 := B2.out.size
              have hs1 : ∀ x : Addr, a1 = some x → x.block ≠ W.heap.size := fun x hx => by have := hb1 x hx; omega
              have hs2 : ∀ x : Addr, a2 = some x → x.block ≠ W.heap.size := fun x hx => by have := hb2 x hx; omega
              refine ⟨?_, below_put (below_put (below_put (below_put ((BXX.out.1.trans (B2.out.mono BXX.out.1.size)).trans (hbel.mono (by omega))) (Nat.le_refl _)) (Nat.le_refl _)) (Nat.le_refl _)) (Nat.le_refl _)⟩
              unfold FR
              rw [if_neg HFT.out, if_neg HV.out.1]
              rw [HNN.out] at hna
              refine ⟨a1, m, c1, a2, c2, by rw [HNN.out], ⟨?_, ?_, hna.hm, hna.hk⟩, HCAP.out⟩
              · exact CRow.set (CRow.set (CRow.set (CRow.set hna.arcs hs1) hs1) hs1) hs1
              · exact Row.set (Row.set (Row.set (Row.set hna.acc hs2) hs2) hs2) hs2
end Go.Proofs.YtogpnlkjcdedlaaDoor
