/-
  NfaRunIsCompositional, for every input: the law returns true and leaves its arguments as they read. No condition beside the listed variable's own text (the card ties it).
-/
import Derived.Test.YtogpnlkjcdedlaaDoorZ04
import Derived.Test.YtogpnlkjcdedlaaDoorZ15
import Derived.Test.YtogpnlkjcdedlaaDoorZ19
set_option linter.unusedSimpArgs false
set_option linter.unusedVariables false
namespace Go.Proofs.YtogpnlkjcdedlaaDoor.nfaRunIsCompositional
open Go.ChangeShapes Go.WideShapes Go.ChangeAt Go.RowKit Go.Frame
open Go.ChangeMaps (open_string shut_string)
open Bs Rg Nf
attribute [local irreducible] ws
attribute [local go_sem] eq_zero eq_set
set_option maxRecDepth 100000 in
set_option maxHeartbeats 4000000 in
theorem walk (N : Nfa) (a1 : Option Addr) (m c1 : Nat) (a2 : Option Addr) (k c2 : Nat) (s t : ByteArray) (w : World) (hN : InN w N a1 m c1 a2 k c2) (hT : Tb w) :
    Calls Tryd.prog 8 #[.agg #[.int .i64 N.n, .int .i64 N.st, .slice a1 m c1, .slice a2 k c2], .string s, .string t] w fun e w' => e = .returned (.bool true) ∧ Below w.heap.size w w' := by
  have CA := hid (fun V (hV : Below w.heap.size w V) => awake_any V (hT.below hV))
  have CL := hid (fun V (hV : Below w.heap.size w V) => light_any V N a1 a2 m c1 k c2 (hN.na.below hV))
  have HI := hid (And.intro hN hT)
  have x0 := hid (alloc_new w (.cells #[.int .i64 N.n, .int .i64 N.st, .slice a1 m c1, .slice a2 k c2] 25))
  have B0 := hid (bel1 w (.cells #[.int .i64 N.n, .int .i64 N.st, .slice a1 m c1, .slice a2 k c2] 25))
  obtain ⟨y, hy⟩ : ∃ y, y = (decide (m ≤ 60) && decide (N.n ≤ 40) && valid N) := ⟨_, rfl⟩
  rw [← hy] at CL
  have HY := hid hy
  clear hN hT hy
  go_enter Tryd.func8, Tryd.ntmps8
  go_wp2_with fail
  refine (CA.out _ B0.out).mono ?_
  rintro e W ⟨rfl, b1⟩
  have X := hid (And.intro ((b1.block _ (heap_lt x0.out)).trans x0.out) (B0.out.trans (b1.mono B0.out.size)))
  clear b1 CA
  obtain ⟨d0, d1, d2, d3⟩ := cells4 X.out.1
  go_wp2_with fail
  refine (CL.out _ X.out.2).mono ?_
  rintro e W2 ⟨rfl, b2⟩
  have X2 := hid (And.intro ((b2.block _ (heap_lt X.out.1)).trans X.out.1) (X.out.2.trans (b2.mono X.out.2.size)))
  clear b2 CL d0 d1 d2 d3
  cases y
  · go_wp2
    go_ret
    exact ⟨rfl, X2.out.2⟩
  · have hy2 := HY.out
    simp only [eq_comm (a := true), Bool.and_eq_true, decide_eq_true_eq] at hy2
    obtain ⟨⟨hm, hnn⟩, hval⟩ := hy2
    obtain ⟨n, hv⟩ := valid_iff.1 hval
    have hn40 : n ≤ 40 := by have := hv.hn; omega
    have HV := hid (And.intro hv hm)
    have CN := hid (fun V (hV : Below w.heap.size w V) => NMS_any V N n hv a1 a2 m c1 k c2 HI.out.1.mc HI.out.1.cc HI.out.1.nil1 (HI.out.1.na.below hV) (by omega))
    clear hm hnn hval hv
    obtain ⟨d0, d1, d2, d3⟩ := cells4 X2.out.1
    by_cases h20 : (20 : Int) < (s.size : Int)
    · go_wp2
      go_ret
      exact ⟨rfl, X2.out.2⟩
    · by_cases h21 : (20 : Int) < (t.size : Int)
      · go_wp2
        go_ret
        exact ⟨rfl, X2.out.2⟩
      · have hcap : ¬ 9223372036854775807 < s.size + t.size := by omega
        have D1 := hid (fun V (hV : Below w.heap.size w V) (E : List Int) a q c (hE : Row V a q (E.map iv)) (hq : q ≤ 140737488355328) => show Calls Tryd.prog 15 #[.agg #[.int .i64 N.n, .int .i64 N.st, .slice a1 m c1, .slice a2 k c2], .slice a q c] V (RS (elx n (clo (Ep N) (ini n E))) V) from NClosure_any V N n HV.out.1 a1 a2 m c1 k c2 (HI.out.1.na.below hV) (CN.out V hV) E a q c hE hq (HI.out.2.below hV))
        have D2 := hid (fun V (hV : Below w.heap.size w V) (E : List Int) a q c (hE : Row V a q (E.map iv)) (hq : q ≤ 140737488355328) bt (hbt : bt < 256) => show Calls Tryd.prog 18 #[.agg #[.int .i64 N.n, .int .i64 N.st, .slice a1 m c1, .slice a2 k c2], .slice a q c, .int .u8 ((bt : Nat) : Int)] V (RS (elx n (stp N (clo (Ep N) (ini n E)) (UInt8.ofNat bt))) V) from NStep_any V N n HV.out.1 a1 a2 m c1 k c2 (HI.out.1.na.below hV) (CN.out V hV) E a q c hE hq bt hbt (HI.out.2.below hV))
        obtain ⟨W3, hW3⟩ : ∃ W3, W3 = W2.alloc (.cells #[.int .i64 N.st] 3) := ⟨_, rfl⟩
        have b3 : Below W2.heap.size W2 W3 := by rw [hW3]; exact bel1 _ _
        have X3 := hid (show W3.heap[w.heap.size]? = some (.cells #[.int .i64 N.n, .int .i64 N.st, .slice a1 m c1, .slice a2 k c2] 25 (0, 0)) ∧ Below w.heap.size w W3 ∧ Row W3 (some ⟨W2.heap.size, 0, none⟩) 1 ([N.st].map iv) from
          ⟨(b3.block _ (heap_lt X2.out.1)).trans X2.out.1, X2.out.2.trans (b3.mono X2.out.2.size), ⟨rfl, .inr ⟨W2.heap.size, 0, rfl, by rw [hW3]; simp, fun i x hi => by
            have hi0 : i = 0 := by have := (List.getElem?_eq_some_iff.1 hi).1; simp at this; exact this
            subst hi0
            simp at hi
            subst hi
            have := alloc_new W2 (.cells #[.int .i64 N.st] 3)
            rw [← hW3] at this
            simp [World.cell?, this, iv]⟩⟩⟩)
        clear b3
        go_wp2_with fail
        rw [← hW3]
        clear hW3
        refine (D1.out W3 X3.out.2.1 [N.st] _ 1 1 X3.out.2.2 (by omega)).mono ?_
        rintro e V4 ⟨⟨ra0, rc0, rfl, hrow⟩, b4⟩
        obtain ⟨u, hu⟩ : ∃ u, u = s ++ t := ⟨_, rfl⟩
        have HU := hid hu
        have hus : u.size ≤ 40 := by rw [hu, ByteArray.size_append]; omega
        have hst : clo (Ep N) (ini n [N.st]) = after N n (u.data.toList.take 0) := by rw [List.take_zero]; rfl
        rw [hst] at hrow ⊢
        have X4 := hid (show V4.heap[w.heap.size]? = some (.cells #[.int .i64 N.n, .int .i64 N.st, .slice a1 m c1, .slice a2 k c2] 25 (0, 0)) ∧ Below w.heap.size w V4 ∧ Row V4 ra0 (elx n (after N n (u.data.toList.take 0))).length (ints (elx n (after N n (u.data.toList.take 0)))) from
          ⟨(b4.block _ (heap_lt X3.out.1)).trans X3.out.1, X3.out.2.1.trans (b4.mono X3.out.2.1.size), hrow⟩)
        obtain ⟨q0, hq0⟩ : ∃ q, q = (elx n (after N n (u.data.toList.take 0))).length := ⟨_, rfl⟩
        rw [← hq0] at X4 ⊢
        have HQ0 := hid hq0
        clear b4 hrow hst D1 d0 d1 d2 d3 hq0 hu
        go_wp2_with fail
        rw [← HU.out]
        go_loopg [7, 9] u.size (fun kk s7 s9 wr => ∃ (i q : Nat) (ra : Option Addr) (rc : Nat), s9 = .int .i64 (i : Int) ∧ i + kk = u.size ∧ s7 = .slice ra q rc ∧ q = (elx n (after N n (u.data.toList.take i))).length ∧ Row wr ra q (ints (elx n (after N n (u.data.toList.take i)))) ∧ Below w.heap.size w wr ∧ wr.heap[w.heap.size]? = some (.cells #[.int .i64 N.n, .int .i64 N.st, .slice a1 m c1, .slice a2 k c2] 25 (0, 0)))
        case atStart => exact ⟨0, q0, ra0, rc0, rfl, by omega, rfl, HQ0.out, X4.out.2.2, X4.out.2.1, X4.out.1⟩
        case round =>
          obtain ⟨i, q, ra, rc, rfl, hik, rfl, hq, hrow, hbw, hbx⟩ := hrel
          have hqn : q ≤ 40 := by rw [hq]; exact Nat.le_trans (elx_length _ _) hn40
          by_cases hlt : i < u.size
          · have hlt' : (i : Int) < (u.size : Int) := by omega
            have hi0 : (0 : Int) ≤ (i : Int) := by omega
            have e9 : u.data.toList[i]? = some u[i] := by rw [List.getElem?_eq_getElem (show i < u.data.toList.length from hlt)]; rfl
            have HE := hid (show stp N (clo (Ep N) (ini n ((elx n (after N n (u.data.toList.take i))).map fun (x : Nat) => (x : Int)))) (UInt8.ofNat u[i].toNat) = after N n (u.data.toList.take (i + 1)) from by
              rw [clo_after HV.out.1, after_take N n _ e9, UInt8.ofNat_toNat])
            have HX := hid (And.intro hrow (And.intro hbw hbx))
            have hbt := u[i].toNat_lt
            obtain ⟨L2, hL2⟩ : ∃ L2, L2 = elx n (after N n (u.data.toList.take (i + 1))) := ⟨_, rfl⟩
            have HL2 := hid hL2
            clear hrow hbw hbx e9 hq hL2
            go_wp2_with fail
            refine region_inv (fun b a' w' => ∃ (v40 v41 v42 v43 v44 v45 v7 : Value), a' = { tmps := #[.agg #[.int .i64 N.n, .int .i64 N.st, .slice a1 m c1, .slice a2 k c2], .string s, .string t, .pointer (some ⟨w.heap.size, 0, none⟩), undef, undef, .bool false, v7, .string u, .int .i64 (i : Int), undef, .bool true, .bool false, .agg #[.int .i64 N.n, .int .i64 N.st, .slice a1 m c1, .slice a2 k c2], .bool true, .bool false, .bool false, .string s, .int .i64 (s.size : Int), .bool (decide ((20 : Int) < (s.size : Int))), .bool (decide ((20 : Int) < (s.size : Int))), .bool (decide ((20 : Int) < (s.size : Int))), .string t, .int .i64 (t.size : Int), .bool (decide ((20 : Int) < (t.size : Int))), .bool (decide ((20 : Int) < (s.size : Int)) || decide ((20 : Int) < (t.size : Int))), .agg #[.int .i64 N.n, .int .i64 N.st, .slice a1 m c1, .slice a2 k c2], .pointer (some ⟨w.heap.size, 1, none⟩), .int .i64 N.st, .slice (some ⟨W2.heap.size, 0, none⟩) 1 1, .slice ra0 q0 rc0, .string s, .string t, .string u, .int .i64 (i : Int), .string u, .int .i64 (u.size : Int), .bool true, u38, u39, v40, v41, v42, v43, v44, v45, undef, undef, undef, undef, undef, undef, undef, undef, undef, undef, undef, undef, undef, undef, undef, undef, undef, undef, undef, undef, undef, undef, undef, undef, undef, undef, undef], defers := [] } ∧ Below wr.heap.size wr w' ∧ w'.heap[w.heap.size]? = some (.cells #[.int .i64 N.n, .int .i64 N.st, .slice a1 m c1, .slice a2 k c2] 25 (0, 0)) ∧ (b 0 = true → v40 = .agg #[.int .i64 N.n, .int .i64 N.st, .slice a1 m c1, .slice a2 k c2]) ∧ (b 1 = true → v41 = .slice ra q rc) ∧ (b 2 = true → v42 = .string u) ∧ (b 3 = true → v43 = .int .i64 (i : Int)) ∧ (b 4 = true → v44 = .int .u8 (u[i].toNat : Int)) ∧ (b 5 = true → ∃ (a : Option Addr) (c : Nat), v45 = .slice a L2.length c ∧ Row w' a L2.length (ints L2)) ∧ (b 6 = true → v7 = v45) ∧ (b 6 = false → v7 = .slice ra q rc) ∧ (b 4 = true → b 2 = true) ∧ (b 4 = true → b 3 = true) ∧ (b 5 = true → b 0 = true) ∧ (b 5 = true → b 1 = true) ∧ (b 5 = true → b 4 = true) ∧ (b 6 = true → b 5 = true)) (by kernel_rfl) (back_of (by kernel_rfl)) ?step2 ?done2 ?init2
            case step2 =>
              rintro b a' w' i o ho ⟨v40, v41, v42, v43, v44, v45, v7, rfl, hk, hx, h0, h1, h2, h3, h4, h5, h6, k5, q4_2, q4_3, q5_0, q5_1, q5_4, q6_5⟩ hbi hd K hK
              have hlt : i < 7 := by have := (Array.getElem?_eq_some_iff.1 ho).1; simpa using this
              have dep : ∀ k, (o.after.any fun e => Region.binds .any e && e.on == k) = true → b k = true := fun k hk => by
                obtain ⟨e, he, h⟩ := Array.any_eq_true'.1 hk
                simp only [Bool.and_eq_true, beq_iff_eq] at h
                rw [← h.2]; exact hd e he h.1
              clear hd
              have hi : i = 0 ∨ i = 1 ∨ i = 2 ∨ i = 3 ∨ i = 4 ∨ i = 5 ∨ i = 6 := by omega
              clear hlt
              rcases hi with rfl | rfl | rfl | rfl | rfl | rfl | rfl
              · simp only [List.getElem?_toArray, List.getElem?_cons_zero, List.getElem?_cons_succ, Option.some.injEq] at ho
                subst ho
                obtain ⟨d0, d1, d2, d3⟩ := cells4 hx
                go_simp
                refine hK.out _ _ ⟨_, _, _, _, _, _, _, rfl, hk, hx, fun _ => rfl, fun h => h1 (by simpa using h), fun h => h2 (by simpa using h), fun h => h3 (by simpa using h), fun h => h4 (by simpa using h), fun h => h5 (by simpa using h), fun h => h6 (by simpa using h), fun h => k5 (by simpa using h), fun h => by simp [q4_2 (by simpa using h)], fun h => by simp [q4_3 (by simpa using h)], fun h => by simp [q5_0 (by simpa using h)], fun h => by simp [q5_1 (by simpa using h)], fun h => by simp [q5_4 (by simpa using h)], fun h => by simp [q6_5 (by simpa using h)]⟩
              · simp only [List.getElem?_toArray, List.getElem?_cons_zero, List.getElem?_cons_succ, Option.some.injEq] at ho
                subst ho
                have n6 : b 6 = false := by
                  cases hb6 : b 6
                  · rfl
                  · have := q5_1 (q6_5 hb6); rw [hbi] at this; cases this
                obtain rfl := k5 n6
                go_simp
                refine hK.out _ _ ⟨_, _, _, _, _, _, _, rfl, hk, hx, fun h => h0 (by simpa using h), fun _ => rfl, fun h => h2 (by simpa using h), fun h => h3 (by simpa using h), fun h => h4 (by simpa using h), fun h => h5 (by simpa using h), fun h => absurd h (by simp [n6]), fun _ => rfl, fun h => by simp [q4_2 (by simpa using h)], fun h => by simp [q4_3 (by simpa using h)], fun h => by simp [q5_0 (by simpa using h)], fun h => by simp [q5_1 (by simpa using h)], fun h => by simp [q5_4 (by simpa using h)], fun h => by simp [q6_5 (by simpa using h)]⟩
              · simp only [List.getElem?_toArray, List.getElem?_cons_zero, List.getElem?_cons_succ, Option.some.injEq] at ho
                subst ho
                go_simp
                refine hK.out _ _ ⟨_, _, _, _, _, _, _, rfl, hk, hx, fun h => h0 (by simpa using h), fun h => h1 (by simpa using h), fun _ => rfl, fun h => h3 (by simpa using h), fun h => h4 (by simpa using h), fun h => h5 (by simpa using h), fun h => h6 (by simpa using h), fun h => k5 (by simpa using h), fun h => by simp [q4_2 (by simpa using h)], fun h => by simp [q4_3 (by simpa using h)], fun h => by simp [q5_0 (by simpa using h)], fun h => by simp [q5_1 (by simpa using h)], fun h => by simp [q5_4 (by simpa using h)], fun h => by simp [q6_5 (by simpa using h)]⟩
              · simp only [List.getElem?_toArray, List.getElem?_cons_zero, List.getElem?_cons_succ, Option.some.injEq] at ho
                subst ho
                go_simp
                refine hK.out _ _ ⟨_, _, _, _, _, _, _, rfl, hk, hx, fun h => h0 (by simpa using h), fun h => h1 (by simpa using h), fun h => h2 (by simpa using h), fun _ => rfl, fun h => h4 (by simpa using h), fun h => h5 (by simpa using h), fun h => h6 (by simpa using h), fun h => k5 (by simpa using h), fun h => by simp [q4_2 (by simpa using h)], fun h => by simp [q4_3 (by simpa using h)], fun h => by simp [q5_0 (by simpa using h)], fun h => by simp [q5_1 (by simpa using h)], fun h => by simp [q5_4 (by simpa using h)], fun h => by simp [q6_5 (by simpa using h)]⟩
              · simp only [List.getElem?_toArray, List.getElem?_cons_zero, List.getElem?_cons_succ, Option.some.injEq] at ho
                subst ho
                have e_2 := dep 2 (by kernel_rfl)
                have e_3 := dep 3 (by kernel_rfl)
                obtain rfl := h2 e_2
                obtain rfl := h3 e_3
                go_simp
                refine hK.out _ _ ⟨_, _, _, _, _, _, _, rfl, hk, hx, fun h => h0 (by simpa using h), fun h => h1 (by simpa using h), fun _ => rfl, fun _ => rfl, fun _ => rfl, fun h => h5 (by simpa using h), fun h => h6 (by simpa using h), fun h => k5 (by simpa using h), fun _ => by simp [e_2], fun _ => by simp [e_3], fun h => by simp [q5_0 (by simpa using h)], fun h => by simp [q5_1 (by simpa using h)], fun h => by simp [q5_4 (by simpa using h)], fun h => by simp [q6_5 (by simpa using h)]⟩
              · simp only [List.getElem?_toArray, List.getElem?_cons_zero, List.getElem?_cons_succ, Option.some.injEq] at ho
                subst ho
                have e_0 := dep 0 (by kernel_rfl)
                have e_1 := dep 1 (by kernel_rfl)
                have e_4 := dep 4 (by kernel_rfl)
                have e_2 := q4_2 e_4
                have e_3 := q4_3 e_4
                obtain rfl := h0 e_0
                obtain rfl := h1 e_1
                obtain rfl := h2 e_2
                obtain rfl := h3 e_3
                obtain rfl := h4 e_4
                have n6 : b 6 = false := by
                  cases hb6 : b 6
                  · rfl
                  · have := q6_5 hb6; rw [hbi] at this; cases this
                obtain rfl := k5 n6
                have CS := D2.out w' (HX.out.2.1.trans (hk.mono HX.out.2.1.size)) _ ra q rc (by rw [← ints_iv]; exact HX.out.1.below hk) (by omega) u[i].toNat hbt
                rw [HE.out, ← HL2.out] at CS
                have HCS := hid CS
                clear CS
                go_simp
                refine HCS.out.mono ?_
                rintro e W5 ⟨⟨a9, c9, rfl, hrow9⟩, b5⟩
                refine hK.out _ _ ⟨_, _, _, _, _, _, _, rfl, hk.trans (b5.mono hk.size), (b5.block _ (heap_lt hx)).trans hx, fun _ => rfl, fun _ => rfl, fun _ => rfl, fun _ => rfl, fun _ => rfl, fun _ => ⟨a9, c9, rfl, hrow9⟩, fun h => absurd h (by simp [n6]), fun _ => rfl, fun h => by simp [q4_2 (by simpa using h)], fun h => by simp [q4_3 (by simpa using h)], fun _ => by simp [e_0], fun _ => by simp [e_1], fun _ => by simp [e_4], fun h => by simp [q6_5 (by simpa using h)]⟩
              · simp only [List.getElem?_toArray, List.getElem?_cons_zero, List.getElem?_cons_succ, Option.some.injEq] at ho
                subst ho
                have e_5 := dep 5 (by kernel_rfl)
                have e_0 := q5_0 e_5
                have e_1 := q5_1 e_5
                have e_4 := q5_4 e_5
                have e_2 := q4_2 e_4
                have e_3 := q4_3 e_4
                obtain rfl := h0 e_0
                obtain rfl := h1 e_1
                obtain rfl := h2 e_2
                obtain rfl := h3 e_3
                obtain rfl := h4 e_4
                obtain ⟨a9, c9, rfl, hrow9⟩ := (h5 e_5)
                go_simp
                refine hK.out _ _ ⟨_, _, _, _, _, _, _, rfl, hk, hx, fun _ => rfl, fun _ => rfl, fun _ => rfl, fun _ => rfl, fun _ => rfl, fun _ => ⟨a9, c9, rfl, hrow9⟩, fun _ => rfl, fun h => absurd h (by simp), fun h => by simp [q4_2 (by simpa using h)], fun h => by simp [q4_3 (by simpa using h)], fun h => by simp [q5_0 (by simpa using h)], fun h => by simp [q5_1 (by simpa using h)], fun h => by simp [q5_4 (by simpa using h)], fun _ => by simp [e_5]⟩
            case done2 =>
              rintro b a' w' ⟨v40, v41, v42, v43, v44, v45, v7, rfl, hk, hx, h0, h1, h2, h3, h4, h5, h6, k5, q4_2, q4_3, q5_0, q5_1, q5_4, q6_5⟩ hall
              obtain rfl := h0 (hall 0)
              obtain rfl := h1 (hall 1)
              obtain rfl := h2 (hall 2)
              obtain rfl := h3 (hall 3)
              obtain rfl := h4 (hall 4)
              obtain ⟨a9, c9, e45, hrow9⟩ := h5 (hall 5)
              obtain rfl := h6 (hall 6)
              subst e45
              have HR2 := hid (And.intro hrow9 (And.intro hk hx))
              clear h0 h1 h2 h3 h4 h5 h6 k5 hk hx hrow9 hall
              obtain ⟨w3, hw3⟩ : ∃ w3, w3 = w' := ⟨_, rfl⟩
              rw [← hw3] at HR2 ⊢
              clear hw3
              go_wp2
              go_roundg (gk - 1)
              case measure => omega
              case rel =>
                refine ⟨i + 1, L2.length, a9, c9, by go_num, by omega, rfl, by rw [HL2.out], ?_, HX.out.2.1.trans (HR2.out.2.1.mono HX.out.2.1.size), HR2.out.2.2⟩
                rw [← HL2.out]; exact HR2.out.1
            case init2 =>
              exact ⟨_, _, _, _, _, _, _, rfl, (Below.refl _ _).drew, HX.out.2.2, fun h => absurd h (by simp), fun h => absurd h (by simp), fun h => absurd h (by simp), fun h => absurd h (by simp), fun h => absurd h (by simp), fun h => absurd h (by simp), fun h => absurd h (by simp), fun _ => rfl, fun h => absurd h (by simp), fun h => absurd h (by simp), fun h => absurd h (by simp), fun h => absurd h (by simp), fun h => absurd h (by simp), fun h => absurd h (by simp)⟩
          · have hlt' : ¬ (i : Int) < (u.size : Int) := by omega
            have hfull : u.data.toList.take i = u.data.toList := List.take_of_length_le (show u.data.toList.length ≤ i from by have : u.data.toList.length = u.size := rfl; omega)
            rw [hfull] at hrow hq
            have HX := hid (And.intro hrow (And.intro hbw (And.intro hbx hq)))
            clear hrow hbw hbx hq hfull
            obtain ⟨w5, hw5⟩ : ∃ w5, w5 = wr := ⟨_, rfl⟩
            rw [← hw5] at HX
            go_wp2_with fail
            rw [← hw5]
            clear hw5
            go_loopg [10] q (fun kk s10 wr => ∃ i : Nat, s10 = .int .i64 (i : Int) ∧ i + kk = q ∧ Below w5.heap.size w5 wr)
            case atStart => exact ⟨0, rfl, by omega, Below.refl _ _⟩
            case round =>
              obtain ⟨j, rfl, hjk, hbj⟩ := hrel
              have hbx := (hbj.block _ (heap_lt HX.out.2.2.1)).trans HX.out.2.2.1
              obtain ⟨d0, d1, d2, d3⟩ := cells4 hbx
              by_cases hjl : j < q
              · have hjl' : (j : Int) < (q : Int) := by omega
                have hj0 : (0 : Int) ≤ (j : Int) := by omega
                obtain ⟨x, hx⟩ : ∃ x, (elx n (after N n u.data.toList))[j]? = some x := ⟨(elx n (after N n u.data.toList))[j]'(by have := HX.out.2.2.2; omega), List.getElem?_eq_getElem _⟩
                have hxn : x < n := (mem_elx.1 (List.mem_of_getElem? hx)).1
                have hNn := HV.out.1.hn
                have g1 : ¬ ((x : Int) < 0) := by omega
                have g2 : ¬ (N.n ≤ (x : Int)) := by omega
                have g1' : decide ((x : Int) < 0) = false := decide_eq_false g1
                have g2' : decide (N.n ≤ (x : Int)) = false := decide_eq_false g2
                have hr := HX.out.1.below hbj
                obtain ⟨lb, lo, rfl, c0⟩ : ∃ lb lo, ra = some ⟨lb, lo, none⟩ ∧ wr.cell? ⟨lb, lo + j, none⟩ = some (.int .i64 (x : Int)) := by
                  rcases hr.2 with h0 | ⟨lb, lo, e, _, hc⟩
                  · omega
                  · exact ⟨lb, lo, e, hc j _ (Go.Frame.ints_at hx)⟩
                have HJ := hid hbj
                clear hbj hbx hr hx hNn
                go_wp2_with fail
                go_quiet (fail)
                go_wp2
                go_roundg (gk - 1)
                case measure => omega
                case rel => exact ⟨j + 1, by go_num, by omega, below_drewN HJ.out _⟩
              · have hjl' : ¬ (j : Int) < (q : Int) := by omega
                have X5 := hid (show wr.heap[w.heap.size]? = some (.cells #[.int .i64 N.n, .int .i64 N.st, .slice a1 m c1, .slice a2 k c2] 25 (0, 0)) ∧ Below w.heap.size w wr ∧ Row wr ra q (ints (elx n (after N n u.data.toList))) from ⟨hbx, HX.out.2.1.trans (hbj.mono HX.out.2.1.size), HX.out.1.below hbj⟩)
                clear hbj hbx d0 d1 d2 d3
                obtain ⟨z, hz⟩ : ∃ z, z = run N n u.data.toList := ⟨_, rfl⟩
                have E1 := hid (fun V (hV : Below wr.heap.size wr V) => show Calls Tryd.prog 20 #[.agg #[.int .i64 N.n, .int .i64 N.st, .slice a1 m c1, .slice a2 k c2], .string u] V fun e w' => e = .returned (.int .i64 z) ∧ Below V.heap.size V w' from hz ▸ NRun_any V N n HV.out.1 a1 a2 m c1 k c2 (HI.out.1.na.below (X5.out.2.1.trans (hV.mono X5.out.2.1.size))) (CN.out V (X5.out.2.1.trans (hV.mono X5.out.2.1.size))) u (by omega) (HI.out.2.below (X5.out.2.1.trans (hV.mono X5.out.2.1.size))))
                have E2 := hid (fun V (hV : Below wr.heap.size wr V) => show Calls Tryd.prog 22 #[.agg #[.int .i64 N.n, .int .i64 N.st, .slice a1 m c1, .slice a2 k c2], .slice ra q rc] V fun e w' => e = .returned (.int .i64 z) ∧ Below V.heap.size V w' from by
                  have hkn : k = n := by have h1 := HI.out.1.na.lk; have h2 := HV.out.1.acc; omega
                  have h := RAcc_any V n N.st N.acc a1 a2 m c1 k c2 (HI.out.1.na.below (X5.out.2.1.trans (hV.mono X5.out.2.1.size))).acc HI.out.1.na.hk ra q rc _ (X5.out.2.2.below hV) (by omega) (fun x hx => by rw [hkn]; exact (mem_elx.1 hx).1)
                  rw [← HV.out.1.hn] at h
                  rw [hz]; exact h)
                clear hz
                go_wp2_with fail
                refine wp_region_below (by kernel_rfl) (by kernel_rfl) ?_
                intro X' f _ hf hs
                have lA := heap_lt X5.out.1
                have k0 := fun x => (cells4 (((hf.out x).block _ lA).trans X5.out.1)).1
                have k1 := fun x => (cells4 (((hf.out x).block _ lA).trans X5.out.1)).2.1
                have k2 := fun x => (cells4 (((hf.out x).block _ lA).trans X5.out.1)).2.2.1
                have k3 := fun x => (cells4 (((hf.out x).block _ lA).trans X5.out.1)).2.2.2
                repeat (go_big_quiet_step (first
                  | (go_at_call 20; exact calls_below hf hs (E1.out _ (hf.out _)))
                  | (go_at_call 22; exact calls_below hf hs (E2.out _ (hf.out _)))))
                refine wpQuiet_nil ?_
                intro w' hw'
                clear k0 k1 k2 k3 hf hs
                go_wp2
                go_ret
                exact ⟨by simp, X5.out.2.1.trans (hw'.mono X5.out.2.1.size)⟩

set_option maxRecDepth 100000 in
theorem lifted (os : Os) (started : os.Started) (H : Type) (enc : TypeId × Value → H) :
    ReturnsInHanded {} Tryd.checked os 8 .any (fun w args => (Rows.nfaRunIsCompositionalSpec.pre enc Tryd.prog Tryd.f8 [] false w args ∧ laidMetH Tryd.prog laidT w) ∧ sizedMet enc Tryd.prog Tryd.f8 (OpenSpec.ofChange Rows.nfaRunIsCompositionalSpec) false w args) (Rows.nfaRunIsCompositionalSpec.post enc Tryd.prog Tryd.f8 false true false false) := by
  refine Go.Frame.lifted_laid (C := Tryd.checked) (tb := 4) laidT own started (by kernel_rfl) Tryd.func8
    (ChangeSpec.witness_shaped (enc := enc) (C := Tryd.checked) (os := os) (X := fun w _ => laidMetH Tryd.prog laidT w) false (World.doorLaid Tryd.prog 400 os) #[.agg #[.int .i64 0, .int .i64 0, .slice none 0 0, .slice none 0 0], .string ByteArray.empty, .string ByteArray.empty] 8 rfl (World.shaped_of_RefB (by kernel_rfl) (by kernel_rfl)) (by kernel_rfl) (by kernel_rfl) (by kernel_rfl) (door_met os _))
    laidOut (by kernel_rfl) (by kernel_rfl) Tryd.underlying4 rfl ?_ ?_
  · intro ds h
    have h : ds.length = 3 := h
    match ds, h with
    | [_, _, _], _ => rfl
  · intro W base args ds p hlen hval0 hA hsz0 hlaid
    have hval : ∀ (j : Nat) t v, Tryd.f8.params[j]? = some t → args[j]? = some v → Value.okWide Tryd.prog W .any base t v := hval0
    have hA : DataW.TrodAll enc Tryd.prog W 0 (fun _ => true) true Tryd.f8.params.toList args.toList ds p := hA
    have hsz : (DataW.weightsEach Tryd.prog Tryd.f8.params.toList ds).all (· ≤ reachBytes) = true := hsz0
    have hT := tb_of_laid hlaid
    rw [Tryd.params8] at hA hval hsz
    obtain ⟨v0, vs0, d0, ds0, p0, q0, hargs, hds, _, th0, tr0⟩ := trodAll_cons hA
    obtain ⟨v1, vs1, d1, ds1, p1, q1, rfl, rfl, _, th1, tr1⟩ := trodAll_cons tr0
    obtain ⟨v2, vs2, d2, ds2, p2, q2, rfl, rfl, _, th2, tr2⟩ := trodAll_cons tr1
    obtain ⟨rfl, rfl, _⟩ := trodAll_nil tr2
    obtain rfl : args = #[v0, v1, v2] := by cases args; simp_all
    subst hds
    obtain ⟨Au0, a0x, m0, c0x, a0y, k0, c0y, rfl, hAu0⟩ := open_nfa (hval 0 25 v0 rfl rfl) th0 (fun n hn => of_decide_eq_true (List.all_eq_true.1 hsz _ (DataW.weights_mem_each (j := 0) rfl rfl n hn)))
    obtain ⟨t1, rfl, hd1, _, _⟩ := open_string Tryd.underlying9 (hval 1 9 v1 rfl rfl) th1
    obtain ⟨t2, rfl, hd2, _, _⟩ := open_string Tryd.underlying9 (hval 2 9 v2 rfl rfl) th2
    exact walk Au0 a0x m0 c0x a0y k0 c0y t1 t2 W hAu0 hT

theorem over : Rows.NfaRunIsCompositionalSaid :=
  OpenClaim.holds_of_wide 8 Tryd.f8 rfl rfl rfl rfl rfl rfl rfl ⟨rfl, rfl, rfl, rfl, rfl⟩ rfl rfl rfl rfl rfl (by kernel_rfl) Tryd.func8 (by kernel_rfl)
    (of_decide_eq_true (by kernel_rfl)) (by unfold Func.isWrapper; first | (rw [if_pos (by decide +kernel)]; kernel_rfl) | (rw [if_neg (by decide +kernel)]; exact ⟨rfl, rfl⟩))
    (fun os started H enc _ => lifted os started H enc)

/-- THE STATEMENT: the tied card. -/
theorem proved : Rows.NfaRunIsCompositionalCardSaid :=
  Claim7.holds_tied_plain_at .later [] [.data] true (true, "71511bba388963e0e3fd5284ca385c3324698947e3f3d6d231727d3500f7d1f1") false
    over (fun _ h => by cases h) (by kernel_rfl) (fun _ h => by cases h) nfaRunIsCompositional_row_tie rfl ⟨rfl, rfl⟩ (by kernel_rfl) rfl
    (fun f fn hf hfn => by
      obtain rfl : f = 8 := Option.some.inj ((show Tryd.prog.funcNamed "emendate/emendatelaw09.NfaRunIsCompositional" = some 8 by kernel_rfl).symm.trans hf) |>.symm
      obtain rfl : fn = Tryd.f8 := (Option.some.inj (Tryd.func8.symm.trans hfn)).symm
      exact ⟨by kernel_rfl, fun j t ht => by
        rw [Tryd.params8] at ht
        have hm : t ∈ [25, 9, 9] := by simpa using Array.mem_of_getElem? ht
        have hall : ([25, 9, 9].all fun u => !Tryd.prog.wantsStandIn u) = true := by kernel_rfl
        exact (show Tryd.prog.wantsStandIn t = false by simpa using List.all_eq_true.1 hall t hm)⟩)
    (by kernel_rfl)
#print axioms proved
end Go.Proofs.YtogpnlkjcdedlaaDoor.nfaRunIsCompositional
