/-
  Contract: Update.
-/
import Derived.Test.YtblcjjhjgoccgaaXh
import Derived.Test.YtblcjjhjgoccgaaH
import Derived.Test.YtblcjjhjgoccgaaIw
import Derived.Test.YtblcjjhjgoccgaaJ
set_option linter.unusedSimpArgs false
set_option linter.unusedVariables false
namespace Go.Proofs.Ytblcjjhjgoccgaa
open Go.RowKit Lx Go.Frame

theorem lexT_inc (D : Df) (s : ByteArray) : Inc (lexT D s) := fun i j t u hi hj hij => lex_inc (D := D) (s := s) rfl hi hj hij
theorem lexT_tb (D : Df) (s : ByteArray) (hs : s.size ≤ 1000000) : TBd (lexT D s) := by
  intro t ht
  obtain ⟨i, hi⟩ := List.mem_iff_getElem?.1 ht
  obtain ⟨p, hp, rfl, _⟩ := lex_pos (D := D) (s := s) rfl hi
  have hb := sc_bounds (D := D) hp
  show 0 ≤ (p : Int) ∧ (p : Int) ≤ 1000000 ∧ 0 ≤ ((sc D s p).2.2 : Int) ∧ ((sc D s p).2.2 : Int) ≤ 1000001
  omega
theorem trow_sl {W : World} {p : Option Addr} {n c k : Nat} {l : List TQ} (h : TRow W p n l) (hk : k ≤ n) (hn : n ≤ c) : TRow W (if c = k then p else p.map fun a => a.add (k * 4)) (n - k) (l.drop k) := by
  by_cases hc : c = k
  · exact ⟨by rw [List.length_map, List.length_drop, h.len], .inl (by omega)⟩
  · rw [if_neg hc]; exact trow_drop h k hk
theorem srow3 {W : World} {B : Nat} {p1 p2 p3 : Option Addr} {n1 n2 n3 c1 c2 c3 : Nat} {l1 l2 l3 : List TQ} (h : W.heap[B]? = some (.cells #[.slice p1 n1 c1, .slice p2 n2 c2, .slice p3 n3 c3] 32 (0, 0))) (h1 : TRow W p1 n1 l1) (h2 : TRow W p2 n2 l2) (h3 : TRow W p3 n3 l3) : SRow W (some ⟨B, 0, none⟩) 3 [(p1, c1, l1), (p2, c2, l2), (p3, c3, l3)] := by
  obtain rfl := h1.len
  obtain rfl := h2.len
  obtain rfl := h3.len
  refine ⟨row_blk h rfl rfl, ?_⟩
  intro e he
  simp only [List.mem_cons, List.not_mem_nil, or_false] at he
  rcases he with rfl | rfl | rfl
  · exact h1
  · exact h2
  · exact h3
/-- What Update returns for an edit that fits. -/
def URes (w : World) (D : Df) (s : ByteArray) (x y : Nat) (ins : ByteArray) (e : Ending) (w' : World) : Prop := (∃ a c, e = .returned (.tuple #[.slice a (lexT D (nt s x y ins)).length c, .agg #[.int .i64 (uM D s x : Int), .int .i64 (((uR D s x y ins).2 : Int) - (uM D s x : Int)), .int .i64 ((uR D s x y ins).1 : Int)], .int .i64 0]) ∧ TRow w' a (lexT D (nt s x y ins)).length (lexT D (nt s x y ins)) ∧ (lexT D (nt s x y ins)).length ≤ c) ∧ Below w.heap.size w w'
set_option maxRecDepth 100000 in
set_option maxHeartbeats 4000000 in
theorem Update_yes (w : World) (D : Df) (n k : Nat) (hv : Vd D n k) (a1 : Option Addr) (n1 c1 : Nat) (a2 : Option Addr) (n2 c2 : Nat) (a3 : Option Addr) (n3 c3 : Nat) (h : DA w D a1 n1 a2 n2 a3 n3) (s : ByteArray) (hs : s.size ≤ 400000)
    (oa : Option Addr) (on oc : Nat) (hr : TRow w oa on (lexT D s)) (hoc : on ≤ oc) (x y : Nat) (ins : ByteArray) (hins : ins.size ≤ 400000) (hf : x + y ≤ s.size) :
    Calls Try.prog 12 #[.agg #[.slice a1 n1 c1, .slice a2 n2 c2, .slice a3 n3 c3], .slice oa on oc, .agg #[.int .i64 (x : Int), .int .i64 (y : Int), .string ins]] w (URes w D s x y ins) := by
  have hval := valid_iff.2 ⟨n, k, hv⟩
  have hon : on = (lexT D s).length := hr.len.symm
  have hon2 : on ≤ 400000 := by rw [hon]; exact Nat.le_trans (lexT_len _ _) hs
  obtain ⟨W, hW⟩ : ∃ W, W = ((w.alloc (.cells #[.slice a1 n1 c1, .slice a2 n2 c2, .slice a3 n3 c3] 25)).alloc (.cells #[.int .i64 (x : Int), .int .i64 (y : Int), .string ins] 27)).alloc (.cells #[.int .i64 0, .int .i64 0, .int .i64 0] 35) := ⟨_, rfl⟩
  obtain ⟨x1, x2, x3, bW, sW⟩ := three w (.cells #[.slice a1 n1 c1, .slice a2 n2 c2, .slice a3 n3 c3] 25) (.cells #[.int .i64 (x : Int), .int .i64 (y : Int), .string ins] 27) (.cells #[.int .i64 0, .int .i64 0, .int .i64 0] 35)
  rw [← hW] at x1 x2 x3 bW sW
  have HX := hid (show W.heap[w.heap.size]? = some (.cells #[.slice a1 n1 c1, .slice a2 n2 c2, .slice a3 n3 c3] 25 (0, 0)) ∧ W.heap[w.heap.size + 1]? = some (.cells #[.int .i64 (x : Int), .int .i64 (y : Int), .string ins] 27 (0, 0)) ∧ W.heap[w.heap.size + 2]? = some (.cells #[.int .i64 0, .int .i64 0, .int .i64 0] 35 (0, 0)) ∧ Below w.heap.size w W from ⟨x1, x2, x3, bW⟩)
  obtain ⟨t, ht⟩ : ∃ t, t = nt s x y ins := ⟨_, rfl⟩
  have hts : t.size ≤ 800000 := by rw [ht]; have := nt_size (ins := ins) hf; omega
  have CT := hid (fun V (hV : Below w.heap.size w V) => show Calls Try.prog 22 #[.slice oa on oc] V fun e w' => e = .returned (.string s) ∧ Below V.heap.size V w' from by
    have := Text_any V oa on oc (lexT D s) (hr.below hV) (by omega) (by rw [txb_len]; omega)
    rw [txb_lexT] at this
    exact this)
  have CA := hid (fun V => show Calls Try.prog 21 #[.string s, .agg #[.int .i64 (x : Int), .int .i64 (y : Int), .string ins]] V fun e w' => e = .returned (.tuple #[.string t, .int .i64 0]) ∧ Below V.heap.size V w' from by
    have := Apply_any s ins (x : Int) (y : Int) V (by omega) (by omega) (by omega)
    rw [apv_yes (Te.fit_nat.2 hf)] at this
    rw [ht]
    exact this)
  have CV := hid (fun V (hV : Below w.heap.size w V) => show Calls Try.prog 23 #[.agg #[.slice a1 n1 c1, .slice a2 n2 c2, .slice a3 n3 c3]] V fun e w' => e = .returned (.bool true) ∧ Below V.heap.size V w' from by
    have := Valid_any V D a1 n1 c1 a2 n2 c2 a3 n3 c3 (h.below hV)
    rw [hval] at this
    exact this)
  obtain ⟨m, hm⟩ : ∃ m, m = uM D s x := ⟨_, rfl⟩
  have hmn : m ≤ on := by rw [hm, hon]; exact uM_le
  have CU := hid (fun V (hV : Below w.heap.size w V) => show Calls Try.prog 24 #[.slice oa on oc, .int .i64 (x : Int)] V fun e w' => e = .returned (.int .i64 (m : Int)) ∧ Below V.heap.size V w' from by
    rw [hm]
    exact unaffected_any V oa on oc (lexT D s) (hr.below hV) (by omega) (lexT_tb D s (by omega)) (x : Int))
  obtain ⟨p0, hp0⟩ : ∃ p0, p0 = uP D s x := ⟨_, rfl⟩
  have CL := hid (fun V (hV : Below w.heap.size w V) => show Calls Try.prog 26 #[.slice oa m oc] V fun e w' => e = .returned (.int .i64 (p0 : Int)) ∧ Below V.heap.size V w' from by
    have := length_any V oa m oc ((lexT D s).take m) (trow_take (hr.below hV) m hmn) (by omega) (by
      have h1 := uP_le (D := D) (s := s) (x := x) hf
      unfold uP at h1
      rw [hm]; omega)
    rw [hm] at this ⊢
    rw [hp0]
    exact this)
  obtain ⟨O, hO⟩ : ∃ O, O = ((lexAt D t p0).map tq).take (uR D s x y ins).1 := ⟨_, rfl⟩
  obtain ⟨N, hN⟩ : ∃ N, N = O.length := ⟨_, rfl⟩
  obtain ⟨ko, hko⟩ : ∃ ko, ko = (uR D s x y ins).2 := ⟨_, rfl⟩
  have hNu : (uR D s x y ins).1 = N := by rw [hN, hO, ht, hp0]; exact (uR_len hf).symm
  have hkon : ko ≤ on := by rw [hko, hon]; exact (uR_two hf).2
  have CR := hid (fun V (hV : Below w.heap.size w V) => show Calls Try.prog 25 #[.agg #[.slice a1 n1 c1, .slice a2 n2 c2, .slice a3 n3 c3], .string t, .slice oa on oc, .agg #[.int .i64 (x : Int), .int .i64 (y : Int), .string ins], .int .i64 (p0 : Int)] V fun e w' => (∃ ra rc, e = .returned (.tuple #[.slice ra N rc, .int .i64 (ko : Int)]) ∧ TRow w' ra N O) ∧ Below V.heap.size V w' from by
    have := rescan_any V D n k hv a1 n1 c1 a2 n2 c2 a3 n3 c3 (h.below hV) t (by omega) oa on oc (lexT D s) (hr.below hV) (by omega) (lexT_inc D s) x y ins (by omega) (by omega) (by omega) p0 (by rw [hp0, ht]; exact uP_new hf)
    have e1 : rsc D t (lexT D s) ((x : Int) + ins.size) ((ins.size : Int) - y) p0 = uR D s x y ins := by rw [ht, hp0]; rfl
    rw [e1, ← hO, ← hko] at this
    unfold RsRes at this
    rw [← hN] at this
    exact this)
  have HM := hid (And.intro hm (And.intro ht (And.intro hon (And.intro hp0 (And.intro hO (And.intro hN (And.intro hko hNu)))))))
  have HH := hid (And.intro h (And.intro hr hv))
  have hyb : y ≤ 400000 := by omega
  have HF := hid hf
  have hm0 : (0 : Int) ≤ (m : Int) := by omega
  have hmoc : (m : Int) ≤ (oc : Int) := by omega
  clear h hr hv hval x1 x2 x3 bW sW hm ht hon hf hp0 hO hN hko hNu
  go_enter Try.func12, Try.ntmps12
  go_upto_region 1 with fail
  rw [← hW]
  clear hW
  refine wp_region_below (by kernel_rfl) (by kernel_rfl) ?_
  intro X f _ hff hss
  have k0 := fun q => ((hff.out q).block _ (heap_lt HX.out.2.1)).trans HX.out.2.1
  have k00 := fun q => (cells3 (k0 q)).1
  have k01 := fun q => (cells3 (k0 q)).2.1
  have k02 := fun q => (cells3 (k0 q)).2.2
  have CT2 := hid (fun q => CT.out (f q) (HX.out.2.2.2.trans ((hff.out q).mono HX.out.2.2.2.size)))
  clear k0
  repeat (go_big_quiet_step (first | (go_at_call 22; with_reducible exact calls_below hff hss (CT2.out _)) | (go_at_call 21; with_reducible exact calls_below hff hss (CA.out _))))
  refine wpQuiet_nil ?_
  intro U hU
  have HX1 := hid (show U.heap[w.heap.size]? = some (.cells #[.slice a1 n1 c1, .slice a2 n2 c2, .slice a3 n3 c3] 25 (0, 0)) ∧ U.heap[w.heap.size + 1]? = some (.cells #[.int .i64 (x : Int), .int .i64 (y : Int), .string ins] 27 (0, 0)) ∧ U.heap[w.heap.size + 2]? = some (.cells #[.int .i64 0, .int .i64 0, .int .i64 0] 35 (0, 0)) ∧ Below w.heap.size w U from ⟨(hU.block _ (heap_lt HX.out.1)).trans HX.out.1, (hU.block _ (heap_lt HX.out.2.1)).trans HX.out.2.1, (hU.block _ (heap_lt HX.out.2.2.1)).trans HX.out.2.2.1, HX.out.2.2.2.trans (hU.mono HX.out.2.2.2.size)⟩)
  clear k00 k01 k02 hU hff hss CT2
  obtain ⟨d0, d1, d2⟩ := cells3 HX1.out.1
  go_wp2_with fail
  refine (CV.out U HX1.out.2.2.2).mono ?_
  rintro e U2 ⟨rfl, b2⟩
  have HX2 := hid (show U2.heap[w.heap.size]? = some (.cells #[.slice a1 n1 c1, .slice a2 n2 c2, .slice a3 n3 c3] 25 (0, 0)) ∧ U2.heap[w.heap.size + 1]? = some (.cells #[.int .i64 (x : Int), .int .i64 (y : Int), .string ins] 27 (0, 0)) ∧ U2.heap[w.heap.size + 2]? = some (.cells #[.int .i64 0, .int .i64 0, .int .i64 0] 35 (0, 0)) ∧ Below w.heap.size w U2 from ⟨(b2.block _ (heap_lt HX1.out.1)).trans HX1.out.1, (b2.block _ (heap_lt HX1.out.2.1)).trans HX1.out.2.1, (b2.block _ (heap_lt HX1.out.2.2.1)).trans HX1.out.2.2.1, HX1.out.2.2.2.trans (b2.mono HX1.out.2.2.2.size)⟩)
  clear b2 d0 d1 d2
  obtain ⟨d0, d1, d2⟩ := cells3 HX2.out.2.1
  go_wp2_with fail
  refine (CU.out U2 HX2.out.2.2.2).mono ?_
  rintro e U3 ⟨rfl, b3⟩
  have HX3 := hid (show U3.heap[w.heap.size]? = some (.cells #[.slice a1 n1 c1, .slice a2 n2 c2, .slice a3 n3 c3] 25 (0, 0)) ∧ U3.heap[w.heap.size + 1]? = some (.cells #[.int .i64 (x : Int), .int .i64 (y : Int), .string ins] 27 (0, 0)) ∧ U3.heap[w.heap.size + 2]? = some (.cells #[.int .i64 0, .int .i64 0, .int .i64 0] 35 (0, 0)) ∧ Below w.heap.size w U3 from ⟨(b3.block _ (heap_lt HX2.out.1)).trans HX2.out.1, (b3.block _ (heap_lt HX2.out.2.1)).trans HX2.out.2.1, (b3.block _ (heap_lt HX2.out.2.2.1)).trans HX2.out.2.2.1, HX2.out.2.2.2.trans (b3.mono HX2.out.2.2.2.size)⟩)
  clear b3 d0 d1 d2
  have CL := hid (fun V (hV : Below U3.heap.size U3 V) => CL.out V (HX3.out.2.2.2.trans (hV.mono HX3.out.2.2.2.size)))
  have CR := hid (fun V (hV : Below U3.heap.size U3 V) => CR.out V (HX3.out.2.2.2.trans (hV.mono HX3.out.2.2.2.size)))
  go_upto_region 7 with fail
  refine region_invB (fun b a' w' => ∃ (v37 v38 v39 v40 v41 v42 v43 v36 v44 v45 v12 v13 : Value), a' = { tmps := #[.agg #[.slice a1 n1 c1, .slice a2 n2 c2, .slice a3 n3 c3], .slice oa on oc, .agg #[.int .i64 (x : Int), .int .i64 (y : Int), .string ins], .pointer (some ⟨w.heap.size, 0, none⟩), undef, .pointer (some ⟨w.heap.size + 1, 0, none⟩), .slice none 0 0, .pointer (some ⟨w.heap.size + 1 + 1, 0, none⟩), .int .i64 0, .string t, .int .i64 0, .slice oa m oc, v12, v13, undef, .tuple #[.string t, .int .i64 0], .slice oa on oc, .string s, .agg #[.int .i64 (x : Int), .int .i64 (y : Int), .string ins], .tuple #[.string t, .int .i64 0], .string t, .int .i64 0, .int .i64 0, .bool false, undef, undef, .agg #[.slice a1 n1 c1, .slice a2 n2 c2, .slice a3 n3 c3], .bool true, .bool false, undef, .slice oa on oc, .slice oa on oc, .pointer (some ⟨w.heap.size + 1, 0, none⟩), .int .i64 (x : Int), .int .i64 (m : Int), .slice oa m oc, v36, v37, v38, v39, v40, v41, v42, v43, v44, v45, undef, undef, undef, undef, undef, undef, undef, undef, undef, undef, undef, undef, undef, undef, undef, undef, undef, undef, undef, undef, undef, undef, undef, undef], defers := [] } ∧ Below U3.heap.size U3 w' ∧ (b 0 = true → v37 = .agg #[.slice a1 n1 c1, .slice a2 n2 c2, .slice a3 n3 c3]) ∧ (b 1 = true → v38 = .string t) ∧ (b 2 = true → v39 = .slice oa on oc) ∧ (b 3 = true → v40 = .agg #[.int .i64 (x : Int), .int .i64 (y : Int), .string ins]) ∧ (b 4 = true → v41 = .slice oa m oc) ∧ (b 5 = true → v42 = .int .i64 (p0 : Int)) ∧ (b 6 = true → ∃ ra rc, v43 = .tuple #[.slice ra N rc, .int .i64 (ko : Int)] ∧ TRow w' ra N O) ∧ (b 7 = true → v36 = v43) ∧ (b 8 = true → v43 = .tuple #[v44, .int .i64 (ko : Int)]) ∧ (b 9 = true → v45 = .int .i64 (ko : Int)) ∧ (b 10 = true → v12 = v44) ∧ (b 11 = true → v13 = v45) ∧ (b 5 = true → b 4 = true) ∧ (b 6 = true → b 0 = true) ∧ (b 6 = true → b 1 = true) ∧ (b 6 = true → b 2 = true) ∧ (b 6 = true → b 3 = true) ∧ (b 6 = true → b 5 = true) ∧ (b 7 = true → b 6 = true) ∧ (b 8 = true → b 7 = true) ∧ (b 9 = true → b 7 = true) ∧ (b 10 = true → b 8 = true) ∧ (b 11 = true → b 9 = true)) (by kernel_rfl) (bindB_of (by kernel_rfl)) ?step7 ?done7 ?init7
  case step7 =>
    rintro b a' w' i o ho ⟨v37, v38, v39, v40, v41, v42, v43, v36, v44, v45, v12, v13, rfl, hk, h0, h1, h2, h3, h4, h5, h6, h7, h8, h9, h10, h11, q5_4, q6_0, q6_1, q6_2, q6_3, q6_5, q7_6, q8_7, q9_7, q10_8, q11_9⟩ hbi hd K hK
    have hlt : i < 12 := by have := (Array.getElem?_eq_some_iff.1 ho).1; simpa using this
    have dep : ∀ k, (o.after.any fun e => Region.binds .any e && e.on == k) = true → b k = true := fun k hk => by
      obtain ⟨e, he, h⟩ := Array.any_eq_true'.1 hk
      simp only [Bool.and_eq_true, beq_iff_eq] at h
      rw [← h.2]; exact hd e he h.1
    clear hd
    have hi : i = 0 ∨ i = 1 ∨ i = 2 ∨ i = 3 ∨ i = 4 ∨ i = 5 ∨ i = 6 ∨ i = 7 ∨ i = 8 ∨ i = 9 ∨ i = 10 ∨ i = 11 := by omega
    clear hlt
    rcases hi with rfl | rfl | rfl | rfl | rfl | rfl | rfl | rfl | rfl | rfl | rfl | rfl
    · simp only [List.getElem?_toArray, List.getElem?_cons_zero, List.getElem?_cons_succ, Option.some.injEq] at ho
      subst ho
      obtain ⟨d0, d1, d2⟩ := cells3 ((hk.block _ (heap_lt HX3.out.1)).trans HX3.out.1)
      go_simp
      refine hK.out _ _ ⟨_, _, _, _, _, _, _, _, _, _, _, _, rfl, hk, fun _ => rfl, fun h => h1 (by simpa using h), fun h => h2 (by simpa using h), fun h => h3 (by simpa using h), fun h => h4 (by simpa using h), fun h => h5 (by simpa using h), fun h => h6 (by simpa using h), fun h => h7 (by simpa using h), fun h => h8 (by simpa using h), fun h => h9 (by simpa using h), fun h => h10 (by simpa using h), fun h => h11 (by simpa using h), fun h => by simp [q5_4 (by simpa using h)], fun h => by simp [q6_0 (by simpa using h)], fun h => by simp [q6_1 (by simpa using h)], fun h => by simp [q6_2 (by simpa using h)], fun h => by simp [q6_3 (by simpa using h)], fun h => by simp [q6_5 (by simpa using h)], fun h => by simp [q7_6 (by simpa using h)], fun h => by simp [q8_7 (by simpa using h)], fun h => by simp [q9_7 (by simpa using h)], fun h => by simp [q10_8 (by simpa using h)], fun h => by simp [q11_9 (by simpa using h)]⟩
    · simp only [List.getElem?_toArray, List.getElem?_cons_zero, List.getElem?_cons_succ, Option.some.injEq] at ho
      subst ho
      go_simp
      refine hK.out _ _ ⟨_, _, _, _, _, _, _, _, _, _, _, _, rfl, hk, fun h => h0 (by simpa using h), fun _ => rfl, fun h => h2 (by simpa using h), fun h => h3 (by simpa using h), fun h => h4 (by simpa using h), fun h => h5 (by simpa using h), fun h => h6 (by simpa using h), fun h => h7 (by simpa using h), fun h => h8 (by simpa using h), fun h => h9 (by simpa using h), fun h => h10 (by simpa using h), fun h => h11 (by simpa using h), fun h => by simp [q5_4 (by simpa using h)], fun h => by simp [q6_0 (by simpa using h)], fun h => by simp [q6_1 (by simpa using h)], fun h => by simp [q6_2 (by simpa using h)], fun h => by simp [q6_3 (by simpa using h)], fun h => by simp [q6_5 (by simpa using h)], fun h => by simp [q7_6 (by simpa using h)], fun h => by simp [q8_7 (by simpa using h)], fun h => by simp [q9_7 (by simpa using h)], fun h => by simp [q10_8 (by simpa using h)], fun h => by simp [q11_9 (by simpa using h)]⟩
    · simp only [List.getElem?_toArray, List.getElem?_cons_zero, List.getElem?_cons_succ, Option.some.injEq] at ho
      subst ho
      go_simp
      refine hK.out _ _ ⟨_, _, _, _, _, _, _, _, _, _, _, _, rfl, hk, fun h => h0 (by simpa using h), fun h => h1 (by simpa using h), fun _ => rfl, fun h => h3 (by simpa using h), fun h => h4 (by simpa using h), fun h => h5 (by simpa using h), fun h => h6 (by simpa using h), fun h => h7 (by simpa using h), fun h => h8 (by simpa using h), fun h => h9 (by simpa using h), fun h => h10 (by simpa using h), fun h => h11 (by simpa using h), fun h => by simp [q5_4 (by simpa using h)], fun h => by simp [q6_0 (by simpa using h)], fun h => by simp [q6_1 (by simpa using h)], fun h => by simp [q6_2 (by simpa using h)], fun h => by simp [q6_3 (by simpa using h)], fun h => by simp [q6_5 (by simpa using h)], fun h => by simp [q7_6 (by simpa using h)], fun h => by simp [q8_7 (by simpa using h)], fun h => by simp [q9_7 (by simpa using h)], fun h => by simp [q10_8 (by simpa using h)], fun h => by simp [q11_9 (by simpa using h)]⟩
    · simp only [List.getElem?_toArray, List.getElem?_cons_zero, List.getElem?_cons_succ, Option.some.injEq] at ho
      subst ho
      obtain ⟨d0, d1, d2⟩ := cells3 ((hk.block _ (heap_lt HX3.out.2.1)).trans HX3.out.2.1)
      go_simp
      refine hK.out _ _ ⟨_, _, _, _, _, _, _, _, _, _, _, _, rfl, hk, fun h => h0 (by simpa using h), fun h => h1 (by simpa using h), fun h => h2 (by simpa using h), fun _ => rfl, fun h => h4 (by simpa using h), fun h => h5 (by simpa using h), fun h => h6 (by simpa using h), fun h => h7 (by simpa using h), fun h => h8 (by simpa using h), fun h => h9 (by simpa using h), fun h => h10 (by simpa using h), fun h => h11 (by simpa using h), fun h => by simp [q5_4 (by simpa using h)], fun h => by simp [q6_0 (by simpa using h)], fun h => by simp [q6_1 (by simpa using h)], fun h => by simp [q6_2 (by simpa using h)], fun h => by simp [q6_3 (by simpa using h)], fun h => by simp [q6_5 (by simpa using h)], fun h => by simp [q7_6 (by simpa using h)], fun h => by simp [q8_7 (by simpa using h)], fun h => by simp [q9_7 (by simpa using h)], fun h => by simp [q10_8 (by simpa using h)], fun h => by simp [q11_9 (by simpa using h)]⟩
    · simp only [List.getElem?_toArray, List.getElem?_cons_zero, List.getElem?_cons_succ, Option.some.injEq] at ho
      subst ho
      go_simp
      refine hK.out _ _ ⟨_, _, _, _, _, _, _, _, _, _, _, _, rfl, hk, fun h => h0 (by simpa using h), fun h => h1 (by simpa using h), fun h => h2 (by simpa using h), fun h => h3 (by simpa using h), fun _ => rfl, fun h => h5 (by simpa using h), fun h => h6 (by simpa using h), fun h => h7 (by simpa using h), fun h => h8 (by simpa using h), fun h => h9 (by simpa using h), fun h => h10 (by simpa using h), fun h => h11 (by simpa using h), fun h => by simp [q5_4 (by simpa using h)], fun h => by simp [q6_0 (by simpa using h)], fun h => by simp [q6_1 (by simpa using h)], fun h => by simp [q6_2 (by simpa using h)], fun h => by simp [q6_3 (by simpa using h)], fun h => by simp [q6_5 (by simpa using h)], fun h => by simp [q7_6 (by simpa using h)], fun h => by simp [q8_7 (by simpa using h)], fun h => by simp [q9_7 (by simpa using h)], fun h => by simp [q10_8 (by simpa using h)], fun h => by simp [q11_9 (by simpa using h)]⟩
    · simp only [List.getElem?_toArray, List.getElem?_cons_zero, List.getElem?_cons_succ, Option.some.injEq] at ho
      subst ho
      have e_4 := dep 4 (by kernel_rfl)
      obtain rfl := h4 e_4
      have CC := hid (CL.out w' hk)
      go_simp
      refine CC.out.mono ?_
      rintro e W5 ⟨rfl, b5⟩
      refine hK.out _ _ ⟨_, _, _, _, _, _, _, _, _, _, _, _, rfl, hk.trans (b5.mono hk.size), fun h => h0 (by simpa using h), fun h => h1 (by simpa using h), fun h => h2 (by simpa using h), fun h => h3 (by simpa using h), fun _ => rfl, fun _ => rfl, fun h => by obtain ⟨ra, rc, e, r⟩ := (h6 (by simpa using h)); exact ⟨ra, rc, e, r.below b5⟩, fun h => h7 (by simpa using h), fun h => h8 (by simpa using h), fun h => h9 (by simpa using h), fun h => h10 (by simpa using h), fun h => h11 (by simpa using h), fun _ => by simp [e_4], fun h => by simp [q6_0 (by simpa using h)], fun h => by simp [q6_1 (by simpa using h)], fun h => by simp [q6_2 (by simpa using h)], fun h => by simp [q6_3 (by simpa using h)], fun h => by simp [q6_5 (by simpa using h)], fun h => by simp [q7_6 (by simpa using h)], fun h => by simp [q8_7 (by simpa using h)], fun h => by simp [q9_7 (by simpa using h)], fun h => by simp [q10_8 (by simpa using h)], fun h => by simp [q11_9 (by simpa using h)]⟩
    · simp only [List.getElem?_toArray, List.getElem?_cons_zero, List.getElem?_cons_succ, Option.some.injEq] at ho
      subst ho
      have e_0 := dep 0 (by kernel_rfl)
      have e_1 := dep 1 (by kernel_rfl)
      have e_2 := dep 2 (by kernel_rfl)
      have e_3 := dep 3 (by kernel_rfl)
      have e_5 := dep 5 (by kernel_rfl)
      have e_4 := q5_4 e_5
      obtain rfl := h0 e_0
      obtain rfl := h1 e_1
      obtain rfl := h2 e_2
      obtain rfl := h3 e_3
      obtain rfl := h4 e_4
      obtain rfl := h5 e_5
      have n7 : b 7 = false := by
        cases hb : b 7
        · rfl
        · have := q7_6 hb; rw [hbi] at this; cases this
      have n8 : b 8 = false := by
        cases hb : b 8
        · rfl
        · have := q7_6 (q8_7 hb); rw [hbi] at this; cases this
      have CC := hid (CR.out w' hk)
      go_simp
      refine CC.out.mono ?_
      rintro e W5 ⟨⟨ra, rc, rfl, r5⟩, b5⟩
      refine hK.out _ _ ⟨_, _, _, _, _, _, _, _, _, _, _, _, rfl, hk.trans (b5.mono hk.size), fun _ => rfl, fun _ => rfl, fun _ => rfl, fun _ => rfl, fun _ => rfl, fun _ => rfl, fun _ => ⟨ra, rc, rfl, r5⟩, fun h => absurd h (by simp [n7]), fun h => absurd h (by simp [n8]), fun h => h9 (by simpa using h), fun h => h10 (by simpa using h), fun h => h11 (by simpa using h), fun h => by simp [q5_4 (by simpa using h)], fun _ => by simp [e_0], fun _ => by simp [e_1], fun _ => by simp [e_2], fun _ => by simp [e_3], fun _ => by simp [e_5], fun h => by simp [q7_6 (by simpa using h)], fun h => by simp [q8_7 (by simpa using h)], fun h => by simp [q9_7 (by simpa using h)], fun h => by simp [q10_8 (by simpa using h)], fun h => by simp [q11_9 (by simpa using h)]⟩
    · simp only [List.getElem?_toArray, List.getElem?_cons_zero, List.getElem?_cons_succ, Option.some.injEq] at ho
      subst ho
      have e_6 := dep 6 (by kernel_rfl)
      have e_0 := q6_0 e_6
      have e_1 := q6_1 e_6
      have e_2 := q6_2 e_6
      have e_3 := q6_3 e_6
      have e_5 := q6_5 e_6
      have e_4 := q5_4 e_5
      obtain rfl := h0 e_0
      obtain rfl := h1 e_1
      obtain rfl := h2 e_2
      obtain rfl := h3 e_3
      obtain rfl := h4 e_4
      obtain rfl := h5 e_5
      obtain ⟨ra, rc, rfl, r5⟩ := h6 e_6
      go_simp
      refine hK.out _ _ ⟨_, _, _, _, _, _, _, _, _, _, _, _, rfl, hk, fun _ => rfl, fun _ => rfl, fun _ => rfl, fun _ => rfl, fun _ => rfl, fun _ => rfl, fun _ => ⟨ra, rc, rfl, r5⟩, fun _ => rfl, fun h => h8 (by simpa using h), fun h => h9 (by simpa using h), fun h => h10 (by simpa using h), fun h => h11 (by simpa using h), fun h => by simp [q5_4 (by simpa using h)], fun h => by simp [q6_0 (by simpa using h)], fun h => by simp [q6_1 (by simpa using h)], fun h => by simp [q6_2 (by simpa using h)], fun h => by simp [q6_3 (by simpa using h)], fun h => by simp [q6_5 (by simpa using h)], fun _ => by simp [e_6], fun h => by simp [q8_7 (by simpa using h)], fun h => by simp [q9_7 (by simpa using h)], fun h => by simp [q10_8 (by simpa using h)], fun h => by simp [q11_9 (by simpa using h)]⟩
    · simp only [List.getElem?_toArray, List.getElem?_cons_zero, List.getElem?_cons_succ, Option.some.injEq] at ho
      subst ho
      have e_7 := dep 7 (by kernel_rfl)
      have e_6 := q7_6 e_7
      have e_0 := q6_0 e_6
      have e_1 := q6_1 e_6
      have e_2 := q6_2 e_6
      have e_3 := q6_3 e_6
      have e_5 := q6_5 e_6
      have e_4 := q5_4 e_5
      obtain rfl := h0 e_0
      obtain rfl := h1 e_1
      obtain rfl := h2 e_2
      obtain rfl := h3 e_3
      obtain rfl := h4 e_4
      obtain rfl := h5 e_5
      have n10 : b 10 = false := by
        cases hb : b 10
        · rfl
        · have := q10_8 hb; rw [hbi] at this; cases this
      obtain ⟨ra, rc, rfl, r5⟩ := h6 e_6
      obtain rfl := h7 e_7
      go_simp
      refine hK.out _ _ ⟨_, _, _, _, _, _, _, _, _, _, _, _, rfl, hk, fun _ => rfl, fun _ => rfl, fun _ => rfl, fun _ => rfl, fun _ => rfl, fun _ => rfl, fun _ => ⟨ra, rc, rfl, r5⟩, fun _ => rfl, fun _ => rfl, fun h => h9 (by simpa using h), fun h => absurd h (by simp [n10]), fun h => h11 (by simpa using h), fun h => by simp [q5_4 (by simpa using h)], fun h => by simp [q6_0 (by simpa using h)], fun h => by simp [q6_1 (by simpa using h)], fun h => by simp [q6_2 (by simpa using h)], fun h => by simp [q6_3 (by simpa using h)], fun h => by simp [q6_5 (by simpa using h)], fun h => by simp [q7_6 (by simpa using h)], fun _ => by simp [e_7], fun h => by simp [q9_7 (by simpa using h)], fun h => by simp [q10_8 (by simpa using h)], fun h => by simp [q11_9 (by simpa using h)]⟩
    · simp only [List.getElem?_toArray, List.getElem?_cons_zero, List.getElem?_cons_succ, Option.some.injEq] at ho
      subst ho
      have e_7 := dep 7 (by kernel_rfl)
      have e_6 := q7_6 e_7
      have e_0 := q6_0 e_6
      have e_1 := q6_1 e_6
      have e_2 := q6_2 e_6
      have e_3 := q6_3 e_6
      have e_5 := q6_5 e_6
      have e_4 := q5_4 e_5
      obtain rfl := h0 e_0
      obtain rfl := h1 e_1
      obtain rfl := h2 e_2
      obtain rfl := h3 e_3
      obtain rfl := h4 e_4
      obtain rfl := h5 e_5
      have n11 : b 11 = false := by
        cases hb : b 11
        · rfl
        · have := q11_9 hb; rw [hbi] at this; cases this
      obtain ⟨ra, rc, rfl, r5⟩ := h6 e_6
      obtain rfl := h7 e_7
      go_simp
      refine hK.out _ _ ⟨_, _, _, _, _, _, _, _, _, _, _, _, rfl, hk, fun _ => rfl, fun _ => rfl, fun _ => rfl, fun _ => rfl, fun _ => rfl, fun _ => rfl, fun _ => ⟨ra, rc, rfl, r5⟩, fun _ => rfl, fun h => h8 (by simpa using h), fun _ => rfl, fun h => h10 (by simpa using h), fun h => absurd h (by simp [n11]), fun h => by simp [q5_4 (by simpa using h)], fun h => by simp [q6_0 (by simpa using h)], fun h => by simp [q6_1 (by simpa using h)], fun h => by simp [q6_2 (by simpa using h)], fun h => by simp [q6_3 (by simpa using h)], fun h => by simp [q6_5 (by simpa using h)], fun h => by simp [q7_6 (by simpa using h)], fun h => by simp [q8_7 (by simpa using h)], fun _ => by simp [e_7], fun h => by simp [q10_8 (by simpa using h)], fun h => by simp [q11_9 (by simpa using h)]⟩
    · simp only [List.getElem?_toArray, List.getElem?_cons_zero, List.getElem?_cons_succ, Option.some.injEq] at ho
      subst ho
      have e_8 := dep 8 (by kernel_rfl)
      have e_7 := q8_7 e_8
      have e_6 := q7_6 e_7
      have e_0 := q6_0 e_6
      have e_1 := q6_1 e_6
      have e_2 := q6_2 e_6
      have e_3 := q6_3 e_6
      have e_5 := q6_5 e_6
      have e_4 := q5_4 e_5
      obtain rfl := h0 e_0
      obtain rfl := h1 e_1
      obtain rfl := h2 e_2
      obtain rfl := h3 e_3
      obtain rfl := h4 e_4
      obtain rfl := h5 e_5
      obtain ⟨ra, rc, rfl, r5⟩ := h6 e_6
      obtain rfl := h7 e_7
      have e44 := h8 e_8
      simp only [Value.tuple.injEq, Array.mk.injEq, List.cons.injEq, and_true] at e44
      obtain rfl := e44
      go_simp
      refine hK.out _ _ ⟨_, _, _, _, _, _, _, _, _, _, _, _, rfl, hk, fun _ => rfl, fun _ => rfl, fun _ => rfl, fun _ => rfl, fun _ => rfl, fun _ => rfl, fun _ => ⟨ra, rc, rfl, r5⟩, fun _ => rfl, fun _ => rfl, fun h => h9 (by simpa using h), fun _ => rfl, fun h => h11 (by simpa using h), fun h => by simp [q5_4 (by simpa using h)], fun h => by simp [q6_0 (by simpa using h)], fun h => by simp [q6_1 (by simpa using h)], fun h => by simp [q6_2 (by simpa using h)], fun h => by simp [q6_3 (by simpa using h)], fun h => by simp [q6_5 (by simpa using h)], fun h => by simp [q7_6 (by simpa using h)], fun h => by simp [q8_7 (by simpa using h)], fun h => by simp [q9_7 (by simpa using h)], fun _ => by simp [e_8], fun h => by simp [q11_9 (by simpa using h)]⟩
    · simp only [List.getElem?_toArray, List.getElem?_cons_zero, List.getElem?_cons_succ, Option.some.injEq] at ho
      subst ho
      have e_9 := dep 9 (by kernel_rfl)
      have e_7 := q9_7 e_9
      have e_6 := q7_6 e_7
      have e_0 := q6_0 e_6
      have e_1 := q6_1 e_6
      have e_2 := q6_2 e_6
      have e_3 := q6_3 e_6
      have e_5 := q6_5 e_6
      have e_4 := q5_4 e_5
      obtain rfl := h0 e_0
      obtain rfl := h1 e_1
      obtain rfl := h2 e_2
      obtain rfl := h3 e_3
      obtain rfl := h4 e_4
      obtain rfl := h5 e_5
      obtain ⟨ra, rc, rfl, r5⟩ := h6 e_6
      obtain rfl := h7 e_7
      obtain rfl := h9 e_9
      go_simp
      refine hK.out _ _ ⟨_, _, _, _, _, _, _, _, _, _, _, _, rfl, hk, fun _ => rfl, fun _ => rfl, fun _ => rfl, fun _ => rfl, fun _ => rfl, fun _ => rfl, fun _ => ⟨ra, rc, rfl, r5⟩, fun _ => rfl, fun h => h8 (by simpa using h), fun _ => rfl, fun h => h10 (by simpa using h), fun _ => rfl, fun h => by simp [q5_4 (by simpa using h)], fun h => by simp [q6_0 (by simpa using h)], fun h => by simp [q6_1 (by simpa using h)], fun h => by simp [q6_2 (by simpa using h)], fun h => by simp [q6_3 (by simpa using h)], fun h => by simp [q6_5 (by simpa using h)], fun h => by simp [q7_6 (by simpa using h)], fun h => by simp [q8_7 (by simpa using h)], fun h => by simp [q9_7 (by simpa using h)], fun h => by simp [q10_8 (by simpa using h)], fun _ => by simp [e_9]⟩
  case done7 =>
    rintro b a' w' ⟨v37, v38, v39, v40, v41, v42, v43, v36, v44, v45, v12, v13, rfl, hk, h0, h1, h2, h3, h4, h5, h6, h7, h8, h9, h10, h11, q5_4, q6_0, q6_1, q6_2, q6_3, q6_5, q7_6, q8_7, q9_7, q10_8, q11_9⟩ hall
    obtain rfl := h0 (hall 0)
    obtain rfl := h1 (hall 1)
    obtain rfl := h2 (hall 2)
    obtain rfl := h3 (hall 3)
    obtain rfl := h4 (hall 4)
    obtain rfl := h5 (hall 5)
    obtain ⟨ra, rc, rfl, r5⟩ := h6 (hall 6)
    obtain rfl := h7 (hall 7)
    have e44 := h8 (hall 8)
    simp only [Value.tuple.injEq, Array.mk.injEq, List.cons.injEq, and_true] at e44
    obtain rfl := e44
    obtain rfl := h9 (hall 9)
    obtain rfl := h10 (hall 10)
    obtain rfl := h11 (hall 11)
    have HX4 := hid (show w'.heap[w.heap.size]? = some (.cells #[.slice a1 n1 c1, .slice a2 n2 c2, .slice a3 n3 c3] 25 (0, 0)) ∧ w'.heap[w.heap.size + 1]? = some (.cells #[.int .i64 (x : Int), .int .i64 (y : Int), .string ins] 27 (0, 0)) ∧ w'.heap[w.heap.size + 2]? = some (.cells #[.int .i64 0, .int .i64 0, .int .i64 0] 35 (0, 0)) ∧ Below w.heap.size w w' from ⟨(hk.block _ (heap_lt HX3.out.1)).trans HX3.out.1, (hk.block _ (heap_lt HX3.out.2.1)).trans HX3.out.2.1, (hk.block _ (heap_lt HX3.out.2.2.1)).trans HX3.out.2.2.1, HX3.out.2.2.2.trans (hk.mono HX3.out.2.2.2.size)⟩)
    have HR4 := hid (And.intro r5 hk)
    clear h0 h1 h2 h3 h4 h5 h6 h7 h8 h9 h10 h11 hk r5 hall
    obtain ⟨U4, rfl⟩ : ∃ U4, U4 = w' := ⟨_, rfl⟩
    have hko0 : (0 : Int) ≤ (ko : Int) := by omega
    have hkon' : (ko : Int) ≤ (on : Int) := by omega
    have hsub : IntKind.i64.wrap ((ins.size : Int) - (y : Int)) = (ins.size : Int) - (y : Int) := wrapIn (by omega) (by omega)
    have BW := hid (fun V (hV : Below U4.heap.size U4 V) => HX4.out.2.2.2.trans (hV.mono HX4.out.2.2.2.size))
    have HSL := hid (fun V (hV : Below U4.heap.size U4 V) => trow_sl (HH.out.2.1.below (BW.out V hV)) hkon hoc)
    have HTB := hid (show TBd ((lexT D s).drop ko) from fun t ht => lexT_tb D s (by omega) t (List.mem_of_mem_drop ht))
    have HLD := hid (show (((lexT D s).drop ko).map (mvI ((ins.size : Int) - y))).length = on - ko from by rw [List.length_map, List.length_drop, HM.out.2.2.1])
    have HEQ := hid (show lexT D t = cat [(oa, oc, (lexT D s).take m), (ra, rc, O), (none, 0, ((lexT D s).drop ko).map (mvI ((ins.size : Int) - y)))] from by
      obtain ⟨e1, e2, e3, e4, e5, e6, e7, e8⟩ := HM.out
      rw [e2, upd_eq HF.out, e5, e2, e4, e1, e7]
      unfold cat
      simp only [List.flatMap_cons, List.flatMap_nil, List.append_nil])
    go_upto_region 8 with fail
    refine region_invB (fun b a' w' => ∃ (v46 v47 v48 v49 v50 v51 v52 v53 v54 v55 v56 v57 v58 v59 v14 : Value), a' = { tmps := #[.agg #[.slice a1 n1 c1, .slice a2 n2 c2, .slice a3 n3 c3], .slice oa on oc, .agg #[.int .i64 (x : Int), .int .i64 (y : Int), .string ins], .pointer (some ⟨w.heap.size, 0, none⟩), undef, .pointer (some ⟨w.heap.size + 1, 0, none⟩), .slice none 0 0, .pointer (some ⟨w.heap.size + 1 + 1, 0, none⟩), .int .i64 0, .string t, .int .i64 0, .slice oa m oc, .slice ra N rc, .int .i64 (ko : Int), v14, .tuple #[.string t, .int .i64 0], .slice oa on oc, .string s, .agg #[.int .i64 (x : Int), .int .i64 (y : Int), .string ins], .tuple #[.string t, .int .i64 0], .string t, .int .i64 0, .int .i64 0, .bool false, undef, undef, .agg #[.slice a1 n1 c1, .slice a2 n2 c2, .slice a3 n3 c3], .bool true, .bool false, undef, .slice oa on oc, .slice oa on oc, .pointer (some ⟨w.heap.size + 1, 0, none⟩), .int .i64 (x : Int), .int .i64 (m : Int), .slice oa m oc, .tuple #[.slice ra N rc, .int .i64 (ko : Int)], .agg #[.slice a1 n1 c1, .slice a2 n2 c2, .slice a3 n3 c3], .string t, .slice oa on oc, .agg #[.int .i64 (x : Int), .int .i64 (y : Int), .string ins], .slice oa m oc, .int .i64 (p0 : Int), .tuple #[.slice ra N rc, .int .i64 (ko : Int)], .slice ra N rc, .int .i64 (ko : Int), v46, v47, v48, v49, v50, v51, v52, v53, v54, v55, v56, v57, v58, v59, undef, undef, undef, undef, undef, undef, undef, undef, undef, undef], defers := [] } ∧ Below U4.heap.size U4 w' ∧ (b 0 = true → v46 = .slice oa m oc) ∧ (b 1 = true → v47 = .slice ra N rc) ∧ (b 2 = true → v48 = .slice oa on oc) ∧ (b 3 = true → v49 = .int .i64 (ko : Int)) ∧ (b 4 = true → ∃ sa, v50 = .slice sa (on - ko) (oc - ko) ∧ TRow w' sa (on - ko) ((lexT D s).drop ko)) ∧ (b 5 = true → v51 = .pointer (some ⟨w.heap.size + 1, 2, none⟩)) ∧ (b 6 = true → v52 = .string ins) ∧ (b 7 = true → v53 = .int .i64 (ins.size : Int)) ∧ (b 8 = true → v54 = .pointer (some ⟨w.heap.size + 1, 1, none⟩)) ∧ (b 9 = true → v55 = .int .i64 (y : Int)) ∧ (b 10 = true → v56 = .int .i64 ((ins.size : Int) - (y : Int))) ∧ (b 11 = true → ∃ va vc, v57 = .slice va (on - ko) vc ∧ TRow w' va (on - ko) (((lexT D s).drop ko).map (mvI ((ins.size : Int) - y)))) ∧ (b 12 = true → ∃ Bk va vc, v58 = .slice (some ⟨Bk, 0, none⟩) 3 3 ∧ w'.heap[Bk]? = some (.cells #[.slice oa m oc, .slice ra N rc, .slice va (on - ko) vc] 32 (0, 0)) ∧ TRow w' va (on - ko) (((lexT D s).drop ko).map (mvI ((ins.size : Int) - y)))) ∧ (b 13 = true → ∃ za zc, v59 = .slice za (lexT D t).length zc ∧ TRow w' za (lexT D t).length (lexT D t) ∧ (lexT D t).length ≤ zc ∧ ∀ q, za = some q → U4.heap.size ≤ q.block) ∧ (b 14 = true → v14 = v59) ∧ (b 4 = true → b 2 = true) ∧ (b 4 = true → b 3 = true) ∧ (b 6 = true → b 5 = true) ∧ (b 7 = true → b 6 = true) ∧ (b 9 = true → b 8 = true) ∧ (b 10 = true → b 7 = true) ∧ (b 10 = true → b 9 = true) ∧ (b 11 = true → b 4 = true) ∧ (b 11 = true → b 10 = true) ∧ (b 12 = true → b 0 = true) ∧ (b 12 = true → b 1 = true) ∧ (b 12 = true → b 11 = true) ∧ (b 13 = true → b 12 = true) ∧ (b 14 = true → b 13 = true)) (by kernel_rfl) (bindB_of (by kernel_rfl)) ?step8 ?done8 ?init8
    case step8 =>
      rintro b a' w' i o ho ⟨v46, v47, v48, v49, v50, v51, v52, v53, v54, v55, v56, v57, v58, v59, v14, rfl, hk, h0, h1, h2, h3, h4, h5, h6, h7, h8, h9, h10, h11, h12, h13, h14, q4_2, q4_3, q6_5, q7_6, q9_8, q10_7, q10_9, q11_4, q11_10, q12_0, q12_1, q12_11, q13_12, q14_13⟩ hbi hd K hK
      have hlt : i < 15 := by have := (Array.getElem?_eq_some_iff.1 ho).1; simpa using this
      have dep : ∀ k, (o.after.any fun e => Region.binds .any e && e.on == k) = true → b k = true := fun k hk => by
        obtain ⟨e, he, h⟩ := Array.any_eq_true'.1 hk
        simp only [Bool.and_eq_true, beq_iff_eq] at h
        rw [← h.2]; exact hd e he h.1
      clear hd
      have hi : i = 0 ∨ i = 1 ∨ i = 2 ∨ i = 3 ∨ i = 4 ∨ i = 5 ∨ i = 6 ∨ i = 7 ∨ i = 8 ∨ i = 9 ∨ i = 10 ∨ i = 11 ∨ i = 12 ∨ i = 13 ∨ i = 14 := by omega
      clear hlt
      rcases hi with rfl | rfl | rfl | rfl | rfl | rfl | rfl | rfl | rfl | rfl | rfl | rfl | rfl | rfl | rfl
      · simp only [List.getElem?_toArray, List.getElem?_cons_zero, List.getElem?_cons_succ, Option.some.injEq] at ho
        subst ho
        go_simp
        refine hK.out _ _ ⟨_, _, _, _, _, _, _, _, _, _, _, _, _, _, _, rfl, hk, fun _ => rfl, fun h => h1 (by simpa using h), fun h => h2 (by simpa using h), fun h => h3 (by simpa using h), fun h => h4 (by simpa using h), fun h => h5 (by simpa using h), fun h => h6 (by simpa using h), fun h => h7 (by simpa using h), fun h => h8 (by simpa using h), fun h => h9 (by simpa using h), fun h => h10 (by simpa using h), fun h => h11 (by simpa using h), fun h => h12 (by simpa using h), fun h => h13 (by simpa using h), fun h => h14 (by simpa using h), fun h => by simp [q4_2 (by simpa using h)], fun h => by simp [q4_3 (by simpa using h)], fun h => by simp [q6_5 (by simpa using h)], fun h => by simp [q7_6 (by simpa using h)], fun h => by simp [q9_8 (by simpa using h)], fun h => by simp [q10_7 (by simpa using h)], fun h => by simp [q10_9 (by simpa using h)], fun h => by simp [q11_4 (by simpa using h)], fun h => by simp [q11_10 (by simpa using h)], fun h => by simp [q12_0 (by simpa using h)], fun h => by simp [q12_1 (by simpa using h)], fun h => by simp [q12_11 (by simpa using h)], fun h => by simp [q13_12 (by simpa using h)], fun h => by simp [q14_13 (by simpa using h)]⟩
      · simp only [List.getElem?_toArray, List.getElem?_cons_zero, List.getElem?_cons_succ, Option.some.injEq] at ho
        subst ho
        go_simp
        refine hK.out _ _ ⟨_, _, _, _, _, _, _, _, _, _, _, _, _, _, _, rfl, hk, fun h => h0 (by simpa using h), fun _ => rfl, fun h => h2 (by simpa using h), fun h => h3 (by simpa using h), fun h => h4 (by simpa using h), fun h => h5 (by simpa using h), fun h => h6 (by simpa using h), fun h => h7 (by simpa using h), fun h => h8 (by simpa using h), fun h => h9 (by simpa using h), fun h => h10 (by simpa using h), fun h => h11 (by simpa using h), fun h => h12 (by simpa using h), fun h => h13 (by simpa using h), fun h => h14 (by simpa using h), fun h => by simp [q4_2 (by simpa using h)], fun h => by simp [q4_3 (by simpa using h)], fun h => by simp [q6_5 (by simpa using h)], fun h => by simp [q7_6 (by simpa using h)], fun h => by simp [q9_8 (by simpa using h)], fun h => by simp [q10_7 (by simpa using h)], fun h => by simp [q10_9 (by simpa using h)], fun h => by simp [q11_4 (by simpa using h)], fun h => by simp [q11_10 (by simpa using h)], fun h => by simp [q12_0 (by simpa using h)], fun h => by simp [q12_1 (by simpa using h)], fun h => by simp [q12_11 (by simpa using h)], fun h => by simp [q13_12 (by simpa using h)], fun h => by simp [q14_13 (by simpa using h)]⟩
      · simp only [List.getElem?_toArray, List.getElem?_cons_zero, List.getElem?_cons_succ, Option.some.injEq] at ho
        subst ho
        go_simp
        refine hK.out _ _ ⟨_, _, _, _, _, _, _, _, _, _, _, _, _, _, _, rfl, hk, fun h => h0 (by simpa using h), fun h => h1 (by simpa using h), fun _ => rfl, fun h => h3 (by simpa using h), fun h => h4 (by simpa using h), fun h => h5 (by simpa using h), fun h => h6 (by simpa using h), fun h => h7 (by simpa using h), fun h => h8 (by simpa using h), fun h => h9 (by simpa using h), fun h => h10 (by simpa using h), fun h => h11 (by simpa using h), fun h => h12 (by simpa using h), fun h => h13 (by simpa using h), fun h => h14 (by simpa using h), fun h => by simp [q4_2 (by simpa using h)], fun h => by simp [q4_3 (by simpa using h)], fun h => by simp [q6_5 (by simpa using h)], fun h => by simp [q7_6 (by simpa using h)], fun h => by simp [q9_8 (by simpa using h)], fun h => by simp [q10_7 (by simpa using h)], fun h => by simp [q10_9 (by simpa using h)], fun h => by simp [q11_4 (by simpa using h)], fun h => by simp [q11_10 (by simpa using h)], fun h => by simp [q12_0 (by simpa using h)], fun h => by simp [q12_1 (by simpa using h)], fun h => by simp [q12_11 (by simpa using h)], fun h => by simp [q13_12 (by simpa using h)], fun h => by simp [q14_13 (by simpa using h)]⟩
      · simp only [List.getElem?_toArray, List.getElem?_cons_zero, List.getElem?_cons_succ, Option.some.injEq] at ho
        subst ho
        go_simp
        refine hK.out _ _ ⟨_, _, _, _, _, _, _, _, _, _, _, _, _, _, _, rfl, hk, fun h => h0 (by simpa using h), fun h => h1 (by simpa using h), fun h => h2 (by simpa using h), fun _ => rfl, fun h => h4 (by simpa using h), fun h => h5 (by simpa using h), fun h => h6 (by simpa using h), fun h => h7 (by simpa using h), fun h => h8 (by simpa using h), fun h => h9 (by simpa using h), fun h => h10 (by simpa using h), fun h => h11 (by simpa using h), fun h => h12 (by simpa using h), fun h => h13 (by simpa using h), fun h => h14 (by simpa using h), fun h => by simp [q4_2 (by simpa using h)], fun h => by simp [q4_3 (by simpa using h)], fun h => by simp [q6_5 (by simpa using h)], fun h => by simp [q7_6 (by simpa using h)], fun h => by simp [q9_8 (by simpa using h)], fun h => by simp [q10_7 (by simpa using h)], fun h => by simp [q10_9 (by simpa using h)], fun h => by simp [q11_4 (by simpa using h)], fun h => by simp [q11_10 (by simpa using h)], fun h => by simp [q12_0 (by simpa using h)], fun h => by simp [q12_1 (by simpa using h)], fun h => by simp [q12_11 (by simpa using h)], fun h => by simp [q13_12 (by simpa using h)], fun h => by simp [q14_13 (by simpa using h)]⟩
      · simp only [List.getElem?_toArray, List.getElem?_cons_zero, List.getElem?_cons_succ, Option.some.injEq] at ho
        subst ho
        have e_2 := dep 2 (by kernel_rfl)
        have e_3 := dep 3 (by kernel_rfl)
        obtain rfl := h2 e_2
        obtain rfl := h3 e_3
        go_simp
        refine hK.out _ _ ⟨_, _, _, _, _, _, _, _, _, _, _, _, _, _, _, rfl, hk, fun h => h0 (by simpa using h), fun h => h1 (by simpa using h), fun _ => rfl, fun _ => rfl, fun _ => ⟨_, rfl, HSL.out w' hk⟩, fun h => h5 (by simpa using h), fun h => h6 (by simpa using h), fun h => h7 (by simpa using h), fun h => h8 (by simpa using h), fun h => h9 (by simpa using h), fun h => h10 (by simpa using h), fun h => h11 (by simpa using h), fun h => h12 (by simpa using h), fun h => h13 (by simpa using h), fun h => h14 (by simpa using h), fun _ => by simp [e_2], fun _ => by simp [e_3], fun h => by simp [q6_5 (by simpa using h)], fun h => by simp [q7_6 (by simpa using h)], fun h => by simp [q9_8 (by simpa using h)], fun h => by simp [q10_7 (by simpa using h)], fun h => by simp [q10_9 (by simpa using h)], fun h => by simp [q11_4 (by simpa using h)], fun h => by simp [q11_10 (by simpa using h)], fun h => by simp [q12_0 (by simpa using h)], fun h => by simp [q12_1 (by simpa using h)], fun h => by simp [q12_11 (by simpa using h)], fun h => by simp [q13_12 (by simpa using h)], fun h => by simp [q14_13 (by simpa using h)]⟩
      · simp only [List.getElem?_toArray, List.getElem?_cons_zero, List.getElem?_cons_succ, Option.some.injEq] at ho
        subst ho
        go_simp
        refine hK.out _ _ ⟨_, _, _, _, _, _, _, _, _, _, _, _, _, _, _, rfl, hk, fun h => h0 (by simpa using h), fun h => h1 (by simpa using h), fun h => h2 (by simpa using h), fun h => h3 (by simpa using h), fun h => h4 (by simpa using h), fun _ => rfl, fun h => h6 (by simpa using h), fun h => h7 (by simpa using h), fun h => h8 (by simpa using h), fun h => h9 (by simpa using h), fun h => h10 (by simpa using h), fun h => h11 (by simpa using h), fun h => h12 (by simpa using h), fun h => h13 (by simpa using h), fun h => h14 (by simpa using h), fun h => by simp [q4_2 (by simpa using h)], fun h => by simp [q4_3 (by simpa using h)], fun h => by simp [q6_5 (by simpa using h)], fun h => by simp [q7_6 (by simpa using h)], fun h => by simp [q9_8 (by simpa using h)], fun h => by simp [q10_7 (by simpa using h)], fun h => by simp [q10_9 (by simpa using h)], fun h => by simp [q11_4 (by simpa using h)], fun h => by simp [q11_10 (by simpa using h)], fun h => by simp [q12_0 (by simpa using h)], fun h => by simp [q12_1 (by simpa using h)], fun h => by simp [q12_11 (by simpa using h)], fun h => by simp [q13_12 (by simpa using h)], fun h => by simp [q14_13 (by simpa using h)]⟩
      · simp only [List.getElem?_toArray, List.getElem?_cons_zero, List.getElem?_cons_succ, Option.some.injEq] at ho
        subst ho
        have e_5 := dep 5 (by kernel_rfl)
        obtain rfl := h5 e_5
        obtain ⟨d0, d1, d2⟩ := cells3 ((hk.block _ (heap_lt HX4.out.2.1)).trans HX4.out.2.1)
        go_simp
        refine hK.out _ _ ⟨_, _, _, _, _, _, _, _, _, _, _, _, _, _, _, rfl, hk, fun h => h0 (by simpa using h), fun h => h1 (by simpa using h), fun h => h2 (by simpa using h), fun h => h3 (by simpa using h), fun h => h4 (by simpa using h), fun _ => rfl, fun _ => rfl, fun h => h7 (by simpa using h), fun h => h8 (by simpa using h), fun h => h9 (by simpa using h), fun h => h10 (by simpa using h), fun h => h11 (by simpa using h), fun h => h12 (by simpa using h), fun h => h13 (by simpa using h), fun h => h14 (by simpa using h), fun h => by simp [q4_2 (by simpa using h)], fun h => by simp [q4_3 (by simpa using h)], fun _ => by simp [e_5], fun h => by simp [q7_6 (by simpa using h)], fun h => by simp [q9_8 (by simpa using h)], fun h => by simp [q10_7 (by simpa using h)], fun h => by simp [q10_9 (by simpa using h)], fun h => by simp [q11_4 (by simpa using h)], fun h => by simp [q11_10 (by simpa using h)], fun h => by simp [q12_0 (by simpa using h)], fun h => by simp [q12_1 (by simpa using h)], fun h => by simp [q12_11 (by simpa using h)], fun h => by simp [q13_12 (by simpa using h)], fun h => by simp [q14_13 (by simpa using h)]⟩
      · simp only [List.getElem?_toArray, List.getElem?_cons_zero, List.getElem?_cons_succ, Option.some.injEq] at ho
        subst ho
        have e_6 := dep 6 (by kernel_rfl)
        have e_5 := q6_5 e_6
        obtain rfl := h5 e_5
        obtain rfl := h6 e_6
        go_simp
        refine hK.out _ _ ⟨_, _, _, _, _, _, _, _, _, _, _, _, _, _, _, rfl, hk, fun h => h0 (by simpa using h), fun h => h1 (by simpa using h), fun h => h2 (by simpa using h), fun h => h3 (by simpa using h), fun h => h4 (by simpa using h), fun _ => rfl, fun _ => rfl, fun _ => rfl, fun h => h8 (by simpa using h), fun h => h9 (by simpa using h), fun h => h10 (by simpa using h), fun h => h11 (by simpa using h), fun h => h12 (by simpa using h), fun h => h13 (by simpa using h), fun h => h14 (by simpa using h), fun h => by simp [q4_2 (by simpa using h)], fun h => by simp [q4_3 (by simpa using h)], fun h => by simp [q6_5 (by simpa using h)], fun _ => by simp [e_6], fun h => by simp [q9_8 (by simpa using h)], fun h => by simp [q10_7 (by simpa using h)], fun h => by simp [q10_9 (by simpa using h)], fun h => by simp [q11_4 (by simpa using h)], fun h => by simp [q11_10 (by simpa using h)], fun h => by simp [q12_0 (by simpa using h)], fun h => by simp [q12_1 (by simpa using h)], fun h => by simp [q12_11 (by simpa using h)], fun h => by simp [q13_12 (by simpa using h)], fun h => by simp [q14_13 (by simpa using h)]⟩
      · simp only [List.getElem?_toArray, List.getElem?_cons_zero, List.getElem?_cons_succ, Option.some.injEq] at ho
        subst ho
        go_simp
        refine hK.out _ _ ⟨_, _, _, _, _, _, _, _, _, _, _, _, _, _, _, rfl, hk, fun h => h0 (by simpa using h), fun h => h1 (by simpa using h), fun h => h2 (by simpa using h), fun h => h3 (by simpa using h), fun h => h4 (by simpa using h), fun h => h5 (by simpa using h), fun h => h6 (by simpa using h), fun h => h7 (by simpa using h), fun _ => rfl, fun h => h9 (by simpa using h), fun h => h10 (by simpa using h), fun h => h11 (by simpa using h), fun h => h12 (by simpa using h), fun h => h13 (by simpa using h), fun h => h14 (by simpa using h), fun h => by simp [q4_2 (by simpa using h)], fun h => by simp [q4_3 (by simpa using h)], fun h => by simp [q6_5 (by simpa using h)], fun h => by simp [q7_6 (by simpa using h)], fun h => by simp [q9_8 (by simpa using h)], fun h => by simp [q10_7 (by simpa using h)], fun h => by simp [q10_9 (by simpa using h)], fun h => by simp [q11_4 (by simpa using h)], fun h => by simp [q11_10 (by simpa using h)], fun h => by simp [q12_0 (by simpa using h)], fun h => by simp [q12_1 (by simpa using h)], fun h => by simp [q12_11 (by simpa using h)], fun h => by simp [q13_12 (by simpa using h)], fun h => by simp [q14_13 (by simpa using h)]⟩
      · simp only [List.getElem?_toArray, List.getElem?_cons_zero, List.getElem?_cons_succ, Option.some.injEq] at ho
        subst ho
        have e_8 := dep 8 (by kernel_rfl)
        obtain rfl := h8 e_8
        obtain ⟨d0, d1, d2⟩ := cells3 ((hk.block _ (heap_lt HX4.out.2.1)).trans HX4.out.2.1)
        go_simp
        refine hK.out _ _ ⟨_, _, _, _, _, _, _, _, _, _, _, _, _, _, _, rfl, hk, fun h => h0 (by simpa using h), fun h => h1 (by simpa using h), fun h => h2 (by simpa using h), fun h => h3 (by simpa using h), fun h => h4 (by simpa using h), fun h => h5 (by simpa using h), fun h => h6 (by simpa using h), fun h => h7 (by simpa using h), fun _ => rfl, fun _ => rfl, fun h => h10 (by simpa using h), fun h => h11 (by simpa using h), fun h => h12 (by simpa using h), fun h => h13 (by simpa using h), fun h => h14 (by simpa using h), fun h => by simp [q4_2 (by simpa using h)], fun h => by simp [q4_3 (by simpa using h)], fun h => by simp [q6_5 (by simpa using h)], fun h => by simp [q7_6 (by simpa using h)], fun _ => by simp [e_8], fun h => by simp [q10_7 (by simpa using h)], fun h => by simp [q10_9 (by simpa using h)], fun h => by simp [q11_4 (by simpa using h)], fun h => by simp [q11_10 (by simpa using h)], fun h => by simp [q12_0 (by simpa using h)], fun h => by simp [q12_1 (by simpa using h)], fun h => by simp [q12_11 (by simpa using h)], fun h => by simp [q13_12 (by simpa using h)], fun h => by simp [q14_13 (by simpa using h)]⟩
      · simp only [List.getElem?_toArray, List.getElem?_cons_zero, List.getElem?_cons_succ, Option.some.injEq] at ho
        subst ho
        have e_7 := dep 7 (by kernel_rfl)
        have e_9 := dep 9 (by kernel_rfl)
        have e_6 := q7_6 e_7
        have e_8 := q9_8 e_9
        have e_5 := q6_5 e_6
        obtain rfl := h5 e_5
        obtain rfl := h6 e_6
        obtain rfl := h7 e_7
        obtain rfl := h8 e_8
        obtain rfl := h9 e_9
        go_simp
        refine hK.out _ _ ⟨_, _, _, _, _, _, _, _, _, _, _, _, _, _, _, rfl, hk, fun h => h0 (by simpa using h), fun h => h1 (by simpa using h), fun h => h2 (by simpa using h), fun h => h3 (by simpa using h), fun h => h4 (by simpa using h), fun _ => rfl, fun _ => rfl, fun _ => rfl, fun _ => rfl, fun _ => rfl, fun _ => rfl, fun h => h11 (by simpa using h), fun h => h12 (by simpa using h), fun h => h13 (by simpa using h), fun h => h14 (by simpa using h), fun h => by simp [q4_2 (by simpa using h)], fun h => by simp [q4_3 (by simpa using h)], fun h => by simp [q6_5 (by simpa using h)], fun h => by simp [q7_6 (by simpa using h)], fun h => by simp [q9_8 (by simpa using h)], fun _ => by simp [e_7], fun _ => by simp [e_9], fun h => by simp [q11_4 (by simpa using h)], fun h => by simp [q11_10 (by simpa using h)], fun h => by simp [q12_0 (by simpa using h)], fun h => by simp [q12_1 (by simpa using h)], fun h => by simp [q12_11 (by simpa using h)], fun h => by simp [q13_12 (by simpa using h)], fun h => by simp [q14_13 (by simpa using h)]⟩
      · simp only [List.getElem?_toArray, List.getElem?_cons_zero, List.getElem?_cons_succ, Option.some.injEq] at ho
        subst ho
        have e_4 := dep 4 (by kernel_rfl)
        have e_10 := dep 10 (by kernel_rfl)
        have e_2 := q4_2 e_4
        have e_3 := q4_3 e_4
        have e_7 := q10_7 e_10
        have e_9 := q10_9 e_10
        have e_6 := q7_6 e_7
        have e_8 := q9_8 e_9
        have e_5 := q6_5 e_6
        obtain rfl := h2 e_2
        obtain rfl := h3 e_3
        obtain rfl := h5 e_5
        obtain rfl := h6 e_6
        obtain rfl := h7 e_7
        obtain rfl := h8 e_8
        obtain rfl := h9 e_9
        obtain rfl := h10 e_10
        have n12 : b 12 = false := by
          cases hb : b 12
          · rfl
          · have := q12_11 hb; rw [hbi] at this; cases this
        obtain ⟨sa, rfl, r4⟩ := h4 e_4
        have CC := hid (shifted_any w' sa (on - ko) (oc - ko) _ r4 (by omega) HTB.out ((ins.size : Int) - y) (by omega) (by omega))
        go_simp
        refine CC.out.mono ?_
        rintro e W5 ⟨⟨va, vc, rfl, own5⟩, b5⟩
        rw [HLD.out] at own5 ⊢
        refine hK.out _ _ ⟨_, _, _, _, _, _, _, _, _, _, _, _, _, _, _, rfl, hk.trans (b5.mono hk.size), fun h => h0 (by simpa using h), fun h => h1 (by simpa using h), fun _ => rfl, fun _ => rfl, fun _ => ⟨sa, rfl, r4.below b5⟩, fun _ => rfl, fun _ => rfl, fun _ => rfl, fun _ => rfl, fun _ => rfl, fun _ => rfl, fun _ => ⟨va, vc, rfl, own_trow' own5⟩, fun h => absurd h (by simp [n12]), fun h => by obtain ⟨za, zc, e, r, q⟩ := (h13 (by simpa using h)); exact ⟨za, zc, e, r.below b5, q⟩, fun h => h14 (by simpa using h), fun h => by simp [q4_2 (by simpa using h)], fun h => by simp [q4_3 (by simpa using h)], fun h => by simp [q6_5 (by simpa using h)], fun h => by simp [q7_6 (by simpa using h)], fun h => by simp [q9_8 (by simpa using h)], fun h => by simp [q10_7 (by simpa using h)], fun h => by simp [q10_9 (by simpa using h)], fun _ => by simp [e_4], fun _ => by simp [e_10], fun h => by simp [q12_0 (by simpa using h)], fun h => by simp [q12_1 (by simpa using h)], fun h => by simp [q12_11 (by simpa using h)], fun h => by simp [q13_12 (by simpa using h)], fun h => by simp [q14_13 (by simpa using h)]⟩
      · simp only [List.getElem?_toArray, List.getElem?_cons_zero, List.getElem?_cons_succ, Option.some.injEq] at ho
        subst ho
        have e_0 := dep 0 (by kernel_rfl)
        have e_1 := dep 1 (by kernel_rfl)
        have e_11 := dep 11 (by kernel_rfl)
        have e_4 := q11_4 e_11
        have e_10 := q11_10 e_11
        have e_2 := q4_2 e_4
        have e_3 := q4_3 e_4
        have e_7 := q10_7 e_10
        have e_9 := q10_9 e_10
        have e_6 := q7_6 e_7
        have e_8 := q9_8 e_9
        have e_5 := q6_5 e_6
        obtain rfl := h0 e_0
        obtain rfl := h1 e_1
        obtain rfl := h2 e_2
        obtain rfl := h3 e_3
        obtain rfl := h5 e_5
        obtain rfl := h6 e_6
        obtain rfl := h7 e_7
        obtain rfl := h8 e_8
        obtain rfl := h9 e_9
        obtain rfl := h10 e_10
        have n13 : b 13 = false := by
          cases hb : b 13
          · rfl
          · have := q13_12 hb; rw [hbi] at this; cases this
        obtain ⟨va, vc, rfl, r11⟩ := h11 e_11
        have b5 := bel1 w' (.cells #[.slice oa m oc, .slice ra N rc, .slice va (on - ko) vc] 32)
        go_simp
        refine hK.out _ _ ⟨_, _, _, _, _, _, _, _, _, _, _, _, _, _, _, rfl, hk.trans (b5.mono hk.size), fun _ => rfl, fun _ => rfl, fun _ => rfl, fun _ => rfl, fun h => by obtain ⟨sa, e, r⟩ := (h4 (by simpa using h)); exact ⟨sa, e, r.below b5⟩, fun _ => rfl, fun _ => rfl, fun _ => rfl, fun _ => rfl, fun _ => rfl, fun _ => rfl, fun _ => ⟨va, vc, rfl, r11.below b5⟩, fun _ => ⟨w'.heap.size, va, vc, rfl, alloc_new _ _, r11.below b5⟩, fun h => absurd h (by simp [n13]), fun h => h14 (by simpa using h), fun h => by simp [q4_2 (by simpa using h)], fun h => by simp [q4_3 (by simpa using h)], fun h => by simp [q6_5 (by simpa using h)], fun h => by simp [q7_6 (by simpa using h)], fun h => by simp [q9_8 (by simpa using h)], fun h => by simp [q10_7 (by simpa using h)], fun h => by simp [q10_9 (by simpa using h)], fun h => by simp [q11_4 (by simpa using h)], fun h => by simp [q11_10 (by simpa using h)], fun _ => by simp [e_0], fun _ => by simp [e_1], fun _ => by simp [e_11], fun h => by simp [q13_12 (by simpa using h)], fun h => by simp [q14_13 (by simpa using h)]⟩
      · simp only [List.getElem?_toArray, List.getElem?_cons_zero, List.getElem?_cons_succ, Option.some.injEq] at ho
        subst ho
        have e_12 := dep 12 (by kernel_rfl)
        have e_0 := q12_0 e_12
        have e_1 := q12_1 e_12
        have e_11 := q12_11 e_12
        have e_4 := q11_4 e_11
        have e_10 := q11_10 e_11
        have e_2 := q4_2 e_4
        have e_3 := q4_3 e_4
        have e_7 := q10_7 e_10
        have e_9 := q10_9 e_10
        have e_6 := q7_6 e_7
        have e_8 := q9_8 e_9
        have e_5 := q6_5 e_6
        obtain rfl := h0 e_0
        obtain rfl := h1 e_1
        obtain rfl := h2 e_2
        obtain rfl := h3 e_3
        obtain rfl := h5 e_5
        obtain rfl := h6 e_6
        obtain rfl := h7 e_7
        obtain rfl := h8 e_8
        obtain rfl := h9 e_9
        obtain rfl := h10 e_10
        have n14 : b 14 = false := by
          cases hb : b 14
          · rfl
          · have := q14_13 hb; rw [hbi] at this; cases this
        obtain ⟨Bk, va, vc, rfl, hBk, r12⟩ := h12 e_12
        have CC := hid (Concat_any w' (some ⟨Bk, 0, none⟩) 3 3 [(oa, oc, (lexT D s).take m), (ra, rc, O), (va, vc, ((lexT D s).drop ko).map (mvI ((ins.size : Int) - y)))] (srow3 (n1 := m) (n2 := N) (n3 := on - ko) hBk (trow_take (HH.out.2.1.below (BW.out w' hk)) m hmn) (HR4.out.1.below hk) r12) (by omega) (by have := congrArg List.length HEQ.out; have h9 := lexT_len D t; exact (show (cat [(oa, oc, (lexT D s).take m), (ra, rc, O), (none, 0, ((lexT D s).drop ko).map (mvI ((ins.size : Int) - y)))]).length ≤ 1000000 by omega)))
        go_simp
        refine CC.out.mono ?_
        rintro e W5 ⟨⟨za, zc, rfl, own5⟩, b5⟩
        have HEQ2 : cat [(oa, oc, (lexT D s).take m), (ra, rc, O), (va, vc, ((lexT D s).drop ko).map (mvI ((ins.size : Int) - y)))] = lexT D t := HEQ.out.symm
        rw [HEQ2] at own5 ⊢
        refine hK.out _ _ ⟨_, _, _, _, _, _, _, _, _, _, _, _, _, _, _, rfl, hk.trans (b5.mono hk.size), fun _ => rfl, fun _ => rfl, fun _ => rfl, fun _ => rfl, fun h => by obtain ⟨sa, e, r⟩ := (h4 (by simpa using h)); exact ⟨sa, e, r.below b5⟩, fun _ => rfl, fun _ => rfl, fun _ => rfl, fun _ => rfl, fun _ => rfl, fun _ => rfl, fun h => by obtain ⟨va, vc, e, r⟩ := (h11 (by simpa using h)); exact ⟨va, vc, e, r.below b5⟩, fun _ => ⟨Bk, va, vc, rfl, (b5.block _ (heap_lt hBk)).trans hBk, r12.below b5⟩, fun _ => ⟨za, zc, rfl, own_trow' own5, own_le own5, fun q hq => by subst hq; exact Nat.le_trans hk.size (own5.lt q.block rfl).1⟩, fun h => absurd h (by simp [n14]), fun h => by simp [q4_2 (by simpa using h)], fun h => by simp [q4_3 (by simpa using h)], fun h => by simp [q6_5 (by simpa using h)], fun h => by simp [q7_6 (by simpa using h)], fun h => by simp [q9_8 (by simpa using h)], fun h => by simp [q10_7 (by simpa using h)], fun h => by simp [q10_9 (by simpa using h)], fun h => by simp [q11_4 (by simpa using h)], fun h => by simp [q11_10 (by simpa using h)], fun h => by simp [q12_0 (by simpa using h)], fun h => by simp [q12_1 (by simpa using h)], fun h => by simp [q12_11 (by simpa using h)], fun _ => by simp [e_12], fun h => by simp [q14_13 (by simpa using h)]⟩
      · simp only [List.getElem?_toArray, List.getElem?_cons_zero, List.getElem?_cons_succ, Option.some.injEq] at ho
        subst ho
        have e_13 := dep 13 (by kernel_rfl)
        have e_12 := q13_12 e_13
        have e_0 := q12_0 e_12
        have e_1 := q12_1 e_12
        have e_11 := q12_11 e_12
        have e_4 := q11_4 e_11
        have e_10 := q11_10 e_11
        have e_2 := q4_2 e_4
        have e_3 := q4_3 e_4
        have e_7 := q10_7 e_10
        have e_9 := q10_9 e_10
        have e_6 := q7_6 e_7
        have e_8 := q9_8 e_9
        have e_5 := q6_5 e_6
        obtain rfl := h0 e_0
        obtain rfl := h1 e_1
        obtain rfl := h2 e_2
        obtain rfl := h3 e_3
        obtain rfl := h5 e_5
        obtain rfl := h6 e_6
        obtain rfl := h7 e_7
        obtain rfl := h8 e_8
        obtain rfl := h9 e_9
        obtain rfl := h10 e_10
        obtain ⟨za, zc, rfl, r13, z13⟩ := h13 e_13
        go_simp
        refine hK.out _ _ ⟨_, _, _, _, _, _, _, _, _, _, _, _, _, _, _, rfl, hk, fun _ => rfl, fun _ => rfl, fun _ => rfl, fun _ => rfl, fun h => h4 (by simpa using h), fun _ => rfl, fun _ => rfl, fun _ => rfl, fun _ => rfl, fun _ => rfl, fun _ => rfl, fun h => h11 (by simpa using h), fun h => h12 (by simpa using h), fun _ => ⟨za, zc, rfl, r13, z13⟩, fun _ => rfl, fun h => by simp [q4_2 (by simpa using h)], fun h => by simp [q4_3 (by simpa using h)], fun h => by simp [q6_5 (by simpa using h)], fun h => by simp [q7_6 (by simpa using h)], fun h => by simp [q9_8 (by simpa using h)], fun h => by simp [q10_7 (by simpa using h)], fun h => by simp [q10_9 (by simpa using h)], fun h => by simp [q11_4 (by simpa using h)], fun h => by simp [q11_10 (by simpa using h)], fun h => by simp [q12_0 (by simpa using h)], fun h => by simp [q12_1 (by simpa using h)], fun h => by simp [q12_11 (by simpa using h)], fun h => by simp [q13_12 (by simpa using h)], fun _ => by simp [e_13]⟩
    case done8 =>
      rintro b a' w' ⟨v46, v47, v48, v49, v50, v51, v52, v53, v54, v55, v56, v57, v58, v59, v14, rfl, hk, h0, h1, h2, h3, h4, h5, h6, h7, h8, h9, h10, h11, h12, h13, h14, q4_2, q4_3, q6_5, q7_6, q9_8, q10_7, q10_9, q11_4, q11_10, q12_0, q12_1, q12_11, q13_12, q14_13⟩ hall
      obtain ⟨za, zc, rfl, r13, z13⟩ := h13 (hall 13)
      obtain rfl := h14 (hall 14)
      obtain ⟨va, vc, rfl, r11⟩ := h11 (hall 11)
      obtain ⟨Bk, va', vc', rfl, hBk, r12⟩ := h12 (hall 12)
      obtain ⟨sa, rfl, r4⟩ := h4 (hall 4)
      obtain rfl := h0 (hall 0)
      obtain rfl := h1 (hall 1)
      obtain rfl := h2 (hall 2)
      obtain rfl := h3 (hall 3)
      obtain rfl := h5 (hall 5)
      obtain rfl := h6 (hall 6)
      obtain rfl := h7 (hall 7)
      obtain rfl := h8 (hall 8)
      obtain rfl := h9 (hall 9)
      obtain rfl := h10 (hall 10)
      have HX5 := hid (show w'.heap[w.heap.size]? = some (.cells #[.slice a1 n1 c1, .slice a2 n2 c2, .slice a3 n3 c3] 25 (0, 0)) ∧ w'.heap[w.heap.size + 1]? = some (.cells #[.int .i64 (x : Int), .int .i64 (y : Int), .string ins] 27 (0, 0)) ∧ w'.heap[w.heap.size + 2]? = some (.cells #[.int .i64 0, .int .i64 0, .int .i64 0] 35 (0, 0)) ∧ Below w.heap.size w w' from ⟨(hk.block _ (heap_lt HX4.out.1)).trans HX4.out.1, (hk.block _ (heap_lt HX4.out.2.1)).trans HX4.out.2.1, (hk.block _ (heap_lt HX4.out.2.2.1)).trans HX4.out.2.2.1, HX4.out.2.2.2.trans (hk.mono HX4.out.2.2.2.size)⟩)
      have HR5 := hid r13
      have HZ13 := hid z13.2
      have HC13 := hid z13.1
      clear z13 h0 h1 h2 h3 h4 h5 h6 h7 h8 h9 h10 h11 h12 h13 h14 hk r13 r12 r11 r4 hBk hall
      obtain ⟨U5, rfl⟩ : ∃ U5, U5 = w' := ⟨_, rfl⟩
      have hkm : IntKind.i64.wrap ((ko : Int) - (m : Int)) = (ko : Int) - (m : Int) := wrapIn (by omega) (by omega)
      have x3 := HX5.out.2.2.1
      have z := three_set (x' := .int .i64 (m : Int)) (y' := .int .i64 ((ko : Int) - (m : Int))) (z' := .int .i64 (N : Int)) x3
      obtain ⟨g0, g1, g2⟩ := frozen3 x3
      obtain ⟨d0, d1, d2⟩ := cells3 x3
      have HZ := hid z
      clear x3 z
      dsimp only
      go_wp2_with fail
      obtain ⟨r0, r1, r2⟩ := cells3 HZ.out
      refine bodyPost_ret (v := .tuple #[.slice za (lexT D t).length zc, .agg #[.int .i64 (m : Int), .int .i64 ((ko : Int) - (m : Int)), .int .i64 (N : Int)], .int .i64 0]) ?_ rfl ⟨⟨za, zc, ?_, ?_, by rw [← HM.out.2.1]; exact HC13.out⟩, ?_⟩
      · simp [results, Try.results12, go_sem, r0, r1, r2, d0, d1, d2]
      · obtain ⟨e1, e2, e3, e4, e5, e6, e7, e8⟩ := HM.out
        rw [← e2, e8, ← e7, ← e1]
      · rw [← HM.out.2.1]
        have hb5 := HX5.out.2.2.2
        have hlt2 := heap_lt HX5.out.2.2.1
        have hb4 := heap_lt HX4.out.2.2.1
        have far : ∀ q, za = some q → q.block ≠ w.heap.size + 2 := fun q hq => by have := HZ13.out q hq; omega
        exact CRow.set (CRow.set (CRow.set HR5.out far) far) far
      · exact below_put (below_put (below_put HX5.out.2.2.2 (by omega)) (by omega)) (by omega)
    case init8 =>
      exact ⟨_, _, _, _, _, _, _, _, _, _, _, _, _, _, _, rfl, (Below.refl _ _).drew, fun h => absurd h (by simp), fun h => absurd h (by simp), fun h => absurd h (by simp), fun h => absurd h (by simp), fun h => absurd h (by simp), fun h => absurd h (by simp), fun h => absurd h (by simp), fun h => absurd h (by simp), fun h => absurd h (by simp), fun h => absurd h (by simp), fun h => absurd h (by simp), fun h => absurd h (by simp), fun h => absurd h (by simp), fun h => absurd h (by simp), fun h => absurd h (by simp), fun h => absurd h (by simp), fun h => absurd h (by simp), fun h => absurd h (by simp), fun h => absurd h (by simp), fun h => absurd h (by simp), fun h => absurd h (by simp), fun h => absurd h (by simp), fun h => absurd h (by simp), fun h => absurd h (by simp), fun h => absurd h (by simp), fun h => absurd h (by simp), fun h => absurd h (by simp), fun h => absurd h (by simp), fun h => absurd h (by simp)⟩
  case init7 =>
    exact ⟨_, _, _, _, _, _, _, _, _, _, _, _, rfl, (Below.refl _ _).drew, fun h => absurd h (by simp), fun h => absurd h (by simp), fun h => absurd h (by simp), fun h => absurd h (by simp), fun h => absurd h (by simp), fun h => absurd h (by simp), fun h => absurd h (by simp), fun h => absurd h (by simp), fun h => absurd h (by simp), fun h => absurd h (by simp), fun h => absurd h (by simp), fun h => absurd h (by simp), fun h => absurd h (by simp), fun h => absurd h (by simp), fun h => absurd h (by simp), fun h => absurd h (by simp), fun h => absurd h (by simp), fun h => absurd h (by simp), fun h => absurd h (by simp), fun h => absurd h (by simp), fun h => absurd h (by simp), fun h => absurd h (by simp), fun h => absurd h (by simp)⟩
end Go.Proofs.Ytblcjjhjgoccgaa
