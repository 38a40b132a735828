/-
  Contracts: Update of an edit that does not fit; the reference's Update.
-/
import Derived.Test.YtblcjjhjgoccgaaXi
set_option linter.unusedSimpArgs false
set_option linter.unusedVariables false
namespace Go.Proofs.Ytblcjjhjgoccgaa
open Go.RowKit Lx Go.Frame

set_option maxRecDepth 100000 in
set_option maxHeartbeats 4000000 in
theorem Update_no (w : World) (D : Df) (n k : Nat) (hv : Vd D n k) (a1 : Option Addr) (n1 c1 : Nat) (a2 : Option Addr) (n2 c2 : Nat) (a3 : Option Addr) (n3 c3 : Nat) (h : DA w D a1 n1 a2 n2 a3 n3) (s : ByteArray) (hs : s.size ≤ 400000)
    (oa : Option Addr) (on oc : Nat) (hr : TRow w oa on (lexT D s)) (at_ del : Int) (ins : ByteArray) (hins : ins.size ≤ 140737488351232) (hat : at_ ≤ 9223372036854775807) (hf : ¬ Te.Fit s.size (at_, del, ins)) :
    Calls Try.prog 12 #[.agg #[.slice a1 n1 c1, .slice a2 n2 c2, .slice a3 n3 c3], .slice oa on oc, .agg #[.int .i64 at_, .int .i64 del, .string ins]] w fun e w' => e = .returned (.tuple #[.slice none 0 0, .agg #[.int .i64 0, .int .i64 0, .int .i64 0], .int .i64 2]) ∧ Below w.heap.size w w' := by
  have hon : on = (lexT D s).length := hr.len.symm
  have hon2 : on ≤ 400000 := by rw [hon]; exact Nat.le_trans (lexT_len _ _) hs
  obtain ⟨W, hW⟩ : ∃ W, W = ((w.alloc (.cells #[.slice a1 n1 c1, .slice a2 n2 c2, .slice a3 n3 c3] 25)).alloc (.cells #[.int .i64 at_, .int .i64 del, .string ins] 27)).alloc (.cells #[.int .i64 0, .int .i64 0, .int .i64 0] 35) := ⟨_, rfl⟩
  obtain ⟨x1, x2, x3, bW, sW⟩ := three w (.cells #[.slice a1 n1 c1, .slice a2 n2 c2, .slice a3 n3 c3] 25) (.cells #[.int .i64 at_, .int .i64 del, .string ins] 27) (.cells #[.int .i64 0, .int .i64 0, .int .i64 0] 35)
  rw [← hW] at x1 x2 x3 bW sW
  have HX := hid (show W.heap[w.heap.size]? = some (.cells #[.slice a1 n1 c1, .slice a2 n2 c2, .slice a3 n3 c3] 25 (0, 0)) ∧ W.heap[w.heap.size + 1]? = some (.cells #[.int .i64 at_, .int .i64 del, .string ins] 27 (0, 0)) ∧ W.heap[w.heap.size + 2]? = some (.cells #[.int .i64 0, .int .i64 0, .int .i64 0] 35 (0, 0)) ∧ Below w.heap.size w W from ⟨x1, x2, x3, bW⟩)
  have CT := hid (fun V (hV : Below w.heap.size w V) => show Calls Try.prog 22 #[.slice oa on oc] V fun e w' => e = .returned (.string s) ∧ Below V.heap.size V w' from by
    have := Text_any V oa on oc (lexT D s) (hr.below hV) (by omega) (by rw [txb_len]; omega)
    rw [txb_lexT] at this
    exact this)
  have CA := hid (fun V => show Calls Try.prog 21 #[.string s, .agg #[.int .i64 at_, .int .i64 del, .string ins]] V fun e w' => e = .returned (.tuple #[.string .empty, .int .i64 2]) ∧ Below V.heap.size V w' from by
    have := Apply_any s ins at_ del V (by omega) (by omega) (by omega)
    rw [apv_no hf] at this
    exact this)
  clear h hr hv x1 x2 x3 bW sW hf hon
  go_enter Try.func12, Try.ntmps12
  go_upto_region 1 with fail
  rw [← hW]
  clear hW
  refine wp_region_below (by kernel_rfl) (by kernel_rfl) ?_
  intro X f _ hff hss
  have k0 := fun q => ((hff.out q).block _ (heap_lt HX.out.2.1)).trans HX.out.2.1
  have k00 := fun q => (cells3 (k0 q)).1
  have k01 := fun q => (cells3 (k0 q)).2.1
  have k02 := fun q => (cells3 (k0 q)).2.2
  have CT2 := hid (fun q => CT.out (f q) (HX.out.2.2.2.trans ((hff.out q).mono HX.out.2.2.2.size)))
  clear k0
  repeat (go_big_quiet_step (first | (go_at_call 22; with_reducible exact calls_below hff hss (CT2.out _)) | (go_at_call 21; with_reducible exact calls_below hff hss (CA.out _))))
  refine wpQuiet_nil ?_
  intro U hU
  have HX1 := hid (show U.heap[w.heap.size]? = some (.cells #[.slice a1 n1 c1, .slice a2 n2 c2, .slice a3 n3 c3] 25 (0, 0)) ∧ U.heap[w.heap.size + 1]? = some (.cells #[.int .i64 at_, .int .i64 del, .string ins] 27 (0, 0)) ∧ U.heap[w.heap.size + 2]? = some (.cells #[.int .i64 0, .int .i64 0, .int .i64 0] 35 (0, 0)) ∧ Below w.heap.size w U from ⟨(hU.block _ (heap_lt HX.out.1)).trans HX.out.1, (hU.block _ (heap_lt HX.out.2.1)).trans HX.out.2.1, (hU.block _ (heap_lt HX.out.2.2.1)).trans HX.out.2.2.1, HX.out.2.2.2.trans (hU.mono HX.out.2.2.2.size)⟩)
  clear k00 k01 k02 hU hff hss CT2
  have z := three_set (x' := .int .i64 0) (y' := .int .i64 0) (z' := .int .i64 0) HX1.out.2.2.1
  have HZ := hid z
  obtain ⟨g0, g1, g2⟩ := frozen3 HX1.out.2.2.1
  obtain ⟨d0, d1, d2⟩ := cells3 HX1.out.2.2.1
  clear z
  go_wp2_with fail
  obtain ⟨r0, r1, r2⟩ := cells3 HZ.out
  refine bodyPost_ret (v := .tuple #[.slice none 0 0, .agg #[.int .i64 0, .int .i64 0, .int .i64 0], .int .i64 2]) ?_ rfl ⟨rfl, ?_⟩
  · simp [results, Try.results12, go_sem, r0, r1, r2, d0, d1, d2]
  · repeat (refine Below.setCell ?_ (by first | (simp; done) | (simp; omega)) _)
    exact HX1.out.2.2.2
set_option maxRecDepth 100000 in
set_option maxHeartbeats 4000000 in
theorem RUpdate_no (w : World) (D : Df) (n k : Nat) (hv : Vd D n k) (a1 : Option Addr) (n1 c1 : Nat) (a2 : Option Addr) (n2 c2 : Nat) (a3 : Option Addr) (n3 c3 : Nat) (h : DA w D a1 n1 a2 n2 a3 n3) (s : ByteArray) (hs : s.size ≤ 400000)
    (oa : Option Addr) (on oc : Nat) (hr : TRow w oa on (lexT D s)) (at_ del : Int) (ins : ByteArray) (hins : ins.size ≤ 140737488351232) (hat : at_ ≤ 9223372036854775807) (hf : ¬ Te.Fit s.size (at_, del, ins)) :
    Calls Try.prog 13 #[.agg #[.slice a1 n1 c1, .slice a2 n2 c2, .slice a3 n3 c3], .slice oa on oc, .agg #[.int .i64 at_, .int .i64 del, .string ins]] w fun e w' => e = .returned (.tuple #[.slice none 0 0, .agg #[.int .i64 0, .int .i64 0, .int .i64 0], .int .i64 2]) ∧ Below w.heap.size w w' := by
  have hon : on = (lexT D s).length := hr.len.symm
  have hon2 : on ≤ 400000 := by rw [hon]; exact Nat.le_trans (lexT_len _ _) hs
  obtain ⟨W, hW⟩ : ∃ W, W = ((w.alloc (.cells #[.slice a1 n1 c1, .slice a2 n2 c2, .slice a3 n3 c3] 25)).alloc (.cells #[.int .i64 at_, .int .i64 del, .string ins] 27)).alloc (.cells #[.int .i64 0, .int .i64 0, .int .i64 0] 35) := ⟨_, rfl⟩
  obtain ⟨x1, x2, x3, bW, sW⟩ := three w (.cells #[.slice a1 n1 c1, .slice a2 n2 c2, .slice a3 n3 c3] 25) (.cells #[.int .i64 at_, .int .i64 del, .string ins] 27) (.cells #[.int .i64 0, .int .i64 0, .int .i64 0] 35)
  rw [← hW] at x1 x2 x3 bW sW
  have HX := hid (show W.heap[w.heap.size]? = some (.cells #[.slice a1 n1 c1, .slice a2 n2 c2, .slice a3 n3 c3] 25 (0, 0)) ∧ W.heap[w.heap.size + 1]? = some (.cells #[.int .i64 at_, .int .i64 del, .string ins] 27 (0, 0)) ∧ W.heap[w.heap.size + 2]? = some (.cells #[.int .i64 0, .int .i64 0, .int .i64 0] 35 (0, 0)) ∧ Below w.heap.size w W from ⟨x1, x2, x3, bW⟩)
  have CT := hid (fun V (hV : Below w.heap.size w V) => show Calls Try.prog 18 #[.slice oa on oc] V fun e w' => e = .returned (.string s) ∧ Below V.heap.size V w' from by
    have := RText_any V oa on oc (lexT D s) (hr.below hV) (by omega) (by rw [txb_len]; omega)
    rw [txb_lexT] at this
    exact this)
  have CA := hid (fun V => show Calls Try.prog 16 #[.string s, .agg #[.int .i64 at_, .int .i64 del, .string ins]] V fun e w' => e = .returned (.tuple #[.string .empty, .int .i64 2]) ∧ Below V.heap.size V w' from by
    have := Replace_any s ins at_ del V (by omega) (by omega) (by omega)
    rw [apv_no hf] at this
    exact this)
  clear h hr hv x1 x2 x3 bW sW hf hon
  go_enter Try.func13, Try.ntmps13
  go_upto_region 1 with fail
  rw [← hW]
  clear hW
  go_wp2_with fail
  refine (CT.out W HX.out.2.2.2).mono ?_
  rintro e U0 ⟨rfl, b0⟩
  have HX0 := hid (show U0.heap[w.heap.size]? = some (.cells #[.slice a1 n1 c1, .slice a2 n2 c2, .slice a3 n3 c3] 25 (0, 0)) ∧ U0.heap[w.heap.size + 1]? = some (.cells #[.int .i64 at_, .int .i64 del, .string ins] 27 (0, 0)) ∧ U0.heap[w.heap.size + 2]? = some (.cells #[.int .i64 0, .int .i64 0, .int .i64 0] 35 (0, 0)) ∧ Below w.heap.size w U0 from ⟨(b0.block _ (heap_lt HX.out.1)).trans HX.out.1, (b0.block _ (heap_lt HX.out.2.1)).trans HX.out.2.1, (b0.block _ (heap_lt HX.out.2.2.1)).trans HX.out.2.2.1, HX.out.2.2.2.trans (b0.mono HX.out.2.2.2.size)⟩)
  clear b0
  obtain ⟨d0, d1, d2⟩ := cells3 HX0.out.2.1
  go_wp2_with fail
  refine (CA.out U0).mono ?_
  rintro e U ⟨rfl, bU⟩
  have HX1 := hid (show U.heap[w.heap.size]? = some (.cells #[.slice a1 n1 c1, .slice a2 n2 c2, .slice a3 n3 c3] 25 (0, 0)) ∧ U.heap[w.heap.size + 1]? = some (.cells #[.int .i64 at_, .int .i64 del, .string ins] 27 (0, 0)) ∧ U.heap[w.heap.size + 2]? = some (.cells #[.int .i64 0, .int .i64 0, .int .i64 0] 35 (0, 0)) ∧ Below w.heap.size w U from ⟨(bU.block _ (heap_lt HX0.out.1)).trans HX0.out.1, (bU.block _ (heap_lt HX0.out.2.1)).trans HX0.out.2.1, (bU.block _ (heap_lt HX0.out.2.2.1)).trans HX0.out.2.2.1, HX0.out.2.2.2.trans (bU.mono HX0.out.2.2.2.size)⟩)
  clear bU d0 d1 d2
  have z := three_set (x' := .int .i64 0) (y' := .int .i64 0) (z' := .int .i64 0) HX1.out.2.2.1
  have HZ := hid z
  obtain ⟨g0, g1, g2⟩ := frozen3 HX1.out.2.2.1
  obtain ⟨d0, d1, d2⟩ := cells3 HX1.out.2.2.1
  clear z
  go_wp2_with fail
  obtain ⟨r0, r1, r2⟩ := cells3 HZ.out
  refine bodyPost_ret (v := .tuple #[.slice none 0 0, .agg #[.int .i64 0, .int .i64 0, .int .i64 0], .int .i64 2]) ?_ rfl ⟨rfl, ?_⟩
  · simp [results, Try.results13, go_sem, r0, r1, r2, d0, d1, d2]
  · repeat (refine Below.setCell ?_ (by first | (simp; done) | (simp; omega)) _)
    exact HX1.out.2.2.2
theorem stv_end {D : Df} {s : ByteArray} : stv (lexT D s) (s.size : Int) (s.size : Int) = ((lexT D s).length : Int) ∧ ¬ fd (lexT D s) (s.size : Int) < (lexT D s).length := by
  have hn : ¬ fd (lexT D s) (s.size : Int) < (lexT D s).length := fun h => by
    obtain ⟨p, hp, hps, _⟩ := lex_at (D := D) (s := s) (L := lexT D s) rfl h
    omega
  exact ⟨by unfold stv; rw [if_neg hn, if_pos rfl], hn⟩
theorem trow_put {W : World} {p : Option Addr} {n : Nat} {l : List TQ} (h : TRow W p n l) {x : Addr} {v : Value} (hp : ∀ b off, p = some ⟨b, off, none⟩ → 0 < n → b ≠ x.block) : TRow (W.setCell x v) p n l := by
  refine ⟨h.1, ?_⟩
  rcases h.2 with h0 | ⟨b, off, e, hb, hx⟩
  · exact .inl h0
  · by_cases h0 : n = 0
    · exact .inl h0
    · refine .inr ⟨b, off, e, by simpa using hb, fun i cs hi j u hj => ?_⟩
      rw [World.cell?_setCell_other _ _ _ _ (fun e2 => hp b off e (by omega) (by rw [e2]))]
      exact hx i cs hi j u hj
theorem stv_yes {L : List TQ} {z x : Int} (h : fd L x < L.length) : stv L z x = (fd L x : Int) := if_pos h
theorem stv_none {L : List TQ} {z x : Int} (h : ¬ fd L x < L.length) (hx : x ≠ z) : stv L z x = -1 := by unfold stv; rw [if_neg h, if_neg hx]
set_option maxRecDepth 100000 in
set_option maxHeartbeats 4000000 in
theorem RUpdate_yes (w : World) (D : Df) (n k : Nat) (hv : Vd D n k) (a1 : Option Addr) (n1 c1 : Nat) (a2 : Option Addr) (n2 c2 : Nat) (a3 : Option Addr) (n3 c3 : Nat) (h : DA w D a1 n1 a2 n2 a3 n3) (s : ByteArray) (hs : s.size ≤ 400000)
    (oa : Option Addr) (on oc : Nat) (hr : TRow w oa on (lexT D s)) (x y : Nat) (ins : ByteArray) (hins : ins.size ≤ 400000) (hf : x + y ≤ s.size) :
    Calls Try.prog 13 #[.agg #[.slice a1 n1 c1, .slice a2 n2 c2, .slice a3 n3 c3], .slice oa on oc, .agg #[.int .i64 (x : Int), .int .i64 (y : Int), .string ins]] w (URes w D s x y ins) := by
  have hon : on = (lexT D s).length := hr.len.symm
  have hon2 : on ≤ 400000 := by rw [hon]; exact Nat.le_trans (lexT_len _ _) hs
  obtain ⟨W, hW⟩ : ∃ W, W = ((w.alloc (.cells #[.slice a1 n1 c1, .slice a2 n2 c2, .slice a3 n3 c3] 25)).alloc (.cells #[.int .i64 (x : Int), .int .i64 (y : Int), .string ins] 27)).alloc (.cells #[.int .i64 0, .int .i64 0, .int .i64 0] 35) := ⟨_, rfl⟩
  obtain ⟨x1, x2, x3, bW, sW⟩ := three w (.cells #[.slice a1 n1 c1, .slice a2 n2 c2, .slice a3 n3 c3] 25) (.cells #[.int .i64 (x : Int), .int .i64 (y : Int), .string ins] 27) (.cells #[.int .i64 0, .int .i64 0, .int .i64 0] 35)
  rw [← hW] at x1 x2 x3 bW sW
  have HX := hid (show W.heap[w.heap.size]? = some (.cells #[.slice a1 n1 c1, .slice a2 n2 c2, .slice a3 n3 c3] 25 (0, 0)) ∧ W.heap[w.heap.size + 1]? = some (.cells #[.int .i64 (x : Int), .int .i64 (y : Int), .string ins] 27 (0, 0)) ∧ W.heap[w.heap.size + 2]? = some (.cells #[.int .i64 0, .int .i64 0, .int .i64 0] 35 (0, 0)) ∧ Below w.heap.size w W from ⟨x1, x2, x3, bW⟩)
  obtain ⟨t, ht⟩ : ∃ t, t = nt s x y ins := ⟨_, rfl⟩
  have htn : t.size + y = s.size + ins.size := by rw [ht]; exact nt_size hf
  have hts : t.size ≤ 800000 := by omega
  have CT := hid (fun V (hV : Below w.heap.size w V) => show Calls Try.prog 18 #[.slice oa on oc] V fun e w' => e = .returned (.string s) ∧ Below V.heap.size V w' from by
    have := RText_any V oa on oc (lexT D s) (hr.below hV) (by omega) (by rw [txb_len]; omega)
    rw [txb_lexT] at this
    exact this)
  have CA := hid (fun V => show Calls Try.prog 16 #[.string s, .agg #[.int .i64 (x : Int), .int .i64 (y : Int), .string ins]] V fun e w' => e = .returned (.tuple #[.string t, .int .i64 0]) ∧ Below V.heap.size V w' from by
    have := Replace_any s ins (x : Int) (y : Int) V (by omega) (by omega) (by omega)
    rw [apv_yes (Te.fit_nat.2 hf)] at this
    rw [ht]
    exact this)
  obtain ⟨Lt, hLt⟩ : ∃ Lt, Lt = lexT D t := ⟨_, rfl⟩
  obtain ⟨ln, hln⟩ : ∃ ln, ln = Lt.length := ⟨_, rfl⟩
  have hln2 : ln ≤ 800000 := by rw [hln, hLt]; exact Nat.le_trans (lexT_len _ _) hts
  have CL := hid (fun V (hV : Below w.heap.size w V) => show Calls Try.prog 11 #[.agg #[.slice a1 n1 c1, .slice a2 n2 c2, .slice a3 n3 c3], .string t] V fun e w' => (∃ p c, e = .returned (.slice p ln c) ∧ TRow w' p ln Lt ∧ ln ≤ c) ∧ Below V.heap.size V w' from by
    have := RLex_any V D n k hv a1 n1 c1 a2 n2 c2 a3 n3 c3 (h.below hV) t (by omega)
    unfold TRes at this
    rw [← hLt, ← hln] at this
    exact this)
  obtain ⟨m, hm⟩ : ∃ m, m = uM D s x := ⟨_, rfl⟩
  have hmn : m ≤ on := by rw [hm, hon]; exact uM_le
  have CP := hid (fun V (hV : Below w.heap.size w V) => show Calls Try.prog 29 #[.slice oa on oc, .int .i64 (x : Int)] V fun e w' => e = .returned (.int .i64 (m : Int)) ∧ Below V.heap.size V w' from by
    rw [hm]
    exact prefix_any V oa on oc (lexT D s) (hr.below hV) (by omega) (lexT_tb D s (by omega)) (x : Int))
  have CS := hid (fun V (hV : Below w.heap.size w V) u => start_any V oa on oc (lexT D s) (hr.below hV) (by omega) (s.size : Int) u)
  obtain ⟨R, hR⟩ : ∃ R, R = uR D s x y ins := ⟨_, rfl⟩
  obtain ⟨p0, hp0⟩ : ∃ p0, p0 = uP D s x := ⟨_, rfl⟩
  have hp0t : p0 ≤ t.size := by rw [hp0, ht]; exact uP_new hf
  have hkeep := keep_pre (D := D) (ins := ins) hf (uM D s x) (Nat.le_refl _)
  have hstart : (lexAt D t p0).map tq = Lt.drop m := by
    rw [hLt, ht, hp0, hm, ← hkeep.2.2]
    rw [List.drop_left' (by rw [List.length_take]; exact Nat.min_eq_left (uM_le))]
    rfl
  have hmln : m ≤ ln := by
    have := congrArg List.length hkeep.2.2
    rw [List.length_append, List.length_take, Nat.min_eq_left uM_le] at this
    rw [hln, hLt, ht, hm]
    omega
  have hR0 : R = rsc D t (lexT D s) ((x : Int) + ins.size) ((ins.size : Int) - y) p0 := by rw [hR, ht, hp0]; rfl
  have HM := hid (And.intro hm (And.intro ht (And.intro hon (And.intro hp0 (And.intro hLt (And.intro hln (And.intro hR hR0)))))))
  have HS := hid (And.intro hstart hp0t)
  have HF := hid hf
  have hxb : x ≤ 400000 := by omega
  have hyb : y ≤ 400000 := by omega
  have hsub : IntKind.i64.wrap ((ins.size : Int) - (y : Int)) = (ins.size : Int) - (y : Int) := wrapIn (by omega) (by omega)
  clear h hr hv x1 x2 x3 bW sW hm ht hon hf hp0 hLt hln hR hR0 hstart hkeep hp0t
  go_enter Try.func13, Try.ntmps13
  go_upto_region 1 with fail
  rw [← hW]
  clear hW
  go_wp2_with fail
  refine (CT.out W HX.out.2.2.2).mono ?_
  rintro e U0 ⟨rfl, b0⟩
  have HX0 := hid (show U0.heap[w.heap.size]? = some (.cells #[.slice a1 n1 c1, .slice a2 n2 c2, .slice a3 n3 c3] 25 (0, 0)) ∧ U0.heap[w.heap.size + 1]? = some (.cells #[.int .i64 (x : Int), .int .i64 (y : Int), .string ins] 27 (0, 0)) ∧ U0.heap[w.heap.size + 2]? = some (.cells #[.int .i64 0, .int .i64 0, .int .i64 0] 35 (0, 0)) ∧ Below w.heap.size w U0 from ⟨(b0.block _ (heap_lt HX.out.1)).trans HX.out.1, (b0.block _ (heap_lt HX.out.2.1)).trans HX.out.2.1, (b0.block _ (heap_lt HX.out.2.2.1)).trans HX.out.2.2.1, HX.out.2.2.2.trans (b0.mono HX.out.2.2.2.size)⟩)
  clear b0
  obtain ⟨d0, d1, d2⟩ := cells3 HX0.out.2.1
  go_wp2_with fail
  refine (CA.out U0).mono ?_
  rintro e U ⟨rfl, bU⟩
  have HX1 := hid (show U.heap[w.heap.size]? = some (.cells #[.slice a1 n1 c1, .slice a2 n2 c2, .slice a3 n3 c3] 25 (0, 0)) ∧ U.heap[w.heap.size + 1]? = some (.cells #[.int .i64 (x : Int), .int .i64 (y : Int), .string ins] 27 (0, 0)) ∧ U.heap[w.heap.size + 2]? = some (.cells #[.int .i64 0, .int .i64 0, .int .i64 0] 35 (0, 0)) ∧ Below w.heap.size w U from ⟨(bU.block _ (heap_lt HX0.out.1)).trans HX0.out.1, (bU.block _ (heap_lt HX0.out.2.1)).trans HX0.out.2.1, (bU.block _ (heap_lt HX0.out.2.2.1)).trans HX0.out.2.2.1, HX0.out.2.2.2.trans (bU.mono HX0.out.2.2.2.size)⟩)
  clear bU d0 d1 d2
  obtain ⟨d0, d1, d2⟩ := cells3 HX1.out.1
  go_wp2_with fail
  refine (CL.out U HX1.out.2.2.2).mono ?_
  rintro e U2 ⟨⟨la, lc, rfl, lr, lcc⟩, b2⟩
  have HLC := hid lcc
  clear lcc
  have HX2 := hid (show U2.heap[w.heap.size]? = some (.cells #[.slice a1 n1 c1, .slice a2 n2 c2, .slice a3 n3 c3] 25 (0, 0)) ∧ U2.heap[w.heap.size + 1]? = some (.cells #[.int .i64 (x : Int), .int .i64 (y : Int), .string ins] 27 (0, 0)) ∧ U2.heap[w.heap.size + 2]? = some (.cells #[.int .i64 0, .int .i64 0, .int .i64 0] 35 (0, 0)) ∧ Below w.heap.size w U2 from ⟨(b2.block _ (heap_lt HX1.out.1)).trans HX1.out.1, (b2.block _ (heap_lt HX1.out.2.1)).trans HX1.out.2.1, (b2.block _ (heap_lt HX1.out.2.2.1)).trans HX1.out.2.2.1, HX1.out.2.2.2.trans (b2.mono HX1.out.2.2.2.size)⟩)
  have HLR := hid lr
  clear b2 d0 d1 d2 lr
  obtain ⟨d0, d1, d2⟩ := cells3 HX2.out.2.1
  go_wp2_with fail
  refine (CP.out U2 HX2.out.2.2.2).mono ?_
  rintro e U3 ⟨rfl, b3⟩
  have HX3 := hid (show U3.heap[w.heap.size]? = some (.cells #[.slice a1 n1 c1, .slice a2 n2 c2, .slice a3 n3 c3] 25 (0, 0)) ∧ U3.heap[w.heap.size + 1]? = some (.cells #[.int .i64 (x : Int), .int .i64 (y : Int), .string ins] 27 (0, 0)) ∧ U3.heap[w.heap.size + 2]? = some (.cells #[.int .i64 0, .int .i64 0, .int .i64 0] 35 (0, 0)) ∧ Below w.heap.size w U3 from ⟨(b3.block _ (heap_lt HX2.out.1)).trans HX2.out.1, (b3.block _ (heap_lt HX2.out.2.1)).trans HX2.out.2.1, (b3.block _ (heap_lt HX2.out.2.2.1)).trans HX2.out.2.2.1, HX2.out.2.2.2.trans (b3.mono HX2.out.2.2.2.size)⟩)
  have HLR3 := hid (HLR.out.below b3)
  clear b3 d0 d1 d2
  obtain ⟨d0, d1, d2⟩ := cells3 HX3.out.2.1
  go_upto_region 7 with fail
  obtain ⟨V, hV⟩ : ∃ V, V = U3.alloc (.cells #[.int .i64 (m : Int), .int .i64 0, .int .i64 0] 35) := ⟨_, rfl⟩
  have bV := bel1 U3 (.cells #[.int .i64 (m : Int), .int .i64 0, .int .i64 0] 35)
  have v1 := alloc_new U3 (.cells #[.int .i64 (m : Int), .int .i64 0, .int .i64 0] 35)
  rw [← hV] at bV v1
  have HX4 := hid (show V.heap[w.heap.size]? = some (.cells #[.slice a1 n1 c1, .slice a2 n2 c2, .slice a3 n3 c3] 25 (0, 0)) ∧ V.heap[w.heap.size + 1]? = some (.cells #[.int .i64 (x : Int), .int .i64 (y : Int), .string ins] 27 (0, 0)) ∧ V.heap[w.heap.size + 2]? = some (.cells #[.int .i64 0, .int .i64 0, .int .i64 0] 35 (0, 0)) ∧ Below w.heap.size w V from ⟨(bV.block _ (heap_lt HX3.out.1)).trans HX3.out.1, (bV.block _ (heap_lt HX3.out.2.1)).trans HX3.out.2.1, (bV.block _ (heap_lt HX3.out.2.2.1)).trans HX3.out.2.2.1, HX3.out.2.2.2.trans (bV.mono HX3.out.2.2.2.size)⟩)
  have HLR4 := hid (HLR3.out.below bV)
  have HV1 := hid v1
  rw [← hV]
  obtain ⟨C, hC⟩ : ∃ C, C = U3.heap.size := ⟨_, rfl⟩
  rw [← hC] at HV1 ⊢
  have HC := hid (show w.heap.size + 2 < C ∧ C < V.heap.size from ⟨by rw [hC]; exact heap_lt HX3.out.2.2.1, heap_lt HV1.out⟩)
  have HFAR := hid (show ∀ b off, la = some ⟨b, off, none⟩ → 0 < ln → b ≠ C ∧ b ≠ w.heap.size + 2 from fun b off e h0 => by
    subst e
    obtain ⟨b', o', tk, e', hbl, _, _, _, z2, _⟩ := trow_at HLR3.out h0
    simp only [Option.some.injEq, Addr.mk.injEq] at e'
    obtain ⟨rfl, rfl, _⟩ := e'
    refine ⟨by omega, fun e => ?_⟩
    subst e
    have hz := HX3.out.2.2.1
    simp only [World.cell?, hz] at z2
    have : ∀ k : Nat, (#[Value.int .i64 0, .int .i64 0, .int .i64 0] : Array Value)[k]? ≠ some (.string tk.2.2.1) := fun k => by
      match k with
      | 0 => simp
      | 1 => simp
      | 2 => simp
      | k + 3 => simp
    exact this _ z2)
  clear hV bV v1 hC d0 d1 d2
  obtain ⟨d0, d1, d2⟩ := cells3 HX4.out.2.1
  obtain ⟨f0, f1, f2⟩ := cells3 HV1.out
  go_wp2_with fail
  clear d0 d1 d2 f0 f1 f2
  go_loopg [15] (ln + 1 - m) (fun kk s15 wr => ∃ (i p : Nat), s15 = .int .i64 (i : Int) ∧ m ≤ i ∧ i ≤ ln ∧ kk = ln + 1 - i ∧ p ≤ t.size ∧ (lexAt D t p).map tq = Lt.drop i ∧
    R = ((rsc D t (lexT D s) ((x : Int) + ins.size) ((ins.size : Int) - y) p).1 + (i - m), (rsc D t (lexT D s) ((x : Int) + ins.size) ((ins.size : Int) - y) p).2) ∧ Below V.heap.size V wr)
  case atStart => exact ⟨m, p0, rfl, Nat.le_refl _, hmln, rfl, HS.out.2, HS.out.1, by rw [Nat.sub_self]; exact HM.out.2.2.2.2.2.2.2, Below.refl _ _⟩
  case round =>
    obtain ⟨i, p, rfl, hmi, hil, hk, hpt, hdr, hRR, hb⟩ := hrel
    have hile : (i : Int) ≤ (ln : Int) := by omega
    have hi0 : (0 : Int) ≤ (i : Int) := by omega
    have hi1 : IntKind.i64.wrap ((i : Int) + 1) = (i : Int) + 1 := wrapIn (by omega) (by omega)
    have HX5 := hid (show wr.heap[w.heap.size]? = some (.cells #[.slice a1 n1 c1, .slice a2 n2 c2, .slice a3 n3 c3] 25 (0, 0)) ∧ wr.heap[w.heap.size + 1]? = some (.cells #[.int .i64 (x : Int), .int .i64 (y : Int), .string ins] 27 (0, 0)) ∧ wr.heap[w.heap.size + 2]? = some (.cells #[.int .i64 0, .int .i64 0, .int .i64 0] 35 (0, 0)) ∧ Below w.heap.size w wr from ⟨(hb.block _ (heap_lt HX4.out.1)).trans HX4.out.1, (hb.block _ (heap_lt HX4.out.2.1)).trans HX4.out.2.1, (hb.block _ (heap_lt HX4.out.2.2.1)).trans HX4.out.2.2.1, HX4.out.2.2.2.trans (hb.mono HX4.out.2.2.2.size)⟩)
    have HC5 := hid ((hb.block _ HC.out.2).trans HV1.out)
    have HLR5 := hid (HLR4.out.below hb)
    have HB5 := hid hb
    have HRR := hid hRR
    have HD := hid hdr
    have hs1 : IntKind.i64.wrap ((x : Int) + (ins.size : Int)) = (x : Int) + (ins.size : Int) := wrapIn (by omega) (by omega)
    have hs2 : IntKind.i64.wrap ((p : Int) - ((ins.size : Int) - (y : Int))) = (p : Int) - ((ins.size : Int) - (y : Int)) := wrapIn (by omega) (by omega)
    have hs3 : IntKind.i64.wrap ((x : Int) + (y : Int)) = (x : Int) + (y : Int) := wrapIn (by omega) (by omega)
    have hs4 : IntKind.i64.wrap ((i : Int) - (m : Int)) = (i : Int) - (m : Int) := wrapIn (by omega) (by omega)
    obtain ⟨d0, d1, d2⟩ := cells3 HX5.out.2.1
    obtain ⟨f0, f1, f2⟩ := cells3 HC5.out
    obtain ⟨g0, g1, g2⟩ := frozen3 HC5.out
    clear hb hRR hdr
    by_cases hlt : i < ln
    · have hlt' : (i : Int) < (ln : Int) := by omega
      obtain ⟨q1, q2, q3, q4⟩ := lex_step HD.out (by have := HM.out.2.2.2.2.2.1; omega) hpt
      obtain ⟨lb, lo, tk, rfl, _, hx, y0, y1, y2, y3⟩ := trow_at HLR5.out hlt
      rw [q2] at hx
      obtain rfl := Option.some.inj hx
      replace y1 : wr.cell? ⟨lb, lo + i * 4 + 1, none⟩ = some (.int .i64 (p : Int)) := y1
      have HN := hid (And.intro q3 q4)
      have HQ1 := hid q1
      clear hx y0 y2 y3 q2 q3 q4
      by_cases hlo : (p : Int) < (x : Int) + (ins.size : Int)
      · have hnm : ¬ ((x : Int) + (ins.size : Int) ≤ (p : Int) ∧ fd (lexT D s) ((p : Int) - ((ins.size : Int) - (y : Int))) < (lexT D s).length) := fun h => by omega
        have HT := hid (rsc_next (D := D) HQ1.out hnm)
        clear hnm q1
        go_wp2
        go_roundg (ln + 1 - (i + 1))
        case measure => omega
        case rel => exact ⟨i + 1, _, by first | rfl | go_num, by omega, by omega, rfl, HN.out.2, HN.out.1, by rw [HRR.out, HT.out]; simp only [Prod.mk.injEq, and_true]; omega, HB5.out⟩
      · have hlo2 : ¬ (p : Int) - ((ins.size : Int) - (y : Int)) < (x : Int) + (y : Int) := by omega
        have CC := hid (CS.out wr HX5.out.2.2.2 ((p : Int) - ((ins.size : Int) - (y : Int))))
        by_cases hfd : fd (lexT D s) ((p : Int) - ((ins.size : Int) - (y : Int))) < (lexT D s).length
        · rw [stv_yes hfd] at CC
          have HT := hid (rsc_met (D := D) (lo := (x : Int) + ins.size) (d := (ins.size : Int) - y) HQ1.out (by omega) hfd)
          obtain ⟨ko, hko⟩ : ∃ ko, ko = fd (lexT D s) ((p : Int) - ((ins.size : Int) - (y : Int))) := ⟨_, rfl⟩
          rw [← hko] at CC HT hfd
          have HFD := hid (And.intro hko hfd)
          have hkon : ko ≤ 400000 := by have := HM.out.2.2.1; omega
          clear hko hfd q1
          go_wp2_with fail
          refine CC.out.mono ?_
          rintro e U6 ⟨rfl, b6⟩
          have HB6 := hid (HB5.out.trans (b6.mono HB5.out.size))
          have HX6 := hid (show U6.heap[w.heap.size]? = some (.cells #[.slice a1 n1 c1, .slice a2 n2 c2, .slice a3 n3 c3] 25 (0, 0)) ∧ U6.heap[w.heap.size + 1]? = some (.cells #[.int .i64 (x : Int), .int .i64 (y : Int), .string ins] 27 (0, 0)) ∧ U6.heap[w.heap.size + 2]? = some (.cells #[.int .i64 0, .int .i64 0, .int .i64 0] 35 (0, 0)) ∧ Below w.heap.size w U6 from ⟨(b6.block _ (heap_lt HX5.out.1)).trans HX5.out.1, (b6.block _ (heap_lt HX5.out.2.1)).trans HX5.out.2.1, (b6.block _ (heap_lt HX5.out.2.2.1)).trans HX5.out.2.2.1, HX5.out.2.2.2.trans (b6.mono HX5.out.2.2.2.size)⟩)
          have HC6 := hid ((b6.block _ (heap_lt HC5.out)).trans HC5.out)
          have HL6 := hid (HLR5.out.below b6)
          clear b6 d0 d1 d2 f0 f1 f2 g0 g1 g2
          obtain ⟨f0, f1, f2⟩ := cells3 HC6.out
          obtain ⟨g0, g1, g2⟩ := frozen3 HC6.out
          have hs5 : IntKind.i64.wrap ((ko : Int) - (m : Int)) = (ko : Int) - (m : Int) := wrapIn (by omega) (by omega)
          have hk0 : (0 : Int) ≤ (ko : Int) := by omega
          have HEND := hid (show R = (i - m, ko) from by rw [HRR.out, HT.out, Nat.zero_add])
          have HYL := hid (trow_put (v := .int .i64 ((i : Int) - (m : Int))) (x := ⟨C, 2, none⟩) (trow_put (v := .int .i64 ((ko : Int) - (m : Int))) (x := ⟨C, 1, none⟩) HL6.out (fun b off e h0 => (HFAR.out b off e h0).1)) (fun b off e h0 => (HFAR.out b off e h0).1))
          go_wp2_with fail
          obtain ⟨Y, hY⟩ : ∃ Y, Y = (U6.setCell ⟨C, 1, none⟩ (.int .i64 ((ko : Int) - (m : Int)))).setCell ⟨C, 2, none⟩ (.int .i64 ((i : Int) - (m : Int))) := ⟨_, rfl⟩
          have nC : ¬ C = w.heap.size + 1 + 1 := by have := HC.out; omega
          have nC' : ¬ w.heap.size + 1 + 1 = C := by have := HC.out; omega
          have yC : Y.heap[C]? = some (.cells #[.int .i64 (m : Int), .int .i64 ((ko : Int) - (m : Int)), .int .i64 ((i : Int) - (m : Int))] 35 (0, 0)) := by rw [hY]; exact (blk_put (blk_put HC6.out)).trans rfl
          have yZ : Y.heap[w.heap.size + 1 + 1]? = some (.cells #[.int .i64 0, .int .i64 0, .int .i64 0] 35 (0, 0)) := by rw [hY]; exact blk_set (blk_set HX6.out.2.2.1 nC') nC'
          have HYB := hid (show Below w.heap.size w Y from by rw [hY]; exact below_put (below_put HX6.out.2.2.2 (by have := HC.out; omega)) (by have := HC.out; omega))
          rw [← hY] at HYL ⊢
          clear hY f0 f1 f2 g0 g1 g2
          obtain ⟨f0, f1, f2⟩ := cells3 yC
          obtain ⟨g0, g1, g2⟩ := frozen3 yZ
          obtain ⟨d0, d1, d2⟩ := cells3 yZ
          have HZ := hid (three_set (x' := .int .i64 (m : Int)) (y' := .int .i64 ((ko : Int) - (m : Int))) (z' := .int .i64 ((i : Int) - (m : Int))) yZ)
          have e10 : ((i - m : Nat) : Int) = (i : Int) - (m : Int) := by omega
          clear yC yZ
          go_region_with fail
          go_wp2_with fail
          obtain ⟨r0, r1, r2⟩ := cells3 HZ.out
          refine bodyPost_ret (v := .tuple #[.slice (some ⟨lb, lo, none⟩ : Option Addr) ln lc, .agg #[.int .i64 (m : Int), .int .i64 ((ko : Int) - (m : Int)), .int .i64 ((i : Int) - (m : Int))], .int .i64 0]) ?_ rfl ⟨⟨(some ⟨lb, lo, none⟩ : Option Addr), lc, ?_, ?_, ?_⟩, ?_⟩
          · simp [results, Try.results13, go_sem, r0, r1, r2, d0, d1, d2]
          · obtain ⟨e1, e2, e3, e4, e5, e6, e7, e8⟩ := HM.out
            have e9 := HEND.out
            rw [e7] at e9
            rw [← e2, ← e5, ← e6, e9, ← e1, e10]
          · obtain ⟨e1, e2, e3, e4, e5, e6, e7, e8⟩ := HM.out
            rw [← e2, ← e5, ← e6]
            have far : ∀ b off, (some ⟨lb, lo, none⟩ : Option Addr) = some ⟨b, off, none⟩ → 0 < ln → b ≠ w.heap.size + 1 + 1 := fun b off e h0 => (HFAR.out b off e h0).2
            exact trow_put (x := ⟨w.heap.size + 1 + 1, 2, none⟩) (trow_put (x := ⟨w.heap.size + 1 + 1, 1, none⟩) (trow_put (x := ⟨w.heap.size + 1 + 1, 0, none⟩) HYL.out far) far) far
          · obtain ⟨e1, e2, e3, e4, e5, e6, e7, e8⟩ := HM.out
            rw [← e2, ← e5, ← e6]; exact HLC.out
          · exact (below_put (below_put (below_put HYB.out (by omega)) (by omega)) (by omega)).drew
        · have hne : (p : Int) - ((ins.size : Int) - (y : Int)) ≠ (s.size : Int) := by omega
          rw [stv_none hfd hne] at CC
          have hnm : ¬ ((x : Int) + (ins.size : Int) ≤ (p : Int) ∧ fd (lexT D s) ((p : Int) - ((ins.size : Int) - (y : Int))) < (lexT D s).length) := fun h => hfd h.2
          have HT := hid (rsc_next (D := D) HQ1.out hnm)
          clear hnm q1 hfd
          go_wp2_with fail
          refine CC.out.mono ?_
          rintro e U6 ⟨rfl, b6⟩
          have HB6 := hid (HB5.out.trans (b6.mono HB5.out.size))
          clear b6
          go_wp2
          go_roundg (ln + 1 - (i + 1))
          case measure => omega
          case rel => exact ⟨i + 1, _, by first | rfl | go_num, by omega, by omega, rfl, HN.out.2, HN.out.1, by rw [HRR.out, HT.out]; simp only [Prod.mk.injEq, and_true]; omega, HB6.out⟩
    · have hlt' : ¬ (i : Int) < (ln : Int) := by omega
      obtain rfl : ln = i := by omega
      obtain rfl : p = t.size := lex_done HD.out (by have := HM.out.2.2.2.2.2.1; omega) hpt
      have hlo : ¬ (t.size : Int) < (x : Int) + (ins.size : Int) := by have := HF.out; omega
      have hlo2 : ¬ (t.size : Int) - ((ins.size : Int) - (y : Int)) < (x : Int) + (y : Int) := by omega
      have he : (t.size : Int) - ((ins.size : Int) - (y : Int)) = (s.size : Int) := by omega
      have CC := hid (CS.out wr HX5.out.2.2.2 ((t.size : Int) - ((ins.size : Int) - (y : Int))))
      rw [he, stv_end.1] at CC
      obtain ⟨ko, hko⟩ : ∃ ko, ko = (lexT D s).length := ⟨_, rfl⟩
      rw [← hko] at CC
      have HKO := hid hko
      have hkon : ko ≤ 400000 := by have := HM.out.2.2.1; omega
      rw [he] at hs2 hlo2
      clear hko
      go_wp2_with fail
      refine CC.out.mono ?_
      rintro e U6 ⟨rfl, b6⟩
      have HB6 := hid (HB5.out.trans (b6.mono HB5.out.size))
      have HX6 := hid (show U6.heap[w.heap.size]? = some (.cells #[.slice a1 n1 c1, .slice a2 n2 c2, .slice a3 n3 c3] 25 (0, 0)) ∧ U6.heap[w.heap.size + 1]? = some (.cells #[.int .i64 (x : Int), .int .i64 (y : Int), .string ins] 27 (0, 0)) ∧ U6.heap[w.heap.size + 2]? = some (.cells #[.int .i64 0, .int .i64 0, .int .i64 0] 35 (0, 0)) ∧ Below w.heap.size w U6 from ⟨(b6.block _ (heap_lt HX5.out.1)).trans HX5.out.1, (b6.block _ (heap_lt HX5.out.2.1)).trans HX5.out.2.1, (b6.block _ (heap_lt HX5.out.2.2.1)).trans HX5.out.2.2.1, HX5.out.2.2.2.trans (b6.mono HX5.out.2.2.2.size)⟩)
      have HC6 := hid ((b6.block _ (heap_lt HC5.out)).trans HC5.out)
      have HL6 := hid (HLR5.out.below b6)
      clear b6 d0 d1 d2 f0 f1 f2 g0 g1 g2
      obtain ⟨f0, f1, f2⟩ := cells3 HC6.out
      obtain ⟨g0, g1, g2⟩ := frozen3 HC6.out
      have hs5 : IntKind.i64.wrap ((ko : Int) - (m : Int)) = (ko : Int) - (m : Int) := wrapIn (by omega) (by omega)
      have hk0 : (0 : Int) ≤ (ko : Int) := by omega
      have HEND := hid (show R = (ln - m, ko) from by rw [HRR.out, rsc_end (Nat.le_refl _), Nat.zero_add, HKO.out])
      have HYL := hid (trow_put (v := .int .i64 ((ln : Int) - (m : Int))) (x := ⟨C, 2, none⟩) (trow_put (v := .int .i64 ((ko : Int) - (m : Int))) (x := ⟨C, 1, none⟩) HL6.out (fun b off e h0 => (HFAR.out b off e h0).1)) (fun b off e h0 => (HFAR.out b off e h0).1))
      go_wp2_with fail
      obtain ⟨Y, hY⟩ : ∃ Y, Y = (U6.setCell ⟨C, 1, none⟩ (.int .i64 ((ko : Int) - (m : Int)))).setCell ⟨C, 2, none⟩ (.int .i64 ((ln : Int) - (m : Int))) := ⟨_, rfl⟩
      have nC : ¬ C = w.heap.size + 1 + 1 := by have := HC.out; omega
      have nC' : ¬ w.heap.size + 1 + 1 = C := by have := HC.out; omega
      have yC : Y.heap[C]? = some (.cells #[.int .i64 (m : Int), .int .i64 ((ko : Int) - (m : Int)), .int .i64 ((ln : Int) - (m : Int))] 35 (0, 0)) := by rw [hY]; exact (blk_put (blk_put HC6.out)).trans rfl
      have yZ : Y.heap[w.heap.size + 1 + 1]? = some (.cells #[.int .i64 0, .int .i64 0, .int .i64 0] 35 (0, 0)) := by rw [hY]; exact blk_set (blk_set HX6.out.2.2.1 nC') nC'
      have HYB := hid (show Below w.heap.size w Y from by rw [hY]; exact below_put (below_put HX6.out.2.2.2 (by have := HC.out; omega)) (by have := HC.out; omega))
      rw [← hY] at HYL ⊢
      clear hY f0 f1 f2 g0 g1 g2
      obtain ⟨f0, f1, f2⟩ := cells3 yC
      obtain ⟨g0, g1, g2⟩ := frozen3 yZ
      obtain ⟨d0, d1, d2⟩ := cells3 yZ
      have HZ := hid (three_set (x' := .int .i64 (m : Int)) (y' := .int .i64 ((ko : Int) - (m : Int))) (z' := .int .i64 ((ln : Int) - (m : Int))) yZ)
      have e10 : ((ln - m : Nat) : Int) = (ln : Int) - (m : Int) := by omega
      clear yC yZ
      go_region_with fail
      go_wp2_with fail
      obtain ⟨r0, r1, r2⟩ := cells3 HZ.out
      refine bodyPost_ret (v := .tuple #[.slice la ln lc, .agg #[.int .i64 (m : Int), .int .i64 ((ko : Int) - (m : Int)), .int .i64 ((ln : Int) - (m : Int))], .int .i64 0]) ?_ rfl ⟨⟨la, lc, ?_, ?_, ?_⟩, ?_⟩
      · simp [results, Try.results13, go_sem, r0, r1, r2, d0, d1, d2]
      · obtain ⟨e1, e2, e3, e4, e5, e6, e7, e8⟩ := HM.out
        have e9 := HEND.out
        rw [e7] at e9
        rw [← e2, ← e5, ← e6, e9, ← e1, e10]
      · obtain ⟨e1, e2, e3, e4, e5, e6, e7, e8⟩ := HM.out
        rw [← e2, ← e5, ← e6]
        have far : ∀ b off, la = some ⟨b, off, none⟩ → 0 < ln → b ≠ w.heap.size + 1 + 1 := fun b off e h0 => (HFAR.out b off e h0).2
        exact trow_put (x := ⟨w.heap.size + 1 + 1, 2, none⟩) (trow_put (x := ⟨w.heap.size + 1 + 1, 1, none⟩) (trow_put (x := ⟨w.heap.size + 1 + 1, 0, none⟩) HYL.out far) far) far
      · obtain ⟨e1, e2, e3, e4, e5, e6, e7, e8⟩ := HM.out
        rw [← e2, ← e5, ← e6]; exact HLC.out
      · exact (below_put (below_put (below_put HYB.out (by omega)) (by omega)) (by omega)).drew
end Go.Proofs.Ytblcjjhjgoccgaa
