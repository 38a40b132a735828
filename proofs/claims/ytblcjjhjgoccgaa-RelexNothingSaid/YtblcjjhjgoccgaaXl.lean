/-
  Contracts: Small, may, awake; changes compared.
-/
import Derived.Test.YtblcjjhjgoccgaaXk
set_option linter.unusedSimpArgs false
set_option linter.unusedVariables false
namespace Go.Proofs.Ytblcjjhjgoccgaa
open Go.RowKit Lx Go.Frame

def sm (D : Df) (a b : Nat) : Bool := valid D && decide (D.nxt.length ≤ a) && decide (wid D ≤ b)
theorem sm_vd {D : Df} {a b : Nat} (h : sm D a b = true) : ∃ n k, Vd D n k := by
  unfold sm at h
  simp only [Bool.and_eq_true] at h
  exact valid_iff.1 h.1.1
set_option maxRecDepth 100000 in
set_option maxHeartbeats 4000000 in
theorem Small_any (w : World) (D : Df) (a1 : Option Addr) (n1 c1 : Nat) (a2 : Option Addr) (n2 c2 : Nat) (a3 : Option Addr) (n3 c3 : Nat) (h : DA w D a1 n1 a2 n2 a3 n3) (a b : Nat) :
    Calls Try.prog 15 #[.agg #[.slice a1 n1 c1, .slice a2 n2 c2, .slice a3 n3 c3], .int .i64 (a : Int), .int .i64 (b : Int)] w fun e w' => e = .returned (.bool (sm D a b)) ∧ Below w.heap.size w w' := by
  obtain ⟨q, hq⟩ : ∃ q, q = sm D a b := ⟨_, rfl⟩
  rw [← hq]
  have HQ := hid hq
  have CV := hid (fun V (hV : Below w.heap.size w V) => RValid_any V D a1 n1 c1 a2 n2 c2 a3 n3 c3 (h.below hV))
  obtain ⟨v, hv⟩ : ∃ v, v = valid D := ⟨_, rfl⟩
  rw [← hv] at CV
  have HVV := hid hv
  have HH := hid h
  obtain ⟨W, hW⟩ : ∃ W, W = w.alloc (.cells #[.slice a1 n1 c1, .slice a2 n2 c2, .slice a3 n3 c3] 25) := ⟨_, rfl⟩
  have x1 := alloc_new w (.cells #[.slice a1 n1 c1, .slice a2 n2 c2, .slice a3 n3 c3] 25)
  have bW := bel1 w (.cells #[.slice a1 n1 c1, .slice a2 n2 c2, .slice a3 n3 c3] 25)
  rw [← hW] at x1 bW
  have HW := hid (And.intro x1 bW)
  obtain ⟨d0, d1, d2⟩ := cells3 x1
  clear h x1 bW hq hv
  go_enter Try.func15, Try.ntmps15
  go_upto_region 1 with fail
  rw [← hW]
  clear hW
  go_wp2_with fail
  refine (CV.out W HW.out.2).mono ?_
  rintro e V ⟨rfl, b1⟩
  have HX := hid (And.intro ((b1.block _ (heap_lt HW.out.1)).trans HW.out.1) (HW.out.2.trans (b1.mono HW.out.2.size)))
  clear d0 d1 d2 b1
  obtain ⟨d0, d1, d2⟩ := cells3 HX.out.1
  cases v
  · have HF := hid (show q = false from by rw [HQ.out]; unfold sm; rw [← HVV.out]; rfl)
    go_wp2
    go_ret
    exact ⟨by first | (rw [HF.out]; done) | (rw [HF.out]; rfl), HX.out.2⟩
  · obtain ⟨n, k, hv⟩ := valid_iff.1 HVV.out.symm
    have hn2 : n2 = D.nxt.length := HH.out.l2.symm
    have hpos : 0 < n2 := by have := hv.pos; have := hv.hn; omega
    obtain ⟨bb, oo, r, ra, rc, rfl, _, hr, p0, _, _⟩ := row_at (HH.out.below HX.out.2).nxt (i := 0) hpos
    have hw : wid D = r.length := by
      unfold wid
      cases hh : D.nxt with
      | nil => rw [hh] at hr; simp at hr
      | cons y l => rw [hh] at hr; simp at hr; rw [hr]; rfl
    have HQ2 := hid (show q = (decide (n2 ≤ a) && decide (r.length ≤ b)) from by rw [HQ.out]; unfold sm; rw [← HVV.out, ← hn2, hw, Bool.true_and])
    have hposI : (0 : Int) < (n2 : Int) := by omega
    rw [Nat.add_zero] at p0
    clear hv hr hw hn2
    by_cases g1 : n2 ≤ a
    · have g1' : (n2 : Int) ≤ (a : Int) := by omega
      by_cases g2 : r.length ≤ b
      · have g2' : (r.length : Int) ≤ (b : Int) := by omega
        have HF := hid (show q = true from by rw [HQ2.out, decide_eq_true g1, decide_eq_true g2]; rfl)
        go_wp2
        go_ret
        exact ⟨by first | (rw [HF.out]; done) | (rw [HF.out]; rfl), HX.out.2⟩
      · have g2' : ¬ (r.length : Int) ≤ (b : Int) := by omega
        have HF := hid (show q = false from by rw [HQ2.out, decide_eq_true g1, decide_eq_false g2]; rfl)
        go_wp2
        go_ret
        exact ⟨by first | (rw [HF.out]; done) | (rw [HF.out]; rfl), HX.out.2⟩
    · have g1' : ¬ (n2 : Int) ≤ (a : Int) := by omega
      have HF := hid (show q = false from by rw [HQ2.out, decide_eq_false g1]; rfl)
      go_wp2
      go_ret
      exact ⟨by first | (rw [HF.out]; done) | (rw [HF.out]; rfl), HX.out.2⟩
theorem cells7 {W : World} {b : Nat} {v0 v1 v2 v3 v4 v5 v6 : Value} {t : TypeId} (h : W.heap[b]? = some (.cells #[v0, v1, v2, v3, v4, v5, v6] t (0, 0))) : W.cell? ⟨b, 0, none⟩ = some v0 ∧ W.cell? ⟨b, 1, none⟩ = some v1 ∧ W.cell? ⟨b, 2, none⟩ = some v2 ∧ W.cell? ⟨b, 3, none⟩ = some v3 ∧ W.cell? ⟨b, 4, none⟩ = some v4 ∧ W.cell? ⟨b, 5, none⟩ = some v5 ∧ W.cell? ⟨b, 6, none⟩ = some v6 := by
  refine ⟨?_, ?_, ?_, ?_, ?_, ?_, ?_⟩ <;> simp [World.cell?, h]
def mayB (D : Df) (s ins : ByteArray) : Bool := sm D 40 20 && (decide (s.size ≤ 100) && decide (ins.size ≤ 30))
set_option maxRecDepth 100000 in
set_option maxHeartbeats 4000000 in
theorem may_any (w : World) (D : Df) (a1 : Option Addr) (n1 c1 : Nat) (a2 : Option Addr) (n2 c2 : Nat) (a3 : Option Addr) (n3 c3 : Nat) (h : DA w D a1 n1 a2 n2 a3 n3) (s ins : ByteArray) (at_ del : Int) :
    Calls Try.prog 9 #[.agg #[.slice a1 n1 c1, .slice a2 n2 c2, .slice a3 n3 c3, .string s, .int .i64 at_, .int .i64 del, .string ins]] w fun e w' => e = .returned (.bool (mayB D s ins)) ∧ Below w.heap.size w w' := by
  obtain ⟨q, hq⟩ : ∃ q, q = mayB D s ins := ⟨_, rfl⟩
  rw [← hq]
  have HQ := hid hq
  have CS := hid (fun V (hV : Below w.heap.size w V) => show Calls Try.prog 15 #[.agg #[.slice a1 n1 c1, .slice a2 n2 c2, .slice a3 n3 c3], .int .i64 40, .int .i64 20] V fun e w' => e = .returned (.bool (sm D 40 20)) ∧ Below V.heap.size V w' from Small_any V D a1 n1 c1 a2 n2 c2 a3 n3 c3 (h.below hV) 40 20)
  obtain ⟨v, hv⟩ : ∃ v, v = sm D 40 20 := ⟨_, rfl⟩
  rw [← hv] at CS
  have HVV := hid hv
  obtain ⟨W, hW⟩ : ∃ W, W = w.alloc (.cells #[.slice a1 n1 c1, .slice a2 n2 c2, .slice a3 n3 c3, .string s, .int .i64 at_, .int .i64 del, .string ins] 29) := ⟨_, rfl⟩
  have x1 := alloc_new w (.cells #[.slice a1 n1 c1, .slice a2 n2 c2, .slice a3 n3 c3, .string s, .int .i64 at_, .int .i64 del, .string ins] 29)
  have bW := bel1 w (.cells #[.slice a1 n1 c1, .slice a2 n2 c2, .slice a3 n3 c3, .string s, .int .i64 at_, .int .i64 del, .string ins] 29)
  rw [← hW] at x1 bW
  have HW := hid (And.intro x1 bW)
  obtain ⟨d0, d1, d2, d3, d4, d5, d6⟩ := cells7 x1
  clear h x1 bW hq hv
  go_enter Try.func9, Try.ntmps9
  go_upto_region 1 with fail
  rw [← hW]
  clear hW
  go_wp2_with fail
  refine (CS.out W HW.out.2).mono ?_
  rintro e V ⟨rfl, b1⟩
  have HX := hid (And.intro ((b1.block _ (heap_lt HW.out.1)).trans HW.out.1) (HW.out.2.trans (b1.mono HW.out.2.size)))
  clear d0 d1 d2 d3 d4 d5 d6 b1
  obtain ⟨d0, d1, d2, d3, d4, d5, d6⟩ := cells7 HX.out.1
  cases v
  · have HF := hid (show q = false from by rw [HQ.out]; unfold mayB; rw [← HVV.out]; rfl)
    go_wp2
    go_ret
    exact ⟨by first | (rw [HF.out]; done) | (rw [HF.out]; rfl), HX.out.2⟩
  · have HQ2 := hid (show q = (decide (s.size ≤ 100) && decide (ins.size ≤ 30)) from by rw [HQ.out]; unfold mayB; rw [← HVV.out, Bool.true_and])
    by_cases g1 : s.size ≤ 100
    · have g1' : (s.size : Int) ≤ 100 := by omega
      by_cases g2 : ins.size ≤ 30
      · have g2' : (ins.size : Int) ≤ 30 := by omega
        have HF := hid (show q = decide ((ins.size : Int) ≤ 30) from by rw [HQ2.out, decide_eq_true g1, decide_eq_true g2, decide_eq_true g2']; rfl)
        clear g2 g2'
        go_wp2
        go_ret
        exact ⟨by first | (rw [HF.out]; done) | (rw [HF.out]; rfl), HX.out.2⟩
      · have g2' : ¬ (ins.size : Int) ≤ 30 := by omega
        have HF := hid (show q = decide ((ins.size : Int) ≤ 30) from by rw [HQ2.out, decide_eq_true g1, decide_eq_false g2, decide_eq_false g2']; rfl)
        clear g2 g2'
        go_wp2
        go_ret
        exact ⟨by first | (rw [HF.out]; done) | (rw [HF.out]; rfl), HX.out.2⟩
    · have g1' : ¬ (s.size : Int) ≤ 100 := by omega
      have HF := hid (show q = false from by rw [HQ2.out, decide_eq_false g1]; rfl)
      go_wp2
      go_ret
      exact ⟨by first | (rw [HF.out]; done) | (rw [HF.out]; rfl), HX.out.2⟩
theorem u35 : Try.prog.underlying 35 = some (.struct (Try.prog.fieldsOf 35)) := by kernel_rfl
theorem f35 : ((Try.prog.fieldsOf 35).toList.map fun f => (f.name, f.type, f.offset)) = [("From", 3, 0), ("Old", 3, 1), ("New", 3, 2)] := by kernel_rfl
theorem h35 : Try.prog.stoodInHeld 35 = false := by kernel_rfl
section
variable (a b c : Int) (w : World)
theorem ck0 : (Go.part 3 #[Value.int .i64 a, .int .i64 b, .int .i64 c] 0).run Try.prog w = .ok (.int .i64 a) w := by kernel_rfl
theorem ck1 : (Go.part 3 #[Value.int .i64 a, .int .i64 b, .int .i64 c] 1).run Try.prog w = .ok (.int .i64 b) w := by kernel_rfl
theorem ck2 : (Go.part 3 #[Value.int .i64 a, .int .i64 b, .int .i64 c] 2).run Try.prog w = .ok (.int .i64 c) w := by kernel_rfl
end
/-- Equal changes. -/
theorem eq_chg (a b c : Int) (w : World) : (Op.equalIn 10000 35 (.agg #[.int .i64 a, .int .i64 b, .int .i64 c]) (.agg #[.int .i64 a, .int .i64 b, .int .i64 c])).run Try.prog w = .ok true w := by
  rw [show (10000 : Nat) = 9999 + 1 from rfl, run_equalIn_struct w 9999 35 _ _ u35 h35]
  generalize hf : (Try.prog.fieldsOf 35).toList = fs
  have := f35
  rw [hf] at this
  match fs, this with
  | [f0, f1, f2], this =>
    simp only [List.map_cons, List.map_nil, List.cons.injEq, Prod.mk.injEq, and_true] at this
    obtain ⟨⟨n0, t0, o0⟩, ⟨n1, t1, o1⟩, n2, t2, o2⟩ := this
    have he : ∀ (x : Int) (w : World), (Op.equalIn 9999 3 (.int .i64 x) (.int .i64 x)).run Try.prog w = .ok true w := fun x w => by
      rw [show (9999 : Nat) = 9998 + 1 from rfl, run_equalIn_int w 9998 3 .i64 .i64 x x Try.underlying3]
      simp
    simp [Op.eqFields, n0, n1, n2, t0, t1, t2, o0, o1, o2, Sem.run_bind, ck0, ck1, ck2, he]
attribute [local go_sem] eq_chg
def txO : ByteArray := ⟨#[97, 98, 32, 99, 100, 32, 101, 102]⟩
def txN : ByteArray := ⟨#[97, 98, 32, 99, 100, 101, 32, 101, 102]⟩
def txI : ByteArray := ⟨#[100, 101]⟩
set_option maxRecDepth 100000 in
theorem ex_new : nt txO 4 1 txI = txN := by kernel_rfl
set_option maxRecDepth 100000 in
theorem ex_m : uM wordD txO 4 = 2 := by kernel_rfl
set_option maxRecDepth 100000 in
theorem ex_r : uR wordD txO 4 1 txI = (1, 3) := by kernel_rfl
theorem ex_fit : ¬ Te.Fit txO.size (9, 0, ByteArray.empty) := by decide
set_option maxRecDepth 100000 in
set_option maxHeartbeats 4000000 in
theorem awake_any (w : World) : Calls Try.prog 10 #[] w fun e w' => e = .returned (.bool true) ∧ Below w.heap.size w w' := by
  go_enter Try.func10, Try.ntmps10
  go_wp2_with fail
  refine (words_any w).mono ?_
  rintro e w1 ⟨a1, a2, a3, rfl, h1, b1⟩
  obtain ⟨U, hU⟩ : ∃ U, U = w1.alloc (.cells #[.slice a1 256 256, .slice a2 3 3, .slice a3 3 3] 25) := ⟨_, rfl⟩
  have u1 := alloc_new w1 (.cells #[.slice a1 256 256, .slice a2 3 3, .slice a3 3 3] 25)
  have bU := bel1 w1 (.cells #[.slice a1 256 256, .slice a2 3 3, .slice a3 3 3] 25)
  rw [← hU] at u1 bU
  have H1 := hid (And.intro (h1.below bU) (And.intro u1 (b1.trans (bU.mono b1.size))))
  clear h1 b1 bU
  obtain ⟨B, hB⟩ : ∃ B, B = w1.heap.size := ⟨_, rfl⟩
  rw [← hB] at u1 H1
  obtain ⟨d0, d1, d2⟩ := cells3 u1
  clear u1
  go_upto_region 2 with fail
  rw [← hU, ← hB]
  clear hU hB
  go_wp2_with fail
  have CL := hid (RLex_any U wordD 3 3 wordD_vd a1 256 256 a2 3 3 a3 3 3 H1.out.1 txO (by decide))
  refine CL.out.mono ?_
  rintro e w2 ⟨⟨p, c, rfl, hr, hc⟩, b2⟩
  have H2 := hid (And.intro (H1.out.1.below b2) (And.intro ((b2.block _ (heap_lt H1.out.2.1)).trans H1.out.2.1) (H1.out.2.2.trans (b2.mono H1.out.2.2.size))))
  have HR := hid (And.intro hr hc)
  clear CL hr hc b2 d0 d1 d2
  obtain ⟨d0, d1, d2⟩ := cells3 H2.out.2.1
  go_wp2_with fail
  have CU := hid (show Calls Try.prog 12 #[.agg #[.slice a1 256 256, .slice a2 3 3, .slice a3 3 3], .slice p (lexT wordD txO).length c, .agg #[.int .i64 4, .int .i64 1, .string { data := #[100, 101] }]] w2 fun e w' => (∃ pl cl, e = .returned (.tuple #[.slice pl (lexT wordD txN).length cl, .agg #[.int .i64 2, .int .i64 1, .int .i64 1], .int .i64 0]) ∧ TRow w' pl (lexT wordD txN).length (lexT wordD txN) ∧ (lexT wordD txN).length ≤ cl) ∧ Below w2.heap.size w2 w' from by
    have := Update_yes w2 wordD 3 3 wordD_vd a1 256 256 a2 3 3 a3 3 3 H2.out.1 txO (by decide) p (lexT wordD txO).length c HR.out.1 HR.out.2 4 1 txI (by decide) (by decide)
    unfold URes at this
    rw [ex_m, ex_r, ex_new] at this
    exact this)
  refine CU.out.mono ?_
  rintro e w3 ⟨⟨pl, cl', rfl, hl, _⟩, b3⟩
  obtain ⟨V, hV⟩ : ∃ V, V = w3.alloc (.cells #[.int .i64 2, .int .i64 1, .int .i64 1] 35) := ⟨_, rfl⟩
  have v1 := alloc_new w3 (.cells #[.int .i64 2, .int .i64 1, .int .i64 1] 35)
  have bV := bel1 w3 (.cells #[.int .i64 2, .int .i64 1, .int .i64 1] 35)
  rw [← hV] at v1 bV
  have b3V := b3.trans (bV.mono b3.size)
  have HL := hid (hl.below bV)
  have H3 := hid (And.intro (H2.out.1.below b3V) (And.intro ((b3V.block _ (heap_lt H2.out.2.1)).trans H2.out.2.1) (H2.out.2.2.trans (b3V.mono H2.out.2.2.size))))
  have HR3 := hid (HR.out.1.below b3V)
  have HR2 := hid HR.out.2
  obtain ⟨C, hC⟩ : ∃ C, C = w3.heap.size := ⟨_, rfl⟩
  rw [← hC] at v1
  have HC := hid v1
  clear CU hl b3 d0 d1 d2 bV b3V v1
  obtain ⟨d0, d1, d2⟩ := cells3 H3.out.2.1
  go_upto_region 4 with fail
  rw [← hV, ← hC]
  clear hV hC
  go_wp2_with fail
  have CN := hid (Update_no V wordD 3 3 wordD_vd a1 256 256 a2 3 3 a3 3 3 H3.out.1 txO (by decide) p (lexT wordD txO).length c HR3.out 9 0 ByteArray.empty (by decide) (by decide) ex_fit)
  refine CN.out.mono ?_
  rintro e w4 ⟨rfl, b4⟩
  obtain ⟨X, hX⟩ : ∃ X, X = w4.alloc (.cells #[.int .i64 0, .int .i64 0, .int .i64 0] 35) := ⟨_, rfl⟩
  have bX := bel1 w4 (.cells #[.int .i64 0, .int .i64 0, .int .i64 0] 35)
  rw [← hX] at bX
  have b4X := b4.trans (bX.mono b4.size)
  have HL4 := hid (HL.out.below b4X)
  have H4 := hid (And.intro (H3.out.1.below b4X) (And.intro ((b4X.block _ (heap_lt H3.out.2.1)).trans H3.out.2.1) (H3.out.2.2.trans (b4X.mono H3.out.2.2.size))))
  have HC4 := hid ((b4X.block _ (heap_lt HC.out)).trans HC.out)
  clear CN b4 bX b4X d0 d1 d2
  obtain ⟨d0, d1, d2⟩ := cells3 H4.out.2.1
  obtain ⟨f0, f1, f2⟩ := cells3 HC4.out
  go_upto_region 5 with fail
  rw [← hX]
  clear hX
  go_wp2_with fail
  have CL := hid (RLex_any X wordD 3 3 wordD_vd a1 256 256 a2 3 3 a3 3 3 H4.out.1 txN (by decide))
  refine CL.out.mono ?_
  rintro e w5 ⟨⟨p5, c5, rfl, hr5, _⟩, b5⟩
  have H5 := hid (And.intro ((b5.block _ (heap_lt HC4.out)).trans HC4.out) (H4.out.2.2.trans (b5.mono H4.out.2.2.size)))
  have CSM := hid (Same_any w5 pl (lexT wordD txN).length cl' (lexT wordD txN) p5 (lexT wordD txN).length c5 (lexT wordD txN) (HL4.out.below b5) hr5 (by have := lexT_len wordD txN; have h9 : txN.size = 9 := rfl; omega) (by have := lexT_len wordD txN; have h9 : txN.size = 9 := rfl; omega))
  rw [decide_eq_true rfl] at CSM
  clear CL b5 hr5 d0 d1 d2 f0 f1 f2
  go_wp2_with fail
  refine CSM.out.mono ?_
  rintro e w6 ⟨rfl, b6⟩
  have H6 := hid (And.intro ((b6.block _ (heap_lt H5.out.1)).trans H5.out.1) (H5.out.2.trans (b6.mono H5.out.2.size)))
  clear b6 CSM
  obtain ⟨f0, f1, f2⟩ := cells3 H6.out.1
  go_wp2
  go_ret
  exact ⟨rfl, H6.out.2⟩
end Go.Proofs.Ytblcjjhjgoccgaa
