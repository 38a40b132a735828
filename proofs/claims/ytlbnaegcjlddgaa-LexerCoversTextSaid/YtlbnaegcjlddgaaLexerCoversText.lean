/-
  LexerCoversText, for every input: the law returns true and leaves its arguments as they read. No condition.
-/
import Derived.Test.YtlbnaegcjlddgaaO
import Derived.Test.YtlbnaegcjlddgaaJ
import Derived.Test.YtlbnaegcjlddgaaN
set_option linter.unusedSimpArgs false
set_option linter.unusedVariables false
namespace Go.Proofs.Ytlbnaegcjlddgaa.lexerCoversText
open Go.ChangeShapes Go.WideShapes Go.ChangeAt Go.RowKit Go.Frame
open Go.ChangeMaps (open_string shut_string)
open Lx
set_option maxRecDepth 100000 in
set_option maxHeartbeats 4000000 in
theorem walk (D : Df) (a1 : Option Addr) (n1 c1 : Nat) (a2 : Option Addr) (n2 c2 : Nat) (a3 : Option Addr) (n3 c3 : Nat) (s : ByteArray) (w : World) (hD : DA w D a1 n1 a2 n2 a3 n3) (hs0 : s.size ≤ 140737488351232) :
    Calls Try.prog 4 #[.agg #[.slice a1 n1 c1, .slice a2 n2 c2, .slice a3 n3 c3], .string s] w fun e w' => e = .returned (.bool true) ∧ Below w.heap.size w w' := by
  have CA := hid (fun V (hV : Below w.heap.size w V) => awake_any V)
  have CL := hid (fun V (hV : Below w.heap.size w V) => light_any V D a1 n1 c1 a2 n2 c2 a3 n3 c3 (hD.below hV) s (by omega))
  have HI := hid hD
  have x0 := hid (alloc_new w (.cells #[.slice a1 n1 c1, .slice a2 n2 c2, .slice a3 n3 c3] 25))
  have B0 := hid (bel1 w (.cells #[.slice a1 n1 c1, .slice a2 n2 c2, .slice a3 n3 c3] 25))
  obtain ⟨y, hy⟩ : ∃ y, y = (decide (n2 ≤ 60) && (decide (s.size ≤ 60) && valid D)) := ⟨_, rfl⟩
  rw [← hy] at CL
  have HY := hid hy
  clear hD hy
  go_enter Try.func4, Try.ntmps4
  go_wp2_with fail
  refine (CA.out _ B0.out).mono ?_
  rintro e W ⟨rfl, b1⟩
  have X := hid (And.intro ((b1.block _ (heap_lt x0.out)).trans x0.out) (B0.out.trans (b1.mono B0.out.size)))
  clear b1 CA
  obtain ⟨d0, d1, d2⟩ := cells3 X.out.1
  go_wp2_with fail
  refine (CL.out _ X.out.2).mono ?_
  rintro e W2 ⟨rfl, b2⟩
  have X2 := hid (And.intro ((b2.block _ (heap_lt X.out.1)).trans X.out.1) (X.out.2.trans (b2.mono X.out.2.size)))
  clear b2 CL d0 d1 d2
  cases y
  · go_wp2
    go_ret
    exact ⟨rfl, X2.out.2⟩
  · have hy2 := HY.out
    simp only [eq_comm (a := true), Bool.and_eq_true, decide_eq_true_eq] at hy2
    obtain ⟨hm, hs60, hval⟩ := hy2
    obtain ⟨n, k, hv⟩ := valid_iff.1 hval
    have hs6 : s.size ≤ 1000000 := by omega
    have HV := hid hv
    have DL := hid (fun V (hV : Below w.heap.size w V) (s' : ByteArray) (h' : s'.size ≤ 1000000) => Lex_any V D n k HV.out a1 n1 c1 a2 n2 c2 a3 n3 c3 (HI.out.below hV) s' h')
    clear hm hval hv
    obtain ⟨d0, d1, d2⟩ := cells3 X2.out.1
    obtain ⟨L, hL⟩ : ∃ L, L = lexT D s := ⟨_, rfl⟩
    have hLn : L.length ≤ 60 := by rw [hL]; exact Nat.le_trans (lexT_len _ _) hs60
    have D1 := hid (fun V (hV : Below w.heap.size w V) => show Calls Try.prog 13 #[.agg #[.slice a1 n1 c1, .slice a2 n2 c2, .slice a3 n3 c3], .string s] V (TRes V L) from hL ▸ DL.out V hV s hs6)
    have H0 := hid (show (lexAt D s 0).map tq = L.drop 0 from by rw [hL]; rfl)
    have HLX := hid hL
    obtain ⟨lL, hlL⟩ : ∃ lL, lL = L.length := ⟨_, rfl⟩
    have HLL := hid hlL
    unfold TRes at D1
    rw [← hlL] at D1 hLn
    clear hlL hL
    go_wp2_with fail
    refine (D1.out _ X2.out.2).mono ?_
    rintro e V1 ⟨⟨pL, qL, rfl, rL⟩, b3⟩
    have Y := hid (And.intro (X2.out.2.trans (b3.mono X2.out.2.size)) (And.intro ((b3.block _ (heap_lt X2.out.1)).trans X2.out.1) rL))
    clear b3 rL d0 d1 d2
    go_wp2_with fail
    go_loopg [6, 7] lL (fun kk s6 s7 wr => ∃ i p : Nat, s6 = .int .i64 (p : Int) ∧ s7 = .int .i64 (i : Int) ∧ i + kk = lL ∧ p ≤ s.size ∧ Hid ((lexAt D s p).map tq = L.drop i) ∧ Below V1.heap.size V1 wr)
    case atStart => exact ⟨0, 0, rfl, rfl, by omega, Nat.zero_le _, H0, Below.refl _ _⟩
    case round =>
      obtain ⟨i, p, rfl, rfl, hk, hp, hl, hb⟩ := hrel
      have HB := hid (Y.out.1.trans (hb.mono Y.out.1.size))
      have HB1 := hid hb
      have HR := hid (Y.out.2.2.below hb)
      clear hb
      by_cases hlt : i < lL
      · have hlt' : (i : Int) < (lL : Int) := by omega
        have hi0 : (0 : Int) ≤ (i : Int) := by omega
        have hi1 : IntKind.i64.wrap ((i : Int) + 1) = (i : Int) + 1 := wrapIn (by omega) (by omega)
        obtain ⟨hps, hx, hl2, hp2⟩ := lex_step hl.out (by have := HLL.out; omega) hp
        obtain ⟨z1, z2, z3, z4, z5⟩ := sc_bounds (D := D) hps
        have ztl := tok_len (D := D) hps
        obtain ⟨b, o, t, rfl, _, hx', x0, x1, x2, x3⟩ := trow_at HR.out hlt
        obtain rfl : t = tq (tokAt D s p) := by rw [hx] at hx'; simpa using hx'.symm
        obtain ⟨tx, htx⟩ : ∃ tx, tx = (tokAt D s p).txt := ⟨_, rfl⟩
        obtain ⟨tk, htk⟩ : ∃ tk, tk = (tokAt D s p).kind := ⟨_, rfl⟩
        obtain ⟨lk, hlk⟩ : ∃ lk, lk = (tokAt D s p).look := ⟨_, rfl⟩
        have hlk2 : lk = (sc D s p).2.2 := hlk
        have hpe : (tokAt D s p).pos = p := rfl
        simp only [tq, hpe, ← htx, ← htk, ← hlk] at x0 x1 x2 x3
        rw [← htx] at ztl
        rw [← hlk2] at z3 z4 z5
        obtain ⟨z, hz⟩ : ∃ z, z = (sc D s p).2.1 := ⟨_, rfl⟩
        rw [← hz] at hl2 hp2 ztl z1 z2 z3
        have HL2 := hid hl2
        have HZ := hid ztl
        have g1 : ((p : Int) != (p : Int)) = false := by simp
        have g2 : ¬ tx.toList = [] := by
          intro e
          rw [ByteArray.toList_eq] at e
          have e0 := congrArg List.length e
          rw [data_len] at e0
          have e1 : tx.size = 0 := e0
          omega
        have g2' : (tx.toList == []) = false := by simpa using g2
        have g2b : ¬ tx.size = 0 := by omega
        have g3 : ¬ (lk : Int) < (tx.size : Int) := by omega
        have g3' : decide ((lk : Int) < (tx.size : Int)) = false := decide_eq_false g3
        have g3b : ¬ lk < tx.size := by omega
        have g4 : IntKind.i64.wrap ((s.size : Int) - (p : Int)) = (s.size : Int) - (p : Int) := wrapIn (by omega) (by omega)
        have g5 : IntKind.i64.wrap ((s.size : Int) - (p : Int) + 1) = (s.size : Int) - (p : Int) + 1 := wrapIn (by omega) (by omega)
        have g6 : ¬ (s.size : Int) - (p : Int) + 1 < (lk : Int) := by omega
        have g6' : decide ((s.size : Int) - (p : Int) + 1 < (lk : Int)) = false := decide_eq_false g6
        have g7 : IntKind.i64.wrap ((p : Int) + (tx.size : Int)) = ((p + z : Nat) : Int) := by rw [wrapIn (by omega) (by omega)]; omega
        clear hl hl2 hx hx' htx htk hlk hlk2 hpe hz ztl
        go_wp2_with fail
        go_quiet (fail)
        go_wp2
        go_roundg (gk - 1)
        case measure => omega
        case rel => exact ⟨i + 1, p + z, rfl, by go_num, by omega, hp2, HL2, below_drewN HB1.out _⟩
      · have hlt' : ¬ (i : Int) < (lL : Int) := by omega
        obtain rfl := lex_done hl.out (by have := HLL.out; omega) hp
        have CT := Text_any wr pL lL qL L HR.out (by omega) (by rw [HLX.out, txb_len]; exact hs6)
        rw [show (⟨(txb L).toArray⟩ : ByteArray) = s from by rw [HLX.out]; exact txb_lexT D s] at CT
        clear hl
        go_wp2_with fail
        refine CT.mono ?_
        rintro e V2 ⟨rfl, b4⟩
        clear CT
        go_wp2
        go_ret
        exact ⟨rfl, HB.out.trans (b4.mono HB.out.size)⟩

theorem lifted (os : Os) (started : os.Started) (H : Type) (enc : TypeId × Value → H) :
    ReturnsInHanded {} Try.checked os 4 .any (Rows.lexerCoversTextSpec.pre6 enc Try.prog Try.f4 Rows.lexerCoversTextRow.domain false) (Rows.lexerCoversTextSpec.post enc Try.prog Try.f4 false true false false) := by
  refine Go.Frame.lifted (C := Try.checked) (tb := 4) own started (by kernel_rfl) Try.func4
    (ChangeSpec.witness6 (enc := enc) (C := Try.checked) false ⟨#[], #[.agg #[.slice none 0 0, .slice none 0 0, .slice none 0 0], .string ByteArray.empty], []⟩ 8 (by kernel_rfl) (by kernel_rfl) (by kernel_rfl) (by kernel_rfl))
    laidOut (by kernel_rfl) (by kernel_rfl) Try.underlying4 rfl ?_ ?_
  · intro ds h
    have h : ds.length = 2 := h
    match ds, h with
    | [_, _], _ => rfl
  · intro W base args ds p hlen hval0 hA hsz0
    have hval : ∀ (j : Nat) t v, Try.f4.params[j]? = some t → args[j]? = some v → Value.okWide Try.prog W .any base t v := hval0
    have hA : DataW.TrodAll enc Try.prog W 0 (fun _ => true) true Try.f4.params.toList args.toList ds p := hA
    have hsz : (DataW.weightsEach Try.prog Try.f4.params.toList ds).all (· ≤ reachBytes) = true := hsz0
    rw [Try.params4] at hA hval hsz
    obtain ⟨v0, vs0, d0, ds0, p0, q0, hargs, hds, _, th0, tr0⟩ := trodAll_cons hA
    obtain ⟨v1, vs1, d1, ds1, p1, q1, rfl, rfl, _, th1, tr1⟩ := trodAll_cons tr0
    obtain ⟨rfl, rfl, _⟩ := trodAll_nil tr1
    obtain rfl : args = #[v0, v1] := by cases args; simp_all
    subst hds
    obtain ⟨Du, a1x, n1x, c1x, a2x, n2x, c2x, a3x, n3x, c3x, rfl, hDu⟩ := open_dfa (hval 0 25 v0 rfl rfl) th0 (fun n hn => of_decide_eq_true (List.all_eq_true.1 hsz _ (DataW.weights_mem_each (j := 0) rfl rfl n hn)))
    obtain ⟨t1, rfl, hd1, _, _⟩ := open_string Try.underlying9 (hval 1 9 v1 rfl rfl) th1
    have hs1 : t1.size ≤ 140737488351232 := of_decide_eq_true (List.all_eq_true.1 hsz _ (DataW.weights_mem_each (j := 1) rfl rfl _ (by rw [hd1]; simp [DataW.weights])))
    exact walk Du a1x n1x c1x a2x n2x c2x a3x n3x c3x t1 W hDu hs1

theorem over : Rows.lexerCoversTextRow.holds Try.pinned (OpenSpec.ofChange Rows.lexerCoversTextSpec) :=
  OpenClaim.holds_of_wide 4 Try.f4 rfl rfl rfl rfl rfl rfl rfl ⟨rfl, rfl, rfl, rfl, rfl⟩ rfl rfl rfl rfl rfl (by kernel_rfl) Try.func4 (by kernel_rfl)
    (of_decide_eq_true (by kernel_rfl)) (by unfold Func.isWrapper; first | (rw [if_pos (by decide +kernel)]; kernel_rfl) | (rw [if_neg (by decide +kernel)]; exact ⟨rfl, rfl⟩))
    (fun os started H enc _ => lifted os started H enc)

/-- THE STATEMENT -/
theorem proved : Rows.LexerCoversTextSaid :=
  over
#print axioms proved
end Go.Proofs.Ytlbnaegcjlddgaa.lexerCoversText
