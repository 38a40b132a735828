/-
  LexerVisibleMatchesReference, for every input: the law returns true and leaves its arguments as they read. No condition.
-/
import Derived.Test.YtlbnaegcjlddgaaVr
import Derived.Test.YtlbnaegcjlddgaaH
set_option linter.unusedSimpArgs false
set_option linter.unusedVariables false
namespace Go.Proofs.Ytlbnaegcjlddgaa.lexerVisibleMatchesReference
open Go.ChangeShapes Go.WideShapes Go.ChangeAt Go.RowKit Go.Frame
open Go.ChangeMaps (open_string shut_string)
open Lx
set_option maxRecDepth 100000 in
set_option maxHeartbeats 4000000 in
theorem walk (E : List DQ) (ad : Option Addr) (nd cd : Nat) (lo : Bool) (m1 m2 : Int) (l : List TQ) (a : Option Addr) (n c : Nat) (w : World) (hS : SRow w ad nd E) (hT : TRow w a n l ∧ n ≤ 140737488355328 ∧ ∀ t ∈ l, t.2.2.1.size ≤ 140737488351232) :
    Calls Try.prog 8 #[.agg #[.slice ad nd cd, .bool lo, .int .i64 m1, .int .i64 m2], .slice a n c] w fun e w' => e = .returned (.bool true) ∧ Below w.heap.size w w' := by
  have CA := hid (fun V (hV : Below w.heap.size w V) => awake_any V)
  have HS := hid hS
  have HT := hid hT
  have HL := hid hT.1.len
  have hle := hS.le
  have hle2 := hT.2.1
  have x0 := hid (alloc_new w (.cells #[.slice ad nd cd, .bool lo, .int .i64 m1, .int .i64 m2] 39))
  have B0 := hid (bel1 w (.cells #[.slice ad nd cd, .bool lo, .int .i64 m1, .int .i64 m2] 39))
  clear hS hT
  go_enter Try.func8, Try.ntmps8
  go_wp2_with fail
  refine (CA.out _ B0.out).mono ?_
  rintro e W ⟨rfl, b1⟩
  have X := hid (And.intro ((b1.block _ (heap_lt x0.out)).trans x0.out) (B0.out.trans (b1.mono B0.out.size)))
  clear b1 CA
  obtain ⟨d0, d1, d2, d3⟩ := cells4 X.out.1
  by_cases q1 : (60 : Int) < (nd : Int)
  · go_wp2
    go_ret
    exact ⟨rfl, X.out.2⟩
  by_cases q2 : (60 : Int) < (n : Int)
  · go_wp2
    go_ret
    exact ⟨rfl, X.out.2⟩
  go_wp2_with fail
  go_loopg [5, 6] n (fun kk s5 s6 wr => ∃ i T : Nat, s5 = .int .i64 (T : Int) ∧ s6 = .int .i64 (i : Int) ∧ i + kk = n ∧ Hid (T = (txb (l.take i)).length) ∧ T ≤ 2000 ∧ Below W.heap.size W wr)
  case atStart => exact ⟨0, 0, rfl, rfl, by omega, hid rfl, by omega, Below.refl _ _⟩
  case round =>
    obtain ⟨i, T, rfl, rfl, hik, hTT, hT2, hb⟩ := hrel
    have HB := hid (X.out.2.trans (hb.mono X.out.2.size))
    have HBX := hid ((hb.block _ (heap_lt X.out.1)).trans X.out.1)
    have HB1 := hid hb
    clear d0 d1 d2 d3 hb
    by_cases hlt : i < n
    · have hlt' : (i : Int) < (n : Int) := by omega
      have hi0 : (0 : Int) ≤ (i : Int) := by omega
      have hii : IntKind.i64.wrap ((i : Int) + 1) = (i : Int) + 1 := wrapIn (by omega) (by omega)
      obtain ⟨b, o, ⟨xk, xa, xs, xl⟩, rfl, _, hx, x0', x1, x2, x3⟩ := trow_at (HT.out.1.below HB.out) hlt
      simp only at x0' x1 x2 x3
      have hxs : xs.size ≤ 140737488351232 := HT.out.2.2 _ (List.mem_of_getElem? hx)
      obtain ⟨U, hU⟩ : ∃ U, U = T + xs.size := ⟨_, rfl⟩
      have hsum : IntKind.i64.wrap ((T : Int) + (xs.size : Int)) = (T : Int) + (xs.size : Int) := wrapIn (by omega) (by omega)
      have HU := hid (show T + xs.size = (txb (l.take (i + 1))).length from by rw [txb_snoc hx, List.length_append, hTT.out]; rfl)
      clear hx hTT hU
      by_cases q3 : (2000 : Int) < (T : Int) + (xs.size : Int)
      · go_wp2
        go_ret
        exact ⟨rfl, HB.out⟩
      · go_wp2
        go_roundg (gk - 1)
        case measure => omega
        case rel => exact ⟨i + 1, T + xs.size, by go_num, by go_num, by omega, HU, by omega, HB1.out⟩
    · have hlt' : ¬ (i : Int) < (n : Int) := by omega
      have htx : (txb l).length ≤ 2000 := by
        have h1 := hTT.out
        rw [List.take_of_length_le (by have := HL.out; omega)] at h1
        omega
      obtain ⟨v, hv⟩ : ∃ v, v = vis E l := ⟨_, rfl⟩
      have hvl : v.length ≤ 60 := by rw [hv]; exact Nat.le_trans (List.length_filter_le _ _) (by have := HL.out; omega)
      have hvv : vis E v = v := by rw [hv]; exact vis_vis E l
      have D1 := hid (fun V (hV : Below w.heap.size w V) => show Calls Try.prog 17 #[.agg #[.slice ad nd cd, .bool lo, .int .i64 m1, .int .i64 m2], .slice a n c] V (TRes V v) from hv ▸ Visible_any V E ad nd cd lo m1 m2 (HS.out.below hV) a n c l (HT.out.1.below hV) (by omega))
      have D2 := hid (fun V (hV : Below w.heap.size w V) => show Calls Try.prog 18 #[.agg #[.slice ad nd cd, .bool lo, .int .i64 m1, .int .i64 m2], .slice a n c] V (TRes V v) from hv ▸ RVisible_any V E ad nd cd lo m1 m2 (HS.out.below hV) a n c l (HT.out.1.below hV) (by omega))
      have D3 := hid (fun V (hV : Below w.heap.size w V) p c9 (hr : TRow V p v.length v) => show Calls Try.prog 17 #[.agg #[.slice ad nd cd, .bool lo, .int .i64 m1, .int .i64 m2], .slice p v.length c9] V (TRes V v) from by
        have h := Visible_any V E ad nd cd lo m1 m2 (HS.out.below hV) p v.length c9 v hr (by omega)
        rw [hvv] at h
        exact h)
      have D4 := hid (fun V p1 d1 p2 d2 (h1 : TRow V p1 v.length v) (h2 : TRow V p2 v.length v) => show Calls Try.prog 12 #[.slice p1 v.length d1, .slice p2 v.length d2] V fun e w' => e = .returned (.bool true) ∧ Below V.heap.size V w' from by
        have h := Same_any V p1 v.length d1 v p2 v.length d2 v h1 h2 (by omega) (by omega)
        rw [decide_eq_true rfl] at h
        exact h)
      obtain ⟨tx, htx2⟩ : ∃ tx : ByteArray, tx = ⟨(txb l).toArray⟩ := ⟨_, rfl⟩
      have D5 := hid (fun V (hV : Below w.heap.size w V) => show Calls Try.prog 15 #[.slice a n c] V fun e w' => e = .returned (.string tx) ∧ Below V.heap.size V w' from htx2 ▸ Text_any V a n c l (HT.out.1.below hV) hle2 (by omega))
      have D6 := hid (fun V (hV : Below w.heap.size w V) => show Calls Try.prog 19 #[.slice a n c] V fun e w' => e = .returned (.string tx) ∧ Below V.heap.size V w' from htx2 ▸ RText_any V a n c l (HT.out.1.below hV) hle2 (by omega))
      clear hv hvv htx htx2 hTT
      obtain ⟨lv, hlv⟩ : ∃ lv, lv = v.length := ⟨_, rfl⟩
      have HLV := hid hlv
      unfold TRes at D1 D2 D3
      rw [← hlv] at D1 D2 D3 D4 hvl
      clear hlv
      obtain ⟨d0, d1, d2, d3⟩ := cells4 HBX.out
      go_wp2_with fail
      refine (D1.out _ HB.out).mono ?_
      rintro e V1 ⟨⟨p1, q1', rfl, r1⟩, b1⟩
      have Y1 := hid (And.intro (HB.out.trans (b1.mono HB.out.size)) (And.intro ((b1.block _ (heap_lt HBX.out)).trans HBX.out) r1))
      clear b1 r1 d0 d1 d2 d3
      obtain ⟨d0, d1, d2, d3⟩ := cells4 Y1.out.2.1
      go_wp2_with fail
      refine (D2.out _ Y1.out.1).mono ?_
      rintro e V2 ⟨⟨p2, q2', rfl, r2⟩, b2⟩
      have Y2 := hid (And.intro (Y1.out.1.trans (b2.mono Y1.out.1.size)) (And.intro ((b2.block _ (heap_lt Y1.out.2.1)).trans Y1.out.2.1) (And.intro (Y1.out.2.2.below b2) r2)))
      clear b2 r2 d0 d1 d2 d3
      go_wp2_with fail
      refine (D4.out _ _ _ _ _ Y2.out.2.2.1 Y2.out.2.2.2).mono ?_
      rintro e V3 ⟨rfl, b3⟩
      have Y3 := hid (And.intro (Y2.out.1.trans (b3.mono Y2.out.1.size)) (And.intro ((b3.block _ (heap_lt Y2.out.2.1)).trans Y2.out.2.1) (Y2.out.2.2.1.below b3)))
      clear b3
      obtain ⟨d0, d1, d2, d3⟩ := cells4 Y3.out.2.1
      go_wp2_with fail
      refine (D3.out _ Y3.out.1 _ _ Y3.out.2.2).mono ?_
      rintro e V4 ⟨⟨p4, q4, rfl, r4⟩, b4⟩
      have Y4 := hid (And.intro (Y3.out.1.trans (b4.mono Y3.out.1.size)) (And.intro (Y3.out.2.2.below b4) r4))
      clear b4 r4 d0 d1 d2 d3
      go_wp2_with fail
      refine (D4.out _ _ _ _ _ Y4.out.2.2 Y4.out.2.1).mono ?_
      rintro e V5 ⟨rfl, b5⟩
      have Y5 := hid (Y4.out.1.trans (b5.mono Y4.out.1.size))
      clear b5
      go_wp2_with fail
      refine (D5.out _ Y5.out).mono ?_
      rintro e V6 ⟨rfl, b6⟩
      have Y6 := hid (Y5.out.trans (b6.mono Y5.out.size))
      clear b6
      go_wp2_with fail
      refine (D6.out _ Y6.out).mono ?_
      rintro e V7 ⟨rfl, b7⟩
      have Y7 := hid (Y6.out.trans (b7.mono Y6.out.size))
      clear b7
      go_wp2
      go_ret
      exact ⟨rfl, Y7.out⟩

theorem lifted (os : Os) (started : os.Started) (H : Type) (enc : TypeId × Value → H) :
    ReturnsInHanded {} Try.checked os 8 .any (Rows.lexerVisibleMatchesReferenceSpec.pre6 enc Try.prog Try.f8 Rows.lexerVisibleMatchesReferenceRow.domain false) (Rows.lexerVisibleMatchesReferenceSpec.post enc Try.prog Try.f8 false true false false) := by
  refine Go.Frame.lifted (C := Try.checked) (tb := 4) own started (by kernel_rfl) Try.func8
    (ChangeSpec.witness6 (enc := enc) (C := Try.checked) false ⟨#[], #[.agg #[.slice none 0 0, .bool false, .int .i64 0, .int .i64 0], .slice none 0 0], []⟩ 8 (by kernel_rfl) (by kernel_rfl) (by kernel_rfl) (by kernel_rfl))
    laidOut (by kernel_rfl) (by kernel_rfl) Try.underlying4 rfl ?_ ?_
  · intro ds h
    have h : ds.length = 2 := h
    match ds, h with
    | [_, _], _ => rfl
  · intro W base args ds p hlen hval0 hA hsz0
    have hval : ∀ (j : Nat) t v, Try.f8.params[j]? = some t → args[j]? = some v → Value.okWide Try.prog W .any base t v := hval0
    have hA : DataW.TrodAll enc Try.prog W 0 (fun _ => true) true Try.f8.params.toList args.toList ds p := hA
    have hsz : (DataW.weightsEach Try.prog Try.f8.params.toList ds).all (· ≤ reachBytes) = true := hsz0
    rw [Try.params8] at hA hval hsz
    obtain ⟨v0, vs0, d0, ds0, p0, q0, hargs, hds, _, th0, tr0⟩ := trodAll_cons hA
    obtain ⟨v1, vs1, d1, ds1, p1, q1, rfl, rfl, _, th1, tr1⟩ := trodAll_cons tr0
    obtain ⟨rfl, rfl, _⟩ := trodAll_nil tr1
    obtain rfl : args = #[v0, v1] := by cases args; simp_all
    subst hds
    obtain ⟨Ks, aks, nks, cks, lo, m1, m2, rfl, hKs⟩ := open_spec (hval 0 39 v0 rfl rfl) th0 (fun n hn => of_decide_eq_true (List.all_eq_true.1 hsz _ (DataW.weights_mem_each (j := 0) rfl rfl n hn)))
    obtain ⟨Et, at0, nt0, ct0, rfl, hEt⟩ := open_toks (hval 1 29 v1 rfl rfl) th1 (fun n hn => of_decide_eq_true (List.all_eq_true.1 hsz _ (DataW.weights_mem_each (j := 1) rfl rfl n hn)))
    exact walk Ks aks nks cks lo m1 m2 Et at0 nt0 ct0 W hKs hEt

theorem over : Rows.lexerVisibleMatchesReferenceRow.holds Try.pinned (OpenSpec.ofChange Rows.lexerVisibleMatchesReferenceSpec) :=
  OpenClaim.holds_of_wide 8 Try.f8 rfl rfl rfl rfl rfl rfl rfl ⟨rfl, rfl, rfl, rfl, rfl⟩ rfl rfl rfl rfl rfl (by kernel_rfl) Try.func8 (by kernel_rfl)
    (of_decide_eq_true (by kernel_rfl)) (by unfold Func.isWrapper; first | (rw [if_pos (by decide +kernel)]; kernel_rfl) | (rw [if_neg (by decide +kernel)]; exact ⟨rfl, rfl⟩))
    (fun os started H enc _ => lifted os started H enc)

/-- THE STATEMENT -/
theorem proved : Rows.LexerVisibleMatchesReferenceSaid :=
  over
#print axioms proved
end Go.Proofs.Ytlbnaegcjlddgaa.lexerVisibleMatchesReference
