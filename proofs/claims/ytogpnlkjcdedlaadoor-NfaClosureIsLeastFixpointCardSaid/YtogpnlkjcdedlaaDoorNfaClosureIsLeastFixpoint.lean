/-
  NfaClosureIsLeastFixpoint, for every input: the law returns true and leaves its arguments as they read. No condition beside the listed variable's own text (the card ties it).
-/
import Derived.Test.YtogpnlkjcdedlaaDoorZ04
import Derived.Test.YtogpnlkjcdedlaaDoorZ15
import Derived.Test.YtogpnlkjcdedlaaDoorZ19
set_option linter.unusedSimpArgs false
set_option linter.unusedVariables false
namespace Go.Proofs.YtogpnlkjcdedlaaDoor.nfaClosureIsLeastFixpoint
open Go.ChangeShapes Go.WideShapes Go.ChangeAt Go.RowKit Go.Frame
open Go.ChangeMaps (open_string shut_string)
open Bs Rg Nf
attribute [local irreducible] ws
attribute [local go_sem] eq_zero eq_set
set_option maxRecDepth 100000 in
set_option maxHeartbeats 4000000 in
theorem walk (N : Nfa) (a1 : Option Addr) (m c1 : Nat) (a2 : Option Addr) (k c2 : Nat) (E : List Int) (a : Option Addr) (q c : Nat) (w : World) (hN : InN w N a1 m c1 a2 k c2) (hE : Row w a q (E.map iv) ∧ q ≤ 140737488355328 ∧ q ≤ c ∧ c ≤ maxLen ∧ (a = none → c = 0) ∧ ∀ e ∈ E, -9223372036854775808 ≤ e ∧ e ≤ 9223372036854775807) (hT : Tb w) :
    Calls Tryd.prog 4 #[.agg #[.int .i64 N.n, .int .i64 N.st, .slice a1 m c1, .slice a2 k c2], .slice a q c] w fun e w' => e = .returned (.bool true) ∧ Below w.heap.size w w' := by
  have CA := hid (fun V (hV : Below w.heap.size w V) => awake_any V (hT.below hV))
  have CL := hid (fun V (hV : Below w.heap.size w V) => light_any V N a1 a2 m c1 k c2 (hN.na.below hV))
  have HI := hid (And.intro hN hT)
  have x0 := hid (alloc_new w (.cells #[.int .i64 N.n, .int .i64 N.st, .slice a1 m c1, .slice a2 k c2] 25))
  have B0 := hid (bel1 w (.cells #[.int .i64 N.n, .int .i64 N.st, .slice a1 m c1, .slice a2 k c2] 25))
  obtain ⟨y, hy⟩ : ∃ y, y = (decide (m ≤ 60) && decide (N.n ≤ 40) && valid N) := ⟨_, rfl⟩
  rw [← hy] at CL
  have HY := hid hy
  have HE := hid hE
  have hq := hE.2.1
  clear hN hT hy hE
  go_enter Tryd.func4, Tryd.ntmps4
  go_wp2_with fail
  refine (CA.out _ B0.out).mono ?_
  rintro e W ⟨rfl, b1⟩
  have X := hid (And.intro ((b1.block _ (heap_lt x0.out)).trans x0.out) (B0.out.trans (b1.mono B0.out.size)))
  clear b1 CA
  obtain ⟨d0, d1, d2, d3⟩ := cells4 X.out.1
  go_wp2_with fail
  refine (CL.out _ X.out.2).mono ?_
  rintro e W2 ⟨rfl, b2⟩
  have X2 := hid (And.intro ((b2.block _ (heap_lt X.out.1)).trans X.out.1) (X.out.2.trans (b2.mono X.out.2.size)))
  clear b2 CL d0 d1 d2 d3
  cases y
  · go_wp2
    go_ret
    exact ⟨rfl, X2.out.2⟩
  · have hy2 := HY.out
    simp only [eq_comm (a := true), Bool.and_eq_true, decide_eq_true_eq] at hy2
    obtain ⟨⟨hm, hnn⟩, hval⟩ := hy2
    obtain ⟨n, hv⟩ := valid_iff.1 hval
    have hn40 : n ≤ 40 := by have := hv.hn; omega
    have HV := hid (And.intro hv hm)
    have CN := hid (fun V (hV : Below w.heap.size w V) => NMS_any V N n hv a1 a2 m c1 k c2 HI.out.1.mc HI.out.1.cc HI.out.1.nil1 (HI.out.1.na.below hV) (by omega))
    clear hm hnn hval hv
    obtain ⟨d0, d1, d2, d3⟩ := cells4 X2.out.1
    by_cases h60 : (60 : Int) < (q : Int)
    · go_wp2
      go_ret
      exact ⟨rfl, X2.out.2⟩
    · obtain ⟨L, hL⟩ : ∃ L, L = elx n (clo (Ep N) (ini n E)) := ⟨_, rfl⟩
      have hLn : L.length ≤ 40 := by rw [hL]; exact Nat.le_trans (elx_length _ _) hn40
      have e2 : elx n (clo (Ep N) (ini n (L.map fun (x : Nat) => (x : Int)))) = L := by
        rw [hL, ini_elx fun x hx => cini_lt HV.out.1 hx, clo_clo]
      have D1 := hid (fun V (hV : Below w.heap.size w V) => show Calls Tryd.prog 15 #[.agg #[.int .i64 N.n, .int .i64 N.st, .slice a1 m c1, .slice a2 k c2], .slice a q c] V (RS L V) from hL ▸ NClosure_any V N n HV.out.1 a1 a2 m c1 k c2 (HI.out.1.na.below hV) (CN.out V hV) E a q c (HE.out.1.below hV) hq (HI.out.2.below hV))
      have D2 := hid (fun V (hV : Below w.heap.size w V) => show Calls Tryd.prog 17 #[.agg #[.int .i64 N.n, .int .i64 N.st, .slice a1 m c1, .slice a2 k c2], .slice a q c] V (RS L V) from hL ▸ RClosure_any V N n HV.out.1 a1 a2 m c1 k c2 (HI.out.1.na.below hV) E a q c (HE.out.1.below hV) hq)
      have D3 := hid (fun V (hV : Below w.heap.size w V) p c9 (hr : Row V p L.length (ints L)) => show Calls Tryd.prog 15 #[.agg #[.int .i64 N.n, .int .i64 N.st, .slice a1 m c1, .slice a2 k c2], .slice p L.length c9] V (RS L V) from by
        have h := NClosure_any V N n HV.out.1 a1 a2 m c1 k c2 (HI.out.1.na.below hV) (CN.out V hV) (L.map fun (x : Nat) => (x : Int)) p L.length c9 (by rw [← ints_iv]; exact hr) (by omega) (HI.out.2.below hV)
        rw [e2] at h
        exact h)
      have D4 := hid (fun V p1 d1 p2 d2 (h1 : Row V p1 L.length (ints L)) (h2 : Row V p2 L.length (ints L)) => show Calls Tryd.prog 16 #[.slice p1 L.length d1, .slice p2 L.length d2] V fun e w' => e = .returned (.bool true) ∧ Below V.heap.size V w' from by
        have h := RSame_any V p1 p2 L.length d1 L.length d2 _ _ (by rw [← ints_iv]; exact h1) (by rw [← ints_iv]; exact h2) (by omega)
        rw [decide_eq_true rfl] at h
        exact h)
      clear hL e2 CN
      obtain ⟨lL, hlL⟩ : ∃ lL, lL = L.length := ⟨_, rfl⟩
      have HLL := hid hlL
      unfold RS at D1 D2 D3
      rw [← hlL] at D1 D2 D3 D4 hLn
      clear hlL
      go_wp2_with fail
      refine (D1.out _ X2.out.2).mono ?_
      rintro e V1 ⟨⟨p1, q1, rfl, r1⟩, b1⟩
      have Y1 := hid (And.intro (X2.out.2.trans (b1.mono X2.out.2.size)) (And.intro ((b1.block _ (heap_lt X2.out.1)).trans X2.out.1) r1))
      clear b1 r1 d0 d1 d2 d3
      obtain ⟨d0, d1, d2, d3⟩ := cells4 Y1.out.2.1
      go_wp2_with fail
      refine (D2.out _ Y1.out.1).mono ?_
      rintro e V2 ⟨⟨p2, q2, rfl, r2⟩, b2⟩
      have Y2 := hid (And.intro (Y1.out.1.trans (b2.mono Y1.out.1.size)) (And.intro ((b2.block _ (heap_lt Y1.out.2.1)).trans Y1.out.2.1) (And.intro (Y1.out.2.2.below b2) r2)))
      clear b2 r2 d0 d1 d2 d3
      go_wp2_with fail
      refine (D4.out _ _ _ _ _ Y2.out.2.2.1 Y2.out.2.2.2).mono ?_
      rintro e V3 ⟨rfl, b3⟩
      have Y3 := hid (And.intro (Y2.out.1.trans (b3.mono Y2.out.1.size)) (And.intro ((b3.block _ (heap_lt Y2.out.2.1)).trans Y2.out.2.1) (Y2.out.2.2.1.below b3)))
      clear b3
      obtain ⟨d0, d1, d2, d3⟩ := cells4 Y3.out.2.1
      go_wp2_with fail
      refine (D3.out _ Y3.out.1 _ _ Y3.out.2.2).mono ?_
      rintro e V4 ⟨⟨p4, q4, rfl, r4⟩, b4⟩
      have Y4 := hid (And.intro (Y3.out.1.trans (b4.mono Y3.out.1.size)) (And.intro (Y3.out.2.2.below b4) r4))
      clear b4 r4 d0 d1 d2 d3
      go_wp2_with fail
      refine (D4.out _ _ _ _ _ Y4.out.2.2 Y4.out.2.1).mono ?_
      rintro e V5 ⟨rfl, b5⟩
      go_wp2
      go_ret
      exact ⟨rfl, Y4.out.1.trans (b5.mono Y4.out.1.size)⟩

set_option maxRecDepth 100000 in
theorem lifted (os : Os) (started : os.Started) (H : Type) (enc : TypeId × Value → H) :
    ReturnsInHanded {} Tryd.checked os 4 .any (fun w args => (Rows.nfaClosureIsLeastFixpointSpec.pre enc Tryd.prog Tryd.f4 [] false w args ∧ laidMetH Tryd.prog laidT w) ∧ sizedMet enc Tryd.prog Tryd.f4 (OpenSpec.ofChange Rows.nfaClosureIsLeastFixpointSpec) false w args) (Rows.nfaClosureIsLeastFixpointSpec.post enc Tryd.prog Tryd.f4 false true false false) := by
  refine Go.Frame.lifted_laid (C := Tryd.checked) (tb := 4) laidT own started (by kernel_rfl) Tryd.func4
    (ChangeSpec.witness_shaped (enc := enc) (C := Tryd.checked) (os := os) (X := fun w _ => laidMetH Tryd.prog laidT w) false (World.doorLaid Tryd.prog 400 os) #[.agg #[.int .i64 0, .int .i64 0, .slice none 0 0, .slice none 0 0], .slice none 0 0] 8 rfl (World.shaped_of_RefB (by kernel_rfl) (by kernel_rfl)) (by kernel_rfl) (by kernel_rfl) (by kernel_rfl) (door_met os _))
    laidOut (by kernel_rfl) (by kernel_rfl) Tryd.underlying4 rfl ?_ ?_
  · intro ds h
    have h : ds.length = 2 := h
    match ds, h with
    | [_, _], _ => rfl
  · intro W base args ds p hlen hval0 hA hsz0 hlaid
    have hval : ∀ (j : Nat) t v, Tryd.f4.params[j]? = some t → args[j]? = some v → Value.okWide Tryd.prog W .any base t v := hval0
    have hA : DataW.TrodAll enc Tryd.prog W 0 (fun _ => true) true Tryd.f4.params.toList args.toList ds p := hA
    have hsz : (DataW.weightsEach Tryd.prog Tryd.f4.params.toList ds).all (· ≤ reachBytes) = true := hsz0
    have hT := tb_of_laid hlaid
    rw [Tryd.params4] at hA hval hsz
    obtain ⟨v0, vs0, d0, ds0, p0, q0, hargs, hds, _, th0, tr0⟩ := trodAll_cons hA
    obtain ⟨v1, vs1, d1, ds1, p1, q1, rfl, rfl, _, th1, tr1⟩ := trodAll_cons tr0
    obtain ⟨rfl, rfl, _⟩ := trodAll_nil tr1
    obtain rfl : args = #[v0, v1] := by cases args; simp_all
    subst hds
    obtain ⟨Au0, a0x, m0, c0x, a0y, k0, c0y, rfl, hAu0⟩ := open_nfa (hval 0 25 v0 rfl rfl) th0 (fun n hn => of_decide_eq_true (List.all_eq_true.1 hsz _ (DataW.weights_mem_each (j := 0) rfl rfl n hn)))
    obtain ⟨E1, a1, l1, c1, rfl, hE1⟩ := open_ints (hval 1 23 v1 rfl rfl) th1 (fun n hn => of_decide_eq_true (List.all_eq_true.1 hsz _ (DataW.weights_mem_each (j := 1) rfl rfl n hn)))
    exact walk Au0 a0x m0 c0x a0y k0 c0y E1 a1 l1 c1 W hAu0 hE1 hT

theorem over : Rows.NfaClosureIsLeastFixpointSaid :=
  OpenClaim.holds_of_wide 4 Tryd.f4 rfl rfl rfl rfl rfl rfl rfl ⟨rfl, rfl, rfl, rfl, rfl⟩ rfl rfl rfl rfl rfl (by kernel_rfl) Tryd.func4 (by kernel_rfl)
    (of_decide_eq_true (by kernel_rfl)) (by unfold Func.isWrapper; first | (rw [if_pos (by decide +kernel)]; kernel_rfl) | (rw [if_neg (by decide +kernel)]; exact ⟨rfl, rfl⟩))
    (fun os started H enc _ => lifted os started H enc)

/-- THE STATEMENT: the tied card. -/
theorem proved : Rows.NfaClosureIsLeastFixpointCardSaid :=
  Claim7.holds_tied_plain_at .later [] [.data] true (true, "71511bba388963e0e3fd5284ca385c3324698947e3f3d6d231727d3500f7d1f1") false
    over (fun _ h => by cases h) (by kernel_rfl) (fun _ h => by cases h) nfaClosureIsLeastFixpoint_row_tie rfl ⟨rfl, rfl⟩ (by kernel_rfl) rfl
    (fun f fn hf hfn => by
      obtain rfl : f = 4 := Option.some.inj ((show Tryd.prog.funcNamed "emendate/emendatelaw09.NfaClosureIsLeastFixpoint" = some 4 by kernel_rfl).symm.trans hf) |>.symm
      obtain rfl : fn = Tryd.f4 := (Option.some.inj (Tryd.func4.symm.trans hfn)).symm
      exact ⟨by kernel_rfl, fun j t ht => by
        rw [Tryd.params4] at ht
        have hm : t ∈ [25, 23] := by simpa using Array.mem_of_getElem? ht
        have hall : ([25, 23].all fun u => !Tryd.prog.wantsStandIn u) = true := by kernel_rfl
        exact (show Tryd.prog.wantsStandIn t = false by simpa using List.all_eq_true.1 hall t hm)⟩)
    (by kernel_rfl)
#print axioms proved
end Go.Proofs.YtogpnlkjcdedlaaDoor.nfaClosureIsLeastFixpoint
