/-
  NfaValidMatchesReference, for every input: the law returns true and leaves its arguments as they read. No condition beside the listed variable's own text (the card ties it).
-/
import Derived.Test.YtogpnlkjcdedlaaDoorOa
import Derived.Test.YtogpnlkjcdedlaaDoorBs
import Derived.Test.YtogpnlkjcdedlaaDoorRv
set_option linter.unusedSimpArgs false
set_option linter.unusedVariables false
namespace Go.Proofs.YtogpnlkjcdedlaaDoor.nfaValidMatchesReference
open Go.ChangeShapes Go.WideShapes Go.ChangeAt Go.RowKit Go.Frame
open Go.ChangeMaps (open_string shut_string)
open Bs Rg Nf
attribute [local irreducible] ws
attribute [local go_sem] eq_zero eq_set
set_option maxRecDepth 100000 in
set_option maxHeartbeats 4000000 in
theorem walk (N : Nfa) (a1 : Option Addr) (m c1 : Nat) (a2 : Option Addr) (k c2 : Nat) (w : World) (hN : InN w N a1 m c1 a2 k c2) (hT : Tb w) :
    Calls Tryd.prog 3 #[.agg #[.int .i64 N.n, .int .i64 N.st, .slice a1 m c1, .slice a2 k c2]] w fun e w' => e = .returned (.bool true) ∧ Below w.heap.size w w' := by
  have CA := hid (fun V (hV : Below w.heap.size w V) => awake_any V (hT.below hV))
  have CV := hid (fun V (hV : Below w.heap.size w V) => NValid_any V N a1 a2 m c1 k c2 (hN.na.below hV))
  have CR := hid (fun V (hV : Below w.heap.size w V) => RValid_any V N a1 a2 m c1 k c2 (hN.na.below hV))
  have hm := hN.na.hm
  obtain ⟨y, hy⟩ : ∃ y, y = valid N := ⟨_, rfl⟩
  rw [← hy] at CV CR
  clear hN hT hy
  obtain ⟨n, st, arcs, acc⟩ := N
  simp only at CV CR
  have x0 := hid (alloc_new w (.cells #[.int .i64 n, .int .i64 st, .slice a1 m c1, .slice a2 k c2] 25))
  have B0 := hid (bel1 w (.cells #[.int .i64 n, .int .i64 st, .slice a1 m c1, .slice a2 k c2] 25))
  go_enter Tryd.func3, Tryd.ntmps3
  go_wp2_with fail
  refine (CA.out _ B0.out).mono ?_
  rintro e W ⟨rfl, b1⟩
  have X := hid (And.intro ((b1.block _ (heap_lt x0.out)).trans x0.out) (B0.out.trans (b1.mono B0.out.size)))
  clear b1
  by_cases h1 : 2000 < m
  · have h2 : decide ((2000 : Int) < (m : Int)) = true := decide_eq_true (by omega)
    obtain ⟨d0, d1, d2, d3⟩ := cells4 X.out.1
    go_wp2_with fail
    go_quiet (fail)
    go_wp2
    go_ret
    exact ⟨rfl, below_drewN X.out.2 _⟩
  · have h2 : decide ((2000 : Int) < (m : Int)) = false := decide_eq_false (by omega)
    go_wp2_with fail
    refine wp_region_below (by kernel_rfl) (by kernel_rfl) ?_
    intro X' f _ hf hs
    have lA := heap_lt X.out.1
    have k0 := fun x => (cells4 (((hf.out x).block _ lA).trans X.out.1)).1
    have k1 := fun x => (cells4 (((hf.out x).block _ lA).trans X.out.1)).2.1
    have k2 := fun x => (cells4 (((hf.out x).block _ lA).trans X.out.1)).2.2.1
    have k3 := fun x => (cells4 (((hf.out x).block _ lA).trans X.out.1)).2.2.2
    have DV := hid (fun V (hV : Below W.heap.size W V) => CV.out V (X.out.2.trans (hV.mono X.out.2.size)))
    have DR := hid (fun V (hV : Below W.heap.size W V) => CR.out V (X.out.2.trans (hV.mono X.out.2.size)))
    clear CA CV CR
    repeat (go_big_quiet_step (first
      | (go_at_call 12; exact calls_below hf hs (DV.out _ (hf.out _)))
      | (go_at_call 13; exact calls_below hf hs (DR.out _ (hf.out _)))))
    refine wpQuiet_nil ?_
    intro w' hw'
    clear k0 k1 k2 k3 hf hs
    go_wp2
    go_ret
    exact ⟨by simp, X.out.2.trans (hw'.mono X.out.2.size)⟩

set_option maxRecDepth 100000 in
theorem lifted (os : Os) (started : os.Started) (H : Type) (enc : TypeId × Value → H) :
    ReturnsInHanded {} Tryd.checked os 3 .any (fun w args => (Rows.nfaValidMatchesReferenceSpec.pre enc Tryd.prog Tryd.f3 [] false w args ∧ laidMetH Tryd.prog laidT w) ∧ sizedMet enc Tryd.prog Tryd.f3 (OpenSpec.ofChange Rows.nfaValidMatchesReferenceSpec) false w args) (Rows.nfaValidMatchesReferenceSpec.post enc Tryd.prog Tryd.f3 false true false false) := by
  refine Go.Frame.lifted_laid (C := Tryd.checked) (tb := 4) laidT own started (by kernel_rfl) Tryd.func3
    (ChangeSpec.witness_shaped (enc := enc) (C := Tryd.checked) (os := os) (X := fun w _ => laidMetH Tryd.prog laidT w) false (World.doorLaid Tryd.prog 400 os) #[.agg #[.int .i64 0, .int .i64 0, .slice none 0 0, .slice none 0 0]] 8 rfl (World.shaped_of_RefB (by kernel_rfl) (by kernel_rfl)) (by kernel_rfl) (by kernel_rfl) (by kernel_rfl) (door_met os _))
    laidOut (by kernel_rfl) (by kernel_rfl) Tryd.underlying4 rfl ?_ ?_
  · intro ds h
    have h : ds.length = 1 := h
    match ds, h with
    | [_], _ => rfl
  · intro W base args ds p hlen hval0 hA hsz0 hlaid
    have hval : ∀ (j : Nat) t v, Tryd.f3.params[j]? = some t → args[j]? = some v → Value.okWide Tryd.prog W .any base t v := hval0
    have hA : DataW.TrodAll enc Tryd.prog W 0 (fun _ => true) true Tryd.f3.params.toList args.toList ds p := hA
    have hsz : (DataW.weightsEach Tryd.prog Tryd.f3.params.toList ds).all (· ≤ reachBytes) = true := hsz0
    have hT := tb_of_laid hlaid
    rw [Tryd.params3] at hA hval hsz
    obtain ⟨v0, vs0, d0, ds0, p0, q0, hargs, hds, _, th0, tr0⟩ := trodAll_cons hA
    obtain ⟨rfl, rfl, _⟩ := trodAll_nil tr0
    obtain rfl : args = #[v0] := by cases args; simp_all
    subst hds
    obtain ⟨Au0, a0x, m0, c0x, a0y, k0, c0y, rfl, hAu0⟩ := open_nfa (hval 0 25 v0 rfl rfl) th0 (fun n hn => of_decide_eq_true (List.all_eq_true.1 hsz _ (DataW.weights_mem_each (j := 0) rfl rfl n hn)))
    exact walk Au0 a0x m0 c0x a0y k0 c0y W hAu0 hT

theorem over : Rows.NfaValidMatchesReferenceSaid :=
  OpenClaim.holds_of_wide 3 Tryd.f3 rfl rfl rfl rfl rfl rfl rfl ⟨rfl, rfl, rfl, rfl, rfl⟩ rfl rfl rfl rfl rfl (by kernel_rfl) Tryd.func3 (by kernel_rfl)
    (of_decide_eq_true (by kernel_rfl)) (by unfold Func.isWrapper; first | (rw [if_pos (by decide +kernel)]; kernel_rfl) | (rw [if_neg (by decide +kernel)]; exact ⟨rfl, rfl⟩))
    (fun os started H enc _ => lifted os started H enc)

/-- THE STATEMENT: the tied card. -/
theorem proved : Rows.NfaValidMatchesReferenceCardSaid :=
  Claim7.holds_tied_plain_at .later [] [.data] true (true, "71511bba388963e0e3fd5284ca385c3324698947e3f3d6d231727d3500f7d1f1") false
    over (fun _ h => by cases h) (by kernel_rfl) (fun _ h => by cases h) nfaValidMatchesReference_row_tie rfl ⟨rfl, rfl⟩ (by kernel_rfl) rfl
    (fun f fn hf hfn => by
      obtain rfl : f = 3 := Option.some.inj ((show Tryd.prog.funcNamed "emendate/emendatelaw09.NfaValidMatchesReference" = some 3 by kernel_rfl).symm.trans hf) |>.symm
      obtain rfl : fn = Tryd.f3 := (Option.some.inj (Tryd.func3.symm.trans hfn)).symm
      exact ⟨by kernel_rfl, fun j t ht => by
        rw [Tryd.params3] at ht
        have hm : t ∈ [25] := by simpa using Array.mem_of_getElem? ht
        have hall : ([25].all fun u => !Tryd.prog.wantsStandIn u) = true := by kernel_rfl
        exact (show Tryd.prog.wantsStandIn t = false by simpa using List.all_eq_true.1 hall t hm)⟩)
    (by kernel_rfl)
#print axioms proved
end Go.Proofs.YtogpnlkjcdedlaaDoor.nfaValidMatchesReference
