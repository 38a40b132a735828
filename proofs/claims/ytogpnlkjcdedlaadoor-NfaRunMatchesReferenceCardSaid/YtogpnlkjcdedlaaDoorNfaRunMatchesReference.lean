/-
  NfaRunMatchesReference, for every input: the law returns true and leaves its arguments as they read. No condition beside the listed variable's own text (the card ties it).
-/
import Derived.Test.YtogpnlkjcdedlaaDoorZ04
import Derived.Test.YtogpnlkjcdedlaaDoorZ15
import Derived.Test.YtogpnlkjcdedlaaDoorZ19
set_option linter.unusedSimpArgs false
set_option linter.unusedVariables false
namespace Go.Proofs.YtogpnlkjcdedlaaDoor.nfaRunMatchesReference
open Go.ChangeShapes Go.WideShapes Go.ChangeAt Go.RowKit Go.Frame
open Go.ChangeMaps (open_string shut_string)
open Bs Rg Nf
attribute [local irreducible] ws
attribute [local go_sem] eq_zero eq_set
set_option maxRecDepth 100000 in
set_option maxHeartbeats 4000000 in
theorem walk (N : Nfa) (a1 : Option Addr) (m c1 : Nat) (a2 : Option Addr) (k c2 : Nat) (s : ByteArray) (w : World) (hN : InN w N a1 m c1 a2 k c2) (hT : Tb w) :
    Calls Tryd.prog 7 #[.agg #[.int .i64 N.n, .int .i64 N.st, .slice a1 m c1, .slice a2 k c2], .string s] w fun e w' => e = .returned (.bool true) ∧ Below w.heap.size w w' := by
  have CA := hid (fun V (hV : Below w.heap.size w V) => awake_any V (hT.below hV))
  have CL := hid (fun V (hV : Below w.heap.size w V) => light_any V N a1 a2 m c1 k c2 (hN.na.below hV))
  have HI := hid (And.intro hN hT)
  have x0 := hid (alloc_new w (.cells #[.int .i64 N.n, .int .i64 N.st, .slice a1 m c1, .slice a2 k c2] 25))
  have B0 := hid (bel1 w (.cells #[.int .i64 N.n, .int .i64 N.st, .slice a1 m c1, .slice a2 k c2] 25))
  obtain ⟨y, hy⟩ : ∃ y, y = (decide (m ≤ 60) && decide (N.n ≤ 40) && valid N) := ⟨_, rfl⟩
  rw [← hy] at CL
  have HY := hid hy
  clear hN hT hy
  go_enter Tryd.func7, Tryd.ntmps7
  go_wp2_with fail
  refine (CA.out _ B0.out).mono ?_
  rintro e W ⟨rfl, b1⟩
  have X := hid (And.intro ((b1.block _ (heap_lt x0.out)).trans x0.out) (B0.out.trans (b1.mono B0.out.size)))
  clear b1 CA
  obtain ⟨d0, d1, d2, d3⟩ := cells4 X.out.1
  go_wp2_with fail
  refine (CL.out _ X.out.2).mono ?_
  rintro e W2 ⟨rfl, b2⟩
  have X2 := hid (And.intro ((b2.block _ (heap_lt X.out.1)).trans X.out.1) (X.out.2.trans (b2.mono X.out.2.size)))
  clear b2 CL d0 d1 d2 d3
  cases y
  · go_wp2
    go_ret
    exact ⟨rfl, X2.out.2⟩
  · have hy2 := HY.out
    simp only [eq_comm (a := true), Bool.and_eq_true, decide_eq_true_eq] at hy2
    obtain ⟨⟨hm, hnn⟩, hval⟩ := hy2
    obtain ⟨n, hv⟩ := valid_iff.1 hval
    have hn40 : n ≤ 40 := by have := hv.hn; omega
    have HV := hid (And.intro hv hm)
    have CN := hid (fun V (hV : Below w.heap.size w V) => NMS_any V N n hv a1 a2 m c1 k c2 HI.out.1.mc HI.out.1.cc HI.out.1.nil1 (HI.out.1.na.below hV) (by omega))
    clear hm hnn hval hv
    obtain ⟨d0, d1, d2, d3⟩ := cells4 X2.out.1
    by_cases h30 : (30 : Int) < (s.size : Int)
    · go_wp2
      go_ret
      exact ⟨rfl, X2.out.2⟩
    · have hs6 : s.size ≤ 1000000 := by omega
      obtain ⟨z, hz⟩ : ∃ z, z = run N n s.data.toList := ⟨_, rfl⟩
      have D1 := hid (fun V (hV : Below w.heap.size w V) => show Calls Tryd.prog 20 #[.agg #[.int .i64 N.n, .int .i64 N.st, .slice a1 m c1, .slice a2 k c2], .string s] V fun e w' => e = .returned (.int .i64 z) ∧ Below V.heap.size V w' from hz ▸ NRun_any V N n HV.out.1 a1 a2 m c1 k c2 (HI.out.1.na.below hV) (CN.out V hV) s hs6 (HI.out.2.below hV))
      have D2 := hid (fun V (hV : Below w.heap.size w V) => show Calls Tryd.prog 21 #[.agg #[.int .i64 N.n, .int .i64 N.st, .slice a1 m c1, .slice a2 k c2], .string s] V fun e w' => e = .returned (.int .i64 z) ∧ Below V.heap.size V w' from hz ▸ RRun_any V N n HV.out.1 a1 a2 m c1 k c2 (HI.out.1.na.below hV) (by have := HV.out.2; omega) s hs6)
      clear hz CN
      go_wp2_with fail
      refine wp_region_below (by kernel_rfl) (by kernel_rfl) ?_
      intro X' f _ hf hs
      have lA := heap_lt X2.out.1
      clear d0 d1 d2 d3
      have k0 := fun x => (cells4 (((hf.out x).block _ lA).trans X2.out.1)).1
      have k1 := fun x => (cells4 (((hf.out x).block _ lA).trans X2.out.1)).2.1
      have k2 := fun x => (cells4 (((hf.out x).block _ lA).trans X2.out.1)).2.2.1
      have k3 := fun x => (cells4 (((hf.out x).block _ lA).trans X2.out.1)).2.2.2
      have E1 := hid (fun V (hV : Below W2.heap.size W2 V) => D1.out V (X2.out.2.trans (hV.mono X2.out.2.size)))
      have E2 := hid (fun V (hV : Below W2.heap.size W2 V) => D2.out V (X2.out.2.trans (hV.mono X2.out.2.size)))
      clear D1 D2
      repeat (go_big_quiet_step (first
        | (go_at_call 20; exact calls_below hf hs (E1.out _ (hf.out _)))
        | (go_at_call 21; exact calls_below hf hs (E2.out _ (hf.out _)))))
      refine wpQuiet_nil ?_
      intro w' hw'
      clear k0 k1 k2 k3 hf hs
      go_wp2
      go_ret
      exact ⟨by simp, X2.out.2.trans (hw'.mono X2.out.2.size)⟩

set_option maxRecDepth 100000 in
theorem lifted (os : Os) (started : os.Started) (H : Type) (enc : TypeId × Value → H) :
    ReturnsInHanded {} Tryd.checked os 7 .any (fun w args => (Rows.nfaRunMatchesReferenceSpec.pre enc Tryd.prog Tryd.f7 [] false w args ∧ laidMetH Tryd.prog laidT w) ∧ sizedMet enc Tryd.prog Tryd.f7 (OpenSpec.ofChange Rows.nfaRunMatchesReferenceSpec) false w args) (Rows.nfaRunMatchesReferenceSpec.post enc Tryd.prog Tryd.f7 false true false false) := by
  refine Go.Frame.lifted_laid (C := Tryd.checked) (tb := 4) laidT own started (by kernel_rfl) Tryd.func7
    (ChangeSpec.witness_shaped (enc := enc) (C := Tryd.checked) (os := os) (X := fun w _ => laidMetH Tryd.prog laidT w) false (World.doorLaid Tryd.prog 400 os) #[.agg #[.int .i64 0, .int .i64 0, .slice none 0 0, .slice none 0 0], .string ByteArray.empty] 8 rfl (World.shaped_of_RefB (by kernel_rfl) (by kernel_rfl)) (by kernel_rfl) (by kernel_rfl) (by kernel_rfl) (door_met os _))
    laidOut (by kernel_rfl) (by kernel_rfl) Tryd.underlying4 rfl ?_ ?_
  · intro ds h
    have h : ds.length = 2 := h
    match ds, h with
    | [_, _], _ => rfl
  · intro W base args ds p hlen hval0 hA hsz0 hlaid
    have hval : ∀ (j : Nat) t v, Tryd.f7.params[j]? = some t → args[j]? = some v → Value.okWide Tryd.prog W .any base t v := hval0
    have hA : DataW.TrodAll enc Tryd.prog W 0 (fun _ => true) true Tryd.f7.params.toList args.toList ds p := hA
    have hsz : (DataW.weightsEach Tryd.prog Tryd.f7.params.toList ds).all (· ≤ reachBytes) = true := hsz0
    have hT := tb_of_laid hlaid
    rw [Tryd.params7] at hA hval hsz
    obtain ⟨v0, vs0, d0, ds0, p0, q0, hargs, hds, _, th0, tr0⟩ := trodAll_cons hA
    obtain ⟨v1, vs1, d1, ds1, p1, q1, rfl, rfl, _, th1, tr1⟩ := trodAll_cons tr0
    obtain ⟨rfl, rfl, _⟩ := trodAll_nil tr1
    obtain rfl : args = #[v0, v1] := by cases args; simp_all
    subst hds
    obtain ⟨Au0, a0x, m0, c0x, a0y, k0, c0y, rfl, hAu0⟩ := open_nfa (hval 0 25 v0 rfl rfl) th0 (fun n hn => of_decide_eq_true (List.all_eq_true.1 hsz _ (DataW.weights_mem_each (j := 0) rfl rfl n hn)))
    obtain ⟨t1, rfl, hd1, _, _⟩ := open_string Tryd.underlying9 (hval 1 9 v1 rfl rfl) th1
    exact walk Au0 a0x m0 c0x a0y k0 c0y t1 W hAu0 hT

theorem over : Rows.NfaRunMatchesReferenceSaid :=
  OpenClaim.holds_of_wide 7 Tryd.f7 rfl rfl rfl rfl rfl rfl rfl ⟨rfl, rfl, rfl, rfl, rfl⟩ rfl rfl rfl rfl rfl (by kernel_rfl) Tryd.func7 (by kernel_rfl)
    (of_decide_eq_true (by kernel_rfl)) (by unfold Func.isWrapper; first | (rw [if_pos (by decide +kernel)]; kernel_rfl) | (rw [if_neg (by decide +kernel)]; exact ⟨rfl, rfl⟩))
    (fun os started H enc _ => lifted os started H enc)

/-- THE STATEMENT: the tied card. -/
theorem proved : Rows.NfaRunMatchesReferenceCardSaid :=
  Claim7.holds_tied_plain_at .later [] [.data] true (true, "71511bba388963e0e3fd5284ca385c3324698947e3f3d6d231727d3500f7d1f1") false
    over (fun _ h => by cases h) (by kernel_rfl) (fun _ h => by cases h) nfaRunMatchesReference_row_tie rfl ⟨rfl, rfl⟩ (by kernel_rfl) rfl
    (fun f fn hf hfn => by
      obtain rfl : f = 7 := Option.some.inj ((show Tryd.prog.funcNamed "emendate/emendatelaw09.NfaRunMatchesReference" = some 7 by kernel_rfl).symm.trans hf) |>.symm
      obtain rfl : fn = Tryd.f7 := (Option.some.inj (Tryd.func7.symm.trans hfn)).symm
      exact ⟨by kernel_rfl, fun j t ht => by
        rw [Tryd.params7] at ht
        have hm : t ∈ [25, 9] := by simpa using Array.mem_of_getElem? ht
        have hall : ([25, 9].all fun u => !Tryd.prog.wantsStandIn u) = true := by kernel_rfl
        exact (show Tryd.prog.wantsStandIn t = false by simpa using List.all_eq_true.1 hall t hm)⟩)
    (by kernel_rfl)
#print axioms proved
end Go.Proofs.YtogpnlkjcdedlaaDoor.nfaRunMatchesReference
