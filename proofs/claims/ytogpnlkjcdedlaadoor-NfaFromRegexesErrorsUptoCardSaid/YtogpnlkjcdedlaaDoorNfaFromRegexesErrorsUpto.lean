/-
  NfaFromRegexesErrors, for every input of bulk at most 1048576 (the statement's second form): the law returns true and leaves its arguments as they read. No condition beside that and the listed variable's own text (the card ties it).
-/
import Derived.Test.YtogpnlkjcdedlaaDoorZ04
import Derived.Test.YtogpnlkjcdedlaaDoorZ15
import Derived.Deep.DeepWitnessRowRef
set_option linter.unusedSimpArgs false
set_option linter.unusedVariables false
namespace Go.Proofs.YtogpnlkjcdedlaaDoor.nfaFromRegexesErrorsUpto
open Go.ChangeShapes Go.WideShapes Go.ChangeAt Go.RowKit Go.Frame
open Go.ChangeMaps (open_string shut_string)
open Bs Rg Nf
attribute [local irreducible] ws
attribute [local go_sem] eq_zero eq_set
theorem FR_cases {l : List Rx} {e : Ending} {w' : World} (h : FR l e w') :
    (ckE l ≠ 0 ∧ e = .returned (.tuple #[zNFA, .int .i64 (ckE l : Int)])) ∨
    (ckE l = 0 ∧ ∃ a1 m c1 a2 c2, e = .returned (.tuple #[.agg #[.int .i64 ((npL l + 1 : Nat) : Int), .int .i64 0, .slice a1 m c1, .slice a2 (npL l + 1) c2], .int .i64 0]) ∧ NA w' (PA l) a1 m a2 (npL l + 1)) := by
  unfold FR at h
  unfold ckE
  by_cases h1 : (l.all fun x => fits x 30) = false
  · rw [if_pos h1] at h ⊢
    exact .inl ⟨by decide, h⟩
  · rw [if_neg h1] at h ⊢
    by_cases h2 : 500 < partsL l
    · rw [if_pos h2] at h ⊢
      exact .inl ⟨by decide, h⟩
    · rw [if_neg h2] at h ⊢
      obtain ⟨a1, m, c1, a2, c2, rfl, h, _⟩ := h
      exact .inr ⟨rfl, a1, m, c1, a2, c2, rfl, h⟩
set_option maxRecDepth 100000 in
set_option maxHeartbeats 4000000 in
theorem walk (l : List Rx) (a : Option Addr) (n c : Nat) (w : World) (hK : Kd (fun _ => True) w a n l) (hp : partsL l ≤ 1048576) (hT : Tb w) :
    Calls Tryd.prog 10 #[.slice a n c] w fun e w' => e = .returned (.bool true) ∧ Below w.heap.size w w' := by
  have CA := hid (awake_any w hT)
  have CF := hid (fun V (hV : Below w.heap.size w V) => FromRegexes_any _ l a n c V (hK.below hV))
  have CC := hid (fun V (hV : Below w.heap.size w V) => Check_any _ l a n c V (Nat.le_trans hp (by decide)) (hK.below hV))
  have hnn := hK.lt
  have CZ := hid (fun Z => show Calls Tryd.prog 12 #[.agg #[.int .i64 0, .int .i64 0, .slice none 0 0, .slice none 0 0]] Z fun r w' => r = .returned (.bool false) ∧ Below Z.heap.size Z w' from
    NValid_any Z ⟨0, 0, [], []⟩ none none 0 0 0 0 ⟨⟨rfl, .inl rfl⟩, ⟨rfl, .inl rfl⟩, by decide, by decide⟩)
  clear hK hp hT
  go_enter Tryd.func10, Tryd.ntmps10
  go_wp2_with fail
  refine CA.out.mono ?_
  rintro e W ⟨rfl, b1⟩
  have B1 := hid b1
  clear b1 CA
  by_cases h40 : (40 : Int) < (n : Int)
  · go_wp2
    go_ret
    exact ⟨rfl, B1.out⟩
  · go_wp2_with fail
    refine (CF.out _ B1.out).mono ?_
    rintro e V ⟨hF, b2⟩
    have B2 := hid (B1.out.trans (b2.mono B1.out.size))
    clear b2 CF
    rcases FR_cases hF with ⟨hne, rfl⟩ | ⟨h0, a1, m, c1, a2, c2, rfl, hN⟩
    · clear hF
      have B3 := hid (B2.out.trans ((bel1 V (.cells #[.int .i64 0, .int .i64 0, .slice none 0 0, .slice none 0 0] 25)).mono B2.out.size))
      have x0 := hid (alloc_new V (.cells #[.int .i64 0, .int .i64 0, .slice none 0 0, .slice none 0 0] 25))
      unfold zNFA
      go_wp2_with fail
      refine (CC.out _ B3.out).mono ?_
      rintro e U ⟨rfl, b4⟩
      have B4 := hid (B3.out.trans (b4.mono B3.out.size))
      have x1 := (b4.block _ (heap_lt x0.out)).trans x0.out
      clear b4 CC
      obtain ⟨d0, d1, d2, d3⟩ := cells4 x1
      go_wp2_with fail
      refine (CZ.out _).mono ?_
      rintro e U2 ⟨rfl, b5⟩
      go_wp2
      go_ret
      refine ⟨?_, B4.out.trans (b5.mono B4.out.size)⟩
      show Ending.returned (.bool (!((ckE l : Int) == 0))) = _
      rw [show ((ckE l : Int) == 0) = false by simpa using hne]; rfl
    · clear hF
      have hV0 : valid (PA l) = true := valid_iff.2 ⟨_, ck_vn h0⟩
      obtain ⟨X, hX⟩ : ∃ X, X = V.alloc (.cells #[.int .i64 ((npL l + 1 : Nat) : Int), .int .i64 0, .slice a1 m c1, .slice a2 (npL l + 1) c2] 25) := ⟨_, rfl⟩
      have bX : Below V.heap.size V X := by rw [hX]; exact bel1 _ _
      have B3 := hid (B2.out.trans (bX.mono B2.out.size))
      have x0 := hid (show X.heap[V.heap.size]? = some (.cells #[.int .i64 ((npL l + 1 : Nat) : Int), .int .i64 0, .slice a1 m c1, .slice a2 (npL l + 1) c2] 25 (0, 0)) from by rw [hX]; exact alloc_new _ _)
      have CV := hid (fun Z (hZ : Below X.heap.size X Z) => show Calls Tryd.prog 12 #[.agg #[.int .i64 ((npL l + 1 : Nat) : Int), .int .i64 0, .slice a1 m c1, .slice a2 (npL l + 1) c2]] Z fun r w' => r = .returned (.bool true) ∧ Below Z.heap.size Z w' from by
        have h := NValid_any Z (PA l) a1 a2 m c1 (npL l + 1) c2 ((hN.below bX).below hZ)
        rw [hV0] at h
        exact h)
      have CC2 := hid (fun V (hV : Below w.heap.size w V) => show Calls Tryd.prog 28 #[.slice a n c] V fun e w' => e = .returned (.int .i64 0) ∧ Below V.heap.size V w' from by have h := CC.out V hV; rw [h0] at h; exact h)
      obtain ⟨np1, hnp⟩ : ∃ q : Nat, q = npL l + 1 := ⟨_, rfl⟩
      rw [← hnp] at CV x0 hX ⊢
      clear hN hV0 CC h0 bX hnp
      go_upto_region 6 with fail
      rw [← hX]
      clear hX
      go_wp2_with fail
      refine (CC2.out _ B3.out).mono ?_
      rintro e U ⟨rfl, b4⟩
      have B4 := hid b4
      have x1 := (b4.block _ (heap_lt x0.out)).trans x0.out
      clear b4 CC2
      obtain ⟨d0, d1, d2, d3⟩ := cells4 x1
      go_wp2_with fail
      refine (CV.out _ B4.out).mono ?_
      rintro e U2 ⟨rfl, b5⟩
      go_wp2
      go_ret
      exact ⟨rfl, B3.out.trans ((B4.out.trans (b5.mono B4.out.size)).mono B3.out.size)⟩

theorem reads (os : Os) {H : Type} (enc : TypeId × Value → H) : DataW.whole enc Tryd.prog ((World.doorLaid Tryd.prog 400 os).forCall (fun _ _ => 0) ⟨#[], #[.slice none 0 0], []⟩).memory Tryd.f10.params.toList Rows.nfaFromRegexesErrorsSpec.vars false #[.slice none 0 0].toList 8 = some ([.nil], [], []) := by kernel_rfl
set_option maxRecDepth 100000 in
theorem lifted (os : Os) (started : os.Started) (H : Type) (enc : TypeId × Value → H) (F : Stop.Interp) :
    ReturnsInHanded {} Tryd.checked os 10 .any ((Rows.OpenSpec.upto Rows.nfaFromRegexesErrorsSpec).preRow enc Tryd.prog Tryd.f10 Rows.nfaFromRegexesErrorsUptoRow.domain false Rows.nfaFromRegexesErrorsUptoRow.laid) (((Rows.OpenSpec.upto Rows.nfaFromRegexesErrorsSpec).at F).post enc Tryd.prog Tryd.f10 false true false false) := by
  refine Go.Frame.lifted_row (C := Tryd.checked) (tb := 4) (s := Rows.nfaFromRegexesErrorsSpec) (K := Rows.uptoSmall) laidT rfl own started (by kernel_rfl) Tryd.func10
    (witness_row_atRef (enc := enc) (C := Tryd.checked) false (World.doorLaid Tryd.prog 400 os) #[.slice none 0 0] rfl (by kernel_rfl) (by kernel_rfl) (by kernel_rfl)
      (OpenSpec.preRow_of_cond 8 (reads os enc) (by kernel_rfl) (fun k hk => by cases hk; kernel_rfl) (by kernel_rfl) (door_met os _)))
    laidOut (by kernel_rfl) (by kernel_rfl) Tryd.underlying4 rfl ?_ ?_
  · intro ds h
    have h : ds.length = 1 := h
    match ds, h with
    | [_], _ => rfl
  · intro W base args ds p hlen hval0 hA hsz0 hbulk0 hlaid
    have hval : ∀ (j : Nat) t v, Tryd.f10.params[j]? = some t → args[j]? = some v → Value.okWide Tryd.prog W .any base t v := hval0
    have hA : DataW.TrodAll enc Tryd.prog W 0 (fun _ => true) true Tryd.f10.params.toList args.toList ds p := hA
    have hsz : (DataW.weightsEach Tryd.prog Tryd.f10.params.toList ds).all (· ≤ reachBytes) = true := hsz0
    have hT := tb_of_laid hlaid
    have hbulk : Rows.uptoBulkAll ds ≤ 1048576 := of_decide_eq_true hbulk0
    rw [Tryd.params10] at hA hval hsz
    obtain ⟨v0, vs0, d0, ds0, p0, q0, hargs, hds, _, th0, tr0⟩ := trodAll_cons hA
    obtain ⟨rfl, rfl, _⟩ := trodAll_nil tr0
    obtain rfl : args = #[v0] := by cases args; simp_all
    subst hds
    obtain ⟨q0, a0, l0, c0, rfl, hq0, hp0⟩ := open_rxsb (hval 0 37 v0 rfl rfl) th0 (fun n hn => of_decide_eq_true (List.all_eq_true.1 hsz _ (DataW.weights_mem_each (j := 0) rfl rfl n hn)))
    have hb0 : partsL q0 ≤ 1048576 := by simp only [Rows.uptoBulkAll] at hbulk; omega
    exact walk q0 a0 l0 c0 W hq0 hb0 hT

theorem over : Rows.NfaFromRegexesErrorsUptoSaid :=
  OpenClaim.holds_of_cond 10 Tryd.f10 rfl rfl rfl rfl rfl rfl rfl ⟨rfl, rfl, rfl, rfl, rfl⟩ rfl rfl rfl rfl rfl (by kernel_rfl) Tryd.func10 (by kernel_rfl)
    (of_decide_eq_true (by kernel_rfl)) (by unfold Func.isWrapper; first | (rw [if_pos (by decide +kernel)]; kernel_rfl) | (rw [if_neg (by decide +kernel)]; exact ⟨rfl, rfl⟩))
    (fun os started H enc _ F => by rw [OpenClaim.pre_eq_preRow]; exact lifted os started H enc F)

/-- THE STATEMENT: the tied card. -/
theorem proved : Rows.NfaFromRegexesErrorsUptoCardSaid :=
  Claim7.holds_tied_plain_at .later [] [.data] true (true, "71511bba388963e0e3fd5284ca385c3324698947e3f3d6d231727d3500f7d1f1") false
    over (fun _ h => by cases h) (by kernel_rfl) (fun _ h => by cases h) nfaFromRegexesErrorsUpto_row_tie rfl ⟨rfl, rfl⟩ (by kernel_rfl) rfl
    (fun f fn hf hfn => by
      obtain rfl : f = 10 := Option.some.inj ((show Tryd.prog.funcNamed "emendate/emendatelaw09.NfaFromRegexesErrors" = some 10 by kernel_rfl).symm.trans hf) |>.symm
      obtain rfl : fn = Tryd.f10 := (Option.some.inj (Tryd.func10.symm.trans hfn)).symm
      exact ⟨by kernel_rfl, fun j t ht => by
        rw [Tryd.params10] at ht
        have hm : t ∈ [37] := by simpa using Array.mem_of_getElem? ht
        have hall : ([37].all fun u => !Tryd.prog.wantsStandIn u) = true := by kernel_rfl
        exact (show Tryd.prog.wantsStandIn t = false by simpa using List.all_eq_true.1 hall t hm)⟩)
    (by kernel_rfl)
#print axioms proved
end Go.Proofs.YtogpnlkjcdedlaaDoor.nfaFromRegexesErrorsUpto
