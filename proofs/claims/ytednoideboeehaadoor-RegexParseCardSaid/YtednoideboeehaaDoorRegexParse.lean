/-
  RegexParse, for every input: the law returns true and leaves its arguments as they read. No condition beside the listed variable's own text (the card ties it).
-/
import Derived.Test.YtednoideboeehaaDoorZ05
import Derived.Test.YtednoideboeehaaDoorZ22
import Derived.Test.YtednoideboeehaaDoorZ30
set_option linter.unusedSimpArgs false
set_option linter.unusedVariables false
namespace Go.Proofs.YtednoideboeehaaDoor.regexParse
open Go.ChangeShapes Go.WideShapes Go.ChangeAt Go.RowKit Go.Frame
open Go.ChangeMaps (open_string shut_string)
open Bs Rg
attribute [local irreducible] ws
attribute [local go_sem] eq_zero eq_set
set_option maxRecDepth 100000 in
set_option maxHeartbeats 4000000 in
theorem rParse_at (s : ByteArray) (w : World) (hs : s.size ≤ 1000000) (k : Int) (S : BS) (l : List Rx) (at' er : Nat) (h : parseR s.data.toList = (.mk k S l, at', er)) :
    Calls Tryd.prog 17 #[.string s] w fun e w' => PrR k S l at' er w e w' ∧ Below w.heap.size w w' := by
  refine (rParse_any s w hs).mono ?_
  rintro e w' ⟨⟨cs, rfl, hR⟩, hb⟩
  rw [h] at hR ⊢
  obtain ⟨a, n, c, rfl, hK⟩ := RC_mk.1 hR
  exact ⟨⟨a, n, c, rfl, hK.1.symm, hK⟩, hb⟩
set_option maxRecDepth 100000 in
set_option maxHeartbeats 4000000 in
theorem walk (t0 : ByteArray) (w : World) (hT : Tb w) :
    Calls Tryd.prog 4 #[.string t0] w fun e w' => e = .returned (.bool true) ∧ Below w.heap.size w w' := by
  have CA := hid (fun V (hV : Below w.heap.size w V) => awake_any V (hT.below hV))
  clear hT
  by_cases h120 : t0.size ≤ 120
  · have hg : ¬ (120 : Int) < (t0.size : Int) := by omega
    obtain ⟨x, at', er, hp⟩ : ∃ x at' er, parseR t0.data.toList = (x, at', er) := ⟨_, _, _, rfl⟩
    obtain ⟨k, S, l⟩ := x
    have C1 := hid (fun V => Parse_at t0 V (by omega) k S l at' er hp)
    have C2 := hid (fun V => rParse_at t0 V (by omega) k S l at' er hp)
    clear hp
    go_enter Tryd.func4, Tryd.ntmps4
    go_wp2_with fail
    refine (C1.out _).mono ?_
    rintro e W1 ⟨⟨a, n, c, rfl, -, hK⟩, b1⟩
    obtain ⟨V1, hV1⟩ : ∃ V, V = W1.alloc (.cells #[.int .i64 k, .int .u64 (ws S 0 : Int), .int .u64 (ws S 1 : Int), .int .u64 (ws S 2 : Int), .int .u64 (ws S 3 : Int), .slice a n c] 27) := ⟨_, rfl⟩
    have hb1 : Below W1.heap.size W1 V1 := by rw [hV1]; exact bel1 _ _
    have X1 := hid (show V1.heap[W1.heap.size]? = some (.cells #[.int .i64 k, .int .u64 (ws S 0 : Int), .int .u64 (ws S 1 : Int), .int .u64 (ws S 2 : Int), .int .u64 (ws S 3 : Int), .slice a n c] 27 (0, 0)) ∧ Kd (fun _ => True) V1 a n l ∧ Below w.heap.size w V1 from ⟨by rw [hV1]; exact alloc_new _ _, (hK.more fun _ _ => trivial).below hb1, b1.trans (hb1.mono b1.size)⟩)
    clear hK b1 hb1
    go_wp2_with fail
    rw [← hV1]
    clear hV1
    refine (C2.out _).mono ?_
    rintro e W2 ⟨⟨a2, n2, c2, rfl, -, hK⟩, b2⟩
    obtain ⟨V2, hV2⟩ : ∃ V, V = W2.alloc (.cells #[.int .i64 k, .int .u64 (ws S 0 : Int), .int .u64 (ws S 1 : Int), .int .u64 (ws S 2 : Int), .int .u64 (ws S 3 : Int), .slice a2 n2 c2] 27) := ⟨_, rfl⟩
    have hb2 : Below W2.heap.size W2 V2 := by rw [hV2]; exact bel1 _ _
    have hb3 : Below V1.heap.size V1 V2 := b2.trans (hb2.mono b2.size)
    have X2 := hid (show V2.heap[W1.heap.size]? = some (.cells #[.int .i64 k, .int .u64 (ws S 0 : Int), .int .u64 (ws S 1 : Int), .int .u64 (ws S 2 : Int), .int .u64 (ws S 3 : Int), .slice a n c] 27 (0, 0)) ∧ Kd (fun _ => True) V2 a n l ∧ V2.heap[W2.heap.size]? = some (.cells #[.int .i64 k, .int .u64 (ws S 0 : Int), .int .u64 (ws S 1 : Int), .int .u64 (ws S 2 : Int), .int .u64 (ws S 3 : Int), .slice a2 n2 c2] 27 (0, 0)) ∧ Kd (fun _ => True) V2 a2 n2 l ∧ Below w.heap.size w V2 from
      ⟨(hb3.block _ (heap_lt X1.out.1)).trans X1.out.1, X1.out.2.1.below hb3, by rw [hV2]; exact alloc_new _ _, (hK.more fun _ _ => trivial).below hb2, X1.out.2.2.trans (hb3.mono X1.out.2.2.size)⟩)
    clear hK b2 hb2 hb3
    go_upto_region 5 with fail
    rw [← hV2]
    clear hV2
    go_wp2_with fail
    refine (CA.out _ X2.out.2.2.2.2).mono ?_
    rintro e W3 ⟨rfl, b3⟩
    have X3 := hid (show W3.heap[W1.heap.size]? = some (.cells #[.int .i64 k, .int .u64 (ws S 0 : Int), .int .u64 (ws S 1 : Int), .int .u64 (ws S 2 : Int), .int .u64 (ws S 3 : Int), .slice a n c] 27 (0, 0)) ∧ Kd (fun _ => True) W3 a n l ∧ W3.heap[W2.heap.size]? = some (.cells #[.int .i64 k, .int .u64 (ws S 0 : Int), .int .u64 (ws S 1 : Int), .int .u64 (ws S 2 : Int), .int .u64 (ws S 3 : Int), .slice a2 n2 c2] 27 (0, 0)) ∧ Kd (fun _ => True) W3 a2 n2 l ∧ Below w.heap.size w W3 from
      ⟨(b3.block _ (heap_lt X2.out.1)).trans X2.out.1, X2.out.2.1.below b3, (b3.block _ (heap_lt X2.out.2.2.1)).trans X2.out.2.2.1, X2.out.2.2.2.1.below b3, X2.out.2.2.2.2.trans (b3.mono X2.out.2.2.2.2.size)⟩)
    clear b3
    obtain ⟨p0, p1, p2, p3, p4, p5⟩ := cells6 X3.out.1
    obtain ⟨q0, q1, q2, q3, q4, q5⟩ := cells6 X3.out.2.2.1
    have CE := hid (show Calls Tryd.prog 18 #[.agg #[.int .i64 k, .int .u64 (ws S 0 : Int), .int .u64 (ws S 1 : Int), .int .u64 (ws S 2 : Int), .int .u64 (ws S 3 : Int), .slice a n c], .agg #[.int .i64 k, .int .u64 (ws S 0 : Int), .int .u64 (ws S 1 : Int), .int .u64 (ws S 2 : Int), .int .u64 (ws S 3 : Int), .slice a2 n2 c2]] W3 _ from Equal_any _ _ (.mk k S l) (.mk k S l) W3 (rcs k S (.slice a n c)) (rcs k S (.slice a2 n2 c2)) (RC_mk.2 ⟨_, _, _, rfl, X3.out.2.1⟩) (RC_mk.2 ⟨_, _, _, rfl, X3.out.2.2.2.1⟩))
    rw [beqx_iff.2 rfl] at CE
    go_wp2_with fail
    refine CE.out.mono ?_
    rintro e W4 ⟨rfl, b4⟩
    go_wp2
    go_ret
    exact ⟨rfl, X3.out.2.2.2.2.trans (b4.mono X3.out.2.2.2.2.size)⟩
  · have hg : (120 : Int) < (t0.size : Int) := by omega
    go_enter Tryd.func4, Tryd.ntmps4
    go_wp2_with fail
    refine (CA.out _ (Below.refl _ _)).mono ?_
    rintro e W3 ⟨rfl, b3⟩
    go_wp2
    go_ret
    exact ⟨rfl, b3⟩

set_option maxRecDepth 100000 in
theorem lifted (os : Os) (started : os.Started) (H : Type) (enc : TypeId × Value → H) :
    ReturnsInHanded {} Tryd.checked os 4 .any (fun w args => (Rows.regexParseSpec.pre enc Tryd.prog Tryd.f4 [] false w args ∧ laidMetH Tryd.prog laidT w) ∧ sizedMet enc Tryd.prog Tryd.f4 (OpenSpec.ofChange Rows.regexParseSpec) false w args) (Rows.regexParseSpec.post enc Tryd.prog Tryd.f4 false true false false) := by
  refine Go.Frame.lifted_laid (C := Tryd.checked) (tb := 4) laidT own started (by kernel_rfl) Tryd.func4
    (ChangeSpec.witness_shaped (enc := enc) (C := Tryd.checked) (os := os) (X := fun w _ => laidMetH Tryd.prog laidT w) false (World.doorLaid Tryd.prog 400 os) #[.string ByteArray.empty] 8 rfl (World.shaped_of_RefB (by kernel_rfl) (by kernel_rfl)) (by kernel_rfl) (by kernel_rfl) (by kernel_rfl) (door_met os _))
    laidOut (by kernel_rfl) (by kernel_rfl) Tryd.underlying4 rfl ?_ ?_
  · intro ds h
    have h : ds.length = 1 := h
    match ds, h with
    | [_], _ => rfl
  · intro W base args ds p hlen hval0 hA hsz0 hlaid
    have hval : ∀ (j : Nat) t v, Tryd.f4.params[j]? = some t → args[j]? = some v → Value.okWide Tryd.prog W .any base t v := hval0
    have hA : DataW.TrodAll enc Tryd.prog W 0 (fun _ => true) true Tryd.f4.params.toList args.toList ds p := hA
    have hsz : (DataW.weightsEach Tryd.prog Tryd.f4.params.toList ds).all (· ≤ reachBytes) = true := hsz0
    have hT := tb_of_laid hlaid
    rw [Tryd.params4] at hA hval hsz
    obtain ⟨v0, vs0, d0, ds0, p0, q0, hargs, hds, _, th0, tr0⟩ := trodAll_cons hA
    obtain ⟨rfl, rfl, _⟩ := trodAll_nil tr0
    obtain rfl : args = #[v0] := by cases args; simp_all
    subst hds
    obtain ⟨t0, rfl, hd0, _, _⟩ := open_string Tryd.underlying9 (hval 0 9 v0 rfl rfl) th0
    exact walk t0 W  hT

theorem over : Rows.RegexParseSaid :=
  OpenClaim.holds_of_wide 4 Tryd.f4 rfl rfl rfl rfl rfl rfl rfl ⟨rfl, rfl, rfl, rfl, rfl⟩ rfl rfl rfl rfl rfl (by kernel_rfl) Tryd.func4 (by kernel_rfl)
    (of_decide_eq_true (by kernel_rfl)) (by unfold Func.isWrapper; first | (rw [if_pos (by decide +kernel)]; kernel_rfl) | (rw [if_neg (by decide +kernel)]; exact ⟨rfl, rfl⟩))
    (fun os started H enc _ => lifted os started H enc)

/-- THE STATEMENT: the tied card. -/
theorem proved : Rows.RegexParseCardSaid :=
  Claim7.holds_tied_plain_at .later [] [.data] true (true, "dd46b08e84a61b7e61138d74753cff02afb7ed2cf4ddd25005136ca1f7ca6772") false
    over (fun _ h => by cases h) (by kernel_rfl) (fun _ h => by cases h) regexParse_row_tie rfl ⟨rfl, rfl⟩ (by kernel_rfl) rfl
    (fun f fn hf hfn => by
      obtain rfl : f = 4 := Option.some.inj ((show Tryd.prog.funcNamed "emendate/emendatelaw08.RegexParse" = some 4 by kernel_rfl).symm.trans hf) |>.symm
      obtain rfl : fn = Tryd.f4 := (Option.some.inj (Tryd.func4.symm.trans hfn)).symm
      exact ⟨by kernel_rfl, fun j t ht => by
        rw [Tryd.params4] at ht
        have hm : t ∈ [9] := by simpa using Array.mem_of_getElem? ht
        have hall : ([9].all fun u => !Tryd.prog.wantsStandIn u) = true := by kernel_rfl
        exact (show Tryd.prog.wantsStandIn t = false by simpa using List.all_eq_true.1 hall t hm)⟩)
    (by kernel_rfl)
#print axioms proved
end Go.Proofs.YtednoideboeehaaDoor.regexParse
