/-
  RegexNesting, for every input: the law returns true and leaves its arguments as they read. No condition beside the listed variable's own text (the card ties it).
-/
import Derived.Test.YtednoideboeehaaDoorZ05
import Derived.Test.YtednoideboeehaaDoorZ22
import Derived.Test.YtednoideboeehaaDoorZ23
set_option linter.unusedSimpArgs false
set_option linter.unusedVariables false
namespace Go.Proofs.YtednoideboeehaaDoor.regexNesting
open Go.ChangeShapes Go.WideShapes Go.ChangeAt Go.RowKit Go.Frame
open Go.ChangeMaps (open_string shut_string)
open Bs Rg
attribute [local irreducible] ws
attribute [local go_sem] eq_zero eq_set
set_option maxRecDepth 100000 in
set_option maxHeartbeats 4000000 in
theorem walk (n0 : Nat) (w : World) (hn : n0 < 256) (hT : Tb w) :
    Calls Tryd.prog 11 #[.int .u8 (n0 : Int)] w fun e w' => e = .returned (.bool true) ∧ Below w.heap.size w w' := by
  obtain ⟨m, hm⟩ : ∃ m, m = n0 % 40 := ⟨_, rfl⟩
  have hm4 : m < 40 := by omega
  have q2 : (n0 : Int) % 40 = (m : Int) := by omega
  have q3 : n0 % 40 = m := hm.symm
  have hsz : (⟨(nest m).toArray⟩ : ByteArray).size ≤ 1000000 := by rw [nest_size]; omega
  have CN := hid (fun V => nested_any m V hm4)
  have CA := hid (fun V (hV : Below w.heap.size w V) => awake_any V (hT.below hV))
  have e3 : IntKind.i64.wrap ((m : Int) + 1) = (m : Int) + 1 := by rw [wrapIn] <;> omega
  clear hm hT
  by_cases h : m + 1 > 30
  · have CP := hid (fun V => Parse_at ⟨(nest m).toArray⟩ V hsz 0 none8 [] 0 11 (by rw [show (⟨(nest m).toArray⟩ : ByteArray).data.toList = nest m by simp, parse_nest m hm4, pn, if_pos h]; rfl))
    have hin : (30 : Int) < (m : Int) + 1 := by omega
    clear hsz hm4 h
    go_enter Tryd.func11, Tryd.ntmps11
    go_wp2_with fail
    refine (CN.out _).mono ?_
    rintro e W1 ⟨rfl, b1⟩
    have B1 := hid b1
    clear b1
    go_wp2_with fail
    refine (CP.out _).mono ?_
    rintro e V ⟨⟨a, n, c, rfl, hn0, hk⟩, b⟩
    have B2 := hid (B1.out.trans (b.mono B1.out.size))
    clear b hk hn0
    go_upto_region 3 with fail
    obtain ⟨W, hW⟩ : ∃ W, W = V.alloc (.cells #[.int .i64 0, .int .u64 (ws none8 0 : Int), .int .u64 (ws none8 1 : Int), .int .u64 (ws none8 2 : Int), .int .u64 (ws none8 3 : Int), .slice a n c] 27) := ⟨_, rfl⟩
    have X := hid (show Below w.heap.size w W from by rw [hW]; exact below_made B2.out B2.out.size)
    rw [← hW]
    clear hW
    go_wp2_with fail
    refine (CA.out _ X.out).mono ?_
    rintro e W3 ⟨rfl, b3⟩
    go_wp2
    go_ret
    exact ⟨rfl, X.out.trans (b3.mono X.out.size)⟩
  · obtain ⟨K, S, l, hq⟩ : ∃ K S l, stn m = .mk K S l := ⟨_, _, _, (stn m).eta⟩
    have hs := stn_ok ⟨m, by omega⟩
    rw [show stn (⟨m, by omega⟩ : Fin 30) = .mk K S l from hq] at hs
    have CP := hid (fun V => Parse_at ⟨(nest m).toArray⟩ V hsz K S l 0 0 (by rw [show (⟨(nest m).toArray⟩ : ByteArray).data.toList = nest m by simp, parse_nest m hm4, pn, if_neg h, hq]))
    have hin : ¬ (30 : Int) < (m : Int) + 1 := by omega
    have HS := hid hs
    clear hsz hm4 h hs hq
    go_enter Tryd.func11, Tryd.ntmps11
    go_wp2_with fail
    refine (CN.out _).mono ?_
    rintro e W1 ⟨rfl, b1⟩
    have B1 := hid b1
    clear b1
    go_wp2_with fail
    refine (CP.out _).mono ?_
    rintro e V ⟨⟨a, n, c, rfl, hn0, hk⟩, b⟩
    have B2 := hid (B1.out.trans (b.mono B1.out.size))
    have HK := hid hk
    clear b hk hn0
    go_upto_region 3 with fail
    obtain ⟨W, hW⟩ : ∃ W, W = V.alloc (.cells #[.int .i64 K, .int .u64 (ws S 0 : Int), .int .u64 (ws S 1 : Int), .int .u64 (ws S 2 : Int), .int .u64 (ws S 3 : Int), .slice a n c] 27) := ⟨_, rfl⟩
    have X := hid (show BX W V.heap.size K S a n c l ∧ Below w.heap.size w W from by rw [hW]; exact ⟨BX.new HK.out, below_made B2.out B2.out.size⟩)
    rw [← hW]
    clear hW
    have P := hid (fun U (hU : Below W.heap.size W U) => show BX U V.heap.size K S a n c l ∧ Below w.heap.size w U from ⟨X.out.1.below hU, X.out.2.trans (hU.mono X.out.2.size)⟩)
    have D1 := hid (fun U (hU : Below W.heap.size W U) => show Calls Tryd.prog 14 #[.agg #[.int .i64 K, .int .u64 (ws S 0 : Int), .int .u64 (ws S 1 : Int), .int .u64 (ws S 2 : Int), .int .u64 (ws S 3 : Int), .slice a n c]] U fun e w' => e = .returned (.bool true) ∧ Below U.heap.size U w' from by have := Valid_any _ (.mk K S l) U _ (P.out U hU).1.rc; rw [HS.out.1] at this; exact this)
    have D2 := hid (fun U (hU : Below W.heap.size W U) => show Calls Tryd.prog 23 #[.agg #[.int .i64 K, .int .u64 (ws S 0 : Int), .int .u64 (ws S 1 : Int), .int .u64 (ws S 2 : Int), .int .u64 (ws S 3 : Int), .slice a n c], .string { data := #[97] }] U fun e w' => e = .returned (.bool true) ∧ Below U.heap.size U w' from by
      have := Match_any _ (.mk K S l) ⟨#[97]⟩ U _ (fits_mono (by decide) HS.out.1) (Nat.le_trans HS.out.2.2 (by decide)) (by decide) (P.out U hU).1.rc
      rw [show (⟨#[97]⟩ : ByteArray).data.toList = [97] from rfl, HS.out.2.1] at this
      exact this)
    go_wp2_with fail
    refine (CA.out _ X.out.2).mono ?_
    rintro e W3 ⟨rfl, b3⟩
    have Z1 := hid ((Below.refl _ _).trans b3)
    clear b3
    obtain ⟨p0, p1, p2, p3, p4, p5⟩ := cells6 (P.out _ Z1.out).1.box
    go_wp2_with fail
    refine (D1.out _ Z1.out).mono ?_
    rintro e W4 ⟨rfl, b4⟩
    have Z2 := hid (Z1.out.trans (b4.mono Z1.out.size))
    clear b4 p0 p1 p2 p3 p4 p5
    obtain ⟨p0, p1, p2, p3, p4, p5⟩ := cells6 (P.out _ Z2.out).1.box
    go_wp2_with fail
    refine (D2.out _ Z2.out).mono ?_
    rintro e W5 ⟨rfl, b5⟩
    go_wp2
    go_ret
    exact ⟨rfl, (P.out _ (Z2.out.trans (b5.mono Z2.out.size))).2⟩

set_option maxRecDepth 100000 in
theorem lifted (os : Os) (started : os.Started) (H : Type) (enc : TypeId × Value → H) :
    ReturnsInHanded {} Tryd.checked os 11 .any (fun w args => (Rows.regexNestingSpec.pre enc Tryd.prog Tryd.f11 [] false w args ∧ laidMetH Tryd.prog laidT w) ∧ sizedMet enc Tryd.prog Tryd.f11 (OpenSpec.ofChange Rows.regexNestingSpec) false w args) (Rows.regexNestingSpec.post enc Tryd.prog Tryd.f11 false true false false) := by
  refine Go.Frame.lifted_laid (C := Tryd.checked) (tb := 4) laidT own started (by kernel_rfl) Tryd.func11
    (ChangeSpec.witness_shaped (enc := enc) (C := Tryd.checked) (os := os) (X := fun w _ => laidMetH Tryd.prog laidT w) false (World.doorLaid Tryd.prog 400 os) #[.int .u8 0] 8 rfl (World.shaped_of_RefB (by kernel_rfl) (by kernel_rfl)) (by kernel_rfl) (by kernel_rfl) (by kernel_rfl) (door_met os _))
    laidOut (by kernel_rfl) (by kernel_rfl) Tryd.underlying4 rfl ?_ ?_
  · intro ds h
    have h : ds.length = 1 := h
    match ds, h with
    | [_], _ => rfl
  · intro W base args ds p hlen hval0 hA hsz0 hlaid
    have hval : ∀ (j : Nat) t v, Tryd.f11.params[j]? = some t → args[j]? = some v → Value.okWide Tryd.prog W .any base t v := hval0
    have hA : DataW.TrodAll enc Tryd.prog W 0 (fun _ => true) true Tryd.f11.params.toList args.toList ds p := hA
    have hsz : (DataW.weightsEach Tryd.prog Tryd.f11.params.toList ds).all (· ≤ reachBytes) = true := hsz0
    have hT := tb_of_laid hlaid
    rw [Tryd.params11] at hA hval hsz
    obtain ⟨v0, vs0, d0, ds0, p0, q0, hargs, hds, _, th0, tr0⟩ := trodAll_cons hA
    obtain ⟨rfl, rfl, _⟩ := trodAll_nil tr0
    obtain rfl : args = #[v0] := by cases args; simp_all
    subst hds
    obtain ⟨n0, rfl, hn0⟩ := open_u8 (hval 0 5 v0 rfl rfl) th0
    exact walk n0 W hn0 hT

theorem over : Rows.RegexNestingSaid :=
  OpenClaim.holds_of_wide 11 Tryd.f11 rfl rfl rfl rfl rfl rfl rfl ⟨rfl, rfl, rfl, rfl, rfl⟩ rfl rfl rfl rfl rfl (by kernel_rfl) Tryd.func11 (by kernel_rfl)
    (of_decide_eq_true (by kernel_rfl)) (by unfold Func.isWrapper; first | (rw [if_pos (by decide +kernel)]; kernel_rfl) | (rw [if_neg (by decide +kernel)]; exact ⟨rfl, rfl⟩))
    (fun os started H enc _ => lifted os started H enc)

/-- THE STATEMENT: the tied card. -/
theorem proved : Rows.RegexNestingCardSaid :=
  Claim7.holds_tied_plain_at .later [] [.data] true (true, "dd46b08e84a61b7e61138d74753cff02afb7ed2cf4ddd25005136ca1f7ca6772") false
    over (fun _ h => by cases h) (by kernel_rfl) (fun _ h => by cases h) regexNesting_row_tie rfl ⟨rfl, rfl⟩ (by kernel_rfl) rfl
    (fun f fn hf hfn => by
      obtain rfl : f = 11 := Option.some.inj ((show Tryd.prog.funcNamed "emendate/emendatelaw08.RegexNesting" = some 11 by kernel_rfl).symm.trans hf) |>.symm
      obtain rfl : fn = Tryd.f11 := (Option.some.inj (Tryd.func11.symm.trans hfn)).symm
      exact ⟨by kernel_rfl, fun j t ht => by
        rw [Tryd.params11] at ht
        have hm : t ∈ [5] := by simpa using Array.mem_of_getElem? ht
        have hall : ([5].all fun u => !Tryd.prog.wantsStandIn u) = true := by kernel_rfl
        exact (show Tryd.prog.wantsStandIn t = false by simpa using List.all_eq_true.1 hall t hm)⟩)
    (by kernel_rfl)
#print axioms proved
end Go.Proofs.YtednoideboeehaaDoor.regexNesting
