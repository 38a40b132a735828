/-
  BytesetClasses, for every input: the law returns true and leaves its arguments as they read. No condition beside the listed variable's own text (the card ties it).
-/
import Derived.Test.YtnjlnldbfejjpaaDoorY
namespace Go.Proofs.YtnjlnldbfejjpaaDoor.bytesetClasses
open Go.ChangeShapes Go.WideShapes Go.ChangeAt Go.RowKit Go.Frame
open Go.ChangeMaps (open_string shut_string)
open Bs
attribute [local irreducible] nb cnt pc els cf fs
attribute [local go_sem] eqIn eql_set neq_set
set_option maxRecDepth 100000 in
set_option maxHeartbeats 4000000 in
theorem walk (a : Option Addr) (n c : Nat) (E : List (Nat → Bool)) (w : World) (hE : Sets w a n E) (hT : Tb w) :
    Calls Tryd.prog 7 #[.slice a n c] w fun e w' => e = .returned (.bool true) ∧ Below w.heap.size w w' := by
  have CA := hid (awake_any w hT)
  by_cases h12 : n ≤ 12
  · have n6 : ¬ (12 : Int) < (n : Int) := by omega
    have HE := hid hE
    have HT := hid hT
    have HN := hid (show n ≤ 1000 by omega)
    clear hE hT h12
    go_enter Tryd.func7, Tryd.ntmps7
    go_wp2_with fail
    refine CA.out.mono ?_
    rintro e w1 ⟨rfl, b1⟩
    have B1 := hid b1
    clear b1
    go_wp2_with fail
    refine (Classes_any a n c E w1 HN.out (HE.out.below B1.out) (HT.out.below B1.out)).mono ?_
    rintro e w2 ⟨⟨g, rfl, hg, hgl⟩, b2⟩
    have B2 := hid (B1.out.trans (b2.mono B1.out.size))
    have HG := hid hg
    clear b2 hg
    go_wp2_with fail
    refine (rClasses_any a n c E w2 HN.out (HE.out.below B2.out)).mono ?_
    rintro e w3 ⟨⟨h, rfl, hh, hhl⟩, b3⟩
    have B3 := hid (B2.out.trans (b3.mono B2.out.size))
    have CI := hid (Ints_any g h _ w3 ((b3.block _ (heap_lt HG.out)).trans HG.out) hh)
    clear b3 hh
    go_wp2_with fail
    refine CI.out.mono ?_
    rintro e w4 ⟨rfl, b4⟩
    have B4 := B3.out.trans (b4.mono B3.out.size)
    go_wp2
    go_ret
    exact ⟨rfl, B4⟩
  · have n6 : (12 : Int) < (n : Int) := by omega
    clear hE hT h12
    go_enter Tryd.func7, Tryd.ntmps7
    go_wp2_with fail
    refine CA.out.mono ?_
    rintro e w1 ⟨rfl, b1⟩
    go_wp2
    go_ret
    exact ⟨rfl, b1⟩

set_option maxRecDepth 100000 in
theorem lifted (os : Os) (started : os.Started) (H : Type) (enc : TypeId × Value → H) :
    ReturnsInHanded {} Tryd.checked os 7 .any (fun w args => (Rows.bytesetClassesSpec.pre enc Tryd.prog Tryd.f7 [] false w args ∧ laidMetH Tryd.prog laidT w) ∧ sizedMet enc Tryd.prog Tryd.f7 (OpenSpec.ofChange Rows.bytesetClassesSpec) false w args) (Rows.bytesetClassesSpec.post enc Tryd.prog Tryd.f7 false true false false) := by
  refine Go.Frame.lifted_laid (C := Tryd.checked) (tb := 4) laidT own started (by kernel_rfl) Tryd.func7
    (ChangeSpec.witness_shaped (enc := enc) (C := Tryd.checked) (os := os) (X := fun w _ => laidMetH Tryd.prog laidT w) false (World.doorLaid Tryd.prog 400 os) #[.slice none 0 0] 8 rfl (World.shaped_of_RefB (by kernel_rfl) (by kernel_rfl)) (by kernel_rfl) (by kernel_rfl) (by kernel_rfl) (door_met os _))
    laidOut (by kernel_rfl) (by kernel_rfl) Tryd.underlying4 rfl ?_ ?_
  · intro ds h
    have h : ds.length = 1 := h
    match ds, h with
    | [_], _ => rfl
  · intro W base args ds p hlen hval0 hA hsz0 hlaid
    have hval : ∀ (j : Nat) t v, Tryd.f7.params[j]? = some t → args[j]? = some v → Value.okWide Tryd.prog W .any base t v := hval0
    have hA : DataW.TrodAll enc Tryd.prog W 0 (fun _ => true) true Tryd.f7.params.toList args.toList ds p := hA
    have hsz : (DataW.weightsEach Tryd.prog Tryd.f7.params.toList ds).all (· ≤ reachBytes) = true := hsz0
    have hT := tb_of_laid hlaid
    rw [Tryd.params7] at hA hval hsz
    obtain ⟨v0, vs0, d0, ds0, p0, q0, hargs, hds, _, th0, tr0⟩ := trodAll_cons hA
    obtain ⟨rfl, rfl, _⟩ := trodAll_nil tr0
    obtain rfl : args = #[v0] := by cases args; simp_all
    subst hds
    obtain ⟨a0, l0, c0, E0, rfl, hE0⟩ := open_sets (hval 0 41 v0 rfl rfl) th0
    exact walk a0 l0 c0 E0 W hE0 hT

theorem over : Rows.BytesetClassesSaid :=
  OpenClaim.holds_of_wide 7 Tryd.f7 rfl rfl rfl rfl rfl rfl rfl ⟨rfl, rfl, rfl, rfl, rfl⟩ rfl rfl rfl rfl rfl (by kernel_rfl) Tryd.func7 (by kernel_rfl)
    (of_decide_eq_true (by kernel_rfl)) (by unfold Func.isWrapper; first | (rw [if_pos (by decide +kernel)]; kernel_rfl) | (rw [if_neg (by decide +kernel)]; exact ⟨rfl, rfl⟩))
    (fun os started H enc _ => lifted os started H enc)

/-- THE STATEMENT: the tied card. -/
theorem proved : Rows.BytesetClassesCardSaid :=
  Claim7.holds_tied_plain_at .later [] [.data] true (true, "f672231fa7014273d113998005b6c842c6084454db453b3aa5ceee129e95c009") false
    over (fun _ h => by cases h) (by kernel_rfl) (fun _ h => by cases h) bytesetClasses_row_tie rfl ⟨rfl, rfl⟩ (by kernel_rfl) rfl
    (fun f fn hf hfn => by
      obtain rfl : f = 7 := Option.some.inj ((show Tryd.prog.funcNamed "emendate/emendatelaw07.BytesetClasses" = some 7 by kernel_rfl).symm.trans hf) |>.symm
      obtain rfl : fn = Tryd.f7 := (Option.some.inj (Tryd.func7.symm.trans hfn)).symm
      exact ⟨by kernel_rfl, fun j t ht => by
        rw [Tryd.params7] at ht
        have hm : t ∈ [41] := by simpa using Array.mem_of_getElem? ht
        have hall : ([41].all fun u => !Tryd.prog.wantsStandIn u) = true := by kernel_rfl
        exact (show Tryd.prog.wantsStandIn t = false by simpa using List.all_eq_true.1 hall t hm)⟩)
    (by kernel_rfl)
#print axioms proved
end Go.Proofs.YtnjlnldbfejjpaaDoor.bytesetClasses
