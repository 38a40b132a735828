/-
  TexteditComposeHull, for every input: the law returns true and leaves its arguments as they read. No condition.
-/
import Derived.Test.YtclebcpapcoafaaH
namespace Go.Proofs.Ytclebcpapcoafaa.texteditComposeHull
open Go.ChangeShapes Go.WideShapes Go.ChangeAt Go.RowKit Go.Frame
open Go.ChangeMaps (open_string shut_string)
open Te
set_option maxRecDepth 100000 in
set_option maxHeartbeats 4000000 in
theorem walk (s : ByteArray) (p : Option Addr) (n c : Nat) (w : World) (hE : ∃ E : List Ed, Row w p n E ∧ ∀ e ∈ E, In e) :
    Calls Try.prog 8 #[.string s, .slice p n c] w fun e w' => e = .returned (.bool true) ∧ Below w.heap.size w w' := by
  obtain ⟨E, hR, hI⟩ := hE
  have HI := hid hI
  have R := hid (show ∀ W', Below w.heap.size w W' → Row W' p n E from fun W' h => hR.below h)
  have hl := hid hR.1
  clear hR hI
  go_enter Try.func8, Try.ntmps8
  go_wp2_with fail
  refine (awake_any w).mono ?_
  rintro e w1 ⟨rfl, hb1⟩
  go_wp2_with fail
  refine (few_any s p n c E w1 (In.few HI.out) (R.out _ hb1)).mono ?_
  rintro e w1' ⟨rfl, rfl⟩
  by_cases hF : Few s E
  · rw [decide_eq_true hF]
    have hS := hid hF.sum
    have hn : n ≤ 1000000 := by have := hF.2.1; have := hl.out; omega
    have hB := hid (In.big HI.out)
    clear hF
    go_wp2_with fail
    refine (compose_any s p n c E w1 hn hS.out hB.out (R.out _ hb1)).mono ?_
    rintro e w2 ⟨rfl, b2⟩
    have hb2 := hb1.trans (b2.mono hb1.size)
    obtain ⟨a, d, t, k, hx⟩ : ∃ (a d : Int) (t : ByteArray) (k : Int), cmv (cmp s E) = .tuple #[.agg #[.int .i64 a, .int .i64 d, .string t], .int .i64 k] := by
      rcases cmp s E with _ | ⟨a, d, t⟩
      · exact ⟨0, 0, .empty, 2, rfl⟩
      · exact ⟨a, d, t, 0, rfl⟩
    rw [hx]
    go_wp2_with fail
    have x2 : Bx (w2.alloc (.cells #[.int .i64 a, .int .i64 d, .string t] 23)) w2.heap.size (a, d, t) := alloc_new _ _
    have hb2' := hb2.alloc hb2.size (.cells #[.int .i64 a, .int .i64 d, .string t] 23)
    refine (rcompose_any s p n c E _ hn hS.out (R.out _ hb2')).mono ?_
    rintro e w3 ⟨rfl, b3⟩
    rw [hx]
    have x3 := x2.below b3
    have hb3 := hb2'.trans (b3.mono hb2'.size)
    have hlt := heap_lt x3
    obtain ⟨k00, k01, k02⟩ := x3.cells
    clear x2 x3
    go_wp2
    go_ret
    exact ⟨rfl, hb3.alloc hb3.size _⟩
  · rw [decide_eq_false hF]
    go_wp2
    go_ret
    exact ⟨rfl, hb1⟩

theorem lifted (os : Os) (started : os.Started) (H : Type) (enc : TypeId × Value → H) :
    ReturnsInHanded {} Try.checked os 8 .any (Rows.texteditComposeHullSpec.pre6 enc Try.prog Try.f8 Rows.texteditComposeHullRow.domain false) (Rows.texteditComposeHullSpec.post enc Try.prog Try.f8 false true false false) := by
  refine Go.Frame.lifted (C := Try.checked) (tb := 4) own started (by kernel_rfl) Try.func8
    (ChangeSpec.witness6 (enc := enc) (C := Try.checked) false ⟨#[], #[.string ByteArray.empty, .slice none 0 0], []⟩ 8 (by kernel_rfl) (by kernel_rfl) (by kernel_rfl) (by kernel_rfl))
    laidOut (by kernel_rfl) (by kernel_rfl) Try.underlying4 rfl ?_ ?_
  · intro ds h
    have h : ds.length = 2 := h
    match ds, h with
    | [_, _], _ => rfl
  · intro W base args ds p hlen hval0 hA hsz0
    have hval : ∀ (j : Nat) t v, Try.f8.params[j]? = some t → args[j]? = some v → Value.okWide Try.prog W .any base t v := hval0
    have hA : DataW.TrodAll enc Try.prog W 0 (fun _ => true) true Try.f8.params.toList args.toList ds p := hA
    have hsz : (DataW.weightsEach Try.prog Try.f8.params.toList ds).all (· ≤ reachBytes) = true := hsz0
    rw [Try.params8] at hA hval hsz
    obtain ⟨v0, vs0, d0, ds0, p0, q0, hargs, hds, _, th0, tr0⟩ := trodAll_cons hA
    obtain ⟨v1, vs1, d1, ds1, p1, q1, rfl, rfl, _, th1, tr1⟩ := trodAll_cons tr0
    obtain ⟨rfl, rfl, _⟩ := trodAll_nil tr1
    obtain rfl : args = #[v0, v1] := by cases args; simp_all
    subst hds
    obtain ⟨t0, rfl, _, _, _⟩ := open_string Try.underlying9 (hval 0 9 v0 rfl rfl) th0
    obtain ⟨b1, len1, cap1, rfl⟩ := okWide_slice Try.underlying26 (hval 1 26 v1 rfl rfl)
    have hE : ∃ E : List Ed, Row W b1 len1 E ∧ ∀ e ∈ E, In e := by
      obtain ⟨fuel, hf⟩ := th1
      refine open_edits hf ?_
      intro n hn
      exact of_decide_eq_true (List.all_eq_true.1 hsz _ (DataW.weights_mem_each (j := 1) rfl rfl n hn))
    exact walk t0 b1 len1 cap1 W hE

theorem over : Rows.texteditComposeHullRow.holds Try.pinned (OpenSpec.ofChange Rows.texteditComposeHullSpec) :=
  OpenClaim.holds_of_wide 8 Try.f8 rfl rfl rfl rfl rfl rfl rfl ⟨rfl, rfl, rfl, rfl, rfl⟩ rfl rfl rfl rfl rfl (by kernel_rfl) Try.func8 (by kernel_rfl)
    (of_decide_eq_true (by kernel_rfl)) (by unfold Func.isWrapper; first | (rw [if_pos (by decide +kernel)]; kernel_rfl) | (rw [if_neg (by decide +kernel)]; exact ⟨rfl, rfl⟩))
    (fun os started H enc _ => lifted os started H enc)

/-- THE STATEMENT -/
theorem proved : Rows.TexteditComposeHullSaid :=
  over
#print axioms proved
end Go.Proofs.Ytclebcpapcoafaa.texteditComposeHull
