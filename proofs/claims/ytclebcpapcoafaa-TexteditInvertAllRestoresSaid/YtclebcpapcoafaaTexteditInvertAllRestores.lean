/-
  TexteditInvertAllRestores, for every input: the law returns true and leaves its arguments as they read. No condition.
-/
import Derived.Test.YtclebcpapcoafaaH
namespace Go.Proofs.Ytclebcpapcoafaa.texteditInvertAllRestores
open Go.ChangeShapes Go.WideShapes Go.ChangeAt Go.RowKit Go.Frame
open Go.ChangeMaps (open_string shut_string)
open Te
set_option maxRecDepth 100000 in
set_option maxHeartbeats 4000000 in
theorem walk (s : ByteArray) (p : Option Addr) (n c : Nat) (w : World) (hE : ∃ E : List Ed, Row w p n E ∧ ∀ e ∈ E, In e) :
    Calls Try.prog 6 #[.string s, .slice p n c] w fun e w' => e = .returned (.bool true) ∧ Below w.heap.size w w' := by
  obtain ⟨E, hR, hI⟩ := hE
  have HI := hid hI
  have R := hid (show ∀ W', Below w.heap.size w W' → Row W' p n E from fun W' h => hR.below h)
  have hl := hid hR.1
  clear hR hI
  go_enter Try.func6, Try.ntmps6
  go_wp2_with fail
  refine (awake_any w).mono ?_
  rintro e w1 ⟨rfl, hb1⟩
  go_wp2_with fail
  refine (few_any s p n c E w1 (In.few HI.out) (R.out _ hb1)).mono ?_
  rintro e w1' ⟨rfl, rfl⟩
  by_cases hF : Few s E
  · rw [decide_eq_true hF]
    have hS := hid hF.sum
    have hn : n ≤ 1000000 := by have := hF.2.1; have := hl.out; omega
    have hB := hid (In.big HI.out)
    clear hF
    go_wp2_with fail
    refine (applyAll_any s p n c E w1 hn hS.out hB.out (R.out _ hb1)).mono ?_
    rintro e w2 ⟨rfl, b2⟩
    have hb2 := hb1.trans (b2.mono hb1.size)
    rcases hx : apAll s E with _ | t
    · have hx' := hid hx
      unfold alv
      clear hx
      go_wp2_with fail
      refine (invertAll_any s p n c E w2 hn hS.out hB.out (R.out _ hb2)).mono ?_
      rintro e w3 ⟨b3, ⟨t, g, h1, _⟩ | ⟨_, rfl⟩⟩
      · rw [hx'.out] at h1; cases h1
      have hb3 := hb2.trans (b3.mono hb2.size)
      go_wp2
      go_ret
      exact ⟨rfl, hb3⟩
    · obtain ⟨k1, k2, k3⟩ := back E s t hx
      have hx' := hid hx
      have K1 := hid k1
      have K2 := hid k2
      have hS' := hid (show t.size + sz (ivs s E) ≤ 1000000 by have := hS.out; omega)
      have hB' := hid (ivs_big hx (by have := hS.out; omega))
      unfold alv
      clear hx k1 k2 k3
      go_wp2_with fail
      refine (invertAll_any s p n c E w2 hn hS.out hB.out (R.out _ hb2)).mono ?_
      rintro e w3 ⟨b3, ⟨_, g, h1, rfl, hg, hgl⟩ | ⟨h1, _⟩⟩
      case inr => rw [hx'.out] at h1; cases h1
      have hb3 := hb2.trans (b3.mono hb2.size)
      have R3 := hid (hg.row (n := n) (by rw [ivs_length, hl.out]) hgl)
      clear h1 hg
      go_wp2_with fail
      refine (applyAll_any t (some ⟨g, 0, none⟩) n n (ivs s E) w3 hn hS'.out hB'.out R3.out).mono ?_
      rintro e w4 ⟨rfl, b4⟩
      rw [K1.out]
      unfold alv
      have hb4 := hb3.trans (b4.mono hb3.size)
      have hgl4 : g < w4.heap.size := Nat.lt_of_lt_of_le hgl b4.size
      go_wp2_with fail
      refine (invertAll_any t (some ⟨g, 0, none⟩) n n (ivs s E) w4 hn hS'.out hB'.out (R3.out.below b4)).mono ?_
      rintro e w5 ⟨b5, ⟨_, g', h1, rfl, hg, hgl'⟩ | ⟨h1, _⟩⟩
      case inr => rw [K1.out] at h1; cases h1
      have hb5 := hb4.trans (b5.mono hb4.size)
      have R5 := hid (hg.row (n := n) (by rw [ivs_length, ivs_length, hl.out]) hgl')
      rw [K2.out] at R5
      clear h1 hg
      go_wp2_with fail
      refine (same_any _ _ n n c E w5 hn R5.out (R.out _ hb5)).mono ?_
      rintro e w6 ⟨rfl, b6⟩
      have hb6 := hb5.trans (b6.mono hb5.size)
      go_wp2
      go_ret
      exact ⟨rfl, hb6⟩
  · rw [decide_eq_false hF]
    go_wp2
    go_ret
    exact ⟨rfl, hb1⟩

theorem lifted (os : Os) (started : os.Started) (H : Type) (enc : TypeId × Value → H) :
    ReturnsInHanded {} Try.checked os 6 .any (Rows.texteditInvertAllRestoresSpec.pre6 enc Try.prog Try.f6 Rows.texteditInvertAllRestoresRow.domain false) (Rows.texteditInvertAllRestoresSpec.post enc Try.prog Try.f6 false true false false) := by
  refine Go.Frame.lifted (C := Try.checked) (tb := 4) own started (by kernel_rfl) Try.func6
    (ChangeSpec.witness6 (enc := enc) (C := Try.checked) false ⟨#[], #[.string ByteArray.empty, .slice none 0 0], []⟩ 8 (by kernel_rfl) (by kernel_rfl) (by kernel_rfl) (by kernel_rfl))
    laidOut (by kernel_rfl) (by kernel_rfl) Try.underlying4 rfl ?_ ?_
  · intro ds h
    have h : ds.length = 2 := h
    match ds, h with
    | [_, _], _ => rfl
  · intro W base args ds p hlen hval0 hA hsz0
    have hval : ∀ (j : Nat) t v, Try.f6.params[j]? = some t → args[j]? = some v → Value.okWide Try.prog W .any base t v := hval0
    have hA : DataW.TrodAll enc Try.prog W 0 (fun _ => true) true Try.f6.params.toList args.toList ds p := hA
    have hsz : (DataW.weightsEach Try.prog Try.f6.params.toList ds).all (· ≤ reachBytes) = true := hsz0
    rw [Try.params6] at hA hval hsz
    obtain ⟨v0, vs0, d0, ds0, p0, q0, hargs, hds, _, th0, tr0⟩ := trodAll_cons hA
    obtain ⟨v1, vs1, d1, ds1, p1, q1, rfl, rfl, _, th1, tr1⟩ := trodAll_cons tr0
    obtain ⟨rfl, rfl, _⟩ := trodAll_nil tr1
    obtain rfl : args = #[v0, v1] := by cases args; simp_all
    subst hds
    obtain ⟨t0, rfl, _, _, _⟩ := open_string Try.underlying9 (hval 0 9 v0 rfl rfl) th0
    obtain ⟨b1, len1, cap1, rfl⟩ := okWide_slice Try.underlying26 (hval 1 26 v1 rfl rfl)
    have hE : ∃ E : List Ed, Row W b1 len1 E ∧ ∀ e ∈ E, In e := by
      obtain ⟨fuel, hf⟩ := th1
      refine open_edits hf ?_
      intro n hn
      exact of_decide_eq_true (List.all_eq_true.1 hsz _ (DataW.weights_mem_each (j := 1) rfl rfl n hn))
    exact walk t0 b1 len1 cap1 W hE

theorem over : Rows.texteditInvertAllRestoresRow.holds Try.pinned (OpenSpec.ofChange Rows.texteditInvertAllRestoresSpec) :=
  OpenClaim.holds_of_wide 6 Try.f6 rfl rfl rfl rfl rfl rfl rfl ⟨rfl, rfl, rfl, rfl, rfl⟩ rfl rfl rfl rfl rfl (by kernel_rfl) Try.func6 (by kernel_rfl)
    (of_decide_eq_true (by kernel_rfl)) (by unfold Func.isWrapper; first | (rw [if_pos (by decide +kernel)]; kernel_rfl) | (rw [if_neg (by decide +kernel)]; exact ⟨rfl, rfl⟩))
    (fun os started H enc _ => lifted os started H enc)

/-- THE STATEMENT -/
theorem proved : Rows.TexteditInvertAllRestoresSaid :=
  over
#print axioms proved
end Go.Proofs.Ytclebcpapcoafaa.texteditInvertAllRestores
