/-
  LineindexJoin, for every input: the law returns true and leaves its arguments as they read. No condition.
-/
import Derived.Test.YtcmoehjalgppmaaI
namespace Go.Proofs.Ytcmoehjalgppmaa.lineindexJoin
open Go.ChangeShapes Go.WideShapes Go.ChangeAt Go.RowKit Go.Frame
open Go.ChangeMaps (open_string shut_string)
open Te
theorem nl_line {s : ByteArray} {n k : Nat} (h : n ≤ N s) (hk : k < (lineAt s n).size) : ¬ nl (lineAt s n) k = true := by
  have hs := lineAt_size h
  have := line_clean (s := s) (n := n) (i := bg s n + k) h (by omega) (by omega)
  intro hc
  refine this ?_
  unfold nl at hc ⊢
  unfold lineAt at hc
  rw [L_ex, List.getElem?_drop, List.getElem?_take, if_pos (by omega)] at hc
  exact hc
/-- The text up to the end of the line in front of line i. -/
def upTo (s : ByteArray) (i : Nat) : ByteArray := if i = 0 then .empty else s.extract 0 (en s (i - 1))
theorem upTo_zero (s : ByteArray) : upTo s 0 = { data := #[] } := rfl
theorem upTo_one (s : ByteArray) : upTo s 0 ++ lineAt s 0 = upTo s 1 := by
  apply L_inj
  rw [L_app]
  rfl
theorem upTo_succ {s : ByteArray} {i : Nat} (h : i + 1 ≤ N s) : upTo s (i + 1) ++ { data := #[10] } ++ lineAt s (i + 1) = upTo s (i + 2) := text_step (by omega)
theorem upTo_end (s : ByteArray) : upTo s (N s + 1) = s := by
  unfold upTo
  rw [if_neg (by omega), Nat.add_sub_cancel, en_last, extract_all]
theorem upTo_size (s : ByteArray) (i : Nat) : (upTo s i).size ≤ s.size := by
  unfold upTo
  split
  · exact Nat.zero_le _
  · rw [ByteArray.size_extract]; omega
set_option maxRecDepth 100000 in
set_option maxHeartbeats 4000000 in
theorem walk (s : ByteArray) (w : World) :
    Calls Try.prog 7 #[.string s] w fun e w' => e = .returned (.bool true) ∧ Below w.heap.size w w' := by
  by_cases h : s.size ≤ 300
  · have h' : (s.size : Int) ≤ 300 := by omega
    have H := hid h
    clear h
    go_enter Try.func7, Try.ntmps7
    go_wp2_with fail
    refine (new_any s w (by have := H.out; omega)).mono ?_
    rintro e w1 ⟨⟨p, n, c, rfl, hI, _⟩, b1⟩
    obtain ⟨W, hW⟩ : ∃ W, W = w1.alloc (.cells #[.string s, .slice p n c] 26) := ⟨_, rfl⟩
    have bW : Below w.heap.size w W := by rw [hW]; exact b1.alloc b1.size _
    have HI := hid (show ∀ w', Below W.heap.size W w' → Ix w' p n s from fun w' h => (hI.below ((Below.refl _ _).alloc (Nat.le_refl _) (.cells #[.string s, .slice p n c] 26))).below (by rw [← hW]; exact h))
    have hsz := hid (show W.heap.size = w1.heap.size + 1 by rw [hW]; simp)
    have Keep := hid (show ∀ w', Below W.heap.size W w' → w'.cell? ⟨w1.heap.size, 0, none⟩ = some (.string s) ∧ w'.cell? ⟨w1.heap.size, 1, none⟩ = some (.slice p n c) from fun w' h =>
      cells2 ((h.block _ (by rw [hW]; simp)).trans (show W.heap[w1.heap.size]? = _ by rw [hW]; exact alloc_new _ _)))
    have HW := hid hW
    clear hW hI
    go_wp2_with fail
    rw [← HW.out]
    go_loopg [4, 5] (N s + 1) (fun k s4 s5 wr => ∃ i : Nat, s4 = .string (upTo s i) ∧ s5 = .int .i64 i ∧ i + k = N s + 1 ∧ Below W.heap.size W wr)
    case atStart => exact ⟨0, by rw [upTo_zero], rfl, by omega, Below.refl _ _⟩
    case round =>
      obtain ⟨i, rfl, rfl, hk, hbr⟩ := hrel
      obtain ⟨k0, k1⟩ := Keep.out _ hbr
      have hi0 : (0 : Int) ≤ (i : Int) := by omega
      have hN := N_le s
      obtain ⟨t, ht⟩ : ∃ t, t = upTo s i := ⟨_, rfl⟩
      have hts : t.size ≤ s.size := by rw [ht]; exact upTo_size s i
      rw [← ht]
      have T := hid ht
      clear ht
      go_wp2_with fail
      refine (lines_any s p n c wr (by have := H.out; omega) (HI.out _ hbr)).mono ?_
      rintro e w3 ⟨rfl, b3⟩
      have hb3 := hbr.trans (b3.mono hbr.size)
      clear k0 k1
      obtain ⟨k0, k1⟩ := Keep.out _ hb3
      by_cases hlt : i < N s + 1
      · have hlt' : (i : Int) < (N s : Int) + 1 := by omega
        have hlt2 : (i : Int) ≤ (s.size : Int) := by omega
        have hi : i ≤ N s := by omega
        have V := hid (lnv_yes hi)
        have hi' := hid hi
        obtain ⟨x, hx⟩ : ∃ x, x = lineAt s i := ⟨_, rfl⟩
        have hxs : x.size ≤ s.size := by rw [hx, lineAt_size hi]; have := bg_en hi; omega
        have HC := hid (show ∀ k, k < x.size → ¬ nl x k = true from fun k hk => by rw [hx] at hk ⊢; exact nl_line hi hk)
        rw [← hx] at V
        have HX := hid hx
        clear hx hi
        go_wp2_with fail
        refine (line_any s p n c i w3 (by have := H.out; omega) (HI.out _ hb3)).mono ?_
        rintro e w4 ⟨rfl, b4⟩
        rw [V.out]
        have hb4 := hb3.trans (b4.mono hb3.size)
        clear k0 k1
        go_wp2_with fail
        obtain ⟨go, rfl⟩ : ∃ go, go = gk := ⟨_, rfl⟩
        go_loopg [8] x.size (fun q s8 wy => ∃ j : Nat, s8 = .int .i64 j ∧ j + q = x.size ∧ w4 = wy)
        case atStart => exact ⟨0, rfl, by omega, rfl⟩
        case round =>
          obtain ⟨j, rfl, hq, rfl⟩ := hrel
          have hj0 : (0 : Int) ≤ (j : Int) := by omega
          by_cases hjlt : j < x.size
          · have hjlt' : (j : Int) < (x.size : Int) := by omega
            have hc' : ¬ (x[j].toNat : Int) = 10 := fun h => HC.out j hjlt ((nl_byte hjlt).2 h)
            go_wp2
            go_roundg (gk - 1)
            case measure => omega
            case rel => exact ⟨j + 1, by go_num, by omega, rfl⟩
          · have hjn : ¬ (j : Int) < (x.size : Int) := by omega
            by_cases h0 : i = 0
            · subst h0
              have e := hid (show t ++ x = upTo s 1 by rw [T.out, HX.out]; exact upTo_one s)
              have z1 : (t.size : Int) ≤ 300 := by omega
              have z2 : (x.size : Int) ≤ 300 := by omega
              go_wp2
              go_roundg (go - 1)
              case measure => omega
              case rel => exact ⟨1, by rw [← e.out], by go_num, by omega, hb4⟩
            · obtain ⟨m, rfl⟩ : ∃ m, i = m + 1 := ⟨i - 1, by omega⟩
              have e := hid (show t ++ { data := #[10] } ++ x = upTo s (m + 2) by rw [T.out, HX.out]; exact upTo_succ hi'.out)
              have z1 : (t.size : Int) ≤ 300 := by omega
              have z2 : (x.size : Int) ≤ 300 := by omega
              have z3 : (0 : Int) < ((m + 1 : Nat) : Int) := by omega
              go_wp2
              go_roundg (go - 1)
              case measure => omega
              case rel => exact ⟨m + 2, by rw [← e.out], by go_num, by omega, hb4⟩
      · have hout : ¬ (i : Int) < (N s : Int) + 1 := by omega
        obtain rfl : i = N s + 1 := by omega
        have ht2 := hid (show t = s by rw [T.out, upTo_end])
        go_wp2_with fail
        refine (awake_any w3).mono ?_
        rintro e w4 ⟨rfl, b4⟩
        rw [ht2.out]
        go_wp2
        go_ret
        exact ⟨rfl, bW.trans ((hb3.trans (b4.mono hb3.size)).mono bW.size)⟩
  · have h' : (300 : Int) < (s.size : Int) := by omega
    go_enter Try.func7, Try.ntmps7
    go_wp2_with fail
    refine (awake_any w).mono ?_
    rintro e w1 ⟨rfl, b1⟩
    go_wp2
    go_ret
    exact ⟨rfl, b1⟩

theorem lifted (os : Os) (started : os.Started) (H : Type) (enc : TypeId × Value → H) :
    ReturnsInHanded {} Try.checked os 7 .any (Rows.lineindexJoinSpec.pre6 enc Try.prog Try.f7 Rows.lineindexJoinRow.domain false) (Rows.lineindexJoinSpec.post enc Try.prog Try.f7 false true false false) := by
  refine Go.Frame.lifted (C := Try.checked) (tb := 4) own started (by kernel_rfl) Try.func7
    (ChangeSpec.witness6 (enc := enc) (C := Try.checked) false ⟨#[], #[.string ByteArray.empty], []⟩ 8 (by kernel_rfl) (by kernel_rfl) (by kernel_rfl) (by kernel_rfl))
    laidOut (by kernel_rfl) (by kernel_rfl) Try.underlying4 rfl ?_ ?_
  · intro ds h
    have h : ds.length = 1 := h
    match ds, h with
    | [_], _ => rfl
  · intro W base args ds p hlen hval0 hA hsz0
    have hval : ∀ (j : Nat) t v, Try.f7.params[j]? = some t → args[j]? = some v → Value.okWide Try.prog W .any base t v := hval0
    have hA : DataW.TrodAll enc Try.prog W 0 (fun _ => true) true Try.f7.params.toList args.toList ds p := hA
    have hsz : (DataW.weightsEach Try.prog Try.f7.params.toList ds).all (· ≤ reachBytes) = true := hsz0
    rw [Try.params7] at hA hval hsz
    obtain ⟨v0, vs0, d0, ds0, p0, q0, hargs, hds, _, th0, tr0⟩ := trodAll_cons hA
    obtain ⟨rfl, rfl, _⟩ := trodAll_nil tr0
    obtain rfl : args = #[v0] := by cases args; simp_all
    subst hds
    obtain ⟨t0, rfl, _, _, _⟩ := open_string Try.underlying9 (hval 0 9 v0 rfl rfl) th0
    exact walk t0 W 

theorem over : Rows.lineindexJoinRow.holds Try.pinned (OpenSpec.ofChange Rows.lineindexJoinSpec) :=
  OpenClaim.holds_of_wide 7 Try.f7 rfl rfl rfl rfl rfl rfl rfl ⟨rfl, rfl, rfl, rfl, rfl⟩ rfl rfl rfl rfl rfl (by kernel_rfl) Try.func7 (by kernel_rfl)
    (of_decide_eq_true (by kernel_rfl)) (by unfold Func.isWrapper; first | (rw [if_pos (by decide +kernel)]; kernel_rfl) | (rw [if_neg (by decide +kernel)]; exact ⟨rfl, rfl⟩))
    (fun os started H enc _ => lifted os started H enc)

/-- THE STATEMENT -/
theorem proved : Rows.LineindexJoinSaid :=
  over
#print axioms proved
end Go.Proofs.Ytcmoehjalgppmaa.lineindexJoin
