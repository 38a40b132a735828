/-
  TextdiffDiffTransforms, for every input: the law returns true and leaves its arguments as they read. No condition.
-/
import Derived.Test.YtahikgdgbgclkaaN
import Derived.Test.YtahikgdgbgclkaaK
set_option linter.unusedSimpArgs false
set_option linter.unusedVariables false
namespace Go.Proofs.Ytahikgdgbgclkaa.textdiffDiffTransforms
open Go.ChangeShapes Go.WideShapes Go.ChangeAt Go.RowKit Go.Frame
open Go.ChangeMaps (open_string shut_string)
open Te
theorem sep_len {n : Nat} : ∀ {l : List Ed} {lo : Nat}, Sep n l lo → lo ≤ n + 1 → l.length + lo ≤ n + 1
  | [], lo, _, h => by simpa using h
  | e :: l, lo, ⟨p, d, s, _, h1, h2, h3⟩, h => by
    have := sep_len h3 (by omega)
    simp only [List.length_cons]
    omega
theorem sep_at {n : Nat} : ∀ {l : List Ed} {lo i : Nat} {x : Ed}, Sep n l lo → l[i]? = some x → ∃ (p d : Nat) (s : ByteArray), x = ((p : Int), (d : Int), s) ∧ p + d ≤ n
  | e :: l, lo, 0, x, ⟨p, d, s, he, h1, h2, h3⟩, h => by
    simp at h
    exact ⟨p, d, s, h ▸ he, h2⟩
  | e :: l, lo, i + 1, x, ⟨p, d, s, he, h1, h2, h3⟩, h => sep_at h3 (by simpa using h)
theorem sep_adj {n : Nat} : ∀ {l : List Ed} {lo i : Nat} {x y : Ed}, Sep n l lo → l[i]? = some x → l[i + 1]? = some y → x.1 + x.2.1 < y.1
  | [e], lo, 0, x, y, _, hx, hy => by simp at hy
  | e :: e' :: l, lo, 0, x, y, ⟨p, d, s, he, h1, h2, p', d', s', he', h1', _⟩, hx, hy => by
    simp at hx hy
    rw [← hx, ← hy, he, he']
    simp only
    omega
  | e :: l, lo, i + 1, x, y, ⟨p, d, s, he, h1, h2, h3⟩, hx, hy => sep_adj h3 (by simpa using hx) (by simpa using hy)
theorem tot_step {l : List Ed} {i p d : Nat} {s : ByteArray} (h : l[i]? = some ((p : Int), (d : Int), s)) : tot (l.drop i) = d + s.size + tot (l.drop (i + 1)) := by
  obtain ⟨hl, he⟩ := List.getElem?_eq_some_iff.1 h
  rw [List.drop_eq_getElem_cons hl, he]
  rfl
theorem tot_drop : ∀ (l : List Ed) (i : Nat), tot (l.drop i) ≤ tot l
  | [], i => by simp [tot]
  | e :: l, 0 => by simp
  | e :: l, i + 1 => by
    have := tot_drop l i
    simp only [List.drop_succ_cons, tot]
    omega
set_option maxRecDepth 100000 in
set_option maxHeartbeats 8000000 in
theorem walk (a b : ByteArray) (w : World) (ha : a.size ≤ 140737488351232) (hb : b.size ≤ 140737488351232) :
    Calls Try.prog 7 #[.string a, .string b] w fun e w' => e = .returned (.bool true) ∧ Below w.heap.size w w' := by
  go_enter Try.func7, Try.ntmps7
  go_wp2_with fail
  refine (awake_any w).mono ?_
  rintro e w1 ⟨rfl, b1⟩
  have B1 := hid b1
  clear b1
  go_wp2_with fail
  refine (few_any a b w1).mono ?_
  rintro e w1' ⟨rfl, rfl⟩
  by_cases hF : Few a b
  · rw [decide_eq_true hF]
    have h1 : a.size ≤ 10000 := by have := hF.1; omega
    have h2 : b.size ≤ 10000 := by have := hF.2; omega
    clear hF
    go_wp2_with fail
    refine (Diff_any a b w1 h1 h2).mono ?_
    rintro e w2 ⟨⟨p, c, rfl, hrow⟩, b2⟩
    obtain ⟨E, hE⟩ : ∃ E, E = dg a b 0 0 none := ⟨_, rfl⟩
    rw [← hE] at hrow ⊢
    obtain ⟨s1, s2, s3⟩ := (dg_all a b 0 0).1 (Nat.zero_le _) (Nat.zero_le _)
    rw [← hE] at s1 s2 s3
    have hlen := sep_len s1 (Nat.zero_le _)
    have ht : tgt a E 0 = L b := by rw [s2 0 (Nat.le_refl _)]; simp
    have hD := D_le a b 0 0
    obtain ⟨n, hn⟩ : ∃ n, n = E.length := ⟨_, rfl⟩
    rw [← hn] at hrow hlen ⊢
    have hn1 : n ≤ 1000000 := by omega
    have B2 := hid (B1.out.trans (b2.mono B1.out.size))
    have HR := hid hrow
    have HS := hid s1
    have HT := hid ht
    have HO := hid s3
    have HN := hid hn
    have hT := tot_drop E 0
    have tb : tot E ≤ 20000 := by omega
    clear hE hrow s1 s2 s3 ht hn b2 hlen hT hD
    go_wp2_with fail
    go_loopg [6, 7] n (fun k s6 s7 wr => ∃ i m : Nat, s6 = .int .i64 m ∧ s7 = .int .i64 i ∧ i + k = n ∧ m + tot (E.drop i) = tot E ∧ Below w2.heap.size w2 wr)
    case atStart => exact ⟨0, 0, rfl, rfl, by omega, by simp, Below.refl _ _⟩
    case round =>
      obtain ⟨i, m, rfl, rfl, hk, hm, hbw⟩ := hrel
      have HB := hid hbw
      by_cases hlt : i < n
      · have hlt' : (i : Int) < (n : Int) := by omega
        have hi0 : (0 : Int) ≤ (i : Int) := by omega
        obtain ⟨x, hxi⟩ : ∃ x, E[i]? = some x := ⟨_, List.getElem?_eq_getElem (by rw [← HN.out]; exact hlt)⟩
        obtain ⟨q, d, s, rfl, hq⟩ := sep_at HS.out hxi
        have hts := tot_step hxi
        obtain ⟨bl, off, rfl, hbl, hx⟩ := (HR.out.below hbw).2.resolve_left (by omega)
        obtain ⟨c0, c1, c2⟩ := hx i _ hxi
        have m0 : (m : Int) ≤ 20000 := by omega
        have m1 : (d : Int) ≤ 20000 := by omega
        have m2 : (s.size : Int) ≤ 20000 := by omega
        have m3 : (0 : Int) ≤ (m : Int) := by omega
        have m4 : (0 : Int) ≤ (d : Int) := by omega
        have m5 : (0 : Int) ≤ (s.size : Int) := by omega
        have m6 : (m : Int) + (d : Int) ≤ 20000 := by omega
        have rel : ((m : Int) + (d : Int) + (s.size : Int)) = ((m + d + s.size : Nat) : Int) := by omega
        have HM := hid (show (m + d + s.size) + tot (E.drop (i + 1)) = tot E by omega)
        have HREL := hid rel
        clear rel hts hm
        by_cases hp : i = 0
        · have HP := hid hp
          have hp' : ¬ 0 < i := by omega
          clear hp hx hxi
          go_wp2_with fail
          go_quiet (fail)
          go_wp2_with fail
          go_quiet (fail)
          go_wp2
          go_roundg (gk - 1)
          case measure => omega
          case rel => exact ⟨i + 1, m + d + s.size, by rw [← HREL.out], by go_num, by omega, HM.out, below_drewN HB.out _⟩
        · have hp' : 0 < i := by omega
          obtain ⟨j, rfl⟩ : ∃ j, i = j + 1 := ⟨i - 1, by omega⟩
          obtain ⟨y, hyi⟩ : ∃ y, E[j]? = some y := ⟨_, List.getElem?_eq_getElem (by rw [← HN.out]; omega)⟩
          obtain ⟨q', d', s', rfl, hq'⟩ := sep_at HS.out hyi
          have hadj := sep_adj HS.out hyi hxi
          simp only at hadj
          obtain ⟨e0, e1, e2⟩ := hx j _ hyi
          have w1 : IntKind.i64.wrap (((j + 1 : Nat) : Int) - 1) = (j : Int) := by rw [wrapIn (by omega) (by omega)]; omega
          have j0 : (0 : Int) ≤ (j : Int) := by omega
          have j1 : (j : Int) < (n : Int) := by omega
          have t0 : (q' : Int) ≤ 20000 := by omega
          have t1 : (d' : Int) ≤ 20000 := by omega
          have t2 : (0 : Int) ≤ (q' : Int) := by omega
          have t3 : (0 : Int) ≤ (d' : Int) := by omega
          have t4 : ¬ (q : Int) ≤ (q' : Int) + (d' : Int) := by omega
          clear hp hx hxi hyi hadj
          go_wp2_with fail
          go_quiet (fail)
          go_wp2_with fail
          go_quiet (fail)
          go_wp2
          go_roundg (gk - 1)
          case measure => omega
          case rel => exact ⟨j + 1 + 1, m + d + s.size, by rw [← HREL.out], by go_num, by omega, HM.out, below_drewN HB.out _⟩
      · have hin : i = n := by omega
        have hn1' : ¬ (i : Int) < (n : Int) := by omega
        have hmt : m = D a b 0 0 := by
          rw [List.drop_eq_nil_of_le (by rw [← HN.out]; omega)] at hm
          simp only [tot] at hm
          have := HO.out
          omega
        have HM := hid hmt
        have R3 := hid (HR.out.below hbw)
        clear hm hmt
        go_wp2_with fail
        refine (together_any a b p n c E wr h1 hn1 (by omega) HS.out HT.out R3.out).mono ?_
        rintro e w3 ⟨rfl, b3⟩
        have B3 := hid (B2.out.trans ((HB.out.trans (b3.mono HB.out.size)).mono B2.out.size))
        have e1 : (b.toList == b.toList) = true := by simp
        clear b3 hbw
        go_wp2_with fail
        refine (Distance_any a b w3 h1 h2).mono ?_
        rintro e w4 ⟨rfl, b4⟩
        have B4 := B3.out.trans (b4.mono B3.out.size)
        have e2 : ((m : Int) == (D a b 0 0 : Int)) = true := by rw [HM.out]; simp
        go_wp2
        go_ret
        refine ⟨?_, B4⟩
        first | rfl | simp [HM.out]
  · rw [decide_eq_false hF]
    clear hF
    go_wp2
    go_ret
    exact ⟨rfl, B1.out⟩

theorem lifted (os : Os) (started : os.Started) (H : Type) (enc : TypeId × Value → H) :
    ReturnsInHanded {} Try.checked os 7 .any (Rows.textdiffDiffTransformsSpec.pre6 enc Try.prog Try.f7 Rows.textdiffDiffTransformsRow.domain false) (Rows.textdiffDiffTransformsSpec.post enc Try.prog Try.f7 false true false false) := by
  refine Go.Frame.lifted (C := Try.checked) (tb := 4) own started (by kernel_rfl) Try.func7
    (ChangeSpec.witness6 (enc := enc) (C := Try.checked) false ⟨#[], #[.string ByteArray.empty, .string ByteArray.empty], []⟩ 8 (by kernel_rfl) (by kernel_rfl) (by kernel_rfl) (by kernel_rfl))
    laidOut (by kernel_rfl) (by kernel_rfl) Try.underlying4 rfl ?_ ?_
  · intro ds h
    have h : ds.length = 2 := h
    match ds, h with
    | [_, _], _ => rfl
  · intro W base args ds p hlen hval0 hA hsz0
    have hval : ∀ (j : Nat) t v, Try.f7.params[j]? = some t → args[j]? = some v → Value.okWide Try.prog W .any base t v := hval0
    have hA : DataW.TrodAll enc Try.prog W 0 (fun _ => true) true Try.f7.params.toList args.toList ds p := hA
    have hsz : (DataW.weightsEach Try.prog Try.f7.params.toList ds).all (· ≤ reachBytes) = true := hsz0
    rw [Try.params7] at hA hval hsz
    obtain ⟨v0, vs0, d0, ds0, p0, q0, hargs, hds, _, th0, tr0⟩ := trodAll_cons hA
    obtain ⟨v1, vs1, d1, ds1, p1, q1, rfl, rfl, _, th1, tr1⟩ := trodAll_cons tr0
    obtain ⟨rfl, rfl, _⟩ := trodAll_nil tr1
    obtain rfl : args = #[v0, v1] := by cases args; simp_all
    subst hds
    obtain ⟨t0, rfl, hd0, _, _⟩ := open_string Try.underlying9 (hval 0 9 v0 rfl rfl) th0
    have hs0 : t0.size ≤ 140737488351232 := of_decide_eq_true (List.all_eq_true.1 hsz _ (DataW.weights_mem_each (j := 0) rfl rfl _ (by rw [hd0]; simp [DataW.weights])))
    obtain ⟨t1, rfl, hd1, _, _⟩ := open_string Try.underlying9 (hval 1 9 v1 rfl rfl) th1
    have hs1 : t1.size ≤ 140737488351232 := of_decide_eq_true (List.all_eq_true.1 hsz _ (DataW.weights_mem_each (j := 1) rfl rfl _ (by rw [hd1]; simp [DataW.weights])))
    exact walk t0 t1 W hs0 hs1

theorem over : Rows.textdiffDiffTransformsRow.holds Try.pinned (OpenSpec.ofChange Rows.textdiffDiffTransformsSpec) :=
  OpenClaim.holds_of_wide 7 Try.f7 rfl rfl rfl rfl rfl rfl rfl ⟨rfl, rfl, rfl, rfl, rfl⟩ rfl rfl rfl rfl rfl (by kernel_rfl) Try.func7 (by kernel_rfl)
    (of_decide_eq_true (by kernel_rfl)) (by unfold Func.isWrapper; first | (rw [if_pos (by decide +kernel)]; kernel_rfl) | (rw [if_neg (by decide +kernel)]; exact ⟨rfl, rfl⟩))
    (fun os started H enc _ => lifted os started H enc)

/-- THE STATEMENT -/
theorem proved : Rows.TextdiffDiffTransformsSaid :=
  over
#print axioms proved
end Go.Proofs.Ytahikgdgbgclkaa.textdiffDiffTransforms
