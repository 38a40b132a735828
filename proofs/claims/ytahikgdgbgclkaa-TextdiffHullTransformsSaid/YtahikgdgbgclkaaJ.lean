/-
  Contracts: the reference's Hull; Together.
-/
import Derived.Test.YtahikgdgbgclkaaF
import Derived.Test.YtahikgdgbgclkaaEv
set_option linter.unusedSimpArgs false
set_option linter.unusedVariables false
namespace Go.Proofs.Ytahikgdgbgclkaa
open Go.RowKit Te Go.Frame

theorem ex_at {s : ByteArray} {i k : Nat} (h : k < (s.extract i s.size).size) (h' : i + k < s.size) : (s.extract i s.size)[k]'h = s[i + k]'h' := by
  have h1 := L_at h
  rw [L_tail, List.getElem?_drop, L_at h'] at h1
  exact (Option.some.inj h1).symm
/-- How far the second loop has come, in the whole strings. -/
theorem hs_step {a b : ByteArray} {p n : Nat} (h : Cs (a.extract p a.size) (b.extract p b.size) n) (h1 : n < a.size - p) (h2 : n < b.size - p) (he : a[a.size - 1 - n]'(by omega) = b[b.size - 1 - n]'(by omega)) : Cs (a.extract p a.size) (b.extract p b.size) (n + 1) := by
  have s1 : (a.extract p a.size).size = a.size - p := tail_size
  have s2 : (b.extract p b.size).size = b.size - p := tail_size
  refine h.step (by omega) (by omega) ?_
  rw [ex_at (by omega) (by omega), ex_at (by omega) (by omega)]
  have e1 : p + ((a.extract p a.size).size - 1 - n) = a.size - 1 - n := by omega
  have e2 : p + ((b.extract p b.size).size - 1 - n) = b.size - 1 - n := by omega
  simp only [e1, e2]
  exact he
theorem hs_stop {a b : ByteArray} {p n : Nat} (h : Cs (a.extract p a.size) (b.extract p b.size) n) (h' : ¬ (n < a.size - p ∧ n < b.size - p) ∨ ∃ (h1 : n < a.size - p) (h2 : n < b.size - p), ¬ a[a.size - 1 - n]'(by omega) = b[b.size - 1 - n]'(by omega)) : n = cs (a.extract p a.size) (b.extract p b.size) := by
  have s1 : (a.extract p a.size).size = a.size - p := tail_size
  have s2 : (b.extract p b.size).size = b.size - p := tail_size
  refine h.stop ?_
  rcases h' with h' | ⟨h1, h2, hne⟩
  · exact .inl (by omega)
  · refine .inr ⟨by omega, by omega, ?_⟩
    rw [ex_at (by omega) (by omega), ex_at (by omega) (by omega)]
    have e1 : p + ((a.extract p a.size).size - 1 - n) = a.size - 1 - n := by omega
    have e2 : p + ((b.extract p b.size).size - 1 - n) = b.size - 1 - n := by omega
    simp only [e1, e2]
    exact hne
theorem sl_sub {b : ByteArray} {n s : Nat} (h : n + s ≤ b.size) : ∀ X, (Instr.slice 9 (.string b) (some (.int .i64 (n : Int))) (some (.int .i64 ((b.size : Int) - (s : Int)))) none).run Try.prog X = .ok (.string (b.extract n (b.size - s))) X := by
  intro X
  rw [show (b.size : Int) - (s : Int) = ((b.size - s : Nat) : Int) by omega]
  have := run_slice_string (P := Try.prog) X 9 b .i64 .i64 (n : Int) ((b.size - s : Nat) : Int) Try.underlying9 (by omega) (by omega) (by omega)
  rwa [Int.toNat_natCast, Int.toNat_natCast] at this

set_option maxRecDepth 100000 in
set_option maxHeartbeats 8000000 in
theorem rHull_any (a b : ByteArray) (w : World) (ha : a.size ≤ 10000) (hb : b.size ≤ 10000) :
    Calls Try.prog 19 #[.string a, .string b] w fun e w' => e = .returned (edv (hull a b)) ∧ Below w.heap.size w w' := by
  obtain ⟨W, hW⟩ : ∃ W, W = w.alloc (.cells #[.int .i64 0, .int .i64 0, .string { data := #[] }] 30) := ⟨_, rfl⟩
  have bW : Below w.heap.size w W := by rw [hW]; exact (Below.refl _ _).alloc (Nat.le_refl _) _
  have Z0 := hid (fun w' (h : Below W.heap.size W w') => (h.block w.heap.size (by rw [hW]; simp)).trans (show W.heap[w.heap.size]? = some (.cells #[.int .i64 0, .int .i64 0, .string { data := #[] }] 30 (0, 0)) by rw [hW]; exact alloc_new _ _))
  have HW := hid hW
  clear hW
  go_enter Try.func19, Try.ntmps19
  go_wp2_with fail
  rw [← HW.out]
  go_loopg [5] (a.size + b.size) (fun k p wr => ∃ n : Nat, p = .int .i64 n ∧ n + k = a.size + b.size ∧ Cp a b n ∧ Below W.heap.size W wr)
  case atStart => exact ⟨0, rfl, by omega, Cp.start a b, Below.refl _ _⟩
  case round =>
    obtain ⟨n, rfl, hk, hc, hbw⟩ := hrel
    have h0 : (0 : Int) ≤ (n : Int) := by omega
    have hn1 := hc.1
    have hn2 := hc.2.1
    have HC := hid hc
    have HB := hid hbw
    clear hc hbw
    by_cases hgo : ∃ (h1 : n < a.size) (h2 : n < b.size), (a[n]'h1) = (b[n]'h2)
    · obtain ⟨hA, hB, he⟩ := hgo
      have g1 : (n : Int) < (b.size : Int) := by omega
      have g2 : (n : Int) < (a.size : Int) := by omega
      have d1 : decide ((n : Int) < (a.size : Int)) = true := decide_eq_true g2
      have d2 : decide ((n : Int) < (b.size : Int)) = true := decide_eq_true g1
      have hc := byte_eq.1 he
      have HE := hid (HC.out.step hA hB he)
      clear he
      go_wp2_with fail
      go_quiet (fail)
      go_wp2
      go_roundg (gk - 1)
      case measure => omega
      case rel => exact ⟨n + 1, by go_num, by omega, HE.out, below_drewN HB.out _⟩
    · have hn : n = cp a b := by
        refine HC.out.stop ?_
        by_cases h : n < a.size ∧ n < b.size
        · exact .inr ⟨h.1, h.2, fun e => hgo ⟨h.1, h.2, e⟩⟩
        · exact .inl h
      have hw : (∃ (h1 : n < a.size) (h2 : n < b.size), (n : Int) < (a.size : Int) ∧ (n : Int) < (b.size : Int) ∧ ¬ ((a[n]'h1).toNat : Int) = ((b[n]'h2).toNat : Int)) ∨ (n < a.size ∧ ¬ n < b.size ∧ (n : Int) < (a.size : Int) ∧ ¬ (n : Int) < (b.size : Int)) ∨ (¬ n < a.size ∧ ¬ (n : Int) < (a.size : Int)) := by
        by_cases h1 : n < a.size
        · by_cases h2 : n < b.size
          · exact .inl ⟨h1, h2, by omega, by omega, fun e => hgo ⟨h1, h2, byte_eq.2 e⟩⟩
          · exact .inr (.inl ⟨h1, h2, by omega, by omega⟩)
        · exact .inr (.inr ⟨h1, by omega⟩)
      have HN := hid hn
      have q1 : (n : Int) ≤ (a.size : Int) := by omega
      have q2 : (n : Int) ≤ (b.size : Int) := by omega
      have w1 : IntKind.i64.wrap ((a.size : Int) - (n : Int)) = ((a.size - n : Nat) : Int) := by rw [wrapIn (by omega) (by omega)]; omega
      have w2 : IntKind.i64.wrap ((b.size : Int) - (n : Int)) = ((b.size - n : Nat) : Int) := by rw [wrapIn (by omega) (by omega)]; omega
      have w3 : IntKind.i64.wrap ((a.size : Int) - 1) = (a.size : Int) - 1 := wrapIn (by omega) (by omega)
      have w4 : IntKind.i64.wrap ((b.size : Int) - 1) = (b.size : Int) - 1 := wrapIn (by omega) (by omega)
      have s1 : (a.extract n a.size).size = a.size - n := tail_size
      have s2 : (b.extract n b.size).size = b.size - n := tail_size
      have HS := hid (And.intro s1 s2)
      clear hn hgo s1 s2
      obtain ⟨go, rfl⟩ : ∃ go, go = gk := ⟨_, rfl⟩
      rcases hw with ⟨h1, h2, d1, d2, hc⟩ | ⟨h1, h2, d1, d2⟩ | ⟨h1, d1⟩
      all_goals
        go_wp2_with fail
        go_quiet (fail)
        go_wp2_with fail
        obtain ⟨V, hV⟩ : ∃ V, V = wr.drewN nq := ⟨_, rfl⟩
        have bV := hid (show Below W.heap.size W V by rw [hV]; exact below_drewN HB.out _)
        rw [← hV]
        clear hV
        try clear hc
        try clear h2 d2
        try clear h1 d1
        go_loopg [6] (a.size + b.size) (fun k p wr => ∃ s : Nat, p = .int .i64 s ∧ s + k = a.size + b.size ∧ Cs (a.extract n a.size) (b.extract n b.size) s ∧ Below W.heap.size W wr)
        case atStart => exact ⟨0, rfl, by omega, Cs.start _ _, bV.out⟩
        case round =>
          obtain ⟨s, rfl, hk', hcs, hbw⟩ := hrel
          have t0 : (0 : Int) ≤ (s : Int) := by omega
          have ht1 : s ≤ a.size - n := by have := hcs.1; have := HS.out.1; omega
          have ht2 : s ≤ b.size - n := by have := hcs.2.1; have := HS.out.2; omega
          have HCS := hid hcs
          have HB2 := hid hbw
          clear hcs hbw
          by_cases hga : s < a.size - n
          · try (exfalso; omega)
            all_goals
              have r1 : (s : Int) < ((a.size - n : Nat) : Int) := by omega
              have e1 : decide ((s : Int) < ((a.size - n : Nat) : Int)) = true := decide_eq_true r1
              by_cases hgb : s < b.size - n
              · have r2 : (s : Int) < ((b.size - n : Nat) : Int) := by omega
                have e2 : decide ((s : Int) < ((b.size - n : Nat) : Int)) = true := decide_eq_true r2
                have v3 : IntKind.i64.wrap ((a.size : Int) - 1 - (s : Int)) = ((a.size - 1 - s : Nat) : Int) := by rw [wrapIn (by omega) (by omega)]; omega
                have v4 : IntKind.i64.wrap ((b.size : Int) - 1 - (s : Int)) = ((b.size - 1 - s : Nat) : Int) := by rw [wrapIn (by omega) (by omega)]; omega
                have ja : a.size - 1 - s < a.size := by omega
                have jb : b.size - 1 - s < b.size := by omega
                have p1 : (0 : Int) ≤ ((a.size - 1 - s : Nat) : Int) := by omega
                have p2 : (0 : Int) ≤ ((b.size - 1 - s : Nat) : Int) := by omega
                have p3 : ((a.size - 1 - s : Nat) : Int) < (a.size : Int) := by omega
                have p4 : ((b.size - 1 - s : Nat) : Int) < (b.size : Int) := by omega
                by_cases he : (a[a.size - 1 - s]'ja) = (b[b.size - 1 - s]'jb)
                · have hc' := byte_eq.1 he
                  have HE := hid (hs_step HCS.out hga hgb he)
                  clear he
                  go_wp2_with fail
                  go_quiet (fail)
                  go_wp2
                  go_roundg (gk - 1)
                  case measure => omega
                  case rel => exact ⟨s + 1, by go_num, by omega, HE.out, below_drewN HB2.out _⟩
                · have hc' : ¬ ((a[a.size - 1 - s]'ja).toNat : Int) = ((b[b.size - 1 - s]'jb).toNat : Int) := fun e => he (byte_eq.2 e)
                  have HE := hid (hs_stop HCS.out (.inr ⟨hga, hgb, he⟩))
                  clear he
                  go_wp2_with fail
                  go_quiet (fail)
                  obtain ⟨Y, hY⟩ : ∃ Y, Y = wr.drewN nq := ⟨_, rfl⟩
                  have bY := hid (show Below W.heap.size W Y by rw [hY]; exact below_drewN HB2.out _)
                  rw [← hY]
                  have hz := Z0.out _ bY.out
                  obtain ⟨z0, z1, z2⟩ := cells3 hz
                  obtain ⟨f0, f1, f2⟩ := frozen3 hz
                  have HZ := hid hz
                  clear hz hY
                  have hsl : ∀ X, (Instr.slice 9 (.string b) (some (.int .i64 (n : Int))) (some (.int .i64 ((b.size : Int) - (s : Int)))) none).run Try.prog X = .ok (.string (b.extract n (b.size - s))) X := sl_sub (by omega)
                  go_wp2_with fail
                  obtain ⟨r0, r1, r2⟩ := cells3 (three_set (x' := .int .i64 (n : Int)) (y' := .int .i64 (((a.size - n : Nat) : Int) - (s : Int))) (z' := .string (b.extract n (b.size - s))) HZ.out)
                  have hh : hull a b = ((n : Int), ((a.size - n : Nat) : Int) - (s : Int), b.extract n (b.size - s)) := by
                    have h2 : hs a b = s := by rw [HE.out, HN.out]; rfl
                    have h3 : ((a.size - n : Nat) : Int) - (s : Int) = ((a.size - n - s : Nat) : Int) := by omega
                    rw [h3]
                    unfold hull; rw [h2, ← HN.out]
                  refine bodyPost_ret (v := edv (hull a b)) ?_ rfl ⟨rfl, ?_⟩
                  · rw [hh]; unfold edv
                    simp [results, Try.results19, go_sem, r0, r1, r2]
                  · exact below_put (below_put (below_put (bW.trans (bY.out.mono bW.size)) (Nat.le_refl _)) (Nat.le_refl _)) (Nat.le_refl _)
              · have r2 : ¬ (s : Int) < ((b.size - n : Nat) : Int) := by omega
                have HE := hid (hs_stop HCS.out (.inl (by omega)))
                go_wp2_with fail
                go_quiet (fail)
                obtain ⟨Y, hY⟩ : ∃ Y, Y = wr.drewN nq := ⟨_, rfl⟩
                have bY := hid (show Below W.heap.size W Y by rw [hY]; exact below_drewN HB2.out _)
                rw [← hY]
                have hz := Z0.out _ bY.out
                obtain ⟨z0, z1, z2⟩ := cells3 hz
                obtain ⟨f0, f1, f2⟩ := frozen3 hz
                have HZ := hid hz
                clear hz hY
                have hsl : ∀ X, (Instr.slice 9 (.string b) (some (.int .i64 (n : Int))) (some (.int .i64 ((b.size : Int) - (s : Int)))) none).run Try.prog X = .ok (.string (b.extract n (b.size - s))) X := sl_sub (by omega)
                go_wp2_with fail
                obtain ⟨r0, r1, r2⟩ := cells3 (three_set (x' := .int .i64 (n : Int)) (y' := .int .i64 (((a.size - n : Nat) : Int) - (s : Int))) (z' := .string (b.extract n (b.size - s))) HZ.out)
                have hh : hull a b = ((n : Int), ((a.size - n : Nat) : Int) - (s : Int), b.extract n (b.size - s)) := by
                  have h2 : hs a b = s := by rw [HE.out, HN.out]; rfl
                  have h3 : ((a.size - n : Nat) : Int) - (s : Int) = ((a.size - n - s : Nat) : Int) := by omega
                  rw [h3]
                  unfold hull; rw [h2, ← HN.out]
                refine bodyPost_ret (v := edv (hull a b)) ?_ rfl ⟨rfl, ?_⟩
                · rw [hh]; unfold edv
                  simp [results, Try.results19, go_sem, r0, r1, r2]
                · exact below_put (below_put (below_put (bW.trans (bY.out.mono bW.size)) (Nat.le_refl _)) (Nat.le_refl _)) (Nat.le_refl _)
          · have r1 : ¬ (s : Int) < ((a.size - n : Nat) : Int) := by omega
            have HE := hid (hs_stop HCS.out (.inl (by omega)))
            go_wp2_with fail
            go_quiet (fail)
            obtain ⟨Y, hY⟩ : ∃ Y, Y = wr.drewN nq := ⟨_, rfl⟩
            have bY := hid (show Below W.heap.size W Y by rw [hY]; exact below_drewN HB2.out _)
            rw [← hY]
            have hz := Z0.out _ bY.out
            obtain ⟨z0, z1, z2⟩ := cells3 hz
            obtain ⟨f0, f1, f2⟩ := frozen3 hz
            have HZ := hid hz
            clear hz hY
            have hsl : ∀ X, (Instr.slice 9 (.string b) (some (.int .i64 (n : Int))) (some (.int .i64 ((b.size : Int) - (s : Int)))) none).run Try.prog X = .ok (.string (b.extract n (b.size - s))) X := sl_sub (by omega)
            go_wp2_with fail
            obtain ⟨r0, r1, r2⟩ := cells3 (three_set (x' := .int .i64 (n : Int)) (y' := .int .i64 (((a.size - n : Nat) : Int) - (s : Int))) (z' := .string (b.extract n (b.size - s))) HZ.out)
            have hh : hull a b = ((n : Int), ((a.size - n : Nat) : Int) - (s : Int), b.extract n (b.size - s)) := by
              have h2 : hs a b = s := by rw [HE.out, HN.out]; rfl
              have h3 : ((a.size - n : Nat) : Int) - (s : Int) = ((a.size - n - s : Nat) : Int) := by omega
              rw [h3]
              unfold hull; rw [h2, ← HN.out]
            refine bodyPost_ret (v := edv (hull a b)) ?_ rfl ⟨rfl, ?_⟩
            · rw [hh]; unfold edv
              simp [results, Try.results19, go_sem, r0, r1, r2]
            · exact below_put (below_put (below_put (bW.trans (bY.out.mono bW.size)) (Nat.le_refl _)) (Nat.le_refl _)) (Nat.le_refl _)
end Go.Proofs.Ytahikgdgbgclkaa
