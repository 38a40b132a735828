/-
  Contracts: the reference's Compose; awake.
-/
import Derived.Test.YtclebcpapcoafaaE

namespace Go.Proofs.Ytclebcpapcoafaa
open Go.RowKit Te

set_option maxRecDepth 100000 in
set_option maxHeartbeats 4000000 in
theorem rcompose_any (s : ByteArray) (p : Option Addr) (n c : Nat) (E : List Ed) (w : World) (hn : n ≤ 1000000) (hE : s.size + sz E ≤ 1000000) (h : Row w p n E) :
    Calls Try.prog 22 #[.string s, .slice p n c] w fun e w' => e = .returned (cmv (cmp s E)) ∧ Below w.heap.size w w' := by
  have HE := hid hE
  have HR := hid h
  have hl := hid h.1
  clear h hE
  by_cases h0 : n = 0
  · subst h0
    have Hn := hid (show cmp s E = some (0, 0, .empty) by unfold cmp; rw [if_pos (List.eq_nil_of_length_eq_zero hl.out)])
    go_enter Try.func22, Try.ntmps22
    go_wp2
    refine bodyPost_ret (v := .tuple #[.agg #[.int .i64 0, .int .i64 0, .string .empty], .int .i64 0]) ?_ rfl ⟨?_, ?_⟩
    · simp [results, Try.results22, go_sem]
      try rfl
    · rw [Hn.out]; rfl
    · repeat (first | refine Below.setCell ?_ (by first | (simp; done) | (simp; omega)) _ | refine Below.alloc ?_ (by first | exact Nat.le_refl _ | (simp; done) | (simp; omega)) _)
      exact Below.refl _ _
  · have hn0 : (0 : Int) < (n : Int) := by omega
    have hnb : ((n : Int) == 0) = false := by simp; omega
    go_enter Try.func22, Try.ntmps22
    go_wp2_with fail
    go_loopg [6, 7, 8, 9, 10] n (fun k s6 s7 s8 s9 s10 wr => ∃ (i : Nat) (cur : ByteArray) (b q x6 x7 x8 : Int), s6 = .int .i64 x6 ∧ s7 = .int .i64 x7 ∧ s8 = .int .i64 x8 ∧ s9 = .string cur ∧ s10 = .int .i64 i ∧ i + k = n ∧
      cst cur b q (E.drop i) = cst s s.size s.size E ∧ cur.size + sz (E.drop i) ≤ 1000000 ∧ ((i = 0 ∧ cur = s ∧ b = s.size ∧ q = s.size) ∨ (0 < i ∧ x6 = b ∧ x7 = s.size - q ∧ x8 = cur.size - q ∧ Inv s cur b q)) ∧
      Below w.heap.size w wr ∧ Bx wr w.heap.size (0, 0, { data := #[] }))
    case atStart =>
      refine ⟨0, s, s.size, s.size, 0, 0, 0, rfl, rfl, rfl, rfl, rfl, by omega, rfl, HE.out, .inl ⟨rfl, rfl, rfl, rfl⟩, ((Below.refl _ _).alloc (Nat.le_refl _) _), alloc_new _ _⟩
    case round =>
      obtain ⟨i, cur, b, q, x6, x7, x8, rfl, rfl, rfl, rfl, rfl, hk, hap, hsz, hiv, hbw, hx0⟩ := hrel
      have HA := hid hap
      have HZ := hid hsz
      have K := hid (show ∀ W', Below wr.heap.size wr W' → Bx W' w.heap.size (0, 0, { data := #[] }) from fun W' h => hx0.below h)
      have hgt := heap_lt hx0
      clear hap hsz hx0
      have Hs := hid (show s.size ≤ 1000000 by have := HE.out; omega)
      by_cases hlt : i < n
      · have hlt' : (i : Int) < (n : Int) := by omega
        have hi0 : (0 : Int) ≤ (i : Int) := by omega
        obtain ⟨⟨a, d, t⟩, hxi⟩ : ∃ x, E[i]? = some x := ⟨_, List.getElem?_eq_getElem (by rw [hl.out]; exact hlt)⟩
        have HX := hid hxi
        have hrow := (HR.out.below hbw).2.resolve_left (by omega)
        obtain ⟨b', off, rfl, hb, hx⟩ := hrow
        obtain ⟨c0, c1, c2⟩ := hx i _ hxi
        have hz1 : cur.size ≤ 1000000 := by have := HZ.out; omega
        have hz2 : t.size ≤ 1000000 := by have := HZ.out; have := sz_drop hxi; simp only at this; omega
        have HI := hid hiv
        clear hx hxi hiv
        go_wp2_with fail
        refine (rapply_any cur t a d _ hz1 hz2).mono ?_
        rintro e w1 ⟨rfl, hb1⟩
        have hb2 : Below wr.heap.size wr w1 := ((Below.refl _ _).alloc (Nat.le_refl _) _).trans (hb1.mono (by simp))
        have y1 : Bx w1 wr.heap.size (a, d, t) := (hb1.block _ (by simp)).trans (alloc_new _ _)
        have x1 := K.out _ hb2
        by_cases hf : Fit cur.size (a, d, t)
        · have HF := hid hf
          have hi' := HI.out
          have hI0 : Inv0 s cur b q := by rcases hi' with ⟨_, h1, h2, h3⟩ | ⟨_, _, _, _, h⟩; exact .inl ⟨h1, h2, h3⟩; exact .inr h
          have hz := hid (Inv0.step hI0 hf)
          have Hc := hid (cst_drop (cur := cur) (b := b) (c := q) HX.out)
          rw [if_pos hf] at Hc
          have Hle := hid (ap_le hf)
          have Hsz := hid (ap_size hf)
          rw [apv_yes hf]
          have a0 : 0 ≤ a := hf.1
          have d0 : 0 ≤ d := hf.2.1
          have a1 : d ≤ cur.size - a := hf.2.2
          clear hf hI0
          obtain ⟨cur', hcur⟩ : ∃ cur', cur' = ap cur (a, d, t) := ⟨_, rfl⟩
          simp only at hz Hc Hle Hsz ⊢
          rw [← hcur] at hz Hc Hle Hsz
          rw [← hcur]
          clear hcur
          obtain ⟨k00, k01, k02⟩ := y1.cells
          have hz1' : (cur.size : Int) ≤ 1000000 := by omega
          have hz2' : (t.size : Int) ≤ 1000000 := by omega
          have X1 := hid x1
          clear y1 x1
          rcases hi' with ⟨hi, h1, rfl, rfl⟩ | ⟨hi, rfl, rfl, rfl, hinv⟩
          · have hib : ((i : Int) == 0) = true := by simp; omega
            have H1 := hid h1
            have g2 : (0 : Int) ≤ (t.size : Int) := by omega
            clear h1
            go_wp2_with fail
            go_quiet (fail)
            go_wp2
            all_goals
              go_roundg (gk - 1)
              case measure => omega
              case rel =>
                refine ⟨i + 1, cur', min (s.size : Int) a, min (s.size : Int) (cur.size - a - d), _, _, _, rfl, rfl, rfl, rfl, by go_num, by omega, ?_, ?_, .inr ⟨by omega, ?_, ?_, ?_, hz.out⟩, below_drewN (hbw.trans (hb2.mono hbw.size)) _, X1.out⟩
                · rw [← Hc.out, HA.out]
                · have := HZ.out
                  have := sz_drop HX.out
                  have := Hle.out
                  simp only at *
                  omega
                all_goals
                  have := Hsz.out
                  have := congrArg ByteArray.size H1.out
                  omega
          · have HV := hid hinv
            obtain ⟨k, m, rfl, rfl, j1, j2, j3, j4⟩ := hinv
            have j1' : (k : Int) + (m : Int) ≤ s.size := by omega
            have j2' : (k : Int) + (m : Int) ≤ cur.size := by omega
            have hs' : (s.size : Int) ≤ 1000000 := by have := Hs.out; omega
            have g0 : (0 : Int) ≤ (k : Int) := by omega
            have g1 : (0 : Int) ≤ (m : Int) := by omega
            have g2 : (0 : Int) ≤ (t.size : Int) := by omega
            have hib : ((i : Int) == 0) = false := by simp; omega
            clear j3 j4
            go_wp2
            all_goals
              go_roundg (gk - 1)
              case measure => omega
              case rel =>
                refine ⟨i + 1, cur', min (k : Int) a, min (m : Int) (cur.size - a - d), _, _, _, rfl, rfl, rfl, rfl, by go_num, by omega, ?_, ?_, .inr ⟨by omega, ?_, ?_, ?_, hz.out⟩, hbw.trans (hb2.mono hbw.size), X1.out⟩
                · rw [← Hc.out, HA.out]
                · have := HZ.out
                  have := sz_drop HX.out
                  have := Hle.out
                  simp only at *
                  omega
                all_goals
                  have := Hsz.out
                  omega
        · have HF := hid hf
          rw [apv_no hf]
          clear hf
          obtain ⟨k00, k01, k02⟩ := x1.cells
          obtain ⟨f00, f01, f02⟩ := x1.free
          have Hn := hid (show cmp s E = none by
            have := cst_drop (cur := cur) (b := b) (c := q) HX.out
            rw [if_neg HF.out, HA.out] at this
            unfold cmp
            rw [if_neg (fun h => by have := hl.out; rw [h] at this; simp at this; omega), this]
            rfl)
          clear x1 y1
          go_wp2
          refine bodyPost_ret (v := .tuple #[.agg #[.int .i64 0, .int .i64 0, .string .empty], .int .i64 2]) ?_ rfl ⟨?_, ?_⟩
          · simp [results, Try.results22, go_sem, k00, k01, k02]
            try rfl
          · rw [Hn.out]; rfl
          · repeat (refine Below.setCell ?_ (by first | (simp; done) | (simp; omega)) _)
            exact hbw.trans (hb2.mono hbw.size)
      · have hin : ¬ (i : Int) < (n : Int) := by omega
        obtain ⟨_, rfl, rfl, rfl, hinv⟩ := hiv.resolve_left (by rintro ⟨h, _⟩; omega)
        obtain ⟨k, m, rfl, rfl, j1, j2, j3, j4⟩ := hinv
        have Hc := hid (show cur.size ≤ 1000000 by have := HZ.out; omega)
        have Hn := hid (show cmp s E = some (fin s (cur, (k : Int), (m : Int))) by
          have := HA.out
          rw [List.drop_eq_nil_of_le (by rw [hl.out]; omega)] at this
          unfold cmp
          rw [if_neg (fun h => by have := hl.out; rw [h] at this; simp at this; omega), ← this]
          rfl)
        have x1 := K.out _ (Below.refl _ _)
        obtain ⟨k00, k01, k02⟩ := x1.cells
        obtain ⟨f00, f01, f02⟩ := x1.free
        have j1' : (k : Int) + (m : Int) ≤ s.size := by omega
        have j2' : (k : Int) + (m : Int) ≤ cur.size := by omega
        have hs' : (s.size : Int) ≤ 1000000 := by have := Hs.out; omega
        have hc' : (cur.size : Int) ≤ 1000000 := by have := Hc.out; omega
        have g0 : (0 : Int) ≤ (k : Int) := by omega
        have g1 : (0 : Int) ≤ (m : Int) := by omega
        have g2 : (k : Int) ≤ (cur.size : Int) - (m : Int) := by omega
        have g3 : (cur.size : Int) - (m : Int) ≤ (cur.size : Int) := by omega
        have g4 : (0 : Int) ≤ (cur.size : Int) - (m : Int) := by omega
        clear j3 j4 x1
        go_wp2
        refine bodyPost_ret (v := .tuple #[.agg #[.int .i64 k, .int .i64 (s.size - m - k), .string (cur.extract k (cur.size - m))], .int .i64 0]) ?_ rfl ⟨?_, ?_⟩
        · simp [results, Try.results22, go_sem, k00, k01, k02]
        · rw [Hn.out]
          unfold cmv edv fin
          simp only [Int.toNat_natCast]
          rw [show ((cur.size : Int) - (m : Int)).toNat = cur.size - m by omega]
        · repeat (refine Below.setCell ?_ (by first | (simp; done) | (simp; omega)) _)
          exact hbw
end Go.Proofs.Ytclebcpapcoafaa
