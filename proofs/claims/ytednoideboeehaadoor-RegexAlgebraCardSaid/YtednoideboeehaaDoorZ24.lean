/-
  Contract: ends, for kids; Match.
-/
import Derived.Test.YtednoideboeehaaDoorZ23
import Derived.Deep.Cut
section
set_option linter.unusedSimpArgs false
set_option linter.unusedVariables false
namespace Go.Proofs.YtednoideboeehaaDoor
open Go.RowKit Bs Rg Go.Frame

theorem one_of {l : List Rx} (h : l.length = 1) : ∃ x, l = [x] := by
  match l, h with
  | [x], _ => exact ⟨x, rfl⟩
theorem drop_here {l : List Rx} {i : Nat} {x : Rx} (h : l[i]? = some x) : l.drop i = x :: l.drop (i + 1) := by
  have hlt := (List.getElem?_eq_some_iff.1 h).1
  rw [List.drop_eq_getElem_cons hlt]
  rw [List.getElem?_eq_getElem hlt] at h
  simp at h; rw [h]
set_option maxRecDepth 100000 in
set_option maxHeartbeats 4000000 in
theorem ends_cat (g : Nat → Prop) (S : BS) (l : List Rx) (s : ByteArray) (F : Nat → Bool) (fb : Nat) (w : World) (cs : List Value) (IH : ∀ x ∈ l, ∀ (F : Nat → Bool) (fb : Nat) (w : World) (cs : List Value), BR w fb (s.size + 1) F → RC g w x cs → Calls Tryd.prog 47 #[.agg cs.toArray, .string s, .slice (some ⟨fb, 0, none⟩) (s.size + 1) (s.size + 1)] w (EdR s x F w)) (hs : s.size ≤ 1000000) (hF : BR w fb (s.size + 1) F) (h : RC g w (.mk 4 S l) cs) :
    Calls Tryd.prog 47 #[.agg cs.toArray, .string s, .slice (some ⟨fb, 0, none⟩) (s.size + 1) (s.size + 1)] w (EdR s (.mk 4 S l) F w) := by
  obtain ⟨a, n, c, rfl, hK⟩ := RC_mk.1 h
  show Calls Tryd.prog 47 #[.agg #[.int .i64 4, .int .u64 (ws S 0 : Int), .int .u64 (ws S 1 : Int), .int .u64 (ws S 2 : Int), .int .u64 (ws S 3 : Int), .slice a n c], .string s, .slice (some ⟨fb, 0, none⟩) (s.size + 1) (s.size + 1)] w _
  have hmk := make_bools s.size hs (w.alloc (.cells #[.int .i64 4, .int .u64 (ws S 0 : Int), .int .u64 (ws S 1 : Int), .int .u64 (ws S 2 : Int), .int .u64 (ws S 3 : Int), .slice a n c] 27))
  obtain ⟨W, hW⟩ : ∃ W, W = (w.alloc (.cells #[.int .i64 4, .int .u64 (ws S 0 : Int), .int .u64 (ws S 1 : Int), .int .u64 (ws S 2 : Int), .int .u64 (ws S 3 : Int), .slice a n c] 27)).alloc (.cells (bl (fun _ => false) (s.size + 1)).toArray 4) := ⟨_, rfl⟩
  have H0 := ends_start g w 4 S a n c l s.size hK W hW
  obtain ⟨c0, c1, c2, c3, c4, c5⟩ := cells6 (hW ▸ H0.1)
  have hadd : IntKind.i64.wrap ((s.size : Int) + 1) = (s.size : Int) + 1 := by rw [wrapIn] <;> omega
  have hnl := hK.lt
  have HX := hid H0
  have HF := hid (And.intro hF (And.intro hs hK))
  have HW := hid hW
  rw [← hW] at hmk
  have hcp := copy_bools W (w.heap.size + 1) fb _ _ F H0.2.1 (hF.below H0.2.2)
  rw [hW] at hcp
  have HI := hid IH
  have hln := hid hK.len
  clear H0 hF h hK IH
  go_enter Tryd.func47, Tryd.ntmps47
  go_wp2_with fail
  rw [← hW]
  obtain ⟨U, hU⟩ : ∃ U, U = W.setRow (w.heap.size + 1) (bl F (s.size + 1)).toArray := ⟨_, rfl⟩
  have HU := hid (show BR U (w.heap.size + 1) (s.size + 1) F ∧ U.heap[w.heap.size]? = some (.cells #[.int .i64 4, .int .u64 (ws S 0 : Int), .int .u64 (ws S 1 : Int), .int .u64 (ws S 2 : Int), .int .u64 (ws S 3 : Int), .slice a n c] 27 (0, 0)) ∧ Below w.heap.size w U from by rw [hU]; exact ⟨HX.out.2.1.row, row_other HX.out.1 (by omega), below_setRow HX.out.2.2 (by omega) _⟩)
  rw [← hU]
  clear hU
  go_loopg [7, 9] n (fun k s7 s9 wr => ∃ (i B : Nat) (G : Nat → Bool), s7 = .slice (some ⟨B, 0, none⟩) (s.size + 1) (s.size + 1) ∧ s9 = .int .i64 (i : Int) ∧ i + k = n ∧ w.heap.size ≤ B ∧ BR wr B (s.size + 1) G ∧ wr.heap[w.heap.size]? = some (.cells #[.int .i64 4, .int .u64 (ws S 0 : Int), .int .u64 (ws S 1 : Int), .int .u64 (ws S 2 : Int), .int .u64 (ws S 3 : Int), .slice a n c] 27 (0, 0)) ∧ Below w.heap.size w wr ∧ ∀ j, j ≤ s.size → (EW s.data.toList (LC l) F j ↔ EW s.data.toList (LC (l.drop i)) G j))
  case atStart => exact ⟨0, _, F, rfl, rfl, by omega, by omega, HU.out.1, HU.out.2.1, HU.out.2.2, fun j _ => Iff.rfl⟩
  case round =>
    obtain ⟨i, B, G, rfl, rfl, hk, hB, hG, hbx, hbw, hEW⟩ := hrel
    by_cases hlt : i < n
    · have hlt' : (i : Int) < (n : Int) := by omega
      have HG := hid (And.intro hG (And.intro hbx (And.intro hbw (And.intro hEW hB))))
      obtain ⟨b, off, k', s', l', a', n', c', rfl, _, hb, hx, hK', q0, q1, q2, q3, q4, q5⟩ := ((HF.out.2.2.below hbw).get (i := i) hlt)
      have c5 := (cells6 hbx).2.2.2.2.2
      have HQ := hid (And.intro hx hK')
      have CK := hid (HI.out _ (List.mem_of_getElem? hx) G B wr _ hG (RC_mk.2 ⟨a', n', c', rfl, hK'⟩))
      clear hx hK' hG hbx hbw hEW hB
      go_wp2_with fail
      refine CK.out.mono ?_
      rintro e W2 ⟨⟨G2, b2, rfl, hb2, hBR, hG2⟩, hbel⟩
      have HR := hid (And.intro hBR (And.intro hb2 (And.intro hG2 hbel)))
      clear hb2 hBR hG2 hbel
      go_wp2
      go_roundg (gk - 1)
      case measure => omega
      case rel =>
        obtain ⟨h1, h2, h3, h4, h5⟩ := HG.out
        obtain ⟨k1, k2, k3, k4⟩ := HR.out
        refine ⟨i + 1, b2, G2, rfl, by go_num, by omega, by have := h3.size; omega, k1, (k4.block _ (heap_lt h2)).trans h2, h3.trans (k4.mono h3.size), fun j hj => ?_⟩
        rw [h4 j hj, drop_here HQ.out.1]
        exact EW_cons s.data.toList (j := j) hj fun m hm => k3 m hm
    · have hin : ¬ (i : Int) < (n : Int) := by omega
      have c5 := (cells6 hbx).2.2.2.2.2
      have HG := hid (And.intro hG (And.intro hbx (And.intro hbw (And.intro hEW hB))))
      clear hG hbx hbw hEW hB
      go_wp2
      go_ret
      obtain ⟨h1, h2, h3, h4, h5⟩ := HG.out
      refine ⟨⟨G, B, rfl, h5, h1, fun j hj => ?_⟩, h3⟩
      have h6 := h4 j hj
      rw [List.drop_eq_nil_of_le (by have := hln.out; omega), EW_nil s.data.toList (j := j) hj] at h6
      rw [← h6]
      exact EW_congr _ fun t => by rw [L_mk]; simp
set_option maxRecDepth 100000 in
set_option maxHeartbeats 4000000 in
theorem ends_alt (g : Nat → Prop) (S : BS) (l : List Rx) (s : ByteArray) (F : Nat → Bool) (fb : Nat) (w : World) (cs : List Value) (IH : ∀ x ∈ l, ∀ (F : Nat → Bool) (fb : Nat) (w : World) (cs : List Value), BR w fb (s.size + 1) F → RC g w x cs → Calls Tryd.prog 47 #[.agg cs.toArray, .string s, .slice (some ⟨fb, 0, none⟩) (s.size + 1) (s.size + 1)] w (EdR s x F w)) (hs : s.size ≤ 1000000) (hF : BR w fb (s.size + 1) F) (h : RC g w (.mk 5 S l) cs) :
    Calls Tryd.prog 47 #[.agg cs.toArray, .string s, .slice (some ⟨fb, 0, none⟩) (s.size + 1) (s.size + 1)] w (EdR s (.mk 5 S l) F w) := by
  obtain ⟨a, n, c, rfl, hK⟩ := RC_mk.1 h
  show Calls Tryd.prog 47 #[.agg #[.int .i64 5, .int .u64 (ws S 0 : Int), .int .u64 (ws S 1 : Int), .int .u64 (ws S 2 : Int), .int .u64 (ws S 3 : Int), .slice a n c], .string s, .slice (some ⟨fb, 0, none⟩) (s.size + 1) (s.size + 1)] w _
  have hmk := make_bools s.size hs (w.alloc (.cells #[.int .i64 5, .int .u64 (ws S 0 : Int), .int .u64 (ws S 1 : Int), .int .u64 (ws S 2 : Int), .int .u64 (ws S 3 : Int), .slice a n c] 27))
  obtain ⟨W, hW⟩ : ∃ W, W = (w.alloc (.cells #[.int .i64 5, .int .u64 (ws S 0 : Int), .int .u64 (ws S 1 : Int), .int .u64 (ws S 2 : Int), .int .u64 (ws S 3 : Int), .slice a n c] 27)).alloc (.cells (bl (fun _ => false) (s.size + 1)).toArray 4) := ⟨_, rfl⟩
  have H0 := ends_start g w 5 S a n c l s.size hK W hW
  obtain ⟨c0, c1, c2, c3, c4, c5⟩ := cells6 (hW ▸ H0.1)
  have hadd : IntKind.i64.wrap ((s.size : Int) + 1) = (s.size : Int) + 1 := by rw [wrapIn] <;> omega
  have hnl := hK.lt
  have HX := hid H0
  have HF := hid (And.intro hF (And.intro hs hK))
  have HW := hid hW
  rw [← hW] at hmk
  have HI := hid IH
  have hln := hid hK.len
  clear H0 hF h hK IH
  go_enter Tryd.func47, Tryd.ntmps47
  go_wp2_with fail
  rw [← hW]
  go_loopg [10] n (fun k s10 wr => ∃ (i : Nat) (G : Nat → Bool), s10 = .int .i64 (i : Int) ∧ i + k = n ∧ BR wr (w.heap.size + 1) (s.size + 1) G ∧ wr.heap[w.heap.size]? = some (.cells #[.int .i64 5, .int .u64 (ws S 0 : Int), .int .u64 (ws S 1 : Int), .int .u64 (ws S 2 : Int), .int .u64 (ws S 3 : Int), .slice a n c] 27 (0, 0)) ∧ Below w.heap.size w wr ∧ ∀ j, j ≤ s.size → (G j = true ↔ EW s.data.toList (LU (l.take i)) F j))
  case atStart => exact ⟨0, _, rfl, by omega, HX.out.2.1, HX.out.1, HX.out.2.2, fun j _ => ⟨fun h => (by cases h), fun h => absurd h (EW_none _)⟩⟩
  case round =>
    obtain ⟨i, G, rfl, hk, hG, hbx, hbw, hEW⟩ := hrel
    by_cases hlt : i < n
    · have hlt' : (i : Int) < (n : Int) := by omega
      have HG := hid (And.intro hG (And.intro hbx (And.intro hbw hEW)))
      obtain ⟨b, off, k', s', l', a', n', c', rfl, _, hb, hx, hK', q0, q1, q2, q3, q4, q5⟩ := ((HF.out.2.2.below hbw).get (i := i) hlt)
      have c5 := (cells6 hbx).2.2.2.2.2
      have HQ := hid (And.intro hx hK')
      have CK := hid (HI.out _ (List.mem_of_getElem? hx) F fb wr _ (HF.out.1.below hbw) (RC_mk.2 ⟨a', n', c', rfl, hK'⟩))
      clear hx hK' hG hbx hbw hEW
      go_wp2_with fail
      refine CK.out.mono ?_
      rintro e W2 ⟨⟨H, b2, rfl, hb2, hBR, hH⟩, hbel⟩
      have HR := hid (And.intro hBR (And.intro hb2 (And.intro hH hbel)))
      clear hb2 hBR hH hbel
      have HN := hid (And.intro hk hlt)
      clear hk hlt
      go_wp2_with fail
      obtain ⟨go, rfl⟩ : ∃ go, go = gk := ⟨_, rfl⟩
      go_loopg [12] (s.size + 1) (fun k s12 wr => ∃ (m : Nat), s12 = .int .i64 (m : Int) ∧ m + k = s.size + 1 ∧ BR wr (w.heap.size + 1) (s.size + 1) (lay G H m) ∧ BR wr b2 (s.size + 1) H ∧ wr.heap[w.heap.size]? = some (.cells #[.int .i64 5, .int .u64 (ws S 0 : Int), .int .u64 (ws S 1 : Int), .int .u64 (ws S 2 : Int), .int .u64 (ws S 3 : Int), .slice (some ⟨b, off, none⟩) n c] 27 (0, 0)) ∧ Below w.heap.size w wr)
      case atStart =>
        obtain ⟨h1, h2, h3, h4⟩ := HG.out
        obtain ⟨k1, k2, k3, k4⟩ := HR.out
        exact ⟨0, rfl, by omega, by rw [lay_zero]; exact h1.below k4, k1, (k4.block _ (heap_lt h2)).trans h2, h3.trans (k4.mono h3.size)⟩
      case round =>
        obtain ⟨m, rfl, hm, g1, g2, g3, g4⟩ := hrel
        by_cases hlm : m < s.size + 1
        · have hlm' : (m : Int) < (s.size : Int) + 1 := by omega
          have u1 := g1.cell hlm
          have u2 := g2.cell hlm
          have u3 := g1.free m
          have HZ := hid (And.intro g1 (And.intro g2 (And.intro g3 g4)))
          obtain ⟨x, hx⟩ : ∃ x, lay G H m m = x := ⟨_, rfl⟩
          obtain ⟨z, hz⟩ : ∃ z, H m = z := ⟨_, rfl⟩
          rw [hx] at u1
          rw [hz] at u2
          have HE := hid (And.intro hx hz)
          clear g1 g2 g3 g4 hx hz
          cases x
          all_goals
            go_wp2
            go_roundg (gk - 1)
            case measure => omega
            case rel =>
              obtain ⟨e1, e2, e3, e4⟩ := HZ.out
              have hbb : b2 ≠ w.heap.size + 1 := by have := HR.out.2.1; have := heap_lt HG.out.1; omega
              refine ⟨m + 1, by go_num, by omega, ?_, e2.other hbb, blk_set e3 (by show w.heap.size ≠ w.heap.size + 1; omega), below_put e4 (by omega)⟩
              rw [lay_step, HE.out.1, HE.out.2]
              first | exact e1.put _ | (simpa using e1.put z)
        · have hin : ¬ (m : Int) < (s.size : Int) + 1 := by omega
          have HZ := hid (And.intro g1 (And.intro g2 (And.intro g3 g4)))
          clear g1 g2 g3 g4
          go_wp2
          go_roundg (go - 1)
          case measure => have := HN.out; omega
          case rel =>
            obtain ⟨e1, e2, e3, e4⟩ := HZ.out
            obtain rfl : m = s.size + 1 := by omega
            refine ⟨i + 1, lay G H (s.size + 1), by go_num, by have := HN.out; omega, e1, e3, e4, fun j hj => ?_⟩
            rw [lay_full G H (by omega), Bool.or_eq_true, HG.out.2.2.2 j hj, HR.out.2.2.1 j hj, EW_take _ HQ.out.1]
    · have hin : ¬ (i : Int) < (n : Int) := by omega
      have c5 := (cells6 hbx).2.2.2.2.2
      have HG := hid (And.intro hG (And.intro hbx (And.intro hbw hEW)))
      clear hG hbx hbw hEW
      go_wp2
      go_ret
      obtain ⟨h1, h2, h3, h4⟩ := HG.out
      refine ⟨⟨G, _, rfl, by omega, h1, fun j hj => ?_⟩, h3⟩
      rw [h4 j hj, List.take_of_length_le (by have := hln.out; omega)]
      exact EW_congr _ fun t => by rw [L_mk]; simp
set_option maxRecDepth 100000 in
set_option maxHeartbeats 4000000 in
theorem ends_star (g : Nat → Prop) (S : BS) (l : List Rx) (s : ByteArray) (F : Nat → Bool) (fb : Nat) (w : World) (cs : List Value) (IH : ∀ x ∈ l, ∀ (F : Nat → Bool) (fb : Nat) (w : World) (cs : List Value), BR w fb (s.size + 1) F → RC g w x cs → Calls Tryd.prog 47 #[.agg cs.toArray, .string s, .slice (some ⟨fb, 0, none⟩) (s.size + 1) (s.size + 1)] w (EdR s x F w)) (x : Rx) (hx1 : l = [x]) (hs : s.size ≤ 1000000) (hF : BR w fb (s.size + 1) F) (h : RC g w (.mk 6 S l) cs) :
    Calls Tryd.prog 47 #[.agg cs.toArray, .string s, .slice (some ⟨fb, 0, none⟩) (s.size + 1) (s.size + 1)] w (EdR s (.mk 6 S l) F w) := by
  obtain ⟨a, n, c, rfl, hK⟩ := RC_mk.1 h
  show Calls Tryd.prog 47 #[.agg #[.int .i64 6, .int .u64 (ws S 0 : Int), .int .u64 (ws S 1 : Int), .int .u64 (ws S 2 : Int), .int .u64 (ws S 3 : Int), .slice a n c], .string s, .slice (some ⟨fb, 0, none⟩) (s.size + 1) (s.size + 1)] w _
  have hmk := make_bools s.size hs (w.alloc (.cells #[.int .i64 6, .int .u64 (ws S 0 : Int), .int .u64 (ws S 1 : Int), .int .u64 (ws S 2 : Int), .int .u64 (ws S 3 : Int), .slice a n c] 27))
  obtain ⟨W, hW⟩ : ∃ W, W = (w.alloc (.cells #[.int .i64 6, .int .u64 (ws S 0 : Int), .int .u64 (ws S 1 : Int), .int .u64 (ws S 2 : Int), .int .u64 (ws S 3 : Int), .slice a n c] 27)).alloc (.cells (bl (fun _ => false) (s.size + 1)).toArray 4) := ⟨_, rfl⟩
  have H0 := ends_start g w 6 S a n c l s.size hK W hW
  obtain ⟨c0, c1, c2, c3, c4, c5⟩ := cells6 (hW ▸ H0.1)
  have hadd : IntKind.i64.wrap ((s.size : Int) + 1) = (s.size : Int) + 1 := by rw [wrapIn] <;> omega
  have hnl := hK.lt
  have HX := hid H0
  have HF := hid (And.intro hF (And.intro hs hK))
  have HW := hid hW
  rw [← hW] at hmk
  have hcp := copy_bools W (w.heap.size + 1) fb _ _ F H0.2.1 (hF.below H0.2.2)
  rw [hW] at hcp
  have HI := hid IH
  have hln := hid hK.len
  clear H0 hF h hK IH
  go_enter Tryd.func47, Tryd.ntmps47
  go_wp2_with fail
  rw [← hW]
  obtain ⟨U, hU⟩ : ∃ U, U = W.setRow (w.heap.size + 1) (bl F (s.size + 1)).toArray := ⟨_, rfl⟩
  have HU := hid (show BR U (w.heap.size + 1) (s.size + 1) F ∧ U.heap[w.heap.size]? = some (.cells #[.int .i64 6, .int .u64 (ws S 0 : Int), .int .u64 (ws S 1 : Int), .int .u64 (ws S 2 : Int), .int .u64 (ws S 3 : Int), .slice a n c] 27 (0, 0)) ∧ Below w.heap.size w U from by rw [hU]; exact ⟨HX.out.2.1.row, row_other HX.out.1 (by omega), below_setRow HX.out.2.2 (by omega) _⟩)
  rw [← hU]
  clear hU
  have HL := hid hx1
  obtain rfl : n = 1 := by rw [← hln.out, hx1]; rfl
  clear hx1
  go_loopg [13] (s.size + 1 + 1 - cnt F (s.size + 1)) (fun k s13 wr => ∃ (more : Bool) (G : Nat → Bool), s13 = .bool more ∧ k + cnt G (s.size + 1) = s.size + 1 + more.toNat ∧ BR wr (w.heap.size + 1) (s.size + 1) G ∧ wr.heap[w.heap.size]? = some (.cells #[.int .i64 6, .int .u64 (ws S 0 : Int), .int .u64 (ws S 1 : Int), .int .u64 (ws S 2 : Int), .int .u64 (ws S 3 : Int), .slice a 1 c] 27 (0, 0)) ∧ Below w.heap.size w wr ∧ (∀ j, j ≤ s.size → F j = true → G j = true) ∧ (∀ j, j ≤ s.size → G j = true → EW s.data.toList (Rep (LU l)) F j) ∧ (more = false → ∀ j, j ≤ s.size → EW s.data.toList (LU l) G j → G j = true))
  case atStart => exact ⟨true, F, rfl, (by have := cnt_le F (s.size + 1); simp only [Bool.toNat_true]; omega), HU.out.1, HU.out.2.1, HU.out.2.2, fun j _ h => h, fun j _ h => EW_refl _ h, fun h => by cases h⟩
  case round =>
    obtain ⟨more, G, rfl, hk, hG, hbx, hbw, hE1, hE2, hE3⟩ := hrel
    cases more
    · have HG := hid (And.intro hG (And.intro hbw (And.intro hE1 (And.intro hE2 (hE3 rfl)))))
      clear hG hbx hbw hE1 hE2 hE3
      go_wp2
      go_ret
      obtain ⟨h1, h3, h4, h5, h6⟩ := HG.out
      refine ⟨⟨G, _, rfl, by omega, h1, fun j hj => ?_⟩, h3⟩
      rw [EW_star s.data.toList h4 h5 h6 (j := j) hj]
      exact EW_congr _ fun t => by rw [L_mk]; simp
    · have HG := hid (And.intro hG (And.intro hbx (And.intro hbw (And.intro hE1 hE2))))
      obtain ⟨b, off, k', s', l', a', n', c', rfl, _, hb, hx, hK', q0, q1, q2, q3, q4, q5⟩ := ((HF.out.2.2.below hbw).get (i := 0) (by omega))
      have c5 := (cells6 hbx).2.2.2.2.2
      have HQ := hid (And.intro hx hK')
      have CK := hid (HI.out _ (List.mem_of_getElem? hx) G (w.heap.size + 1) wr _ hG (RC_mk.2 ⟨a', n', c', rfl, hK'⟩))
      simp only [Nat.zero_mul, Nat.add_zero] at q0 q1 q2 q3 q4 q5
      clear hx hK' hG hbx hbw hE1 hE2 hE3
      go_wp2_with fail
      refine CK.out.mono ?_
      rintro e W2 ⟨⟨H, b2, rfl, hb2, hBR, hH⟩, hbel⟩
      have HR := hid (And.intro hBR (And.intro hb2 (And.intro hH hbel)))
      clear hb2 hBR hH hbel
      have HN := hid hk
      clear hk
      go_wp2_with fail
      obtain ⟨go, rfl⟩ : ∃ go, go = gk := ⟨_, rfl⟩
      go_loopg [13, 15] (s.size + 1) (fun k s13 s15 wr => ∃ (m : Nat), s13 = .bool (new G H m) ∧ s15 = .int .i64 (m : Int) ∧ m + k = s.size + 1 ∧ BR wr (w.heap.size + 1) (s.size + 1) (lay G H m) ∧ BR wr b2 (s.size + 1) H ∧ wr.heap[w.heap.size]? = some (.cells #[.int .i64 6, .int .u64 (ws S 0 : Int), .int .u64 (ws S 1 : Int), .int .u64 (ws S 2 : Int), .int .u64 (ws S 3 : Int), .slice (some ⟨b, off, none⟩) 1 c] 27 (0, 0)) ∧ Below w.heap.size w wr)
      case atStart =>
        obtain ⟨h1, h2, h3, h4⟩ := HG.out
        obtain ⟨k1, k2, k3, k4⟩ := HR.out
        exact ⟨0, rfl, rfl, by omega, by rw [lay_zero]; exact h1.below k4, k1, (k4.block _ (heap_lt h2)).trans h2, h3.trans (k4.mono h3.size)⟩
      case round =>
        obtain ⟨m, rfl, rfl, hm, g1, g2, g3, g4⟩ := hrel
        by_cases hlm : m < s.size + 1
        · have hlm' : (m : Int) < (s.size : Int) + 1 := by omega
          have u1 := g1.cell hlm
          have u2 := g2.cell hlm
          have u3 := g1.free m
          have HZ := hid (And.intro g1 (And.intro g2 (And.intro g3 g4)))
          obtain ⟨y, hy⟩ : ∃ y, new G H m = y := ⟨_, rfl⟩
          rw [lay_at] at u1
          obtain ⟨x, hx⟩ : ∃ x, G m = x := ⟨_, rfl⟩
          obtain ⟨z, hz⟩ : ∃ z, H m = z := ⟨_, rfl⟩
          rw [hx] at u1
          rw [hz] at u2
          rw [hy]
          have HE := hid (And.intro hx (And.intro hz hy))
          clear g1 g2 g3 g4 hx hz hy
          cases x <;> cases z <;> cases y
          all_goals
            go_wp2
            go_roundg (gk - 1)
            case measure => omega
            case rel =>
              obtain ⟨e1, e2, e3, e4⟩ := HZ.out
              have hbb : b2 ≠ w.heap.size + 1 := by have := HR.out.2.1; have := heap_lt HG.out.1; omega
              refine ⟨m + 1, by rw [new_step, HE.out.1, HE.out.2.1, HE.out.2.2]; rfl, by go_num, by omega, ?_, e2.other hbb, blk_set e3 (by show w.heap.size ≠ w.heap.size + 1; omega), below_put e4 (by omega)⟩
              rw [lay_step, lay_at, HE.out.1, HE.out.2.1]
              exact e1.put _
        · have hin : ¬ (m : Int) < (s.size : Int) + 1 := by omega
          obtain rfl : m = s.size + 1 := by omega
          obtain ⟨y, hy⟩ : ∃ y, new G H (s.size + 1) = y := ⟨_, rfl⟩
          rw [hy]
          have HZ := hid (And.intro g1 (And.intro g3 (And.intro g4 hy)))
          clear g1 g2 g3 g4 hy
          go_wp2
          go_roundg (s.size + 1 + y.toNat - cnt (lay G H (s.size + 1)) (s.size + 1))
          case measure =>
            have hN := HN.out
            have h1 := cnt_le (lay G H (s.size + 1)) (s.size + 1)
            have hmono : ∀ j, j < s.size + 1 → G j = true → lay G H (s.size + 1) j = true := fun j hj h => by rw [lay_full G H hj, h]; rfl
            have h2 := cnt_mono hmono
            simp only [Bool.toNat_true] at hN
            cases y
            · simp only [Bool.toNat_false]; omega
            · obtain ⟨j, hj, hj1, hj2⟩ := new_yes HZ.out.2.2.2
              have h3 := cnt_more hmono hj hj2 (by rw [lay_full G H hj, hj1]; simp)
              simp only [Bool.toNat_true]; omega
          case rel =>
            obtain ⟨e1, e3, e4, hy⟩ := HZ.out
            obtain ⟨h1, h2, h3, h4, h5⟩ := HG.out
            obtain ⟨k1, k2, k3, k4⟩ := HR.out
            have hcl := cnt_le (lay G H (s.size + 1)) (s.size + 1)
            have hLU : ∀ t, LU l t ↔ L (.mk k' s' l') t := fun t => by
              have hq := HQ.out.1
              rw [HL.out] at hq ⊢
              simp at hq
              rw [LU_cons, hq]
              simp [LU_nil]
            refine ⟨y, lay G H (s.size + 1), rfl, by omega, e1, e3, e4, fun j hj h => by rw [lay_full G H (by omega), h4 j hj h]; rfl, fun j hj h => ?_, fun h0 j hj h => ?_⟩
            · rw [lay_full G H (by omega), Bool.or_eq_true] at h
              rcases h with h | h
              · exact h5 j hj h
              · exact EW_more _ h5 hj ((EW_congr _ hLU).2 ((k3 j hj).1 h))
            · subst h0
              have hsame : ∀ i, i ≤ s.size → lay G H (s.size + 1) i = true → G i = true := fun i hi h => by
                rw [lay_full G H (by omega), Bool.or_eq_true] at h
                rcases h with h | h
                · exact h
                · exact new_no hy (by omega) h
              obtain ⟨i, i1, i2, i3⟩ := h
              have : H j = true := (k3 j hj).2 ⟨i, i1, hsame i (by omega) i2, (hLU _).1 i3⟩
              rw [lay_full G H (by omega), this]; simp
set_option maxRecDepth 100000 in
set_option maxHeartbeats 4000000 in
theorem ends_any (g : Nat → Prop) (s : ByteArray) (hs : s.size ≤ 1000000) (r : Rx) : Vd r → ∀ (F : Nat → Bool) (fb : Nat) (w : World) (cs : List Value), BR w fb (s.size + 1) F → RC g w r cs → Calls Tryd.prog 47 #[.agg cs.toArray, .string s, .slice (some ⟨fb, 0, none⟩) (s.size + 1) (s.size + 1)] w (EdR s r F w) := by
  induction r using Rx.ind with
  | h k S l ih =>
    intro hv F fb w cs hF h
    have IH : ∀ x ∈ l, ∀ (F : Nat → Bool) (fb : Nat) (w : World) (cs : List Value), BR w fb (s.size + 1) F → RC g w x cs → Calls Tryd.prog 47 #[.agg cs.toArray, .string s, .slice (some ⟨fb, 0, none⟩) (s.size + 1) (s.size + 1)] w (EdR s x F w) := fun x hx => ih x hx (hv.kid hx)
    have hsh := hv.shaped
    rcases shaped_kind hsh with rfl | rfl | rfl | rfl | rfl | rfl
    · exact ends_none g S l s F fb w cs hs hF h
    · exact ends_eps g S l s F fb w cs hs hF h
    · exact ends_set g S l s F fb w cs hs hF h
    · exact ends_cat g S l s F fb w cs IH hs hF h
    · exact ends_alt g S l s F fb w cs IH hs hF h
    · obtain ⟨x, hx⟩ := one_of (shaped_star hsh)
      exact ends_star g S l s F fb w cs IH x hx hs hF h
set_option maxRecDepth 100000 in
set_option maxHeartbeats 4000000 in
theorem rMatch_any (g : Nat → Prop) (r : Rx) (s : ByteArray) (w : World) (cs : List Value) (hv : Vd r) (hs : s.size ≤ 1000000) (h : RC g w r cs) :
    Calls Tryd.prog 24 #[.agg cs.toArray, .string s] w fun e w' => e = .returned (.bool (mtc r s.data.toList)) ∧ Below w.heap.size w w' := by
  obtain ⟨k, S, l⟩ := r
  obtain ⟨a, n, c, rfl, hK⟩ := RC_mk.1 h
  show Calls Tryd.prog 24 #[.agg #[.int .i64 k, .int .u64 (ws S 0 : Int), .int .u64 (ws S 1 : Int), .int .u64 (ws S 2 : Int), .int .u64 (ws S 3 : Int), .slice a n c], .string s] w _
  have hmk := make_bools s.size hs (w.alloc (.cells #[.int .i64 k, .int .u64 (ws S 0 : Int), .int .u64 (ws S 1 : Int), .int .u64 (ws S 2 : Int), .int .u64 (ws S 3 : Int), .slice a n c] 27))
  obtain ⟨W, hW⟩ : ∃ W, W = (w.alloc (.cells #[.int .i64 k, .int .u64 (ws S 0 : Int), .int .u64 (ws S 1 : Int), .int .u64 (ws S 2 : Int), .int .u64 (ws S 3 : Int), .slice a n c] 27)).alloc (.cells (bl (fun _ => false) (s.size + 1)).toArray 4) := ⟨_, rfl⟩
  have H0 := ends_start g w k S a n c l s.size hK W hW
  have hadd : IntKind.i64.wrap ((s.size : Int) + 1) = (s.size : Int) + 1 := by rw [wrapIn] <;> omega
  have HX := hid (And.intro H0 (And.intro hK (And.intro hv hs)))
  rw [← hW] at hmk
  have x0 := H0.2.1.cell (j := 0) (by omega)
  have x1 := H0.2.1.free 0
  clear H0 h hK
  go_enter Tryd.func24, Tryd.ntmps24
  go_upto_region 2 with fail
  rw [← hW]
  clear hW
  go_upto_region 3 with fail
  obtain ⟨V, hV⟩ : ∃ V, V = W.setCell ⟨w.heap.size + 1, 0, none⟩ (.bool true) := ⟨_, rfl⟩
  have HV := hid (show V.heap[w.heap.size]? = some (.cells #[.int .i64 k, .int .u64 (ws S 0 : Int), .int .u64 (ws S 1 : Int), .int .u64 (ws S 2 : Int), .int .u64 (ws S 3 : Int), .slice a n c] 27 (0, 0)) ∧ BR V (w.heap.size + 1) (s.size + 1) (fun j => j == 0) ∧ Below w.heap.size w V from by
    rw [hV]
    exact ⟨blk_set HX.out.1.1 (by show w.heap.size ≠ w.heap.size + 1; omega), (HX.out.1.2.1.put true).congr fun j _ => by by_cases e : j = 0 <;> simp [e], below_put HX.out.1.2.2 (by omega)⟩)
  rw [← hV]
  clear hV x0 x1
  obtain ⟨c0, c1, c2, c3, c4, c5⟩ := cells6 HV.out.1
  have CE := hid (ends_any g s hs (.mk k S l) HX.out.2.2.1 _ (w.heap.size + 1) V _ HV.out.2.1 (RC_mk.2 ⟨a, n, c, rfl, HX.out.2.1.below HV.out.2.2⟩))
  go_wp2_with fail
  refine CE.out.mono ?_
  rintro e Y ⟨⟨G, b, rfl, hb, hG, hE⟩, hbel⟩
  have y0 := hG.cell (j := s.size) (by omega)
  have HE := hid (And.intro (hE s.size (Nat.le_refl _)) hbel)
  clear hE hbel hb hG c0 c1 c2 c3 c4 c5
  go_wp2
  go_ret
  refine ⟨?_, HV.out.2.2.trans (HE.out.2.mono HV.out.2.2.size)⟩
  have : G s.size = mtc (.mk k S l) s.data.toList := by
    rw [Bool.eq_iff_iff, HE.out.1, mtc_iff HX.out.2.2.1]
    exact EW_full s.data.toList
  rw [← this]; rfl
end Go.Proofs.YtednoideboeehaaDoor
end
