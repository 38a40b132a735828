/-
  Contract: ends, for kids; Match.
  Contracts: the reference's plain and written.
-/
import Derived.Test.YtednoideboeehaaDoorZ23
import Derived.Deep.Cut
import Derived.Laws.IdiomStrings
section
set_option linter.unusedSimpArgs false
set_option linter.unusedVariables false
namespace Go.Proofs.YtednoideboeehaaDoor
open Go.RowKit Bs Rg Go.Frame

theorem one_of {l : List Rx} (h : l.length = 1) : ∃ x, l = [x] := by
  match l, h with
  | [x], _ => exact ⟨x, rfl⟩
theorem drop_here {l : List Rx} {i : Nat} {x : Rx} (h : l[i]? = some x) : l.drop i = x :: l.drop (i + 1) := by
  have hlt := (List.getElem?_eq_some_iff.1 h).1
  rw [List.drop_eq_getElem_cons hlt]
  rw [List.getElem?_eq_getElem hlt] at h
  simp at h; rw [h]
set_option maxRecDepth 100000 in
set_option maxHeartbeats 4000000 in
theorem ends_cat (g : Nat → Prop) (S : BS) (l : List Rx) (s : ByteArray) (F : Nat → Bool) (fb : Nat) (w : World) (cs : List Value) (IH : ∀ x ∈ l, ∀ (F : Nat → Bool) (fb : Nat) (w : World) (cs : List Value), BR w fb (s.size + 1) F → RC g w x cs → Calls Tryd.prog 47 #[.agg cs.toArray, .string s, .slice (some ⟨fb, 0, none⟩) (s.size + 1) (s.size + 1)] w (EdR s x F w)) (hs : s.size ≤ 1000000) (hF : BR w fb (s.size + 1) F) (h : RC g w (.mk 4 S l) cs) :
    Calls Tryd.prog 47 #[.agg cs.toArray, .string s, .slice (some ⟨fb, 0, none⟩) (s.size + 1) (s.size + 1)] w (EdR s (.mk 4 S l) F w) := by
  obtain ⟨a, n, c, rfl, hK⟩ := RC_mk.1 h
  show Calls Tryd.prog 47 #[.agg #[.int .i64 4, .int .u64 (ws S 0 : Int), .int .u64 (ws S 1 : Int), .int .u64 (ws S 2 : Int), .int .u64 (ws S 3 : Int), .slice a n c], .string s, .slice (some ⟨fb, 0, none⟩) (s.size + 1) (s.size + 1)] w _
  have hmk := make_bools s.size hs (w.alloc (.cells #[.int .i64 4, .int .u64 (ws S 0 : Int), .int .u64 (ws S 1 : Int), .int .u64 (ws S 2 : Int), .int .u64 (ws S 3 : Int), .slice a n c] 27))
  obtain ⟨W, hW⟩ : ∃ W, W = (w.alloc (.cells #[.int .i64 4, .int .u64 (ws S 0 : Int), .int .u64 (ws S 1 : Int), .int .u64 (ws S 2 : Int), .int .u64 (ws S 3 : Int), .slice a n c] 27)).alloc (.cells (bl (fun _ => false) (s.size + 1)).toArray 4) := ⟨_, rfl⟩
  have H0 := ends_start g w 4 S a n c l s.size hK W hW
  obtain ⟨c0, c1, c2, c3, c4, c5⟩ := cells6 (hW ▸ H0.1)
  have hadd : IntKind.i64.wrap ((s.size : Int) + 1) = (s.size : Int) + 1 := by rw [wrapIn] <;> omega
  have hnl := hK.lt
  have HX := hid H0
  have HF := hid (And.intro hF (And.intro hs hK))
  have HW := hid hW
  rw [← hW] at hmk
  have hcp := copy_bools W (w.heap.size + 1) fb _ _ F H0.2.1 (hF.below H0.2.2)
  rw [hW] at hcp
  have HI := hid IH
  have hln := hid hK.len
  clear H0 hF h hK IH
  go_enter Tryd.func47, Tryd.ntmps47
  go_wp2_with fail
  rw [← hW]
  obtain ⟨U, hU⟩ : ∃ U, U = W.setRow (w.heap.size + 1) (bl F (s.size + 1)).toArray := ⟨_, rfl⟩
  have HU := hid (show BR U (w.heap.size + 1) (s.size + 1) F ∧ U.heap[w.heap.size]? = some (.cells #[.int .i64 4, .int .u64 (ws S 0 : Int), .int .u64 (ws S 1 : Int), .int .u64 (ws S 2 : Int), .int .u64 (ws S 3 : Int), .slice a n c] 27 (0, 0)) ∧ Below w.heap.size w U from by rw [hU]; exact ⟨HX.out.2.1.row, row_other HX.out.1 (by omega), below_setRow HX.out.2.2 (by omega) _⟩)
  rw [← hU]
  clear hU
  go_loopg [7, 9] n (fun k s7 s9 wr => ∃ (i B : Nat) (G : Nat → Bool), s7 = .slice (some ⟨B, 0, none⟩) (s.size + 1) (s.size + 1) ∧ s9 = .int .i64 (i : Int) ∧ i + k = n ∧ w.heap.size ≤ B ∧ BR wr B (s.size + 1) G ∧ wr.heap[w.heap.size]? = some (.cells #[.int .i64 4, .int .u64 (ws S 0 : Int), .int .u64 (ws S 1 : Int), .int .u64 (ws S 2 : Int), .int .u64 (ws S 3 : Int), .slice a n c] 27 (0, 0)) ∧ Below w.heap.size w wr ∧ ∀ j, j ≤ s.size → (EW s.data.toList (LC l) F j ↔ EW s.data.toList (LC (l.drop i)) G j))
  case atStart => exact ⟨0, _, F, rfl, rfl, by omega, by omega, HU.out.1, HU.out.2.1, HU.out.2.2, fun j _ => Iff.rfl⟩
  case round =>
    obtain ⟨i, B, G, rfl, rfl, hk, hB, hG, hbx, hbw, hEW⟩ := hrel
    by_cases hlt : i < n
    · have hlt' : (i : Int) < (n : Int) := by omega
      have HG := hid (And.intro hG (And.intro hbx (And.intro hbw (And.intro hEW hB))))
      obtain ⟨b, off, k', s', l', a', n', c', rfl, _, hb, hx, hK', q0, q1, q2, q3, q4, q5⟩ := ((HF.out.2.2.below hbw).get (i := i) hlt)
      have c5 := (cells6 hbx).2.2.2.2.2
      have HQ := hid (And.intro hx hK')
      have CK := hid (HI.out _ (List.mem_of_getElem? hx) G B wr _ hG (RC_mk.2 ⟨a', n', c', rfl, hK'⟩))
      clear hx hK' hG hbx hbw hEW hB
      go_wp2_with fail
      refine CK.out.mono ?_
      rintro e W2 ⟨⟨G2, b2, rfl, hb2, hBR, hG2⟩, hbel⟩
      have HR := hid (And.intro hBR (And.intro hb2 (And.intro hG2 hbel)))
      clear hb2 hBR hG2 hbel
      go_wp2
      go_roundg (gk - 1)
      case measure => omega
      case rel =>
        obtain ⟨h1, h2, h3, h4, h5⟩ := HG.out
        obtain ⟨k1, k2, k3, k4⟩ := HR.out
        refine ⟨i + 1, b2, G2, rfl, by go_num, by omega, by have := h3.size; omega, k1, (k4.block _ (heap_lt h2)).trans h2, h3.trans (k4.mono h3.size), fun j hj => ?_⟩
        rw [h4 j hj, drop_here HQ.out.1]
        exact EW_cons s.data.toList (j := j) hj fun m hm => k3 m hm
    · have hin : ¬ (i : Int) < (n : Int) := by omega
      have c5 := (cells6 hbx).2.2.2.2.2
      have HG := hid (And.intro hG (And.intro hbx (And.intro hbw (And.intro hEW hB))))
      clear hG hbx hbw hEW hB
      go_wp2
      go_ret
      obtain ⟨h1, h2, h3, h4, h5⟩ := HG.out
      refine ⟨⟨G, B, rfl, h5, h1, fun j hj => ?_⟩, h3⟩
      have h6 := h4 j hj
      rw [List.drop_eq_nil_of_le (by have := hln.out; omega), EW_nil s.data.toList (j := j) hj] at h6
      rw [← h6]
      exact EW_congr _ fun t => by rw [L_mk]; simp
set_option maxRecDepth 100000 in
set_option maxHeartbeats 4000000 in
theorem ends_alt (g : Nat → Prop) (S : BS) (l : List Rx) (s : ByteArray) (F : Nat → Bool) (fb : Nat) (w : World) (cs : List Value) (IH : ∀ x ∈ l, ∀ (F : Nat → Bool) (fb : Nat) (w : World) (cs : List Value), BR w fb (s.size + 1) F → RC g w x cs → Calls Tryd.prog 47 #[.agg cs.toArray, .string s, .slice (some ⟨fb, 0, none⟩) (s.size + 1) (s.size + 1)] w (EdR s x F w)) (hs : s.size ≤ 1000000) (hF : BR w fb (s.size + 1) F) (h : RC g w (.mk 5 S l) cs) :
    Calls Tryd.prog 47 #[.agg cs.toArray, .string s, .slice (some ⟨fb, 0, none⟩) (s.size + 1) (s.size + 1)] w (EdR s (.mk 5 S l) F w) := by
  obtain ⟨a, n, c, rfl, hK⟩ := RC_mk.1 h
  show Calls Tryd.prog 47 #[.agg #[.int .i64 5, .int .u64 (ws S 0 : Int), .int .u64 (ws S 1 : Int), .int .u64 (ws S 2 : Int), .int .u64 (ws S 3 : Int), .slice a n c], .string s, .slice (some ⟨fb, 0, none⟩) (s.size + 1) (s.size + 1)] w _
  have hmk := make_bools s.size hs (w.alloc (.cells #[.int .i64 5, .int .u64 (ws S 0 : Int), .int .u64 (ws S 1 : Int), .int .u64 (ws S 2 : Int), .int .u64 (ws S 3 : Int), .slice a n c] 27))
  obtain ⟨W, hW⟩ : ∃ W, W = (w.alloc (.cells #[.int .i64 5, .int .u64 (ws S 0 : Int), .int .u64 (ws S 1 : Int), .int .u64 (ws S 2 : Int), .int .u64 (ws S 3 : Int), .slice a n c] 27)).alloc (.cells (bl (fun _ => false) (s.size + 1)).toArray 4) := ⟨_, rfl⟩
  have H0 := ends_start g w 5 S a n c l s.size hK W hW
  obtain ⟨c0, c1, c2, c3, c4, c5⟩ := cells6 (hW ▸ H0.1)
  have hadd : IntKind.i64.wrap ((s.size : Int) + 1) = (s.size : Int) + 1 := by rw [wrapIn] <;> omega
  have hnl := hK.lt
  have HX := hid H0
  have HF := hid (And.intro hF (And.intro hs hK))
  have HW := hid hW
  rw [← hW] at hmk
  have HI := hid IH
  have hln := hid hK.len
  clear H0 hF h hK IH
  go_enter Tryd.func47, Tryd.ntmps47
  go_wp2_with fail
  rw [← hW]
  go_loopg [10] n (fun k s10 wr => ∃ (i : Nat) (G : Nat → Bool), s10 = .int .i64 (i : Int) ∧ i + k = n ∧ BR wr (w.heap.size + 1) (s.size + 1) G ∧ wr.heap[w.heap.size]? = some (.cells #[.int .i64 5, .int .u64 (ws S 0 : Int), .int .u64 (ws S 1 : Int), .int .u64 (ws S 2 : Int), .int .u64 (ws S 3 : Int), .slice a n c] 27 (0, 0)) ∧ Below w.heap.size w wr ∧ ∀ j, j ≤ s.size → (G j = true ↔ EW s.data.toList (LU (l.take i)) F j))
  case atStart => exact ⟨0, _, rfl, by omega, HX.out.2.1, HX.out.1, HX.out.2.2, fun j _ => ⟨fun h => (by cases h), fun h => absurd h (EW_none _)⟩⟩
  case round =>
    obtain ⟨i, G, rfl, hk, hG, hbx, hbw, hEW⟩ := hrel
    by_cases hlt : i < n
    · have hlt' : (i : Int) < (n : Int) := by omega
      have HG := hid (And.intro hG (And.intro hbx (And.intro hbw hEW)))
      obtain ⟨b, off, k', s', l', a', n', c', rfl, _, hb, hx, hK', q0, q1, q2, q3, q4, q5⟩ := ((HF.out.2.2.below hbw).get (i := i) hlt)
      have c5 := (cells6 hbx).2.2.2.2.2
      have HQ := hid (And.intro hx hK')
      have CK := hid (HI.out _ (List.mem_of_getElem? hx) F fb wr _ (HF.out.1.below hbw) (RC_mk.2 ⟨a', n', c', rfl, hK'⟩))
      clear hx hK' hG hbx hbw hEW
      go_wp2_with fail
      refine CK.out.mono ?_
      rintro e W2 ⟨⟨H, b2, rfl, hb2, hBR, hH⟩, hbel⟩
      have HR := hid (And.intro hBR (And.intro hb2 (And.intro hH hbel)))
      clear hb2 hBR hH hbel
      have HN := hid (And.intro hk hlt)
      clear hk hlt
      go_wp2_with fail
      obtain ⟨go, rfl⟩ : ∃ go, go = gk := ⟨_, rfl⟩
      go_loopg [12] (s.size + 1) (fun k s12 wr => ∃ (m : Nat), s12 = .int .i64 (m : Int) ∧ m + k = s.size + 1 ∧ BR wr (w.heap.size + 1) (s.size + 1) (lay G H m) ∧ BR wr b2 (s.size + 1) H ∧ wr.heap[w.heap.size]? = some (.cells #[.int .i64 5, .int .u64 (ws S 0 : Int), .int .u64 (ws S 1 : Int), .int .u64 (ws S 2 : Int), .int .u64 (ws S 3 : Int), .slice (some ⟨b, off, none⟩) n c] 27 (0, 0)) ∧ Below w.heap.size w wr)
      case atStart =>
        obtain ⟨h1, h2, h3, h4⟩ := HG.out
        obtain ⟨k1, k2, k3, k4⟩ := HR.out
        exact ⟨0, rfl, by omega, by rw [lay_zero]; exact h1.below k4, k1, (k4.block _ (heap_lt h2)).trans h2, h3.trans (k4.mono h3.size)⟩
      case round =>
        obtain ⟨m, rfl, hm, g1, g2, g3, g4⟩ := hrel
        by_cases hlm : m < s.size + 1
        · have hlm' : (m : Int) < (s.size : Int) + 1 := by omega
          have u1 := g1.cell hlm
          have u2 := g2.cell hlm
          have u3 := g1.free m
          have HZ := hid (And.intro g1 (And.intro g2 (And.intro g3 g4)))
          obtain ⟨x, hx⟩ : ∃ x, lay G H m m = x := ⟨_, rfl⟩
          obtain ⟨z, hz⟩ : ∃ z, H m = z := ⟨_, rfl⟩
          rw [hx] at u1
          rw [hz] at u2
          have HE := hid (And.intro hx hz)
          clear g1 g2 g3 g4 hx hz
          cases x
          all_goals
            go_wp2
            go_roundg (gk - 1)
            case measure => omega
            case rel =>
              obtain ⟨e1, e2, e3, e4⟩ := HZ.out
              have hbb : b2 ≠ w.heap.size + 1 := by have := HR.out.2.1; have := heap_lt HG.out.1; omega
              refine ⟨m + 1, by go_num, by omega, ?_, e2.other hbb, blk_set e3 (by show w.heap.size ≠ w.heap.size + 1; omega), below_put e4 (by omega)⟩
              rw [lay_step, HE.out.1, HE.out.2]
              first | exact e1.put _ | (simpa using e1.put z)
        · have hin : ¬ (m : Int) < (s.size : Int) + 1 := by omega
          have HZ := hid (And.intro g1 (And.intro g2 (And.intro g3 g4)))
          clear g1 g2 g3 g4
          go_wp2
          go_roundg (go - 1)
          case measure => have := HN.out; omega
          case rel =>
            obtain ⟨e1, e2, e3, e4⟩ := HZ.out
            obtain rfl : m = s.size + 1 := by omega
            refine ⟨i + 1, lay G H (s.size + 1), by go_num, by have := HN.out; omega, e1, e3, e4, fun j hj => ?_⟩
            rw [lay_full G H (by omega), Bool.or_eq_true, HG.out.2.2.2 j hj, HR.out.2.2.1 j hj, EW_take _ HQ.out.1]
    · have hin : ¬ (i : Int) < (n : Int) := by omega
      have c5 := (cells6 hbx).2.2.2.2.2
      have HG := hid (And.intro hG (And.intro hbx (And.intro hbw hEW)))
      clear hG hbx hbw hEW
      go_wp2
      go_ret
      obtain ⟨h1, h2, h3, h4⟩ := HG.out
      refine ⟨⟨G, _, rfl, by omega, h1, fun j hj => ?_⟩, h3⟩
      rw [h4 j hj, List.take_of_length_le (by have := hln.out; omega)]
      exact EW_congr _ fun t => by rw [L_mk]; simp
set_option maxRecDepth 100000 in
set_option maxHeartbeats 4000000 in
theorem ends_star (g : Nat → Prop) (S : BS) (l : List Rx) (s : ByteArray) (F : Nat → Bool) (fb : Nat) (w : World) (cs : List Value) (IH : ∀ x ∈ l, ∀ (F : Nat → Bool) (fb : Nat) (w : World) (cs : List Value), BR w fb (s.size + 1) F → RC g w x cs → Calls Tryd.prog 47 #[.agg cs.toArray, .string s, .slice (some ⟨fb, 0, none⟩) (s.size + 1) (s.size + 1)] w (EdR s x F w)) (x : Rx) (hx1 : l = [x]) (hs : s.size ≤ 1000000) (hF : BR w fb (s.size + 1) F) (h : RC g w (.mk 6 S l) cs) :
    Calls Tryd.prog 47 #[.agg cs.toArray, .string s, .slice (some ⟨fb, 0, none⟩) (s.size + 1) (s.size + 1)] w (EdR s (.mk 6 S l) F w) := by
  obtain ⟨a, n, c, rfl, hK⟩ := RC_mk.1 h
  show Calls Tryd.prog 47 #[.agg #[.int .i64 6, .int .u64 (ws S 0 : Int), .int .u64 (ws S 1 : Int), .int .u64 (ws S 2 : Int), .int .u64 (ws S 3 : Int), .slice a n c], .string s, .slice (some ⟨fb, 0, none⟩) (s.size + 1) (s.size + 1)] w _
  have hmk := make_bools s.size hs (w.alloc (.cells #[.int .i64 6, .int .u64 (ws S 0 : Int), .int .u64 (ws S 1 : Int), .int .u64 (ws S 2 : Int), .int .u64 (ws S 3 : Int), .slice a n c] 27))
  obtain ⟨W, hW⟩ : ∃ W, W = (w.alloc (.cells #[.int .i64 6, .int .u64 (ws S 0 : Int), .int .u64 (ws S 1 : Int), .int .u64 (ws S 2 : Int), .int .u64 (ws S 3 : Int), .slice a n c] 27)).alloc (.cells (bl (fun _ => false) (s.size + 1)).toArray 4) := ⟨_, rfl⟩
  have H0 := ends_start g w 6 S a n c l s.size hK W hW
  obtain ⟨c0, c1, c2, c3, c4, c5⟩ := cells6 (hW ▸ H0.1)
  have hadd : IntKind.i64.wrap ((s.size : Int) + 1) = (s.size : Int) + 1 := by rw [wrapIn] <;> omega
  have hnl := hK.lt
  have HX := hid H0
  have HF := hid (And.intro hF (And.intro hs hK))
  have HW := hid hW
  rw [← hW] at hmk
  have hcp := copy_bools W (w.heap.size + 1) fb _ _ F H0.2.1 (hF.below H0.2.2)
  rw [hW] at hcp
  have HI := hid IH
  have hln := hid hK.len
  clear H0 hF h hK IH
  go_enter Tryd.func47, Tryd.ntmps47
  go_wp2_with fail
  rw [← hW]
  obtain ⟨U, hU⟩ : ∃ U, U = W.setRow (w.heap.size + 1) (bl F (s.size + 1)).toArray := ⟨_, rfl⟩
  have HU := hid (show BR U (w.heap.size + 1) (s.size + 1) F ∧ U.heap[w.heap.size]? = some (.cells #[.int .i64 6, .int .u64 (ws S 0 : Int), .int .u64 (ws S 1 : Int), .int .u64 (ws S 2 : Int), .int .u64 (ws S 3 : Int), .slice a n c] 27 (0, 0)) ∧ Below w.heap.size w U from by rw [hU]; exact ⟨HX.out.2.1.row, row_other HX.out.1 (by omega), below_setRow HX.out.2.2 (by omega) _⟩)
  rw [← hU]
  clear hU
  have HL := hid hx1
  obtain rfl : n = 1 := by rw [← hln.out, hx1]; rfl
  clear hx1
  go_loopg [13] (s.size + 1 + 1 - cnt F (s.size + 1)) (fun k s13 wr => ∃ (more : Bool) (G : Nat → Bool), s13 = .bool more ∧ k + cnt G (s.size + 1) = s.size + 1 + more.toNat ∧ BR wr (w.heap.size + 1) (s.size + 1) G ∧ wr.heap[w.heap.size]? = some (.cells #[.int .i64 6, .int .u64 (ws S 0 : Int), .int .u64 (ws S 1 : Int), .int .u64 (ws S 2 : Int), .int .u64 (ws S 3 : Int), .slice a 1 c] 27 (0, 0)) ∧ Below w.heap.size w wr ∧ (∀ j, j ≤ s.size → F j = true → G j = true) ∧ (∀ j, j ≤ s.size → G j = true → EW s.data.toList (Rep (LU l)) F j) ∧ (more = false → ∀ j, j ≤ s.size → EW s.data.toList (LU l) G j → G j = true))
  case atStart => exact ⟨true, F, rfl, (by have := cnt_le F (s.size + 1); simp only [Bool.toNat_true]; omega), HU.out.1, HU.out.2.1, HU.out.2.2, fun j _ h => h, fun j _ h => EW_refl _ h, fun h => by cases h⟩
  case round =>
    obtain ⟨more, G, rfl, hk, hG, hbx, hbw, hE1, hE2, hE3⟩ := hrel
    cases more
    · have HG := hid (And.intro hG (And.intro hbw (And.intro hE1 (And.intro hE2 (hE3 rfl)))))
      clear hG hbx hbw hE1 hE2 hE3
      go_wp2
      go_ret
      obtain ⟨h1, h3, h4, h5, h6⟩ := HG.out
      refine ⟨⟨G, _, rfl, by omega, h1, fun j hj => ?_⟩, h3⟩
      rw [EW_star s.data.toList h4 h5 h6 (j := j) hj]
      exact EW_congr _ fun t => by rw [L_mk]; simp
    · have HG := hid (And.intro hG (And.intro hbx (And.intro hbw (And.intro hE1 hE2))))
      obtain ⟨b, off, k', s', l', a', n', c', rfl, _, hb, hx, hK', q0, q1, q2, q3, q4, q5⟩ := ((HF.out.2.2.below hbw).get (i := 0) (by omega))
      have c5 := (cells6 hbx).2.2.2.2.2
      have HQ := hid (And.intro hx hK')
      have CK := hid (HI.out _ (List.mem_of_getElem? hx) G (w.heap.size + 1) wr _ hG (RC_mk.2 ⟨a', n', c', rfl, hK'⟩))
      simp only [Nat.zero_mul, Nat.add_zero] at q0 q1 q2 q3 q4 q5
      clear hx hK' hG hbx hbw hE1 hE2 hE3
      go_wp2_with fail
      refine CK.out.mono ?_
      rintro e W2 ⟨⟨H, b2, rfl, hb2, hBR, hH⟩, hbel⟩
      have HR := hid (And.intro hBR (And.intro hb2 (And.intro hH hbel)))
      clear hb2 hBR hH hbel
      have HN := hid hk
      clear hk
      go_wp2_with fail
      obtain ⟨go, rfl⟩ : ∃ go, go = gk := ⟨_, rfl⟩
      go_loopg [13, 15] (s.size + 1) (fun k s13 s15 wr => ∃ (m : Nat), s13 = .bool (new G H m) ∧ s15 = .int .i64 (m : Int) ∧ m + k = s.size + 1 ∧ BR wr (w.heap.size + 1) (s.size + 1) (lay G H m) ∧ BR wr b2 (s.size + 1) H ∧ wr.heap[w.heap.size]? = some (.cells #[.int .i64 6, .int .u64 (ws S 0 : Int), .int .u64 (ws S 1 : Int), .int .u64 (ws S 2 : Int), .int .u64 (ws S 3 : Int), .slice (some ⟨b, off, none⟩) 1 c] 27 (0, 0)) ∧ Below w.heap.size w wr)
      case atStart =>
        obtain ⟨h1, h2, h3, h4⟩ := HG.out
        obtain ⟨k1, k2, k3, k4⟩ := HR.out
        exact ⟨0, rfl, rfl, by omega, by rw [lay_zero]; exact h1.below k4, k1, (k4.block _ (heap_lt h2)).trans h2, h3.trans (k4.mono h3.size)⟩
      case round =>
        obtain ⟨m, rfl, rfl, hm, g1, g2, g3, g4⟩ := hrel
        by_cases hlm : m < s.size + 1
        · have hlm' : (m : Int) < (s.size : Int) + 1 := by omega
          have u1 := g1.cell hlm
          have u2 := g2.cell hlm
          have u3 := g1.free m
          have HZ := hid (And.intro g1 (And.intro g2 (And.intro g3 g4)))
          obtain ⟨y, hy⟩ : ∃ y, new G H m = y := ⟨_, rfl⟩
          rw [lay_at] at u1
          obtain ⟨x, hx⟩ : ∃ x, G m = x := ⟨_, rfl⟩
          obtain ⟨z, hz⟩ : ∃ z, H m = z := ⟨_, rfl⟩
          rw [hx] at u1
          rw [hz] at u2
          rw [hy]
          have HE := hid (And.intro hx (And.intro hz hy))
          clear g1 g2 g3 g4 hx hz hy
          cases x <;> cases z <;> cases y
          all_goals
            go_wp2
            go_roundg (gk - 1)
            case measure => omega
            case rel =>
              obtain ⟨e1, e2, e3, e4⟩ := HZ.out
              have hbb : b2 ≠ w.heap.size + 1 := by have := HR.out.2.1; have := heap_lt HG.out.1; omega
              refine ⟨m + 1, by rw [new_step, HE.out.1, HE.out.2.1, HE.out.2.2]; rfl, by go_num, by omega, ?_, e2.other hbb, blk_set e3 (by show w.heap.size ≠ w.heap.size + 1; omega), below_put e4 (by omega)⟩
              rw [lay_step, lay_at, HE.out.1, HE.out.2.1]
              exact e1.put _
        · have hin : ¬ (m : Int) < (s.size : Int) + 1 := by omega
          obtain rfl : m = s.size + 1 := by omega
          obtain ⟨y, hy⟩ : ∃ y, new G H (s.size + 1) = y := ⟨_, rfl⟩
          rw [hy]
          have HZ := hid (And.intro g1 (And.intro g3 (And.intro g4 hy)))
          clear g1 g2 g3 g4 hy
          go_wp2
          go_roundg (s.size + 1 + y.toNat - cnt (lay G H (s.size + 1)) (s.size + 1))
          case measure =>
            have hN := HN.out
            have h1 := cnt_le (lay G H (s.size + 1)) (s.size + 1)
            have hmono : ∀ j, j < s.size + 1 → G j = true → lay G H (s.size + 1) j = true := fun j hj h => by rw [lay_full G H hj, h]; rfl
            have h2 := cnt_mono hmono
            simp only [Bool.toNat_true] at hN
            cases y
            · simp only [Bool.toNat_false]; omega
            · obtain ⟨j, hj, hj1, hj2⟩ := new_yes HZ.out.2.2.2
              have h3 := cnt_more hmono hj hj2 (by rw [lay_full G H hj, hj1]; simp)
              simp only [Bool.toNat_true]; omega
          case rel =>
            obtain ⟨e1, e3, e4, hy⟩ := HZ.out
            obtain ⟨h1, h2, h3, h4, h5⟩ := HG.out
            obtain ⟨k1, k2, k3, k4⟩ := HR.out
            have hcl := cnt_le (lay G H (s.size + 1)) (s.size + 1)
            have hLU : ∀ t, LU l t ↔ L (.mk k' s' l') t := fun t => by
              have hq := HQ.out.1
              rw [HL.out] at hq ⊢
              simp at hq
              rw [LU_cons, hq]
              simp [LU_nil]
            refine ⟨y, lay G H (s.size + 1), rfl, by omega, e1, e3, e4, fun j hj h => by rw [lay_full G H (by omega), h4 j hj h]; rfl, fun j hj h => ?_, fun h0 j hj h => ?_⟩
            · rw [lay_full G H (by omega), Bool.or_eq_true] at h
              rcases h with h | h
              · exact h5 j hj h
              · exact EW_more _ h5 hj ((EW_congr _ hLU).2 ((k3 j hj).1 h))
            · subst h0
              have hsame : ∀ i, i ≤ s.size → lay G H (s.size + 1) i = true → G i = true := fun i hi h => by
                rw [lay_full G H (by omega), Bool.or_eq_true] at h
                rcases h with h | h
                · exact h
                · exact new_no hy (by omega) h
              obtain ⟨i, i1, i2, i3⟩ := h
              have : H j = true := (k3 j hj).2 ⟨i, i1, hsame i (by omega) i2, (hLU _).1 i3⟩
              rw [lay_full G H (by omega), this]; simp
set_option maxRecDepth 100000 in
set_option maxHeartbeats 4000000 in
theorem ends_any (g : Nat → Prop) (s : ByteArray) (hs : s.size ≤ 1000000) (r : Rx) : Vd r → ∀ (F : Nat → Bool) (fb : Nat) (w : World) (cs : List Value), BR w fb (s.size + 1) F → RC g w r cs → Calls Tryd.prog 47 #[.agg cs.toArray, .string s, .slice (some ⟨fb, 0, none⟩) (s.size + 1) (s.size + 1)] w (EdR s r F w) := by
  induction r using Rx.ind with
  | h k S l ih =>
    intro hv F fb w cs hF h
    have IH : ∀ x ∈ l, ∀ (F : Nat → Bool) (fb : Nat) (w : World) (cs : List Value), BR w fb (s.size + 1) F → RC g w x cs → Calls Tryd.prog 47 #[.agg cs.toArray, .string s, .slice (some ⟨fb, 0, none⟩) (s.size + 1) (s.size + 1)] w (EdR s x F w) := fun x hx => ih x hx (hv.kid hx)
    have hsh := hv.shaped
    rcases shaped_kind hsh with rfl | rfl | rfl | rfl | rfl | rfl
    · exact ends_none g S l s F fb w cs hs hF h
    · exact ends_eps g S l s F fb w cs hs hF h
    · exact ends_set g S l s F fb w cs hs hF h
    · exact ends_cat g S l s F fb w cs IH hs hF h
    · exact ends_alt g S l s F fb w cs IH hs hF h
    · obtain ⟨x, hx⟩ := one_of (shaped_star hsh)
      exact ends_star g S l s F fb w cs IH x hx hs hF h
set_option maxRecDepth 100000 in
set_option maxHeartbeats 4000000 in
theorem rMatch_any (g : Nat → Prop) (r : Rx) (s : ByteArray) (w : World) (cs : List Value) (hv : Vd r) (hs : s.size ≤ 1000000) (h : RC g w r cs) :
    Calls Tryd.prog 24 #[.agg cs.toArray, .string s] w fun e w' => e = .returned (.bool (mtc r s.data.toList)) ∧ Below w.heap.size w w' := by
  obtain ⟨k, S, l⟩ := r
  obtain ⟨a, n, c, rfl, hK⟩ := RC_mk.1 h
  show Calls Tryd.prog 24 #[.agg #[.int .i64 k, .int .u64 (ws S 0 : Int), .int .u64 (ws S 1 : Int), .int .u64 (ws S 2 : Int), .int .u64 (ws S 3 : Int), .slice a n c], .string s] w _
  have hmk := make_bools s.size hs (w.alloc (.cells #[.int .i64 k, .int .u64 (ws S 0 : Int), .int .u64 (ws S 1 : Int), .int .u64 (ws S 2 : Int), .int .u64 (ws S 3 : Int), .slice a n c] 27))
  obtain ⟨W, hW⟩ : ∃ W, W = (w.alloc (.cells #[.int .i64 k, .int .u64 (ws S 0 : Int), .int .u64 (ws S 1 : Int), .int .u64 (ws S 2 : Int), .int .u64 (ws S 3 : Int), .slice a n c] 27)).alloc (.cells (bl (fun _ => false) (s.size + 1)).toArray 4) := ⟨_, rfl⟩
  have H0 := ends_start g w k S a n c l s.size hK W hW
  have hadd : IntKind.i64.wrap ((s.size : Int) + 1) = (s.size : Int) + 1 := by rw [wrapIn] <;> omega
  have HX := hid (And.intro H0 (And.intro hK (And.intro hv hs)))
  rw [← hW] at hmk
  have x0 := H0.2.1.cell (j := 0) (by omega)
  have x1 := H0.2.1.free 0
  clear H0 h hK
  go_enter Tryd.func24, Tryd.ntmps24
  go_upto_region 2 with fail
  rw [← hW]
  clear hW
  go_upto_region 3 with fail
  obtain ⟨V, hV⟩ : ∃ V, V = W.setCell ⟨w.heap.size + 1, 0, none⟩ (.bool true) := ⟨_, rfl⟩
  have HV := hid (show V.heap[w.heap.size]? = some (.cells #[.int .i64 k, .int .u64 (ws S 0 : Int), .int .u64 (ws S 1 : Int), .int .u64 (ws S 2 : Int), .int .u64 (ws S 3 : Int), .slice a n c] 27 (0, 0)) ∧ BR V (w.heap.size + 1) (s.size + 1) (fun j => j == 0) ∧ Below w.heap.size w V from by
    rw [hV]
    exact ⟨blk_set HX.out.1.1 (by show w.heap.size ≠ w.heap.size + 1; omega), (HX.out.1.2.1.put true).congr fun j _ => by by_cases e : j = 0 <;> simp [e], below_put HX.out.1.2.2 (by omega)⟩)
  rw [← hV]
  clear hV x0 x1
  obtain ⟨c0, c1, c2, c3, c4, c5⟩ := cells6 HV.out.1
  have CE := hid (ends_any g s hs (.mk k S l) HX.out.2.2.1 _ (w.heap.size + 1) V _ HV.out.2.1 (RC_mk.2 ⟨a, n, c, rfl, HX.out.2.1.below HV.out.2.2⟩))
  go_wp2_with fail
  refine CE.out.mono ?_
  rintro e Y ⟨⟨G, b, rfl, hb, hG, hE⟩, hbel⟩
  have y0 := hG.cell (j := s.size) (by omega)
  have HE := hid (And.intro (hE s.size (Nat.le_refl _)) hbel)
  clear hE hbel hb hG c0 c1 c2 c3 c4 c5
  go_wp2
  go_ret
  refine ⟨?_, HV.out.2.2.trans (HE.out.2.mono HV.out.2.2.size)⟩
  have : G s.size = mtc (.mk k S l) s.data.toList := by
    rw [Bool.eq_iff_iff, HE.out.1, mtc_iff HX.out.2.2.1]
    exact EW_full s.data.toList
  rw [← this]; rfl
end Go.Proofs.YtednoideboeehaaDoor
end
section
set_option linter.unusedSimpArgs false
set_option linter.unusedVariables false
namespace Go.Proofs.YtednoideboeehaaDoor
open Go.RowKit Bs Rg Go.Frame

/-- The signs that do not stand for themselves. -/
def spn : Bool → List Nat
  | false => [40, 41, 91, 93, 124, 42, 43, 63, 46, 92]
  | true => [93, 92, 45]
def pln (b : Nat) (br : Bool) : Bool := decide (32 ≤ b) && (decide (b ≤ 126) && !(spn br).contains b)
theorem pln_no {b : Nat} {br : Bool} {c : Nat} (hc : c ∈ spn br) (h : (c : Int) = (b : Int)) : pln b br = false := by
  obtain rfl : b = c := by omega
  have : (spn br).contains b = true := by simpa using hc
  unfold pln; rw [this]; simp
theorem pln_yes {b : Nat} {br : Bool} (h1 : 32 ≤ b) (h2 : b ≤ 126) (h : ∀ c ∈ spn br, ¬ (c : Int) = (b : Int)) : pln b br = true := by
  have : (spn br).contains b = false := by
    rw [← Bool.not_eq_true]
    intro hc
    exact h b (by simpa using hc) rfl
  unfold pln; rw [this]; simp [h1, h2]
set_option maxRecDepth 100000 in
set_option maxHeartbeats 4000000 in
theorem plain_false (b : Nat) (w : World) (h1 : 32 ≤ b) (h2 : b ≤ 126) :
    Calls Tryd.prog 87 #[.int .i64 (b : Int), .bool false] w fun e w' => e = .returned (.bool (pln b false)) ∧ w' = w := by
  have g1 : ¬ (b : Int) < 32 := by omega
  have g2 : ¬ (126 : Int) < (b : Int) := by omega
  have HB := hid (And.intro h1 h2)
  obtain ⟨q, hq⟩ : ∃ q, q = pln b false := ⟨_, rfl⟩
  rw [← hq]
  have HQ := hid hq
  clear hq h1 h2
  go_enter Tryd.func87, Tryd.ntmps87
  go_wp2_with fail
  go_loopg [6] 10 (fun k s6 wr => ∃ i : Nat, s6 = .int .i64 (i : Int) ∧ i + k = 10 ∧ (∀ c ∈ (spn false).take i, ¬ (c : Int) = (b : Int)) ∧ wr = w)
  case atStart => exact ⟨0, rfl, rfl, by simp, rfl⟩
  case round =>
    obtain ⟨i, rfl, hk, hall, rfl⟩ := hrel
    have HA := hid hall
    clear hall
    have hi : i = 0 ∨ i = 1 ∨ i = 2 ∨ i = 3 ∨ i = 4 ∨ i = 5 ∨ i = 6 ∨ i = 7 ∨ i = 8 ∨ i = 9 ∨ i = 10 := by omega
    rcases hi with rfl | rfl | rfl | rfl | rfl | rfl | rfl | rfl | rfl | rfl | rfl
    · have e0 : wrap64 (((({ data := #[40, 41, 91, 93, 124, 42, 43, 63, 46, 92] } : ByteArray)[0]'(by decide)).toNat : Nat) : Int) = 40 := by decide +kernel
      by_cases e : (40 : Int) = (b : Int)
      · have HE := hid e
        have e' : ((40 : Int) == (b : Int)) = true := by simpa using e
        clear e
        go_wp2
        go_ret
        exact ⟨by rw [HQ.out, pln_no (c := 40) (by decide) HE.out]; rfl, rfl⟩
      · have HE := hid e
        have e' : ((40 : Int) == (b : Int)) = false := by simpa using e
        clear e
        go_wp2
        go_roundg (gk - 1)
        case measure => omega
        case rel => exact ⟨1, rfl, by omega, fun c hc => by
          rw [List.take_add_one] at hc
          rcases List.mem_append.1 hc with hc | hc
          · exact HA.out c hc
          · obtain rfl : c = 40 := by simpa [spn] using hc
            exact HE.out, rfl⟩
    · have e0 : wrap64 (((({ data := #[40, 41, 91, 93, 124, 42, 43, 63, 46, 92] } : ByteArray)[1]'(by decide)).toNat : Nat) : Int) = 41 := by decide +kernel
      by_cases e : (41 : Int) = (b : Int)
      · have HE := hid e
        have e' : ((41 : Int) == (b : Int)) = true := by simpa using e
        clear e
        go_wp2
        go_ret
        exact ⟨by rw [HQ.out, pln_no (c := 41) (by decide) HE.out]; rfl, rfl⟩
      · have HE := hid e
        have e' : ((41 : Int) == (b : Int)) = false := by simpa using e
        clear e
        go_wp2
        go_roundg (gk - 1)
        case measure => omega
        case rel => exact ⟨2, rfl, by omega, fun c hc => by
          rw [List.take_add_one] at hc
          rcases List.mem_append.1 hc with hc | hc
          · exact HA.out c hc
          · obtain rfl : c = 41 := by simpa [spn] using hc
            exact HE.out, rfl⟩
    · have e0 : wrap64 (((({ data := #[40, 41, 91, 93, 124, 42, 43, 63, 46, 92] } : ByteArray)[2]'(by decide)).toNat : Nat) : Int) = 91 := by decide +kernel
      by_cases e : (91 : Int) = (b : Int)
      · have HE := hid e
        have e' : ((91 : Int) == (b : Int)) = true := by simpa using e
        clear e
        go_wp2
        go_ret
        exact ⟨by rw [HQ.out, pln_no (c := 91) (by decide) HE.out]; rfl, rfl⟩
      · have HE := hid e
        have e' : ((91 : Int) == (b : Int)) = false := by simpa using e
        clear e
        go_wp2
        go_roundg (gk - 1)
        case measure => omega
        case rel => exact ⟨3, rfl, by omega, fun c hc => by
          rw [List.take_add_one] at hc
          rcases List.mem_append.1 hc with hc | hc
          · exact HA.out c hc
          · obtain rfl : c = 91 := by simpa [spn] using hc
            exact HE.out, rfl⟩
    · have e0 : wrap64 (((({ data := #[40, 41, 91, 93, 124, 42, 43, 63, 46, 92] } : ByteArray)[3]'(by decide)).toNat : Nat) : Int) = 93 := by decide +kernel
      by_cases e : (93 : Int) = (b : Int)
      · have HE := hid e
        have e' : ((93 : Int) == (b : Int)) = true := by simpa using e
        clear e
        go_wp2
        go_ret
        exact ⟨by rw [HQ.out, pln_no (c := 93) (by decide) HE.out]; rfl, rfl⟩
      · have HE := hid e
        have e' : ((93 : Int) == (b : Int)) = false := by simpa using e
        clear e
        go_wp2
        go_roundg (gk - 1)
        case measure => omega
        case rel => exact ⟨4, rfl, by omega, fun c hc => by
          rw [List.take_add_one] at hc
          rcases List.mem_append.1 hc with hc | hc
          · exact HA.out c hc
          · obtain rfl : c = 93 := by simpa [spn] using hc
            exact HE.out, rfl⟩
    · have e0 : wrap64 (((({ data := #[40, 41, 91, 93, 124, 42, 43, 63, 46, 92] } : ByteArray)[4]'(by decide)).toNat : Nat) : Int) = 124 := by decide +kernel
      by_cases e : (124 : Int) = (b : Int)
      · have HE := hid e
        have e' : ((124 : Int) == (b : Int)) = true := by simpa using e
        clear e
        go_wp2
        go_ret
        exact ⟨by rw [HQ.out, pln_no (c := 124) (by decide) HE.out]; rfl, rfl⟩
      · have HE := hid e
        have e' : ((124 : Int) == (b : Int)) = false := by simpa using e
        clear e
        go_wp2
        go_roundg (gk - 1)
        case measure => omega
        case rel => exact ⟨5, rfl, by omega, fun c hc => by
          rw [List.take_add_one] at hc
          rcases List.mem_append.1 hc with hc | hc
          · exact HA.out c hc
          · obtain rfl : c = 124 := by simpa [spn] using hc
            exact HE.out, rfl⟩
    · have e0 : wrap64 (((({ data := #[40, 41, 91, 93, 124, 42, 43, 63, 46, 92] } : ByteArray)[5]'(by decide)).toNat : Nat) : Int) = 42 := by decide +kernel
      by_cases e : (42 : Int) = (b : Int)
      · have HE := hid e
        have e' : ((42 : Int) == (b : Int)) = true := by simpa using e
        clear e
        go_wp2
        go_ret
        exact ⟨by rw [HQ.out, pln_no (c := 42) (by decide) HE.out]; rfl, rfl⟩
      · have HE := hid e
        have e' : ((42 : Int) == (b : Int)) = false := by simpa using e
        clear e
        go_wp2
        go_roundg (gk - 1)
        case measure => omega
        case rel => exact ⟨6, rfl, by omega, fun c hc => by
          rw [List.take_add_one] at hc
          rcases List.mem_append.1 hc with hc | hc
          · exact HA.out c hc
          · obtain rfl : c = 42 := by simpa [spn] using hc
            exact HE.out, rfl⟩
    · have e0 : wrap64 (((({ data := #[40, 41, 91, 93, 124, 42, 43, 63, 46, 92] } : ByteArray)[6]'(by decide)).toNat : Nat) : Int) = 43 := by decide +kernel
      by_cases e : (43 : Int) = (b : Int)
      · have HE := hid e
        have e' : ((43 : Int) == (b : Int)) = true := by simpa using e
        clear e
        go_wp2
        go_ret
        exact ⟨by rw [HQ.out, pln_no (c := 43) (by decide) HE.out]; rfl, rfl⟩
      · have HE := hid e
        have e' : ((43 : Int) == (b : Int)) = false := by simpa using e
        clear e
        go_wp2
        go_roundg (gk - 1)
        case measure => omega
        case rel => exact ⟨7, rfl, by omega, fun c hc => by
          rw [List.take_add_one] at hc
          rcases List.mem_append.1 hc with hc | hc
          · exact HA.out c hc
          · obtain rfl : c = 43 := by simpa [spn] using hc
            exact HE.out, rfl⟩
    · have e0 : wrap64 (((({ data := #[40, 41, 91, 93, 124, 42, 43, 63, 46, 92] } : ByteArray)[7]'(by decide)).toNat : Nat) : Int) = 63 := by decide +kernel
      by_cases e : (63 : Int) = (b : Int)
      · have HE := hid e
        have e' : ((63 : Int) == (b : Int)) = true := by simpa using e
        clear e
        go_wp2
        go_ret
        exact ⟨by rw [HQ.out, pln_no (c := 63) (by decide) HE.out]; rfl, rfl⟩
      · have HE := hid e
        have e' : ((63 : Int) == (b : Int)) = false := by simpa using e
        clear e
        go_wp2
        go_roundg (gk - 1)
        case measure => omega
        case rel => exact ⟨8, rfl, by omega, fun c hc => by
          rw [List.take_add_one] at hc
          rcases List.mem_append.1 hc with hc | hc
          · exact HA.out c hc
          · obtain rfl : c = 63 := by simpa [spn] using hc
            exact HE.out, rfl⟩
    · have e0 : wrap64 (((({ data := #[40, 41, 91, 93, 124, 42, 43, 63, 46, 92] } : ByteArray)[8]'(by decide)).toNat : Nat) : Int) = 46 := by decide +kernel
      by_cases e : (46 : Int) = (b : Int)
      · have HE := hid e
        have e' : ((46 : Int) == (b : Int)) = true := by simpa using e
        clear e
        go_wp2
        go_ret
        exact ⟨by rw [HQ.out, pln_no (c := 46) (by decide) HE.out]; rfl, rfl⟩
      · have HE := hid e
        have e' : ((46 : Int) == (b : Int)) = false := by simpa using e
        clear e
        go_wp2
        go_roundg (gk - 1)
        case measure => omega
        case rel => exact ⟨9, rfl, by omega, fun c hc => by
          rw [List.take_add_one] at hc
          rcases List.mem_append.1 hc with hc | hc
          · exact HA.out c hc
          · obtain rfl : c = 46 := by simpa [spn] using hc
            exact HE.out, rfl⟩
    · have e0 : wrap64 (((({ data := #[40, 41, 91, 93, 124, 42, 43, 63, 46, 92] } : ByteArray)[9]'(by decide)).toNat : Nat) : Int) = 92 := by decide +kernel
      by_cases e : (92 : Int) = (b : Int)
      · have HE := hid e
        have e' : ((92 : Int) == (b : Int)) = true := by simpa using e
        clear e
        go_wp2
        go_ret
        exact ⟨by rw [HQ.out, pln_no (c := 92) (by decide) HE.out]; rfl, rfl⟩
      · have HE := hid e
        have e' : ((92 : Int) == (b : Int)) = false := by simpa using e
        clear e
        go_wp2
        go_roundg (gk - 1)
        case measure => omega
        case rel => exact ⟨10, rfl, by omega, fun c hc => by
          rw [List.take_add_one] at hc
          rcases List.mem_append.1 hc with hc | hc
          · exact HA.out c hc
          · obtain rfl : c = 92 := by simpa [spn] using hc
            exact HE.out, rfl⟩
    · go_wp2
      go_ret
      exact ⟨by rw [HQ.out, pln_yes HB.out.1 HB.out.2 (fun c hc => HA.out c (by rw [List.take_of_length_le (by decide)]; exact hc))]; rfl, rfl⟩
set_option maxRecDepth 100000 in
set_option maxHeartbeats 4000000 in
theorem plain_true (b : Nat) (w : World) (h1 : 32 ≤ b) (h2 : b ≤ 126) :
    Calls Tryd.prog 87 #[.int .i64 (b : Int), .bool true] w fun e w' => e = .returned (.bool (pln b true)) ∧ w' = w := by
  have g1 : ¬ (b : Int) < 32 := by omega
  have g2 : ¬ (126 : Int) < (b : Int) := by omega
  have HB := hid (And.intro h1 h2)
  obtain ⟨q, hq⟩ : ∃ q, q = pln b true := ⟨_, rfl⟩
  rw [← hq]
  have HQ := hid hq
  clear hq h1 h2
  go_enter Tryd.func87, Tryd.ntmps87
  go_wp2_with fail
  go_loopg [6] 3 (fun k s6 wr => ∃ i : Nat, s6 = .int .i64 (i : Int) ∧ i + k = 3 ∧ (∀ c ∈ (spn true).take i, ¬ (c : Int) = (b : Int)) ∧ wr = w)
  case atStart => exact ⟨0, rfl, rfl, by simp, rfl⟩
  case round =>
    obtain ⟨i, rfl, hk, hall, rfl⟩ := hrel
    have HA := hid hall
    clear hall
    have hi : i = 0 ∨ i = 1 ∨ i = 2 ∨ i = 3 := by omega
    rcases hi with rfl | rfl | rfl | rfl
    · have e0 : wrap64 (((({ data := #[93, 92, 45] } : ByteArray)[0]'(by decide)).toNat : Nat) : Int) = 93 := by decide +kernel
      by_cases e : (93 : Int) = (b : Int)
      · have HE := hid e
        have e' : ((93 : Int) == (b : Int)) = true := by simpa using e
        clear e
        go_wp2
        go_ret
        exact ⟨by rw [HQ.out, pln_no (c := 93) (by decide) HE.out]; rfl, rfl⟩
      · have HE := hid e
        have e' : ((93 : Int) == (b : Int)) = false := by simpa using e
        clear e
        go_wp2
        go_roundg (gk - 1)
        case measure => omega
        case rel => exact ⟨1, rfl, by omega, fun c hc => by
          rw [List.take_add_one] at hc
          rcases List.mem_append.1 hc with hc | hc
          · exact HA.out c hc
          · obtain rfl : c = 93 := by simpa [spn] using hc
            exact HE.out, rfl⟩
    · have e0 : wrap64 (((({ data := #[93, 92, 45] } : ByteArray)[1]'(by decide)).toNat : Nat) : Int) = 92 := by decide +kernel
      by_cases e : (92 : Int) = (b : Int)
      · have HE := hid e
        have e' : ((92 : Int) == (b : Int)) = true := by simpa using e
        clear e
        go_wp2
        go_ret
        exact ⟨by rw [HQ.out, pln_no (c := 92) (by decide) HE.out]; rfl, rfl⟩
      · have HE := hid e
        have e' : ((92 : Int) == (b : Int)) = false := by simpa using e
        clear e
        go_wp2
        go_roundg (gk - 1)
        case measure => omega
        case rel => exact ⟨2, rfl, by omega, fun c hc => by
          rw [List.take_add_one] at hc
          rcases List.mem_append.1 hc with hc | hc
          · exact HA.out c hc
          · obtain rfl : c = 92 := by simpa [spn] using hc
            exact HE.out, rfl⟩
    · have e0 : wrap64 (((({ data := #[93, 92, 45] } : ByteArray)[2]'(by decide)).toNat : Nat) : Int) = 45 := by decide +kernel
      by_cases e : (45 : Int) = (b : Int)
      · have HE := hid e
        have e' : ((45 : Int) == (b : Int)) = true := by simpa using e
        clear e
        go_wp2
        go_ret
        exact ⟨by rw [HQ.out, pln_no (c := 45) (by decide) HE.out]; rfl, rfl⟩
      · have HE := hid e
        have e' : ((45 : Int) == (b : Int)) = false := by simpa using e
        clear e
        go_wp2
        go_roundg (gk - 1)
        case measure => omega
        case rel => exact ⟨3, rfl, by omega, fun c hc => by
          rw [List.take_add_one] at hc
          rcases List.mem_append.1 hc with hc | hc
          · exact HA.out c hc
          · obtain rfl : c = 45 := by simpa [spn] using hc
            exact HE.out, rfl⟩
    · go_wp2
      go_ret
      exact ⟨by rw [HQ.out, pln_yes HB.out.1 HB.out.2 (fun c hc => HA.out c (by rw [List.take_of_length_le (by decide)]; exact hc))]; rfl, rfl⟩
set_option maxRecDepth 100000 in
set_option maxHeartbeats 4000000 in
theorem plain_out (b : Int) (br : Bool) (w : World) (h : b < 32 ∨ 126 < b) :
    Calls Tryd.prog 87 #[.int .i64 b, .bool br] w fun e w' => e = .returned (.bool false) ∧ w' = w := by
  by_cases h1 : b < 32
  · go_enter Tryd.func87, Tryd.ntmps87
    go_wp2
    go_ret
    exact ⟨rfl, rfl⟩
  · have h2 : 126 < b := by omega
    go_enter Tryd.func87, Tryd.ntmps87
    go_wp2
    go_ret
    exact ⟨rfl, rfl⟩
theorem plain_any (b : Nat) (br : Bool) (w : World) :
    Calls Tryd.prog 87 #[.int .i64 (b : Int), .bool br] w fun e w' => e = .returned (.bool (pln b br)) ∧ w' = w := by
  by_cases h : 32 ≤ b ∧ b ≤ 126
  · cases br
    · exact plain_false b w h.1 h.2
    · exact plain_true b w h.1 h.2
  · have : pln b br = false := by
      unfold pln
      by_cases h1 : 32 ≤ b
      · have : ¬ b ≤ 126 := fun h2 => h ⟨h1, h2⟩
        simp [this]
      · simp [h1]
    rw [this]
    exact plain_out _ br w (by omega)
theorem conv_byte {W : World} {p : Nat} {b : Nat} (hb : b < 256) (h : W.heap[p]? = some (.cells #[.int .u8 (b : Int)] 5 (0, 0))) : (convert 39 9 (.slice (some ⟨p, 0, none⟩) 1 1)).run Tryd.prog W = .ok (.string ⟨#[UInt8.ofNat b]⟩) W :=
  run_convert_bytes_back (P := Tryd.prog) W 39 9 5 ⟨p, 0, none⟩ 1 [UInt8.ofNat b] Tryd.underlying39 Tryd.underlying5 Tryd.underlying9 (fun j hj => by
    obtain rfl : j = 0 := by simpa using hj
    rw [add_at]
    simp [World.cell?, h]; omega)
/-- What written writes. -/
def wrn (b : Nat) (br : Bool) : List UInt8 := if b = 10 then [92, 110] else if b = 9 then [92, 116] else if pln b br = false ∨ (br = true ∧ b = 94) then [92, UInt8.ofNat b] else [UInt8.ofNat b]
set_option maxRecDepth 100000 in
set_option maxHeartbeats 4000000 in
theorem written_any (b : Nat) (br : Bool) (w : World) (hb : b < 256) :
    Calls Tryd.prog 65 #[.int .i64 (b : Int), .bool br] w fun e w' => e = .returned (.string ⟨(wrn b br).toArray⟩) ∧ Below w.heap.size w w' := by
  have CP := hid (fun V => plain_any b br V)
  by_cases h10 : b = 10
  · subst h10
    clear CP
    go_enter Tryd.func65, Tryd.ntmps65
    go_wp2
    go_ret
    exact ⟨rfl, Below.refl _ _⟩
  by_cases h9 : b = 9
  · subst h9
    clear CP
    go_enter Tryd.func65, Tryd.ntmps65
    go_wp2
    go_ret
    exact ⟨rfl, Below.refl _ _⟩
  have g10 : ((b : Int) == 10) = false := by simp; omega
  have g9 : ((b : Int) == 9) = false := by simp; omega
  have hw8 : IntKind.u8.wrap (b : Int) = (b : Int) := by rw [IntKind.wrap_u8]; omega
  have hcv := hid (conv_byte hb (alloc_new w (.cells #[.int .u8 (b : Int)] 5)))
  have HN := hid (And.intro h10 h9)
  by_cases h94 : b = 94 ∧ br = true
  · obtain ⟨rfl, rfl⟩ := h94
    rw [show pln 94 true = true by decide +kernel] at CP
    clear g10 g9 hw8 h10 h9 HN
    go_enter Tryd.func65, Tryd.ntmps65
    go_wp2_with fail
    refine (CP.out _).mono ?_
    rintro e W ⟨rfl, rfl⟩
    have hc : (convert 39 9 (.slice (some ⟨W.heap.size, 0, none⟩) 1 1)).run Tryd.prog (W.alloc (.cells #[.int .u8 94] 5)) = .ok (.string { data := #[94] }) (W.alloc (.cells #[.int .u8 94] 5)) := conv_byte (b := 94) (by decide) (alloc_new W (.cells #[.int .u8 94] 5))
    go_wp2
    go_ret
    exact ⟨rfl, bel1 _ _⟩
  obtain ⟨p, hp⟩ : ∃ p, p = pln b br := ⟨_, rfl⟩
  rw [← hp] at CP
  have HP := hid (And.intro hp h94)
  clear hp h10 h9 h94
  cases p
  · go_enter Tryd.func65, Tryd.ntmps65
    go_wp2_with fail
    refine (CP.out _).mono ?_
    rintro e W ⟨rfl, rfl⟩
    have hc := hcv.out
    go_wp2
    go_ret
    refine ⟨?_, bel1 _ _⟩
    have : wrn b br = [92, UInt8.ofNat b] := by
      unfold wrn
      rw [if_neg HN.out.1, if_neg HN.out.2, if_pos (.inl HP.out.1.symm)]
    rw [this]
    show Ending.returned (.string ({ data := #[92] } ++ { data := #[UInt8.ofNat b] })) = _
    congr 2
  · cases br
    · go_enter Tryd.func65, Tryd.ntmps65
      go_wp2_with fail
      refine (CP.out _).mono ?_
      rintro e W ⟨rfl, rfl⟩
      have hc := hcv.out
      go_wp2
      go_ret
      refine ⟨?_, bel1 _ _⟩
      have : wrn b false = [UInt8.ofNat b] := by
        unfold wrn
        rw [if_neg HN.out.1, if_neg HN.out.2, if_neg (by rw [← HP.out.1]; simp)]
      rw [this]; rfl
    · have g94 : ((b : Int) == 94) = false := by have := HP.out.2; simp at this ⊢; omega
      go_enter Tryd.func65, Tryd.ntmps65
      go_wp2_with fail
      refine (CP.out _).mono ?_
      rintro e W ⟨rfl, rfl⟩
      have hc := hcv.out
      go_wp2
      go_ret
      refine ⟨?_, bel1 _ _⟩
      have : wrn b true = [UInt8.ofNat b] := by
        unfold wrn
        rw [if_neg HN.out.1, if_neg HN.out.2, if_neg (by rw [← HP.out.1]; intro h; rcases h with h | h; exact absurd h (by simp); exact HP.out.2 ⟨h.2, by trivial⟩)]
      rw [this]; rfl
end Go.Proofs.YtednoideboeehaaDoor
end
