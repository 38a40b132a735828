/-
  Contracts: InvertAll, Same.
-/
import Derived.Test.YtclebcpapcoafaaC
import Derived.Laws.MakeOwn
import Derived.OwnWalk

namespace Go.Proofs.Ytclebcpapcoafaa
open Go.RowKit Te

theorem below_drewN {n : Nat} {A B : World} (h : Below n A B) (k : Nat) : Below n A (B.drewN k) := by
  induction k with
  | zero => exact h
  | succ k ih => exact ih.drew
theorem info23 : (Try.prog.info? 23).map (fun i => (i.zero, i.size, i.bytes)) = some (some (.agg #[.int .i64 0, .int .i64 0, .string { data := #[] }]), 3, 32) := by kernel_rfl
theorem make_edits (n : Nat) (hn : n ≤ 1000000) (w : World) :
    (Instr.makeSlice 26 (.int .i64 (n : Int)) (.int .i64 (n : Int))).run Try.prog w = .ok (.slice (some ⟨w.heap.size, 0, none⟩) n n) (w.alloc (.cells (madeCells #[.int .i64 0, .int .i64 0, .string { data := #[] }] (n * 3)) 23)) := by
  obtain ⟨i, hi, h0, h1, h2⟩ := info_parts info23
  have := run_make (P := Try.prog) w 26 23 i _ Try.underlying26 hi h0 .i64 .i64 n n (by omega) (Int.le_refl _) (by rw [h2]; omega) (by omega)
  rw [h1, show (Value.agg #[.int .i64 0, .int .i64 0, .string { data := #[] }]).cells = #[.int .i64 0, .int .i64 0, .string { data := #[] }] by kernel_rfl] at this
  simpa using this

/-- A row of edits of the call's own, from the head of a block. -/
def Eds (W : World) (g : Nat) (l : List Ed) : Prop :=
  ∀ i (x : Ed), l[i]? = some x → (W.cell? ⟨g, i * 3, none⟩ = some (.int .i64 x.1) ∧ W.cell? ⟨g, i * 3 + 1, none⟩ = some (.int .i64 x.2.1) ∧ W.cell? ⟨g, i * 3 + 2, none⟩ = some (.string x.2.2)) ∧
    W.frozen? ⟨g, i * 3, none⟩ = false ∧ W.frozen? ⟨g, i * 3 + 1, none⟩ = false ∧ W.frozen? ⟨g, i * 3 + 2, none⟩ = false
theorem Eds.below {W W' : World} {g : Nat} {l : List Ed} (h : Eds W g l) (hb : g < W.heap.size) (hbe : Below W.heap.size W W') : Eds W' g l := fun i x hx =>
  let ⟨⟨h1, h2, h3⟩, h4, h5, h6⟩ := h i x hx
  ⟨⟨(hbe.cell (p := ⟨g, _, none⟩) hb).trans h1, (hbe.cell (p := ⟨g, _, none⟩) hb).trans h2, (hbe.cell (p := ⟨g, _, none⟩) hb).trans h3⟩,
    (hbe.frozen (p := ⟨g, _, none⟩) hb).trans h4, (hbe.frozen (p := ⟨g, _, none⟩) hb).trans h5, (hbe.frozen (p := ⟨g, _, none⟩) hb).trans h6⟩
theorem Eds.row {W : World} {g n : Nat} {l : List Ed} (h : Eds W g l) (hl : l.length = n) (hb : g < W.heap.size) : Row W (some ⟨g, 0, none⟩) n l :=
  ⟨hl, .inr ⟨g, 0, rfl, hb, fun i x hx => by simpa using (h i x hx).1⟩⟩
theorem eds_made (w : World) (n : Nat) : Eds (w.alloc (.cells (madeCells #[.int .i64 0, .int .i64 0, .string { data := #[] }] (n * 3)) 23)) w.heap.size (List.replicate n (0, 0, ByteArray.empty)) := by
  intro i x hx
  have hi := (List.getElem?_eq_some_iff.1 hx).1
  rw [List.length_replicate] at hi
  obtain rfl : x = (0, 0, ByteArray.empty) := by
    rw [List.getElem?_replicate, if_pos hi] at hx
    injection hx with hx; exact hx.symm
  have hb := alloc_new w (.cells (madeCells #[.int .i64 0, .int .i64 0, .string { data := #[] }] (n * 3)) 23)
  have c : ∀ k, k < 3 → (madeCells #[.int .i64 0, .int .i64 0, .string { data := #[] }] (n * 3))[i * 3 + k]? = some (#[Value.int .i64 0, .int .i64 0, .string { data := #[] }][k]!) := by
    intro k hk
    simp only [madeCells, Array.getElem?_map]
    rw [Array.getElem?_eq_getElem (by simp; omega)]
    simp only [Array.getElem_range, Option.map_some]
    rw [show (#[Value.int .i64 0, .int .i64 0, .string { data := #[] }] : Array Value).size = 3 from rfl, show (i * 3 + k) % 3 = k by omega]
  have c0 := c 0 (by omega)
  have c1 := c 1 (by omega)
  have c2 := c 2 (by omega)
  obtain ⟨W, hW⟩ : ∃ W, W = w.alloc (.cells (madeCells #[.int .i64 0, .int .i64 0, .string { data := #[] }] (n * 3)) 23) := ⟨_, rfl⟩
  rw [← hW] at hb ⊢
  clear hW
  refine ⟨⟨?_, ?_, ?_⟩, ?_, ?_, ?_⟩
  · simp [World.cell?, hb]; exact c0
  · simp [World.cell?, hb]; exact c1
  · simp [World.cell?, hb]; exact c2
  · simp [World.frozen?, hb]
  · simp [World.frozen?, hb]
  · simp [World.frozen?, hb]
theorem Eds.set {W : World} {g j : Nat} {l : List Ed} (h : Eds W g l) (hj : j < l.length) (x : Ed) :
    Eds (((W.setCell ⟨g, j * 3, none⟩ (.int .i64 x.1)).setCell ⟨g, j * 3 + 1, none⟩ (.int .i64 x.2.1)).setCell ⟨g, j * 3 + 2, none⟩ (.string x.2.2)) g (l.set j x) := by
  obtain ⟨y, hy⟩ : ∃ y, l[j]? = some y := ⟨_, List.getElem?_eq_getElem hj⟩
  obtain ⟨⟨a0, a1, a2⟩, a3, a4, a5⟩ := h j y hy
  intro i z hz
  by_cases e : i = j
  · subst e
    rw [List.getElem?_set_self hj] at hz
    cases hz
    refine ⟨⟨?_, ?_, ?_⟩, by simpa using a3, by simpa using a4, by simpa using a5⟩
    · rw [World.cell?_setCell_other _ _ _ _ (by simp), World.cell?_setCell_other _ _ _ _ (by simp)]
      exact World.cell?_setCell_same _ _ _ a0
    · rw [World.cell?_setCell_other _ _ _ _ (by simp)]
      exact World.cell?_setCell_same _ _ _ ((World.cell?_setCell_other _ _ _ _ (by simp)).trans a1)
    · exact World.cell?_setCell_same _ _ _ ((World.cell?_setCell_other _ _ _ _ (by simp)).trans ((World.cell?_setCell_other _ _ _ _ (by simp)).trans a2))
  · rw [List.getElem?_set_ne (fun h => e h.symm)] at hz
    obtain ⟨⟨b0, b1, b2⟩, b3, b4, b5⟩ := h i z hz
    refine ⟨⟨?_, ?_, ?_⟩, by simpa using b3, by simpa using b4, by simpa using b5⟩
    · rw [World.cell?_setCell_other _ _ _ _ (fun h => by injection h; omega), World.cell?_setCell_other _ _ _ _ (fun h => by injection h; omega), World.cell?_setCell_other _ _ _ _ (fun h => by injection h; omega)]
      exact b0
    · rw [World.cell?_setCell_other _ _ _ _ (fun h => by injection h; omega), World.cell?_setCell_other _ _ _ _ (fun h => by injection h; omega), World.cell?_setCell_other _ _ _ _ (fun h => by injection h; omega)]
      exact b1
    · rw [World.cell?_setCell_other _ _ _ _ (fun h => by injection h; omega), World.cell?_setCell_other _ _ _ _ (fun h => by injection h; omega), World.cell?_setCell_other _ _ _ _ (fun h => by injection h; omega)]
      exact b2

/-- What stands in the row when i inverses are written. -/
def part (n i : Nat) (R : List Ed) : List Ed := List.replicate (n - i) (0, 0, ByteArray.empty) ++ R.drop (n - i)
theorem part_length {n i : Nat} {R : List Ed} (h : R.length = n) : (part n i R).length = n := by
  unfold part; rw [List.length_append, List.length_replicate, List.length_drop]; omega
theorem part_step {n i : Nat} {R : List Ed} (h : R.length = n) (hi : i < n) {x : Ed} (hx : R[n - 1 - i]? = some x) : part n (i + 1) R = (part n i R).set (n - 1 - i) x := by
  unfold part
  obtain ⟨k, hk⟩ : ∃ k, n - i = k + 1 := ⟨n - i - 1, by omega⟩
  rw [show n - (i + 1) = k by omega, hk, show n - 1 - i = k by omega]
  rw [List.set_append, if_pos (by simp)]
  obtain ⟨hl, he⟩ := List.getElem?_eq_some_iff.1 hx
  rw [List.drop_eq_getElem_cons (by omega)]
  have e : (List.replicate (k + 1) ((0, 0, ByteArray.empty) : Ed)).set k x = List.replicate k (0, 0, ByteArray.empty) ++ [x] := by
    rw [List.replicate_succ', List.set_append, if_neg (by simp)]
    simp
  rw [e, List.append_assoc]
  congr 1
  simp only [List.cons_append, List.nil_append, List.cons.injEq, and_true]
  subst he
  congr 1
  omega
theorem ivs_drop {cur : ByteArray} {E : List Ed} {i : Nat} {x : Ed} (h : E[i]? = some x) : ivs cur (E.drop i) = ivs (ap cur x) (E.drop (i + 1)) ++ [inv cur x] := by
  obtain ⟨hl, rfl⟩ := List.getElem?_eq_some_iff.1 h
  rw [List.drop_eq_getElem_cons hl]
  rfl
theorem ivs_take {cur : ByteArray} {E R : List Ed} {n i : Nat} {x : Ed} (hx : E[i]? = some x) (hE : E.length = n) (hR : R.length = n) (h : ivs cur (E.drop i) = R.take (n - i)) :
    ivs (ap cur x) (E.drop (i + 1)) = R.take (n - (i + 1)) ∧ R[n - 1 - i]? = some (inv cur x) := by
  have hi := (List.getElem?_eq_some_iff.1 hx).1
  rw [ivs_drop hx] at h
  have hl : (ivs (ap cur x) (E.drop (i + 1))).length = n - (i + 1) := by rw [ivs_length, List.length_drop, hE]
  constructor
  · have := congrArg (List.take (n - (i + 1))) h
    rw [List.take_take, List.take_append_of_le_length (by omega), List.take_of_length_le (by omega), Nat.min_eq_left (by omega)] at this
    exact this
  · have := congrArg (fun l => l[n - (i + 1)]?) h
    rw [List.getElem?_append_right (by omega), hl, Nat.sub_self, List.getElem?_take, if_pos (by omega)] at this
    rw [show n - 1 - i = n - (i + 1) by omega, ← this]
    rfl

/-- What InvertAll comes to. -/
def IvRes (s : ByteArray) (E : List Ed) (n : Nat) (w : World) (e : Ending) (w' : World) : Prop :=
  Below w.heap.size w w' ∧
    ((∃ t g, apAll s E = some t ∧ e = .returned (.tuple #[.slice (some ⟨g, 0, none⟩) n n, .int .i64 0]) ∧ Eds w' g (ivs s E) ∧ g < w'.heap.size) ∨
     (apAll s E = none ∧ e = .returned (.tuple #[.slice none 0 0, .int .i64 2])))

set_option maxRecDepth 100000 in
set_option maxHeartbeats 4000000 in
theorem invertAll_any (s : ByteArray) (p : Option Addr) (n c : Nat) (E : List Ed) (w : World) (hn : n ≤ 1000000) (hE : s.size + sz E ≤ 1000000) (hB : Big E) (h : Row w p n E) :
    Calls Try.prog 19 #[.string s, .slice p n c] w fun e w' => IvRes s E n w e w' := by
  have HE := hid hE
  have HR := hid h
  have hl := hid h.1
  have HB := hid hB
  have hmk := make_edits n hn
  obtain ⟨R, hR⟩ : ∃ R, R = ivs s E := ⟨_, rfl⟩
  have hRl := hid (show R.length = n by rw [hR, ivs_length, hl.out])
  have HRR := hid hR
  clear h hE hB hR
  go_enter Try.func19, Try.ntmps19
  go_wp2_with fail
  go_loopg [0, 16] n (fun k s0 s16 wr => ∃ (i : Nat) (cur : ByteArray), s0 = .string cur ∧ s16 = .int .i64 i ∧ i + k = n ∧ apAll cur (E.drop i) = apAll s E ∧ cur.size + sz (E.drop i) ≤ 1000000 ∧ ivs cur (E.drop i) = R.take (n - i) ∧ Below w.heap.size w wr ∧ Eds wr w.heap.size (part n i R) ∧ w.heap.size < wr.heap.size)
  case atStart =>
    refine ⟨0, s, rfl, rfl, by omega, rfl, HE.out, ?_, (Below.refl _ _).alloc (Nat.le_refl _) _, ?_, by simp⟩
    · rw [Nat.sub_zero, List.take_of_length_le (by rw [hRl.out]; exact Nat.le_refl _), HRR.out]; rfl
    · have := eds_made w n
      unfold part
      rw [Nat.sub_zero, List.drop_eq_nil_of_le (by rw [hRl.out]; exact Nat.le_refl _), List.append_nil]
      exact this
  case round =>
    obtain ⟨i, cur, rfl, rfl, hk, hap, hsz, hiv, hbw, hEd, hgl⟩ := hrel
    have HA := hid hap
    have HZ := hid hsz
    have HI := hid hiv
    clear hap hsz hiv
    by_cases hlt : i < n
    · have hlt' : (i : Int) < (n : Int) := by omega
      have hi0 : (0 : Int) ≤ (i : Int) := by omega
      obtain ⟨⟨a, d, t⟩, hxi⟩ : ∃ x, E[i]? = some x := ⟨_, List.getElem?_eq_getElem (by rw [hl.out]; exact hlt)⟩
      have HX := hid hxi
      have hrow := (HR.out.below hbw).2.resolve_left (by omega)
      obtain ⟨b, off, rfl, hb, hx⟩ := hrow
      obtain ⟨c0, c1, c2⟩ := hx i _ hxi
      have hz1 : cur.size ≤ 1000000 := by have := HZ.out; omega
      have hz2 : t.size ≤ 1000000 := by have := HZ.out; have := sz_drop hxi; simp only at this; omega
      have ha : a ≤ 9223372036854775807 := HB.out _ (List.mem_of_getElem? hxi)
      clear hx hxi
      go_wp2_with fail
      refine (invert_any cur t a d _ hz1 hz2 ha).mono ?_
      rintro e w1 ⟨rfl, hb1⟩
      have x1 : Bx w1 wr.heap.size (a, d, t) := (hb1.block _ (by simp)).trans (alloc_new _ _)
      have hb2 : Below wr.heap.size wr w1 := ((Below.refl _ _).alloc (Nat.le_refl _) _).trans (hb1.mono (by simp))
      by_cases hf : Fit cur.size (a, d, t)
      · have HF := hid hf
        unfold inv'
        rw [if_pos hf]
        unfold edv
        obtain ⟨⟨ia, id, it⟩, hin⟩ : ∃ x, x = inv cur (a, d, t) := ⟨_, rfl⟩
        rw [← hin]
        obtain ⟨y, hy⟩ := ivs_take HX.out hl.out hRl.out HI.out
        have HY := hid (And.intro y hy)
        clear hf y hy
        have hjl : n - 1 - i < (part n i R).length := by rw [part_length hRl.out]; omega
        obtain ⟨z, hz⟩ : ∃ z, (part n i R)[n - 1 - i]? = some z := ⟨_, List.getElem?_eq_getElem hjl⟩
        have HJ := hid hjl
        obtain ⟨w2, hw2⟩ : ∃ w2, w2 = w1.alloc (.cells #[.int .i64 ia, .int .i64 id, .string it] 23) := ⟨_, rfl⟩
        have b2 : Below wr.heap.size wr w2 := by rw [hw2]; exact hb2.alloc hb2.size _
        have E2 := hEd.below hgl b2
        obtain ⟨⟨z0, z1, z2⟩, z3, z4, z5⟩ := E2 _ _ hz
        obtain ⟨a0, a1, a2⟩ := (show Bx w2 wr.heap.size (a, d, t) by rw [hw2]; exact x1.alloc).cells
        obtain ⟨q0, q1, q2⟩ := x1.cells
        have HE2 := hid E2
        have HB2 := hid b2
        rw [hw2] at z0 z1 z2 z3 z4 z5 a0 a1 a2
        have HW2 := hid hw2
        clear hw2 E2 b2 hjl hz x1 hEd
        go_wp2_with fail
        rw [← HW2.out]
        refine (apply_any cur t a d _ hz1 hz2 ha).mono ?_
        rintro e w3 ⟨rfl, hb3⟩
        have hb4 : Below w.heap.size w w3 := ((((hbw.trans (HB2.out.mono hbw.size)).setCell (by simp) _).setCell (by simp) _).setCell (by simp) _).trans (hb3.mono (by simp; have := HB2.out.size; omega))
        have E3 : Eds w3 w.heap.size (part n (i + 1) R) := by
          rw [part_step hRl.out hlt HY.out.2, ← hin]
          exact ((HE2.out.set HJ.out _).below (by simp; have := HB2.out.size; omega) hb3)
        have HE3 := hid E3
        have h3 : w.heap.size < w3.heap.size := by have := hb3.size; simp at this; have := HB2.out.size; omega
        rw [apv_yes HF.out]
        clear z0 z1 z2 z3 z4 z5 a0 a1 a2 q0 q1 q2 E3
        go_wp2
        go_roundg (gk - 1)
        case measure => omega
        case rel =>
          refine ⟨i + 1, _, rfl, by go_num, by omega, ?_, ?_, HY.out.1, hb4, HE3.out, h3⟩
          · have := apAll_drop (cur := cur) HX.out
            rw [if_pos HF.out] at this
            rw [← this, HA.out]
          · have := ap_le HF.out
            have := HZ.out
            have := sz_drop HX.out
            simp only at *
            omega
      · have HF := hid hf
        unfold inv'
        rw [if_neg hf]
        unfold edv
        clear hf
        go_wp2
        go_ret2
        refine ⟨hbw.trans ((hb2.alloc hb2.size _).mono hbw.size), .inr ⟨?_, rfl⟩⟩
        have := apAll_drop (cur := cur) HX.out
        rw [if_neg HF.out, HA.out] at this
        exact this
    · have hin : ¬ (i : Int) < (n : Int) := by omega
      go_wp2
      go_ret2
      refine ⟨hbw, .inl ⟨cur, w.heap.size, ?_, rfl, ?_, hgl⟩⟩
      · have := HA.out
        rw [List.drop_eq_nil_of_le (by rw [hl.out]; omega)] at this
        rw [← this]; rfl
      · have e : part n i R = R := by unfold part; rw [show n - i = 0 by omega]; rfl
        rw [e, HRR.out] at hEd
        exact hEd

set_option maxRecDepth 100000 in
set_option maxHeartbeats 4000000 in
theorem same_any (p q : Option Addr) (n c m : Nat) (E : List Ed) (w : World) (hn : n ≤ 1000000) (h : Row w p n E) (h' : Row w q n E) :
    Calls Try.prog 20 #[.slice p n c, .slice q n m] w fun e w' => e = .returned (.bool true) ∧ Below w.heap.size w w' := by
  have HR := hid h
  have HR' := hid h'
  have hl := hid h.1
  clear h h'
  go_enter Try.func20, Try.ntmps20
  go_wp2_with fail
  go_loopg [5] n (fun k s5 wr => ∃ (i : Nat), s5 = .int .i64 i ∧ i + k = n ∧ Below w.heap.size w wr)
  case atStart => exact ⟨0, rfl, by omega, Below.refl _ _⟩
  case round =>
    obtain ⟨i, rfl, hk, hbw⟩ := hrel
    by_cases hlt : i < n
    · have hlt' : (i : Int) < (n : Int) := by omega
      have hi0 : (0 : Int) ≤ (i : Int) := by omega
      obtain ⟨⟨a, d, t⟩, hxi⟩ : ∃ x, E[i]? = some x := ⟨_, List.getElem?_eq_getElem (by rw [hl.out]; exact hlt)⟩
      obtain ⟨b, off, rfl, hb, hx⟩ := (HR.out.below hbw).2.resolve_left (by omega)
      obtain ⟨b', off', rfl, hb', hx'⟩ := (HR'.out.below hbw).2.resolve_left (by omega)
      obtain ⟨c0, c1, c2⟩ := hx i _ hxi
      obtain ⟨d0, d1, d2⟩ := hx' i _ hxi
      clear hx hx' hxi
      go_wp2_with fail
      go_quiet (fail)
      go_wp2
      go_roundg (gk - 1)
      case measure => omega
      case rel => exact ⟨i + 1, by go_num, by omega, by first | exact hbw | exact hbw.drew | exact below_drewN hbw _⟩
    · have hin : ¬ (i : Int) < (n : Int) := by omega
      go_wp2
      go_ret
      exact ⟨rfl, hbw⟩
end Go.Proofs.Ytclebcpapcoafaa
