/-
  Contract: signatures.
-/
import Derived.Test.YtelbagaiijffdaaUa
import Derived.Test.YtelbagaiijffdaaIv
import Derived.Test.YtelbagaiijffdaaKt
import Derived.Deep.AppendLies
set_option linter.unusedSimpArgs false
set_option linter.unusedVariables false
namespace Go.Proofs.Ytelbagaiijffdaa
open Go.RowKit Lx Go.Frame

theorem up_ne {b : Nat → Bool} {i k : Nat} (hk : (k == i) = false) (h : (b k || k == i) = true) : b k = true := by rw [hk, Bool.or_false] at h; exact h
theorem up_of {b : Nat → Bool} {i k : Nat} (h : b k = true) : (b k || k == i) = true := by rw [h]; rfl
theorem own_of_IB {W : World} {base b : Nat} {l : List Int} (h : IB W b l) (hb : base ≤ b) (hl : l.length ≤ 1000000) : W.ownsRow base 3 1 (.slice (some ⟨b, 0, none⟩) l.length l.length) l.length (l.map iv) := by
  refine ⟨by simp, .inr ⟨b, l.length, _, rfl, hb, h, Nat.le_refl _, by unfold maxLen; omega, by simp, ?_⟩⟩
  rw [Nat.mul_one, List.take_of_length_le (by simp)]
/-- What tells a state's block and those of its successors. -/
def sgL (rows : List (List Nat)) (B : List Int) (q : Nat) : List Int := (rows.getD q []).map (fun x => B.getD x 0) ++ [B.getD q 0]
theorem IB.keep {W W' : World} {b : Nat} {l : List Int} (h : IB W b l) (hb : Below W.heap.size W W') : IB W' b l := (hb.block b (heap_lt h)).trans h
set_option maxRecDepth 100000 in
set_option maxHeartbeats 8000000 in
theorem sigs_any (w : World) (a1 : Option Addr) (n c1 : Nat) (a2 : Option Addr) (n2 c2 : Nat) (ab : Option Addr) (cb : Nat) (rows : List (List Nat)) (B : List Int) (h1 : Rows2 w a1 n (rows.map zs)) (hB : Row w ab n (B.map iv)) (hn : n ≤ 1000000) (hrow : ∀ r ∈ rows, r.length ≤ 900000 ∧ ∀ x ∈ r, x < n) (out : List ByteArray) (hout : out = (List.range n).map fun q => strOfNums (kbs (sgL rows B q))) :
    Calls Try.prog 48 #[.agg #[.slice a1 n c1, .slice a2 n2 c2], .slice ab n cb] w (SRes w out) := by
  obtain ⟨i0, hi, hz0, hz1, hz2⟩ := info_parts info3
  have hlo : out.length = n := by rw [hout]; simp
  have hBl : B.length = n := by have := hB.1; simpa using this
  have HH := hid (And.intro h1 (And.intro hB (And.intro hrow (And.intro hout (And.intro hlo hBl)))))
  have hmk := fun V => make_s V n hn
  obtain ⟨W0, hW0⟩ : ∃ W0, W0 = w.alloc (.cells #[.slice a1 n c1, .slice a2 n2 c2] 50) := ⟨_, rfl⟩
  have x0 := alloc_new w (.cells #[.slice a1 n c1, .slice a2 n2 c2] 50)
  have b0 := bel1 w (.cells #[.slice a1 n c1, .slice a2 n2 c2] 50)
  rw [← hW0] at x0 b0
  have hs0 : W0.heap.size = w.heap.size + 1 := by rw [hW0]; exact World.size_alloc ..
  have c0 := cells2 x0
  obtain ⟨W, hW⟩ : ∃ W, W = W0.alloc (.cells (zsr n) 9) := ⟨_, rfl⟩
  have bW : Below W0.heap.size W0 W := by rw [hW]; exact bel1 _ _
  have HW := hid (show SB W (w.heap.size + 1) (sfil out 0) ∧ Below w.heap.size w W from by
    refine ⟨by rw [hW, ← hs0, sfil_zero, hlo]; exact alloc_new _ _, b0.trans (bW.mono (by omega))⟩)
  have HX := hid ((bW.block _ (heap_lt x0)).trans x0)
  obtain ⟨d0, d1⟩ := c0
  obtain ⟨e0, e1⟩ := cells2 HX.out
  unfold SRes
  rw [hlo]
  clear h1 hB hout hlo hrow x0 b0 bW hBl
  go_enter Try.func48, Try.ntmps48
  go_upto_region 1 with fail
  rw [← hW0]
  clear hW0
  go_wp2_with fail
  rw [← hW]
  clear hW hmk d0 d1 e0 e1
  go_loopg [15] n (fun kk s15 wr => ∃ i : Nat, s15 = .int .i64 (i : Int) ∧ i + kk = n ∧ SB wr (w.heap.size + 1) (sfil out i) ∧ Below w.heap.size w wr)
  case atStart => exact ⟨0, rfl, by omega, HW.out.1, HW.out.2⟩
  case round =>
    obtain ⟨i, rfl, hk, hI, hb⟩ := hrel
    have HB := hid hb
    have HI := hid hI
    by_cases hlt : i < n
    · have hlt' : (i : Int) < (n : Int) := by omega
      have hi0 : (0 : Int) ≤ (i : Int) := by omega
      have hi1 : IntKind.i64.wrap ((i : Int) + 1) = (i : Int) + 1 := wrapIn (by omega) (by omega)
      have hoi : out[i]? = some (strOfNums (kbs (sgL rows B i))) := by rw [HH.out.2.2.2.1, List.getElem?_map, List.getElem?_range hlt]; rfl
      have HO := hid hoi
      obtain ⟨b1, o1, rz, ra, rc, he, _, hr, p1, hrw, _⟩ := row_at (HH.out.1.below hb) hlt
      obtain rfl := he
      rw [List.getElem?_map] at hr
      obtain ⟨r, hr2, rfl⟩ := Option.map_eq_some_iff.1 hr
      obtain ⟨hrl, hrx⟩ := HH.out.2.2.1 r (List.mem_of_getElem? hr2)
      rw [zs_len] at p1 hrw
      obtain ⟨bb, ob, x, rfl, hbb, hx, pb⟩ := int_at HH.out.2.1 hlt
      have HPB := hid (And.intro (show bb < wr.heap.size from Nat.lt_of_lt_of_le hbb hb.size) ((hb.cell (p := ⟨bb, ob + i, none⟩) hbb).trans pb))
      have HR := hid (And.intro (show Row wr ra r.length ((zs r).map iv) from hrw) (And.intro hrx hrl))
      obtain ⟨L, hL⟩ : ∃ L, L = r.map (fun x => B.getD x 0) := ⟨_, rfl⟩
      have HL := hid (show L.length = r.length ∧ sgL rows B i = L ++ [x] from by
        refine ⟨by rw [hL]; simp, ?_⟩
        unfold sgL
        rw [List.getD_eq_getElem?_getD, hr2, List.getD_eq_getElem?_getD, hx, hL]; rfl)
      have CP := hid (fun (V : World) (hV : Below wr.heap.size wr V) => pick_any V (some ⟨bb, ob, none⟩) n cb B ra r.length rc r (HH.out.2.1.below (hb.trans (hV.mono hb.size))) (hrw.below hV) hn (by omega) hrx L hL)
      clear hb hI hoi hrw hr hr2 pb hx hL hbb
      go_wp2_with fail
      refine region_inv (fun b a' w' => ∃ (v20 v21 v22 v23 v24 v25 v26 v27 v28 v29 v30 v31 v32 : Value), a' = { tmps := #[.agg #[.slice (some ⟨b1, o1, none⟩) n c1, .slice a2 n2 c2], .slice (some ⟨bb, ob, none⟩) n cb, .pointer (some ⟨w.heap.size, 0, none⟩), undef, .slice none 0 0, .slice (some ⟨w.heap.size + 1, 0, none⟩) n n, .int .i64 (i : Int), .slice ra r.length rc, .pointer (some ⟨w.heap.size, 0, none⟩), .slice (some ⟨b1, o1, none⟩) n c1, .int .i64 (n : Int), .slice (some ⟨w.heap.size + 1, 0, none⟩) n n, .pointer (some ⟨w.heap.size, 0, none⟩), .slice (some ⟨b1, o1, none⟩) n c1, .int .i64 (n : Int), .int .i64 (i : Int), .bool true, .int .i64 (i : Int), .pointer (some ⟨b1, o1 + i, none⟩), .slice ra r.length rc, v20, v21, v22, v23, v24, v25, v26, v27, v28, v29, v30, v31, v32, u33, undef], defers := [] } ∧ (b 0 = true → v20 = .slice (some ⟨w.heap.size + 1, 0, none⟩) n n) ∧ (b 1 = true → v21 = .int .i64 (i : Int)) ∧ (b 2 = true → v22 = .slice (some ⟨bb, ob, none⟩) n cb) ∧ (b 3 = true → v23 = .slice ra r.length rc) ∧ (b 4 = true → b 10 = false → ∃ g : Nat, v24 = .slice (some ⟨g, 0, none⟩) L.length L.length ∧ IB w' g L ∧ wr.heap.size ≤ g) ∧ (b 5 = true → v25 = .slice (some ⟨bb, ob, none⟩) n cb) ∧ (b 6 = true → v26 = .int .i64 (i : Int)) ∧ (b 7 = true → v27 = .pointer (some ⟨bb, ob + i, none⟩)) ∧ (b 8 = true → v28 = .int .i64 x) ∧ (b 9 = true → b 10 = false → ∃ g : Nat, v29 = .slice (some ⟨g, 0, none⟩) 1 1 ∧ w'.heap[g]? = some (.cells #[.int .i64 x] 3 (0, 0))) ∧ (b 10 = true → ∃ (a : Option Addr) (c : Nat), v30 = .slice a (L.length + 1) c ∧ (b 13 = false → Row w' a (L.length + 1) ((L ++ [x]).map iv))) ∧ (b 11 = true → v31 = .string (strOfNums (kbs (sgL rows B i)))) ∧ (b 12 = true → v32 = .pointer (some ⟨w.heap.size + 1, i, none⟩)) ∧ (b 13 = false → SB w' (w.heap.size + 1) (sfil out i) ∧ Below wr.heap.size wr w') ∧ (b 13 = true → SB w' (w.heap.size + 1) (sfil out (i + 1)) ∧ Below w.heap.size w w') ∧ (b 4 = true → b 2 = true) ∧ (b 4 = true → b 3 = true) ∧ (b 7 = true → b 5 = true) ∧ (b 7 = true → b 6 = true) ∧ (b 8 = true → b 7 = true) ∧ (b 9 = true → b 8 = true) ∧ (b 10 = true → b 4 = true) ∧ (b 10 = true → b 9 = true) ∧ (b 11 = true → b 10 = true) ∧ (b 12 = true → b 0 = true) ∧ (b 12 = true → b 1 = true) ∧ (b 12 = true → b 2 = true) ∧ (b 12 = true → b 3 = true) ∧ (b 12 = true → b 4 = true) ∧ (b 12 = true → b 5 = true) ∧ (b 12 = true → b 6 = true) ∧ (b 12 = true → b 7 = true) ∧ (b 12 = true → b 8 = true) ∧ (b 12 = true → b 9 = true) ∧ (b 12 = true → b 10 = true) ∧ (b 12 = true → b 11 = true) ∧ (b 13 = true → b 12 = true) ∧ (b 13 = true → b 11 = true)) (by kernel_rfl) (back_of (by kernel_rfl)) ?step ?done ?init
      case step =>
        rintro b a' w' i o ho ⟨v20, v21, v22, v23, v24, v25, v26, v27, v28, v29, v30, v31, v32, rfl, h0, h1, h2, h3, h4, h5, h6, h7, h8, h9, h10, h11, h12, so, sn, q4_2, q4_3, q7_5, q7_6, q8_7, q9_8, q10_4, q10_9, q11_10, q12_0, q12_1, q12_2, q12_3, q12_4, q12_5, q12_6, q12_7, q12_8, q12_9, q12_10, q12_11, q13_12, q13_11⟩ hbi hd K hK
        have hlt : i < 14 := by have := (Array.getElem?_eq_some_iff.1 ho).1; simpa using this
        have dep : ∀ k, (o.after.any fun e => Region.binds .any e && e.on == k) = true → b k = true := fun k hk => by
          obtain ⟨e, he, h⟩ := Array.any_eq_true'.1 hk
          simp only [Bool.and_eq_true, beq_iff_eq] at h
          rw [← h.2]; exact hd e he h.1
        clear hd
        have hi : i = 0 ∨ i = 1 ∨ i = 2 ∨ i = 3 ∨ i = 4 ∨ i = 5 ∨ i = 6 ∨ i = 7 ∨ i = 8 ∨ i = 9 ∨ i = 10 ∨ i = 11 ∨ i = 12 ∨ i = 13 := by omega
        clear hlt
        rcases hi with rfl | rfl | rfl | rfl | rfl | rfl | rfl | rfl | rfl | rfl | rfl | rfl | rfl | rfl
        · simp only [List.getElem?_toArray, List.getElem?_cons_zero, List.getElem?_cons_succ, Option.some.injEq] at ho
          subst ho
          go_simp
          refine hK.out _ _ ⟨_, _, _, _, _, _, _, _, _, _, _, _, _, rfl, fun _ => rfl, fun h => h1 (by simpa using h), fun h => h2 (by simpa using h), fun h => h3 (by simpa using h), fun h k9 => h4 (by simpa using h) (by simpa using k9), fun h => h5 (by simpa using h), fun h => h6 (by simpa using h), fun h => h7 (by simpa using h), fun h => h8 (by simpa using h), fun h k9 => h9 (by simpa using h) (by simpa using k9), fun h => (by obtain ⟨a, c, g1, g2⟩ := h10 (by simpa using h); exact ⟨a, c, g1, fun k9 => g2 (by simpa using k9)⟩), fun h => h11 (by simpa using h), fun h => h12 (by simpa using h), fun h => so (by simpa using h), fun h => sn (by simpa using h), fun h => by simp [q4_2 (by simpa using h)], fun h => by simp [q4_3 (by simpa using h)], fun h => by simp [q7_5 (by simpa using h)], fun h => by simp [q7_6 (by simpa using h)], fun h => by simp [q8_7 (by simpa using h)], fun h => by simp [q9_8 (by simpa using h)], fun h => by simp [q10_4 (by simpa using h)], fun h => by simp [q10_9 (by simpa using h)], fun h => by simp [q11_10 (by simpa using h)], fun h => by simp [q12_0 (by simpa using h)], fun h => by simp [q12_1 (by simpa using h)], fun h => by simp [q12_2 (by simpa using h)], fun h => by simp [q12_3 (by simpa using h)], fun h => by simp [q12_4 (by simpa using h)], fun h => by simp [q12_5 (by simpa using h)], fun h => by simp [q12_6 (by simpa using h)], fun h => by simp [q12_7 (by simpa using h)], fun h => by simp [q12_8 (by simpa using h)], fun h => by simp [q12_9 (by simpa using h)], fun h => by simp [q12_10 (by simpa using h)], fun h => by simp [q12_11 (by simpa using h)], fun h => by simp [q13_12 (by simpa using h)], fun h => by simp [q13_11 (by simpa using h)]⟩
        · simp only [List.getElem?_toArray, List.getElem?_cons_zero, List.getElem?_cons_succ, Option.some.injEq] at ho
          subst ho
          go_simp
          refine hK.out _ _ ⟨_, _, _, _, _, _, _, _, _, _, _, _, _, rfl, fun h => h0 (by simpa using h), fun _ => rfl, fun h => h2 (by simpa using h), fun h => h3 (by simpa using h), fun h k9 => h4 (by simpa using h) (by simpa using k9), fun h => h5 (by simpa using h), fun h => h6 (by simpa using h), fun h => h7 (by simpa using h), fun h => h8 (by simpa using h), fun h k9 => h9 (by simpa using h) (by simpa using k9), fun h => (by obtain ⟨a, c, g1, g2⟩ := h10 (by simpa using h); exact ⟨a, c, g1, fun k9 => g2 (by simpa using k9)⟩), fun h => h11 (by simpa using h), fun h => h12 (by simpa using h), fun h => so (by simpa using h), fun h => sn (by simpa using h), fun h => by simp [q4_2 (by simpa using h)], fun h => by simp [q4_3 (by simpa using h)], fun h => by simp [q7_5 (by simpa using h)], fun h => by simp [q7_6 (by simpa using h)], fun h => by simp [q8_7 (by simpa using h)], fun h => by simp [q9_8 (by simpa using h)], fun h => by simp [q10_4 (by simpa using h)], fun h => by simp [q10_9 (by simpa using h)], fun h => by simp [q11_10 (by simpa using h)], fun h => by simp [q12_0 (by simpa using h)], fun h => by simp [q12_1 (by simpa using h)], fun h => by simp [q12_2 (by simpa using h)], fun h => by simp [q12_3 (by simpa using h)], fun h => by simp [q12_4 (by simpa using h)], fun h => by simp [q12_5 (by simpa using h)], fun h => by simp [q12_6 (by simpa using h)], fun h => by simp [q12_7 (by simpa using h)], fun h => by simp [q12_8 (by simpa using h)], fun h => by simp [q12_9 (by simpa using h)], fun h => by simp [q12_10 (by simpa using h)], fun h => by simp [q12_11 (by simpa using h)], fun h => by simp [q13_12 (by simpa using h)], fun h => by simp [q13_11 (by simpa using h)]⟩
        · simp only [List.getElem?_toArray, List.getElem?_cons_zero, List.getElem?_cons_succ, Option.some.injEq] at ho
          subst ho
          go_simp
          refine hK.out _ _ ⟨_, _, _, _, _, _, _, _, _, _, _, _, _, rfl, fun h => h0 (by simpa using h), fun h => h1 (by simpa using h), fun _ => rfl, fun h => h3 (by simpa using h), fun h k9 => h4 (by simpa using h) (by simpa using k9), fun h => h5 (by simpa using h), fun h => h6 (by simpa using h), fun h => h7 (by simpa using h), fun h => h8 (by simpa using h), fun h k9 => h9 (by simpa using h) (by simpa using k9), fun h => (by obtain ⟨a, c, g1, g2⟩ := h10 (by simpa using h); exact ⟨a, c, g1, fun k9 => g2 (by simpa using k9)⟩), fun h => h11 (by simpa using h), fun h => h12 (by simpa using h), fun h => so (by simpa using h), fun h => sn (by simpa using h), fun h => by simp [q4_2 (by simpa using h)], fun h => by simp [q4_3 (by simpa using h)], fun h => by simp [q7_5 (by simpa using h)], fun h => by simp [q7_6 (by simpa using h)], fun h => by simp [q8_7 (by simpa using h)], fun h => by simp [q9_8 (by simpa using h)], fun h => by simp [q10_4 (by simpa using h)], fun h => by simp [q10_9 (by simpa using h)], fun h => by simp [q11_10 (by simpa using h)], fun h => by simp [q12_0 (by simpa using h)], fun h => by simp [q12_1 (by simpa using h)], fun h => by simp [q12_2 (by simpa using h)], fun h => by simp [q12_3 (by simpa using h)], fun h => by simp [q12_4 (by simpa using h)], fun h => by simp [q12_5 (by simpa using h)], fun h => by simp [q12_6 (by simpa using h)], fun h => by simp [q12_7 (by simpa using h)], fun h => by simp [q12_8 (by simpa using h)], fun h => by simp [q12_9 (by simpa using h)], fun h => by simp [q12_10 (by simpa using h)], fun h => by simp [q12_11 (by simpa using h)], fun h => by simp [q13_12 (by simpa using h)], fun h => by simp [q13_11 (by simpa using h)]⟩
        · simp only [List.getElem?_toArray, List.getElem?_cons_zero, List.getElem?_cons_succ, Option.some.injEq] at ho
          subst ho
          go_simp
          refine hK.out _ _ ⟨_, _, _, _, _, _, _, _, _, _, _, _, _, rfl, fun h => h0 (by simpa using h), fun h => h1 (by simpa using h), fun h => h2 (by simpa using h), fun _ => rfl, fun h k9 => h4 (by simpa using h) (by simpa using k9), fun h => h5 (by simpa using h), fun h => h6 (by simpa using h), fun h => h7 (by simpa using h), fun h => h8 (by simpa using h), fun h k9 => h9 (by simpa using h) (by simpa using k9), fun h => (by obtain ⟨a, c, g1, g2⟩ := h10 (by simpa using h); exact ⟨a, c, g1, fun k9 => g2 (by simpa using k9)⟩), fun h => h11 (by simpa using h), fun h => h12 (by simpa using h), fun h => so (by simpa using h), fun h => sn (by simpa using h), fun h => by simp [q4_2 (by simpa using h)], fun h => by simp [q4_3 (by simpa using h)], fun h => by simp [q7_5 (by simpa using h)], fun h => by simp [q7_6 (by simpa using h)], fun h => by simp [q8_7 (by simpa using h)], fun h => by simp [q9_8 (by simpa using h)], fun h => by simp [q10_4 (by simpa using h)], fun h => by simp [q10_9 (by simpa using h)], fun h => by simp [q11_10 (by simpa using h)], fun h => by simp [q12_0 (by simpa using h)], fun h => by simp [q12_1 (by simpa using h)], fun h => by simp [q12_2 (by simpa using h)], fun h => by simp [q12_3 (by simpa using h)], fun h => by simp [q12_4 (by simpa using h)], fun h => by simp [q12_5 (by simpa using h)], fun h => by simp [q12_6 (by simpa using h)], fun h => by simp [q12_7 (by simpa using h)], fun h => by simp [q12_8 (by simpa using h)], fun h => by simp [q12_9 (by simpa using h)], fun h => by simp [q12_10 (by simpa using h)], fun h => by simp [q12_11 (by simpa using h)], fun h => by simp [q13_12 (by simpa using h)], fun h => by simp [q13_11 (by simpa using h)]⟩
        · simp only [List.getElem?_toArray, List.getElem?_cons_zero, List.getElem?_cons_succ, Option.some.injEq] at ho
          subst ho
          have e_2 := dep 2 (by kernel_rfl)
          have e_3 := dep 3 (by kernel_rfl)
          obtain rfl := h2 e_2
          obtain rfl := h3 e_3
          have n13 : b 13 = false := by
            cases hb : b 13
            · rfl
            · have := q12_4 (q13_12 hb); rw [hbi] at this; cases this
          have n10 : b 10 = false := by
            cases hb : b 10
            · rfl
            · have := q10_4 hb; rw [hbi] at this; cases this
          have hS := so n13
          have CC := hid (CP.out _ hS.2)
          go_simp
          refine CC.out.mono ?_
          rintro e W5 ⟨⟨g5, rfl, g6, g7⟩, b5⟩
          refine hK.out _ _ ⟨_, _, _, _, _, _, _, _, _, _, _, _, _, rfl, fun h => h0 (by simpa using h), fun h => h1 (by simpa using h), fun _ => rfl, fun _ => rfl, fun _ _ => ⟨g5, rfl, g6, Nat.le_trans hS.2.size g7⟩, fun h => h5 (by simpa using h), fun h => h6 (by simpa using h), fun h => h7 (by simpa using h), fun h => h8 (by simpa using h), fun h => fun k9 => (by obtain ⟨g, g1, g2⟩ := (h9 (by simpa using h)) (by simpa using k9); exact ⟨g, g1, (b5.block _ (heap_lt g2)).trans g2⟩), fun h => (by obtain ⟨a, c, g1, g2⟩ := (h10 (by simpa using h)); exact ⟨a, c, g1, fun k9 => (g2 (by simpa using k9)).below b5⟩), fun h => h11 (by simpa using h), fun h => h12 (by simpa using h), fun h => ⟨((so (by simpa using h))).1.keep b5, ((so (by simpa using h))).2.trans (b5.mono ((so (by simpa using h))).2.size)⟩, fun h => absurd h (by simp [n13]), fun _ => by simp [e_2], fun _ => by simp [e_3], fun h => by simp [q7_5 (by simpa using h)], fun h => by simp [q7_6 (by simpa using h)], fun h => by simp [q8_7 (by simpa using h)], fun h => by simp [q9_8 (by simpa using h)], fun h => by simp [q10_4 (by simpa using h)], fun h => by simp [q10_9 (by simpa using h)], fun h => by simp [q11_10 (by simpa using h)], fun h => by simp [q12_0 (by simpa using h)], fun h => by simp [q12_1 (by simpa using h)], fun h => by simp [q12_2 (by simpa using h)], fun h => by simp [q12_3 (by simpa using h)], fun h => by simp [q12_4 (by simpa using h)], fun h => by simp [q12_5 (by simpa using h)], fun h => by simp [q12_6 (by simpa using h)], fun h => by simp [q12_7 (by simpa using h)], fun h => by simp [q12_8 (by simpa using h)], fun h => by simp [q12_9 (by simpa using h)], fun h => by simp [q12_10 (by simpa using h)], fun h => by simp [q12_11 (by simpa using h)], fun h => by simp [q13_12 (by simpa using h)], fun h => by simp [q13_11 (by simpa using h)]⟩
        · simp only [List.getElem?_toArray, List.getElem?_cons_zero, List.getElem?_cons_succ, Option.some.injEq] at ho
          subst ho
          go_simp
          refine hK.out _ _ ⟨_, _, _, _, _, _, _, _, _, _, _, _, _, rfl, fun h => h0 (by simpa using h), fun h => h1 (by simpa using h), fun h => h2 (by simpa using h), fun h => h3 (by simpa using h), fun h k9 => h4 (by simpa using h) (by simpa using k9), fun _ => rfl, fun h => h6 (by simpa using h), fun h => h7 (by simpa using h), fun h => h8 (by simpa using h), fun h k9 => h9 (by simpa using h) (by simpa using k9), fun h => (by obtain ⟨a, c, g1, g2⟩ := h10 (by simpa using h); exact ⟨a, c, g1, fun k9 => g2 (by simpa using k9)⟩), fun h => h11 (by simpa using h), fun h => h12 (by simpa using h), fun h => so (by simpa using h), fun h => sn (by simpa using h), fun h => by simp [q4_2 (by simpa using h)], fun h => by simp [q4_3 (by simpa using h)], fun h => by simp [q7_5 (by simpa using h)], fun h => by simp [q7_6 (by simpa using h)], fun h => by simp [q8_7 (by simpa using h)], fun h => by simp [q9_8 (by simpa using h)], fun h => by simp [q10_4 (by simpa using h)], fun h => by simp [q10_9 (by simpa using h)], fun h => by simp [q11_10 (by simpa using h)], fun h => by simp [q12_0 (by simpa using h)], fun h => by simp [q12_1 (by simpa using h)], fun h => by simp [q12_2 (by simpa using h)], fun h => by simp [q12_3 (by simpa using h)], fun h => by simp [q12_4 (by simpa using h)], fun h => by simp [q12_5 (by simpa using h)], fun h => by simp [q12_6 (by simpa using h)], fun h => by simp [q12_7 (by simpa using h)], fun h => by simp [q12_8 (by simpa using h)], fun h => by simp [q12_9 (by simpa using h)], fun h => by simp [q12_10 (by simpa using h)], fun h => by simp [q12_11 (by simpa using h)], fun h => by simp [q13_12 (by simpa using h)], fun h => by simp [q13_11 (by simpa using h)]⟩
        · simp only [List.getElem?_toArray, List.getElem?_cons_zero, List.getElem?_cons_succ, Option.some.injEq] at ho
          subst ho
          go_simp
          refine hK.out _ _ ⟨_, _, _, _, _, _, _, _, _, _, _, _, _, rfl, fun h => h0 (by simpa using h), fun h => h1 (by simpa using h), fun h => h2 (by simpa using h), fun h => h3 (by simpa using h), fun h k9 => h4 (by simpa using h) (by simpa using k9), fun h => h5 (by simpa using h), fun _ => rfl, fun h => h7 (by simpa using h), fun h => h8 (by simpa using h), fun h k9 => h9 (by simpa using h) (by simpa using k9), fun h => (by obtain ⟨a, c, g1, g2⟩ := h10 (by simpa using h); exact ⟨a, c, g1, fun k9 => g2 (by simpa using k9)⟩), fun h => h11 (by simpa using h), fun h => h12 (by simpa using h), fun h => so (by simpa using h), fun h => sn (by simpa using h), fun h => by simp [q4_2 (by simpa using h)], fun h => by simp [q4_3 (by simpa using h)], fun h => by simp [q7_5 (by simpa using h)], fun h => by simp [q7_6 (by simpa using h)], fun h => by simp [q8_7 (by simpa using h)], fun h => by simp [q9_8 (by simpa using h)], fun h => by simp [q10_4 (by simpa using h)], fun h => by simp [q10_9 (by simpa using h)], fun h => by simp [q11_10 (by simpa using h)], fun h => by simp [q12_0 (by simpa using h)], fun h => by simp [q12_1 (by simpa using h)], fun h => by simp [q12_2 (by simpa using h)], fun h => by simp [q12_3 (by simpa using h)], fun h => by simp [q12_4 (by simpa using h)], fun h => by simp [q12_5 (by simpa using h)], fun h => by simp [q12_6 (by simpa using h)], fun h => by simp [q12_7 (by simpa using h)], fun h => by simp [q12_8 (by simpa using h)], fun h => by simp [q12_9 (by simpa using h)], fun h => by simp [q12_10 (by simpa using h)], fun h => by simp [q12_11 (by simpa using h)], fun h => by simp [q13_12 (by simpa using h)], fun h => by simp [q13_11 (by simpa using h)]⟩
        · simp only [List.getElem?_toArray, List.getElem?_cons_zero, List.getElem?_cons_succ, Option.some.injEq] at ho
          subst ho
          have e_5 := dep 5 (by kernel_rfl)
          have e_6 := dep 6 (by kernel_rfl)
          obtain rfl := h5 e_5
          obtain rfl := h6 e_6
          go_simp
          refine hK.out _ _ ⟨_, _, _, _, _, _, _, _, _, _, _, _, _, rfl, fun h => h0 (by simpa using h), fun h => h1 (by simpa using h), fun h => h2 (by simpa using h), fun h => h3 (by simpa using h), fun h k9 => h4 (by simpa using h) (by simpa using k9), fun _ => rfl, fun _ => rfl, fun _ => rfl, fun h => h8 (by simpa using h), fun h k9 => h9 (by simpa using h) (by simpa using k9), fun h => (by obtain ⟨a, c, g1, g2⟩ := h10 (by simpa using h); exact ⟨a, c, g1, fun k9 => g2 (by simpa using k9)⟩), fun h => h11 (by simpa using h), fun h => h12 (by simpa using h), fun h => so (by simpa using h), fun h => sn (by simpa using h), fun h => by simp [q4_2 (by simpa using h)], fun h => by simp [q4_3 (by simpa using h)], fun _ => by simp [e_5], fun _ => by simp [e_6], fun h => by simp [q8_7 (by simpa using h)], fun h => by simp [q9_8 (by simpa using h)], fun h => by simp [q10_4 (by simpa using h)], fun h => by simp [q10_9 (by simpa using h)], fun h => by simp [q11_10 (by simpa using h)], fun h => by simp [q12_0 (by simpa using h)], fun h => by simp [q12_1 (by simpa using h)], fun h => by simp [q12_2 (by simpa using h)], fun h => by simp [q12_3 (by simpa using h)], fun h => by simp [q12_4 (by simpa using h)], fun h => by simp [q12_5 (by simpa using h)], fun h => by simp [q12_6 (by simpa using h)], fun h => by simp [q12_7 (by simpa using h)], fun h => by simp [q12_8 (by simpa using h)], fun h => by simp [q12_9 (by simpa using h)], fun h => by simp [q12_10 (by simpa using h)], fun h => by simp [q12_11 (by simpa using h)], fun h => by simp [q13_12 (by simpa using h)], fun h => by simp [q13_11 (by simpa using h)]⟩
        · simp only [List.getElem?_toArray, List.getElem?_cons_zero, List.getElem?_cons_succ, Option.some.injEq] at ho
          subst ho
          have e_7 := dep 7 (by kernel_rfl)
          have e_5 := q7_5 e_7
          have e_6 := q7_6 e_7
          obtain rfl := h5 e_5
          obtain rfl := h6 e_6
          obtain rfl := h7 e_7
          have n13 : b 13 = false := by
            cases hb : b 13
            · rfl
            · have := q12_8 (q13_12 hb); rw [hbi] at this; cases this
          have hS := so n13
          have pc := (hS.2.cell (p := ⟨bb, ob + i, none⟩) HPB.out.1).trans HPB.out.2
          go_simp
          refine hK.out _ _ ⟨_, _, _, _, _, _, _, _, _, _, _, _, _, rfl, fun h => h0 (by simpa using h), fun h => h1 (by simpa using h), fun h => h2 (by simpa using h), fun h => h3 (by simpa using h), fun h k9 => h4 (by simpa using h) (by simpa using k9), fun _ => rfl, fun _ => rfl, fun _ => rfl, fun _ => rfl, fun h k9 => h9 (by simpa using h) (by simpa using k9), fun h => (by obtain ⟨a, c, g1, g2⟩ := h10 (by simpa using h); exact ⟨a, c, g1, fun k9 => g2 (by simpa using k9)⟩), fun h => h11 (by simpa using h), fun h => h12 (by simpa using h), fun h => so (by simpa using h), fun h => sn (by simpa using h), fun h => by simp [q4_2 (by simpa using h)], fun h => by simp [q4_3 (by simpa using h)], fun h => by simp [q7_5 (by simpa using h)], fun h => by simp [q7_6 (by simpa using h)], fun _ => by simp [e_7], fun h => by simp [q9_8 (by simpa using h)], fun h => by simp [q10_4 (by simpa using h)], fun h => by simp [q10_9 (by simpa using h)], fun h => by simp [q11_10 (by simpa using h)], fun h => by simp [q12_0 (by simpa using h)], fun h => by simp [q12_1 (by simpa using h)], fun h => by simp [q12_2 (by simpa using h)], fun h => by simp [q12_3 (by simpa using h)], fun h => by simp [q12_4 (by simpa using h)], fun h => by simp [q12_5 (by simpa using h)], fun h => by simp [q12_6 (by simpa using h)], fun h => by simp [q12_7 (by simpa using h)], fun h => by simp [q12_8 (by simpa using h)], fun h => by simp [q12_9 (by simpa using h)], fun h => by simp [q12_10 (by simpa using h)], fun h => by simp [q12_11 (by simpa using h)], fun h => by simp [q13_12 (by simpa using h)], fun h => by simp [q13_11 (by simpa using h)]⟩
        · simp only [List.getElem?_toArray, List.getElem?_cons_zero, List.getElem?_cons_succ, Option.some.injEq] at ho
          subst ho
          have e_8 := dep 8 (by kernel_rfl)
          have e_7 := q8_7 e_8
          have e_5 := q7_5 e_7
          have e_6 := q7_6 e_7
          obtain rfl := h5 e_5
          obtain rfl := h6 e_6
          obtain rfl := h7 e_7
          obtain rfl := h8 e_8
          have n13 : b 13 = false := by
            cases hb : b 13
            · rfl
            · have := q12_9 (q13_12 hb); rw [hbi] at this; cases this
          have n10 : b 10 = false := by
            cases hb : b 10
            · rfl
            · have := q10_9 hb; rw [hbi] at this; cases this
          have b5 := bel1 w' (.cells #[.int .i64 x] 3)
          go_simp
          refine hK.out _ _ ⟨_, _, _, _, _, _, _, _, _, _, _, _, _, rfl, fun h => h0 (by simpa using h), fun h => h1 (by simpa using h), fun h => h2 (by simpa using h), fun h => h3 (by simpa using h), fun h => fun k9 => (by obtain ⟨g, g1, g2, g3⟩ := (h4 (by simpa using h)) (by simpa using k9); exact ⟨g, g1, g2.keep b5, g3⟩), fun _ => rfl, fun _ => rfl, fun _ => rfl, fun _ => rfl, fun _ _ => ⟨w'.heap.size, rfl, alloc_new _ _⟩, fun h => (by obtain ⟨a, c, g1, g2⟩ := (h10 (by simpa using h)); exact ⟨a, c, g1, fun k9 => (g2 (by simpa using k9)).below b5⟩), fun h => h11 (by simpa using h), fun h => h12 (by simpa using h), fun h => ⟨((so (by simpa using h))).1.keep b5, ((so (by simpa using h))).2.trans (b5.mono ((so (by simpa using h))).2.size)⟩, fun h => absurd h (by simp [n13]), fun h => by simp [q4_2 (by simpa using h)], fun h => by simp [q4_3 (by simpa using h)], fun h => by simp [q7_5 (by simpa using h)], fun h => by simp [q7_6 (by simpa using h)], fun h => by simp [q8_7 (by simpa using h)], fun _ => by simp [e_8], fun h => by simp [q10_4 (by simpa using h)], fun h => by simp [q10_9 (by simpa using h)], fun h => by simp [q11_10 (by simpa using h)], fun h => by simp [q12_0 (by simpa using h)], fun h => by simp [q12_1 (by simpa using h)], fun h => by simp [q12_2 (by simpa using h)], fun h => by simp [q12_3 (by simpa using h)], fun h => by simp [q12_4 (by simpa using h)], fun h => by simp [q12_5 (by simpa using h)], fun h => by simp [q12_6 (by simpa using h)], fun h => by simp [q12_7 (by simpa using h)], fun h => by simp [q12_8 (by simpa using h)], fun h => by simp [q12_9 (by simpa using h)], fun h => by simp [q12_10 (by simpa using h)], fun h => by simp [q12_11 (by simpa using h)], fun h => by simp [q13_12 (by simpa using h)], fun h => by simp [q13_11 (by simpa using h)]⟩
        · simp only [List.getElem?_toArray, List.getElem?_cons_zero, List.getElem?_cons_succ, Option.some.injEq] at ho
          subst ho
          have e_4 := dep 4 (by kernel_rfl)
          have e_9 := dep 9 (by kernel_rfl)
          have e_2 := q4_2 e_4
          have e_3 := q4_3 e_4
          have e_8 := q9_8 e_9
          have e_7 := q8_7 e_8
          have e_5 := q7_5 e_7
          have e_6 := q7_6 e_7
          obtain rfl := h2 e_2
          obtain rfl := h3 e_3
          obtain rfl := h5 e_5
          obtain rfl := h6 e_6
          obtain rfl := h7 e_7
          obtain rfl := h8 e_8
          have n13 : b 13 = false := by
            cases hb : b 13
            · rfl
            · have := q12_10 (q13_12 hb); rw [hbi] at this; cases this
          obtain ⟨g4, rfl, hg4, hg4b⟩ := h4 e_4 hbi
          obtain ⟨g9, rfl, hg9⟩ := h9 e_9 hbi
          have hS := so n13
          have hro := own_of_IB hg4 hg4b (by have := HL.out.1; have := HR.out.2.2; omega)
          have hLs : L.length ≤ 900000 := by have := HL.out.1; have := HR.out.2.2; omega
          refine step_append_lies _ (by rfl) (.tmp 24) (.tmp 29) 22 (by rfl) wr.heap.size 3 i0 _ 1 8 Try.underlying22 hi hz0 hz1 hz2 (by rfl) (by decide) (.slice (some ⟨g4, 0, none⟩) L.length L.length) L.length _ (by rfl) hro ⟨g9, 0, none⟩ 1 1 [.int .i64 x] (by rfl) (by rfl) (World.news_of_block hg9) (by intro u hu; simp at hu; subst hu; rfl) (by decide) (by unfold maxLen; omega) (by omega) (by exact hS.2.size) _ rfl ?_
          intro g5 cap5 w5 hown' hgrow hat _
          have hsz5 := hgrow.size
          have hkb : Below wr.heap.size wr w5 := ⟨hgrow.os.trans hS.2.os, hgrow.tape.trans hS.2.tape, hgrow.output.trans hS.2.output, Nat.le_trans hS.2.size hgrow.size, fun k hk => (hgrow.block k (by have := hS.2.size; omega) (fun e => by simp [Value.ownBlock] at e; omega)).trans (hS.2.block k hk)⟩
          have hSB := HI.out.keep hkb
          have hrw := own_row' hown'
          refine hK.out _ _ ⟨_, _, _, _, _, _, _, _, _, _, _, _, _, rfl, fun h => h0 (by simpa using h), fun h => h1 (by simpa using h), fun _ => rfl, fun _ => rfl, fun _ h => absurd h (by simp), fun _ => rfl, fun _ => rfl, fun _ => rfl, fun _ => rfl, fun _ h => absurd h (by simp), fun _ => ⟨_, _, rfl, fun _ => by rw [List.map_append]; exact hrw⟩, fun h => h11 (by simpa using h), fun h => h12 (by simpa using h), fun _ => ⟨hSB, hkb⟩, fun h => absurd h (by simp [n13]), fun h => by simp [q4_2 (by simpa using h)], fun h => by simp [q4_3 (by simpa using h)], fun h => by simp [q7_5 (by simpa using h)], fun h => by simp [q7_6 (by simpa using h)], fun h => by simp [q8_7 (by simpa using h)], fun h => by simp [q9_8 (by simpa using h)], fun _ => by simp [e_4], fun _ => by simp [e_9], fun h => by simp [q11_10 (by simpa using h)], fun h => by simp [q12_0 (by simpa using h)], fun h => by simp [q12_1 (by simpa using h)], fun h => by simp [q12_2 (by simpa using h)], fun h => by simp [q12_3 (by simpa using h)], fun h => by simp [q12_4 (by simpa using h)], fun h => by simp [q12_5 (by simpa using h)], fun h => by simp [q12_6 (by simpa using h)], fun h => by simp [q12_7 (by simpa using h)], fun h => by simp [q12_8 (by simpa using h)], fun h => by simp [q12_9 (by simpa using h)], fun h => by simp [q12_10 (by simpa using h)], fun h => by simp [q12_11 (by simpa using h)], fun h => by simp [q13_12 (by simpa using h)], fun h => by simp [q13_11 (by simpa using h)]⟩
        · simp only [List.getElem?_toArray, List.getElem?_cons_zero, List.getElem?_cons_succ, Option.some.injEq] at ho
          subst ho
          have e_10 := dep 10 (by kernel_rfl)
          have e_4 := q10_4 e_10
          have e_9 := q10_9 e_10
          have e_2 := q4_2 e_4
          have e_3 := q4_3 e_4
          have e_8 := q9_8 e_9
          have e_7 := q8_7 e_8
          have e_5 := q7_5 e_7
          have e_6 := q7_6 e_7
          obtain rfl := h2 e_2
          obtain rfl := h3 e_3
          obtain rfl := h5 e_5
          obtain rfl := h6 e_6
          obtain rfl := h7 e_7
          obtain rfl := h8 e_8
          have n13 : b 13 = false := by
            cases hb : b 13
            · rfl
            · have := q12_11 (q13_12 hb); rw [hbi] at this; cases this
          obtain ⟨a7, c7, rfl, hA7⟩ := h10 e_10
          have hS := so n13
          have CK := hid (key_any w' a7 (L.length + 1) c7 (L ++ [x]) (hA7 n13) (by have := HL.out.1; have := HR.out.2.2; omega) _ rfl)
          go_simp
          refine CK.out.mono ?_
          rintro e W5 ⟨rfl, b5⟩
          refine hK.out _ _ ⟨_, _, _, _, _, _, _, _, _, _, _, _, _, rfl, fun h => h0 (by simpa using h), fun h => h1 (by simpa using h), fun _ => rfl, fun _ => rfl, fun h => fun k9 => (by obtain ⟨g, g1, g2, g3⟩ := (h4 (by simpa using h)) (by simpa using k9); exact ⟨g, g1, g2.keep b5, g3⟩), fun _ => rfl, fun _ => rfl, fun _ => rfl, fun _ => rfl, fun h => fun k9 => (by obtain ⟨g, g1, g2⟩ := (h9 (by simpa using h)) (by simpa using k9); exact ⟨g, g1, (b5.block _ (heap_lt g2)).trans g2⟩), fun _ => ⟨_, _, rfl, fun k9 => (hA7 n13).below b5⟩, fun _ => by rw [HL.out.2], fun h => h12 (by simpa using h), fun h => ⟨((so (by simpa using h))).1.keep b5, ((so (by simpa using h))).2.trans (b5.mono ((so (by simpa using h))).2.size)⟩, fun h => absurd h (by simp [n13]), fun h => by simp [q4_2 (by simpa using h)], fun h => by simp [q4_3 (by simpa using h)], fun h => by simp [q7_5 (by simpa using h)], fun h => by simp [q7_6 (by simpa using h)], fun h => by simp [q8_7 (by simpa using h)], fun h => by simp [q9_8 (by simpa using h)], fun h => by simp [q10_4 (by simpa using h)], fun h => by simp [q10_9 (by simpa using h)], fun _ => by simp [e_10], fun h => by simp [q12_0 (by simpa using h)], fun h => by simp [q12_1 (by simpa using h)], fun h => by simp [q12_2 (by simpa using h)], fun h => by simp [q12_3 (by simpa using h)], fun h => by simp [q12_4 (by simpa using h)], fun h => by simp [q12_5 (by simpa using h)], fun h => by simp [q12_6 (by simpa using h)], fun h => by simp [q12_7 (by simpa using h)], fun h => by simp [q12_8 (by simpa using h)], fun h => by simp [q12_9 (by simpa using h)], fun h => by simp [q12_10 (by simpa using h)], fun h => by simp [q12_11 (by simpa using h)], fun h => by simp [q13_12 (by simpa using h)], fun h => by simp [q13_11 (by simpa using h)]⟩
        · simp only [List.getElem?_toArray, List.getElem?_cons_zero, List.getElem?_cons_succ, Option.some.injEq] at ho
          subst ho
          have e_0 := dep 0 (by kernel_rfl)
          have e_1 := dep 1 (by kernel_rfl)
          have e_2 := dep 2 (by kernel_rfl)
          have e_3 := dep 3 (by kernel_rfl)
          have e_4 := dep 4 (by kernel_rfl)
          have e_5 := dep 5 (by kernel_rfl)
          have e_6 := dep 6 (by kernel_rfl)
          have e_7 := dep 7 (by kernel_rfl)
          have e_8 := dep 8 (by kernel_rfl)
          have e_9 := dep 9 (by kernel_rfl)
          have e_10 := dep 10 (by kernel_rfl)
          have e_11 := dep 11 (by kernel_rfl)
          obtain rfl := h0 e_0
          obtain rfl := h1 e_1
          obtain rfl := h2 e_2
          obtain rfl := h3 e_3
          obtain rfl := h5 e_5
          obtain rfl := h6 e_6
          obtain rfl := h7 e_7
          obtain rfl := h8 e_8
          obtain rfl := h11 e_11
          go_simp
          refine hK.out _ _ ⟨_, _, _, _, _, _, _, _, _, _, _, _, _, rfl, fun _ => rfl, fun _ => rfl, fun _ => rfl, fun _ => rfl, fun h k9 => h4 (by simpa using h) (by simpa using k9), fun _ => rfl, fun _ => rfl, fun _ => rfl, fun _ => rfl, fun h k9 => h9 (by simpa using h) (by simpa using k9), fun h => (by obtain ⟨a, c, g1, g2⟩ := h10 (by simpa using h); exact ⟨a, c, g1, fun k9 => g2 (by simpa using k9)⟩), fun _ => rfl, fun _ => rfl, fun h => so (by simpa using h), fun h => sn (by simpa using h), fun h => by simp [q4_2 (by simpa using h)], fun h => by simp [q4_3 (by simpa using h)], fun h => by simp [q7_5 (by simpa using h)], fun h => by simp [q7_6 (by simpa using h)], fun h => by simp [q8_7 (by simpa using h)], fun h => by simp [q9_8 (by simpa using h)], fun h => by simp [q10_4 (by simpa using h)], fun h => by simp [q10_9 (by simpa using h)], fun h => by simp [q11_10 (by simpa using h)], fun _ => by simp [e_0], fun _ => by simp [e_1], fun _ => by simp [e_2], fun _ => by simp [e_3], fun _ => by simp [e_4], fun _ => by simp [e_5], fun _ => by simp [e_6], fun _ => by simp [e_7], fun _ => by simp [e_8], fun _ => by simp [e_9], fun _ => by simp [e_10], fun _ => by simp [e_11], fun h => by simp [q13_12 (by simpa using h)], fun h => by simp [q13_11 (by simpa using h)]⟩
        · simp only [List.getElem?_toArray, List.getElem?_cons_zero, List.getElem?_cons_succ, Option.some.injEq] at ho
          subst ho
          have e_12 := dep 12 (by kernel_rfl)
          have e_11 := dep 11 (by kernel_rfl)
          have e_0 := q12_0 e_12
          have e_1 := q12_1 e_12
          have e_2 := q12_2 e_12
          have e_3 := q12_3 e_12
          have e_4 := q12_4 e_12
          have e_5 := q12_5 e_12
          have e_6 := q12_6 e_12
          have e_7 := q12_7 e_12
          have e_8 := q12_8 e_12
          have e_9 := q12_9 e_12
          have e_10 := q12_10 e_12
          obtain rfl := h0 e_0
          obtain rfl := h1 e_1
          obtain rfl := h2 e_2
          obtain rfl := h3 e_3
          obtain rfl := h5 e_5
          obtain rfl := h6 e_6
          obtain rfl := h7 e_7
          obtain rfl := h8 e_8
          obtain rfl := h11 e_11
          obtain rfl := h12 e_12
          have hS := so hbi
          have hfr := Go.Frame.free hS.1 i
          obtain ⟨z9, z8⟩ := hS.1.cell (i := i) (by rw [sfil_len out (by have := HH.out.2.2.2.2.1; omega), HH.out.2.2.2.2.1]; exact hlt)
          go_simp
          refine hK.out _ _ ⟨_, _, _, _, _, _, _, _, _, _, _, _, _, rfl, fun _ => rfl, fun _ => rfl, fun _ => rfl, fun _ => rfl, fun _ k9 => absurd k9 (by simp [q12_10 e_12]), fun _ => rfl, fun _ => rfl, fun _ => rfl, fun _ => rfl, fun _ k9 => absurd k9 (by simp [q12_10 e_12]), fun _ => (by obtain ⟨a, c, g1, g2⟩ := h10 (q12_10 e_12); exact ⟨a, c, g1, fun k9 => absurd k9 (by simp)⟩), fun _ => rfl, fun _ => rfl, fun h => absurd h (by simp), fun _ => ⟨by rw [← sfil_set HO.out]; exact hS.1.set _, below_put (HB.out.trans (hS.2.mono HB.out.size)) (by omega)⟩, fun h => by simp [q4_2 (by simpa using h)], fun h => by simp [q4_3 (by simpa using h)], fun h => by simp [q7_5 (by simpa using h)], fun h => by simp [q7_6 (by simpa using h)], fun h => by simp [q8_7 (by simpa using h)], fun h => by simp [q9_8 (by simpa using h)], fun h => by simp [q10_4 (by simpa using h)], fun h => by simp [q10_9 (by simpa using h)], fun h => by simp [q11_10 (by simpa using h)], fun h => by simp [q12_0 (by simpa using h)], fun h => by simp [q12_1 (by simpa using h)], fun h => by simp [q12_2 (by simpa using h)], fun h => by simp [q12_3 (by simpa using h)], fun h => by simp [q12_4 (by simpa using h)], fun h => by simp [q12_5 (by simpa using h)], fun h => by simp [q12_6 (by simpa using h)], fun h => by simp [q12_7 (by simpa using h)], fun h => by simp [q12_8 (by simpa using h)], fun h => by simp [q12_9 (by simpa using h)], fun h => by simp [q12_10 (by simpa using h)], fun h => by simp [q12_11 (by simpa using h)], fun _ => by simp [e_12], fun _ => by simp [e_11]⟩
      case done =>
        rintro b a' w' ⟨v20, v21, v22, v23, v24, v25, v26, v27, v28, v29, v30, v31, v32, rfl, h0, h1, h2, h3, h4, h5, h6, h7, h8, h9, h10, h11, h12, so, sn, q4_2, q4_3, q7_5, q7_6, q8_7, q9_8, q10_4, q10_9, q11_10, q12_0, q12_1, q12_2, q12_3, q12_4, q12_5, q12_6, q12_7, q12_8, q12_9, q12_10, q12_11, q13_12, q13_11⟩ hall
        obtain rfl := h0 (hall 0)
        obtain rfl := h1 (hall 1)
        obtain rfl := h2 (hall 2)
        obtain rfl := h3 (hall 3)
        obtain rfl := h5 (hall 5)
        obtain rfl := h6 (hall 6)
        obtain rfl := h7 (hall 7)
        obtain rfl := h8 (hall 8)
        obtain rfl := h11 (hall 11)
        obtain rfl := h12 (hall 12)
        have hN := hid (sn (hall 13))
        clear h0 h1 h2 h3 h4 h5 h6 h7 h8 h9 h10 h11 h12 so sn hall
        go_wp2
        go_roundg (gk - 1)
        case measure => omega
        case rel => exact ⟨i + 1, by go_num, by omega, hN.out.1, hN.out.2⟩
      case init =>
        exact ⟨_, _, _, _, _, _, _, _, _, _, _, _, _, rfl, fun h => absurd h (by simp), fun h => absurd h (by simp), fun h => absurd h (by simp), fun h => absurd h (by simp), fun h => absurd h (by simp), fun h => absurd h (by simp), fun h => absurd h (by simp), fun h => absurd h (by simp), fun h => absurd h (by simp), fun h => absurd h (by simp), fun h => absurd h (by simp), fun h => absurd h (by simp), fun h => absurd h (by simp), fun _ => ⟨HI.out, (Below.refl _ _).drew⟩, fun h => absurd h (by simp), fun h => absurd h (by simp), fun h => absurd h (by simp), fun h => absurd h (by simp), fun h => absurd h (by simp), fun h => absurd h (by simp), fun h => absurd h (by simp), fun h => absurd h (by simp), fun h => absurd h (by simp), fun h => absurd h (by simp), fun h => absurd h (by simp), fun h => absurd h (by simp), fun h => absurd h (by simp), fun h => absurd h (by simp), fun h => absurd h (by simp), fun h => absurd h (by simp), fun h => absurd h (by simp), fun h => absurd h (by simp), fun h => absurd h (by simp), fun h => absurd h (by simp), fun h => absurd h (by simp), fun h => absurd h (by simp), fun h => absurd h (by simp), fun h => absurd h (by simp)⟩

    · have hlt' : ¬ (i : Int) < (n : Int) := by omega
      have hin : i = out.length := by have := HH.out.2.2.2.2.1; omega
      rw [hin, sfil_all] at hI
      have HI := hid hI
      clear hI hb hin
      go_wp2
      go_ret
      exact ⟨⟨w.heap.size + 1, rfl, HI.out, by omega⟩, HB.out⟩
end Go.Proofs.Ytelbagaiijffdaa
