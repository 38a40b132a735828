/-
  Contracts: brackets, set.
  Contracts: set; parts in memory, newPart.
  Parts in memory; contract: newPart.
  Plain maths: what is read is of the allowed shapes, and not deeper than its text is long (namespace Rg; no program).
-/
import Derived.Test.YtednoideboeehaaDoorZ06
import Derived.Deep.LoopGhost
import Derived.LoopIn
import Derived.TacticsInMore
import Derived.Deep.CutRange
import Derived.Deep.CutBlock
import Derived.Test.YtednoideboeehaaDoorZ05
section
set_option linter.unusedSimpArgs false
set_option linter.unusedVariables false
namespace Go.Proofs.YtednoideboeehaaDoor
open Go.RowKit Bs Rg Go.Frame
attribute [local go_sem] eq_zero eq_set

def neg (b : Bool) (s : BS) : BS := if b then cpl s else s
def negP (b : Bool) : Pr BS → Pr BS
  | .bad u => .bad u
  | .ok s u => .ok (neg b s) u
theorem brackets_eq (l : List UInt8) : brackets l = negP (skip 94 l).isSome (elts ((skip 94 l).getD l)) := by
  unfold brackets
  cases skip 94 l with
  | none => simp [neg]; cases elts l <;> rfl
  | some t => simp [neg]; cases elts t <;> rfl
/-- A box that holds a set of bytes. -/
def BB (W : World) (b : Nat) (s : BS) : Prop := W.heap[b]? = some (.cells #[.int .u64 (ws s 0 : Int), .int .u64 (ws s 1 : Int), .int .u64 (ws s 2 : Int), .int .u64 (ws s 3 : Int)] 24 (0, 0))

set_option maxRecDepth 100000 in
set_option maxHeartbeats 4000000 in
theorem brackets_any (pb : Nat) (s : ByteArray) (p : Nat) (l : List UInt8) (w : World) (h : PS pb s w p l) :
    Calls Tryd.prog 113 #[.pointer (some ⟨pb, 0, none⟩)] w fun e w' => Out pb s w (brackets l) setv e w' := by
  rw [brackets_eq]
  obtain ⟨W0, hW0⟩ : ∃ W0, W0 = w.alloc zset := ⟨_, rfl⟩
  have B0 : Below w.heap.size w W0 := by rw [hW0]; exact bel1 _ _
  have x0 : W0.heap[w.heap.size]? = some zset := by rw [hW0]; exact alloc_new _ _
  have hpb := heap_lt h.box
  have hsz := h.sz
  have hne : w.heap.size ≠ pb := by omega
  unfold zset at hW0
  have C1 := hid (skip_any pb s p l 94 W0 (h.below B0))
  rw [show (((94 : UInt8).toNat : Nat) : Int) = 94 from rfl] at C1
  have HB0 := hid (And.intro (Pk.of (pb := pb) B0) x0)
  clear h B0 x0
  obtain ⟨l1, hl1⟩ : ∃ l1, l1 = (skip 94 l).getD l := ⟨_, rfl⟩
  obtain ⟨ng, hng⟩ : ∃ ng, ng = (skip 94 l).isSome := ⟨_, rfl⟩
  rw [← hl1, ← hng] at C1 ⊢
  clear hl1 hng
  unfold elts
  cases h1 : elt l1 with
  | bad t =>
    simp only [negP, out_bad]
    go_enter Tryd.func113, Tryd.ntmps113
    go_wp2_with fail
    rw [← hW0]
    refine C1.out.mono ?_
    rintro e W1 ⟨rfl, B1, p1, hP1⟩
    have C2 := hid (element_any pb s p1 l1 W1 hP1)
    rw [h1] at C2
    simp only [out_bad] at C2
    have H1 := hid (HB0.out.1.trans B1)
    clear B1 hP1
    go_wp2_with fail
    refine C2.out.mono ?_
    rintro e W2 ⟨B2, rfl, hP2⟩
    have H2 := hid (And.intro (H1.out.trans B2) (And.intro hP2 trivial))
    clear B2 hP2
    go_wp2
    exact ⟨rfl, H2.out.1, rfl, H2.out.2.1⟩
  | ok s0 t =>
    obtain ⟨R, hR⟩ : ∃ R, R = brk (t.length + 1) s0 t := ⟨_, rfl⟩
    simp only [← hR]
    go_enter Tryd.func113, Tryd.ntmps113
    go_wp2_with fail
    rw [← hW0]
    refine C1.out.mono ?_
    rintro e W1 ⟨rfl, B1, p1, hP1⟩
    have C2 := hid (element_any pb s p1 l1 W1 hP1)
    rw [h1] at C2
    simp only [out_ok] at C2
    have H1 := hid (And.intro (HB0.out.1.trans B1) ((B1.block hne (heap_lt HB0.out.2)).trans HB0.out.2))
    clear B1 hP1
    go_wp2_with fail
    refine C2.out.mono ?_
    rintro e W2 ⟨B2, ⟨v, rfl, rfl⟩, p2, hP2⟩
    have hs2 := H1.out.1.size
    have hs3 := B2.size
    have H2 := hid (And.intro (H1.out.1.trans B2) (And.intro hP2 ((B2.block hne (heap_lt H1.out.2)).trans H1.out.2)))
    clear B2 hP2
    go_wp2_with fail
    have y1 := alloc_new W2 (.cells #[.int .u64 (ws s0 0 : Int), .int .u64 (ws s0 1 : Int), .int .u64 (ws s0 2 : Int), .int .u64 (ws s0 3 : Int)] 24)
    have B3 := bel1 W2 (.cells #[.int .u64 (ws s0 0 : Int), .int .u64 (ws s0 1 : Int), .int .u64 (ws s0 2 : Int), .int .u64 (ws s0 3 : Int)] 24)
    obtain ⟨W3, hW3⟩ : ∃ W3, W3 = W2.alloc (.cells #[.int .u64 (ws s0 0 : Int), .int .u64 (ws s0 1 : Int), .int .u64 (ws s0 2 : Int), .int .u64 (ws s0 3 : Int)] 24) := ⟨_, rfl⟩
    rw [← hW3] at y1 B3 ⊢
    have HS := hid (show w.heap.size < W2.heap.size ∧ pb < w.heap.size by have h1 := heap_lt H2.out.2.2; exact ⟨h1, hpb⟩)
    have HR := hid hR
    have H3 := hid (And.intro (H2.out.1.trans (Pk.of B3)) (And.intro (H2.out.2.1.below B3) (And.intro ((B3.block _ (heap_lt H2.out.2.2)).trans H2.out.2.2) y1)))
    clear y1 B3 hR
    go_loopg [10] (t.length + 1) (fun k s10 wr => ∃ (n' p' : Nat) (t' : List UInt8) (cur : BS), PS pb s wr p' t' ∧ BB wr W2.heap.size cur ∧ wr.heap[w.heap.size]? = some zset ∧ Pk pb w wr ∧ R = brk n' cur t' ∧ t'.length < n' ∧ n' ≤ k)
    case atStart => exact ⟨t.length + 1, p2, t, s0, H3.out.2.1, H3.out.2.2.2, H3.out.2.2.1, H3.out.1, HR.out, by omega, Nat.le_refl _⟩
    case round =>
      obtain ⟨n', p', t', cur, hP, hB, hZ, hPk, hRR, hn, hk⟩ := hrel
      obtain ⟨n', rfl⟩ : ∃ m, n' = m + 1 := ⟨n' - 1, by omega⟩
      have CS := hid (skip_any pb s p' t' 93 wr hP)
      rw [show (((93 : UInt8).toNat : Nat) : Int) = 93 from rfl] at CS
      have HX := hid (And.intro hP (And.intro hB (And.intro hZ (And.intro hPk hRR))))
      clear hP hB hZ hPk hRR
      cases h93 : skip 93 t' with
      | some t2 =>
        rw [h93] at CS
        simp only [Option.isSome_some, Option.getD_some] at CS
        have hRR := hid (show R = .ok cur t2 by rw [HX.out.2.2.2.2, brk, h93])
        go_wp2_with fail
        refine CS.out.mono ?_
        rintro e W4 ⟨rfl, B4, p4, hP4⟩
        have hz4 := (B4.block hne (heap_lt HX.out.2.2.1)).trans HX.out.2.2.1
        have hb4 := (B4.block (show W2.heap.size ≠ pb by have := HS.out; omega) (heap_lt HX.out.2.1)).trans HX.out.2.1
        have H4 := hid (And.intro (HX.out.2.2.2.1.trans B4) hP4)
        obtain ⟨d0, d1, d2, d3⟩ := cells4 hb4
        clear B4 hP4 hb4
        by_cases hng : ng = true
        · have CC := hid (ComplementB_any cur W4)
          go_wp2_with fail
          refine CC.out.mono ?_
          rintro e W5 ⟨rfl, B5⟩
          have y0 := (B5.block _ (heap_lt hz4)).trans hz4
          unfold zset at y0
          have H5 := hid (And.intro (H4.out.1.trans (Pk.of B5)) (H4.out.2.below B5))
          clear B5 hz4 d0 d1 d2 d3
          have z := four_set (x' := .int .u64 (ws (cpl cur) 0 : Int)) (y' := .int .u64 (ws (cpl cur) 1 : Int)) (z' := .int .u64 (ws (cpl cur) 2 : Int)) (u' := .int .u64 (ws (cpl cur) 3 : Int)) y0
          obtain ⟨f0, f1, f2, f3⟩ := frozen4 y0
          obtain ⟨c0, c1, c2, c3⟩ := cells4 y0
          obtain ⟨r0, r1, r2, r3⟩ := cells4 z
          clear y0 z
          go_wp2
          refine bodyPost_ret (v := .agg #[.int .u64 (ws (cpl cur) 0 : Int), .int .u64 (ws (cpl cur) 1 : Int), .int .u64 (ws (cpl cur) 2 : Int), .int .u64 (ws (cpl cur) 3 : Int)]) ?_ rfl ?_
          · simp [results, Tryd.results113, go_sem, r0, r1, r2, r3]
          · rw [hRR.out, hng]
            show Out pb s w (.ok _ _) _ _ _
            exact ⟨(Pk.putNew (Pk.putNew (Pk.putNew (Pk.putNew H5.out.1 (Nat.le_refl _)) (Nat.le_refl _)) (Nat.le_refl _)) (Nat.le_refl _)), ⟨_, rfl, rfl⟩, p4, (PS.put (PS.put (PS.put (PS.put H5.out.2 (Ne.symm hne)) (Ne.symm hne)) (Ne.symm hne)) (Ne.symm hne))⟩
        · have hng : ng = false := by simpa using hng
          have y0 := hz4
          unfold zset at y0
          clear hz4
          have z := four_set (x' := .int .u64 (ws cur 0 : Int)) (y' := .int .u64 (ws cur 1 : Int)) (z' := .int .u64 (ws cur 2 : Int)) (u' := .int .u64 (ws cur 3 : Int)) y0
          obtain ⟨f0, f1, f2, f3⟩ := frozen4 y0
          obtain ⟨c0, c1, c2, c3⟩ := cells4 y0
          obtain ⟨r0, r1, r2, r3⟩ := cells4 z
          clear y0 z
          go_wp2
          refine bodyPost_ret (v := .agg #[.int .u64 (ws cur 0 : Int), .int .u64 (ws cur 1 : Int), .int .u64 (ws cur 2 : Int), .int .u64 (ws cur 3 : Int)]) ?_ rfl ?_
          · simp [results, Tryd.results113, go_sem, r0, r1, r2, r3]
          · rw [hRR.out, hng]
            show Out pb s w (.ok _ _) _ _ _
            exact ⟨(Pk.putNew (Pk.putNew (Pk.putNew (Pk.putNew H4.out.1 (Nat.le_refl _)) (Nat.le_refl _)) (Nat.le_refl _)) (Nat.le_refl _)), ⟨_, rfl, rfl⟩, p4, (PS.put (PS.put (PS.put (PS.put H4.out.2 (Ne.symm hne)) (Ne.symm hne)) (Ne.symm hne)) (Ne.symm hne))⟩
      | none =>
        rw [h93] at CS
        simp only [Option.isSome_none, Option.getD_none] at CS
        go_wp2_with fail
        refine CS.out.mono ?_
        rintro e W4 ⟨rfl, B4, p4, hP4⟩
        have hb4 := (B4.block (show W2.heap.size ≠ pb by have := HS.out; omega) (heap_lt HX.out.2.1)).trans HX.out.2.1
        have hz4 := (B4.block hne (heap_lt HX.out.2.2.1)).trans HX.out.2.2.1
        have H4 := hid (And.intro (HX.out.2.2.2.1.trans B4) (And.intro hP4 (And.intro hb4 hz4)))
        have hsb : W2.heap.size ≠ pb := by have := HS.out; omega
        have hsr : W2.heap.size ≠ w.heap.size := by have := HS.out; omega
        have hle : w.heap.size ≤ W2.heap.size := by have := HS.out; omega
        have hRR0 := HX.out.2.2.2.2
        rw [brk, h93] at hRR0
        simp only at hRR0
        clear B4 hP4 hb4 hz4
        cases he : elt t' with
        | bad u =>
          rw [he] at hRR0
          have hRR := hid hRR0
          clear hRR0
          go_wp2_with fail
          refine region_inv (fun b a' w' => ∃ v12 v13 v14 v15 : Value, a' = { tmps := #[.pointer (some ⟨pb, 0, none⟩), undef, .pointer (some ⟨w.heap.size, 0, none⟩), .bool ng, .pointer (some ⟨W2.heap.size, 0, none⟩), .pointer (some ⟨pb, 0, none⟩), .bool ng, .pointer (some ⟨pb, 0, none⟩), .agg #[.int .u64 (ws s0 0 : Int), .int .u64 (ws s0 1 : Int), .int .u64 (ws s0 2 : Int), .int .u64 (ws s0 3 : Int)], .pointer (some ⟨pb, 0, none⟩), .bool false, .bool true, v12, v13, v14, v15, undef, undef, undef, undef], defers := [] } ∧ (b 1 = true → v13 = .pointer (some ⟨pb, 0, none⟩)) ∧ b 2 = false ∧ b 3 = false ∧ b 4 = false ∧ (∃ p', PS pb s w' p' t') ∧ BB w' W2.heap.size cur ∧ Pk pb w w') (by kernel_rfl) (back_of (by kernel_rfl)) ?step ?done ?init
          case step =>
            rintro b a' w' i o ho ⟨v12, v13, v14, v15, rfl, h1, h2, h3, h4, hP, hB, hp⟩ hbi hd K hK
            have hlt : i < 5 := by have := (Array.getElem?_eq_some_iff.1 ho).1; simpa using this
            have dep : ∀ k, (o.after.any fun e => Region.binds .any e && e.on == k) = true → b k = true := fun k hk => by
              obtain ⟨e, he, h⟩ := Array.any_eq_true'.1 hk
              simp only [Bool.and_eq_true, beq_iff_eq] at h
              rw [← h.2]; exact hd e he h.1
            clear hd
            have hi : i = 0 ∨ i = 1 ∨ i = 2 ∨ i = 3 ∨ i = 4 := by omega
            clear hlt
            rcases hi with rfl | rfl | rfl | rfl | rfl
            · simp only [List.getElem?_toArray, List.getElem?_cons_zero, List.getElem?_cons_succ, Option.some.injEq] at ho
              subst ho
              obtain ⟨d0, d1, d2, d3⟩ := cells4 hB
              go_simp
              refine hK.out _ _ ⟨_, _, _, _, rfl, fun h => h1 (by simpa using h), by simp [h2], by simp [h3], by simp [h4], hP, hB, hp⟩
            · simp only [List.getElem?_toArray, List.getElem?_cons_zero, List.getElem?_cons_succ, Option.some.injEq] at ho
              subst ho
              go_simp
              refine hK.out _ _ ⟨_, _, _, _, rfl, fun _ => rfl, by simp [h2], by simp [h3], by simp [h4], hP, hB, hp⟩
            · simp only [List.getElem?_toArray, List.getElem?_cons_zero, List.getElem?_cons_succ, Option.some.injEq] at ho
              subst ho
              obtain rfl := h1 (dep 1 (by kernel_rfl))
              obtain ⟨p', hP⟩ := hP
              have CE := hid (element_any pb s p' t' w' hP)
              rw [he] at CE
              simp only [out_bad] at CE
              go_simp
              refine CE.out.mono ?_
              rintro e W5 ⟨B5, rfl, hP5⟩
              refine ⟨rfl, ?_⟩
              rw [hRR.out]
              exact ⟨hp.trans B5, rfl, hP5⟩
            · simp only [List.getElem?_toArray, List.getElem?_cons_zero, List.getElem?_cons_succ, Option.some.injEq] at ho
              subst ho
              exact absurd (dep 2 (by kernel_rfl)) (by simp [h2])
            · simp only [List.getElem?_toArray, List.getElem?_cons_zero, List.getElem?_cons_succ, Option.some.injEq] at ho
              subst ho
              exact absurd (dep 2 (by kernel_rfl)) (by simp [h2])
          case done =>
            rintro b a' w' ⟨v12, v13, v14, v15, rfl, h1, h2, h3, h4, hP, hB, hp⟩ hall
            exact absurd (hall 2) (by simp [h2])
          case init =>
            exact ⟨_, _, _, _, rfl, fun h => absurd h (by simp), by simp, by simp, by simp, ⟨_, H4.out.2.1.below ((Below.refl _ _).drew)⟩, H4.out.2.2.1, H4.out.1.trans (Pk.of ((Below.refl _ _).drew))⟩
        | ok s' u =>
          rw [he] at hRR0
          have hlen := elt_len he
          have hRR := hid hRR0
          clear hRR0
          go_wp2_with fail
          refine region_inv (fun b a' w' => ∃ v12 v13 v14 v15 : Value, a' = { tmps := #[.pointer (some ⟨pb, 0, none⟩), undef, .pointer (some ⟨w.heap.size, 0, none⟩), .bool ng, .pointer (some ⟨W2.heap.size, 0, none⟩), .pointer (some ⟨pb, 0, none⟩), .bool ng, .pointer (some ⟨pb, 0, none⟩), .agg #[.int .u64 (ws s0 0 : Int), .int .u64 (ws s0 1 : Int), .int .u64 (ws s0 2 : Int), .int .u64 (ws s0 3 : Int)], .pointer (some ⟨pb, 0, none⟩), .bool false, .bool true, v12, v13, v14, v15, undef, undef, undef, undef], defers := [] } ∧ (b 0 = true → v12 = .agg #[.int .u64 (ws cur 0 : Int), .int .u64 (ws cur 1 : Int), .int .u64 (ws cur 2 : Int), .int .u64 (ws cur 3 : Int)]) ∧ (b 1 = true → v13 = .pointer (some ⟨pb, 0, none⟩)) ∧ (b 2 = true → v14 = .agg #[.int .u64 (ws s' 0 : Int), .int .u64 (ws s' 1 : Int), .int .u64 (ws s' 2 : Int), .int .u64 (ws s' 3 : Int)] ∧ ∃ p', PS pb s w' p' u) ∧ (b 2 = false → ∃ p', PS pb s w' p' t') ∧ (b 3 = true → v15 = .agg #[.int .u64 (ws (uni cur s') 0 : Int), .int .u64 (ws (uni cur s') 1 : Int), .int .u64 (ws (uni cur s') 2 : Int), .int .u64 (ws (uni cur s') 3 : Int)]) ∧ (b 4 = false → BB w' W2.heap.size cur) ∧ (b 4 = true → BB w' W2.heap.size (uni cur s') ∧ b 0 = true ∧ b 3 = true) ∧ w'.heap[w.heap.size]? = some zset ∧ Pk pb w w') (by kernel_rfl) (back_of (by kernel_rfl)) ?step ?done ?init
          case step =>
            rintro b a' w' i o ho ⟨v12, v13, v14, v15, rfl, h0, h1, h2, h2', h3, h4, h4', hz, hp⟩ hbi hd K hK
            have hlt : i < 5 := by have := (Array.getElem?_eq_some_iff.1 ho).1; simpa using this
            have dep : ∀ k, (o.after.any fun e => Region.binds .any e && e.on == k) = true → b k = true := fun k hk => by
              obtain ⟨e, he, h⟩ := Array.any_eq_true'.1 hk
              simp only [Bool.and_eq_true, beq_iff_eq] at h
              rw [← h.2]; exact hd e he h.1
            clear hd
            have hi : i = 0 ∨ i = 1 ∨ i = 2 ∨ i = 3 ∨ i = 4 := by omega
            clear hlt
            rcases hi with rfl | rfl | rfl | rfl | rfl
            · simp only [List.getElem?_toArray, List.getElem?_cons_zero, List.getElem?_cons_succ, Option.some.injEq] at ho
              subst ho
              have hb4 : b 4 = false := by
                cases hb : b 4
                · rfl
                · have := (h4' hb).2.1; rw [hbi] at this; cases this
              have hB := h4 hb4
              obtain ⟨d0, d1, d2, d3⟩ := cells4 hB
              go_simp
              refine hK.out _ _ ⟨_, _, _, _, rfl, fun _ => rfl, fun h => h1 (by simpa using h), fun h => h2 (by simpa using h), fun h => h2' (by simpa using h), fun h => h3 (by simpa using h), fun h => h4 (by simpa using h), fun h => absurd h (by simp [hb4]), hz, hp⟩
            · simp only [List.getElem?_toArray, List.getElem?_cons_zero, List.getElem?_cons_succ, Option.some.injEq] at ho
              subst ho
              go_simp
              refine hK.out _ _ ⟨_, _, _, _, rfl, fun h => h0 (by simpa using h), fun _ => rfl, fun h => h2 (by simpa using h), fun h => h2' (by simpa using h), fun h => h3 (by simpa using h), fun h => h4 (by simpa using h), fun h => ⟨(h4' (by simpa using h)).1, by simp [(h4' (by simpa using h)).2.1], by simp [(h4' (by simpa using h)).2.2]⟩, hz, hp⟩
            · simp only [List.getElem?_toArray, List.getElem?_cons_zero, List.getElem?_cons_succ, Option.some.injEq] at ho
              subst ho
              obtain rfl := h1 (dep 1 (by kernel_rfl))
              obtain ⟨p', hP⟩ := h2' hbi
              have CE := hid (element_any pb s p' t' w' hP)
              rw [he] at CE
              simp only [out_ok] at CE
              go_simp
              refine CE.out.mono ?_
              rintro e W5 ⟨B5, ⟨v, rfl, rfl⟩, hP5⟩
              refine hK.out _ _ ⟨_, _, _, _, rfl, fun h => h0 (by simpa using h), fun h => h1 (by simpa using h), fun _ => ⟨rfl, hP5⟩, fun h => absurd h (by simp), fun h => h3 (by simpa using h), fun h => (B5.block hsb (heap_lt (h4 (by simpa using h)))).trans (h4 (by simpa using h)), fun h => ⟨(B5.block hsb (heap_lt (h4' (by simpa using h)).1)).trans (h4' (by simpa using h)).1, by simp [(h4' (by simpa using h)).2.1], by simp [(h4' (by simpa using h)).2.2]⟩, (B5.block hne (heap_lt hz)).trans hz, hp.trans B5⟩
            · simp only [List.getElem?_toArray, List.getElem?_cons_zero, List.getElem?_cons_succ, Option.some.injEq] at ho
              subst ho
              obtain rfl := h0 (dep 0 (by kernel_rfl))
              obtain ⟨rfl, p', hP⟩ := h2 (dep 2 (by kernel_rfl))
              have hb2 := dep 2 (by kernel_rfl)
              have CU := hid (UnionB_any cur s' w')
              go_simp
              refine CU.out.mono ?_
              rintro e W5 ⟨rfl, B5⟩
              refine hK.out _ _ ⟨_, _, _, _, rfl, fun h => h0 (by simpa using h), fun h => h1 (by simpa using h), fun h => ⟨rfl, _, hP.below B5⟩, fun h => absurd h (by simp [hb2]), fun _ => rfl, fun h => (B5.block _ (heap_lt (h4 (by simpa using h)))).trans (h4 (by simpa using h)), fun h => ⟨(B5.block _ (heap_lt (h4' (by simpa using h)).1)).trans (h4' (by simpa using h)).1, by simp [(h4' (by simpa using h)).2.1], by simp⟩, (B5.block _ (heap_lt hz)).trans hz, hp.trans (Pk.of B5)⟩
            · simp only [List.getElem?_toArray, List.getElem?_cons_zero, List.getElem?_cons_succ, Option.some.injEq] at ho
              subst ho
              obtain rfl := h3 (dep 3 (by kernel_rfl))
              have hb3 := dep 3 (by kernel_rfl)
              have hb0 := dep 0 (by kernel_rfl)
              have hb2 := dep 2 (by kernel_rfl)
              obtain ⟨_, p', hP⟩ := h2 hb2
              have hB := h4 hbi
              obtain ⟨d0, d1, d2, d3⟩ := cells4 hB
              obtain ⟨f0, f1, f2, f3⟩ := frozen4 hB
              go_simp
              refine hK.out _ _ ⟨_, _, _, _, rfl, fun _ => by first | rfl | exact h0 hb0, fun h => h1 (by simpa using h), fun h => ⟨by first | rfl | exact (h2 hb2).1, _, PS.put (PS.put (PS.put (PS.put hP (Ne.symm hsb)) (Ne.symm hsb)) (Ne.symm hsb)) (Ne.symm hsb)⟩, fun h => absurd h (by simp [hb2]), fun h => h3 (by simpa using h), fun h => absurd h (by simp), fun h => ⟨four_set hB, by simp [hb0], by simp [hb3]⟩, far4 hz (Ne.symm hsr), Pk.putNew (Pk.putNew (Pk.putNew (Pk.putNew hp hle) hle) hle) hle⟩
          case done =>
            rintro b a' w' ⟨v12, v13, v14, v15, rfl, h0, h1, h2, h2', h3, h4, h4', hz, hp⟩ hall
            obtain rfl := h0 (hall 0)
            obtain rfl := h1 (hall 1)
            obtain ⟨rfl, p', hP⟩ := h2 (hall 2)
            obtain rfl := h3 (hall 3)
            have hB := (h4' (hall 4)).1
            have HZ := hid (And.intro hP (And.intro hB (And.intro hz hp)))
            clear hP hB hz hp h0 h1 h2 h2' h3 h4 h4'
            go_wp2
            go_roundg (gk - 1)
            case measure => omega
            case rel => exact ⟨n', p', u, uni cur s', HZ.out.1, HZ.out.2.1, HZ.out.2.2.1, HZ.out.2.2.2, hRR.out, by omega, by omega⟩
          case init =>
            exact ⟨_, _, _, _, rfl, fun h => absurd h (by simp), fun h => absurd h (by simp), fun h => absurd h (by simp), fun _ => ⟨_, H4.out.2.1.below ((Below.refl _ _).drew)⟩, fun h => absurd h (by simp), fun _ => H4.out.2.2.1, fun h => absurd h (by simp), H4.out.2.2.2, H4.out.1.trans (Pk.of ((Below.refl _ _).drew))⟩
end Go.Proofs.YtednoideboeehaaDoor
end
section
set_option linter.unusedSimpArgs false
set_option linter.unusedVariables false
namespace Go.Proofs.YtednoideboeehaaDoor
open Go.RowKit Bs Rg Go.Frame
attribute [local go_sem] eq_zero eq_set

theorem rng_one (b : UInt8) : rng b b = one b := by
  funext x
  unfold rng one
  rw [Bool.eq_iff_iff]
  simp [UInt8.le_iff_toNat_le]
  constructor
  · intro h; exact UInt8.toNat_inj.1 (by omega)
  · rintro rfl; omega

set_option maxRecDepth 100000 in
set_option maxHeartbeats 4000000 in
theorem set_any (pb : Nat) (s : ByteArray) (p : Nat) (l : List UInt8) (w : World) (h : PS pb s w p l) :
    Calls Tryd.prog 107 #[.pointer (some ⟨pb, 0, none⟩)] w fun e w' => Out pb s w (setM l) setv e w' := by
  obtain ⟨W0, hW0⟩ : ∃ W0, W0 = w.alloc zset := ⟨_, rfl⟩
  have B0 : Below w.heap.size w W0 := by rw [hW0]; exact bel1 _ _
  have x0 : W0.heap[w.heap.size]? = some zset := by rw [hW0]; exact alloc_new _ _
  have hpb := heap_lt h.box
  have hsz := h.sz
  have hne : w.heap.size ≠ pb := by omega
  unfold zset at hW0
  have C1 := hid (skip_any pb s p l 91 W0 (h.below B0))
  rw [show (((91 : UInt8).toNat : Nat) : Int) = 91 from rfl] at C1
  have HB0 := hid (And.intro (Pk.of (pb := pb) B0) x0)
  clear h B0 x0
  unfold setM
  cases h1 : skip 91 l with
  | some t =>
    rw [h1] at C1
    simp only [Option.isSome_some, Option.getD_some] at C1
    simp only
    cases h2 : brackets t with
    | bad u =>
      simp only [out_bad]
      go_enter Tryd.func107, Tryd.ntmps107
      go_wp2_with fail
      rw [← hW0]
      refine C1.out.mono ?_
      rintro e W1 ⟨rfl, B1, p1, hP1⟩
      have C2 := hid (brackets_any pb s p1 t W1 hP1)
      rw [h2] at C2
      simp only [out_bad] at C2
      have H1 := hid (HB0.out.1.trans B1)
      clear B1 hP1
      go_wp2_with fail
      refine C2.out.mono ?_
      rintro e W2 ⟨B2, rfl, hP2⟩
      have H2 := hid (And.intro (H1.out.trans B2) (And.intro hP2 trivial))
      clear B2 hP2
      go_wp2
      exact ⟨rfl, H2.out.1, rfl, H2.out.2.1⟩
    | ok x u =>
      simp only [out_ok]
      go_enter Tryd.func107, Tryd.ntmps107
      go_wp2_with fail
      rw [← hW0]
      refine C1.out.mono ?_
      rintro e W1 ⟨rfl, B1, p1, hP1⟩
      have C2 := hid (brackets_any pb s p1 t W1 hP1)
      rw [h2] at C2
      simp only [out_ok] at C2
      have H1 := hid (And.intro (HB0.out.1.trans B1) ((B1.block hne (heap_lt HB0.out.2)).trans HB0.out.2))
      clear B1 hP1
      go_wp2_with fail
      refine C2.out.mono ?_
      rintro e W2 ⟨B2, ⟨v, rfl, rfl⟩, p2, hP2⟩
      have y0 := (B2.block hne (heap_lt H1.out.2)).trans H1.out.2
      unfold zset at y0
      have H2 := hid (And.intro (H1.out.1.trans B2) hP2)
      clear B2 hP2
      have z := four_set (x' := .int .u64 (ws x 0 : Int)) (y' := .int .u64 (ws x 1 : Int)) (z' := .int .u64 (ws x 2 : Int)) (u' := .int .u64 (ws x 3 : Int)) y0
      obtain ⟨f0, f1, f2, f3⟩ := frozen4 y0
      obtain ⟨c0, c1, c2, c3⟩ := cells4 y0
      obtain ⟨r0, r1, r2, r3⟩ := cells4 z
      clear y0 z
      go_wp2
      refine bodyPost_ret (v := .agg #[.int .u64 (ws x 0 : Int), .int .u64 (ws x 1 : Int), .int .u64 (ws x 2 : Int), .int .u64 (ws x 3 : Int)]) ?_ rfl ⟨(Pk.putNew (Pk.putNew (Pk.putNew (Pk.putNew H2.out.1 (Nat.le_refl _)) (Nat.le_refl _)) (Nat.le_refl _)) (Nat.le_refl _)), ⟨_, rfl, rfl⟩, p2, (PS.put (PS.put (PS.put (PS.put H2.out.2 (Ne.symm hne)) (Ne.symm hne)) (Ne.symm hne)) (Ne.symm hne))⟩
      · simp [results, Tryd.results107, go_sem, r0, r1, r2, r3]
  | none =>
    rw [h1] at C1
    simp only [Option.isSome_none, Option.getD_none] at C1
    simp only
    cases h2 : skip 46 l with
    | some t =>
      simp only [out_ok]
      go_enter Tryd.func107, Tryd.ntmps107
      go_wp2_with fail
      rw [← hW0]
      refine C1.out.mono ?_
      rintro e W1 ⟨rfl, B1, p1, hP1⟩
      have C2 := hid (skip_any pb s p1 l 46 W1 hP1)
      rw [show (((46 : UInt8).toNat : Nat) : Int) = 46 from rfl, h2] at C2
      simp only [Option.isSome_some, Option.getD_some] at C2
      have H1 := hid (And.intro (HB0.out.1.trans B1) ((B1.block hne (heap_lt HB0.out.2)).trans HB0.out.2))
      clear B1 hP1
      go_wp2_with fail
      refine C2.out.mono ?_
      rintro e W2 ⟨rfl, B2, p2, hP2⟩
      have H2 := hid (And.intro (H1.out.1.trans B2) (And.intro hP2 ((B2.block hne (heap_lt H1.out.2)).trans H1.out.2)))
      clear B2 hP2
      have C3 := hid (dot_any W2)
      go_wp2_with fail
      refine C3.out.mono ?_
      rintro e W3 ⟨rfl, B3⟩
      have y0 := (B3.block _ (heap_lt H2.out.2.2)).trans H2.out.2.2
      unfold zset at y0
      have H3 := hid (And.intro (H2.out.1.trans (Pk.of B3)) (H2.out.2.1.below B3))
      clear B3
      have z := four_set (x' := .int .u64 (ws Rg.dot 0 : Int)) (y' := .int .u64 (ws Rg.dot 1 : Int)) (z' := .int .u64 (ws Rg.dot 2 : Int)) (u' := .int .u64 (ws Rg.dot 3 : Int)) y0
      obtain ⟨f0, f1, f2, f3⟩ := frozen4 y0
      obtain ⟨c0, c1, c2, c3⟩ := cells4 y0
      obtain ⟨r0, r1, r2, r3⟩ := cells4 z
      clear y0 z
      go_wp2
      refine bodyPost_ret (v := .agg #[.int .u64 (ws Rg.dot 0 : Int), .int .u64 (ws Rg.dot 1 : Int), .int .u64 (ws Rg.dot 2 : Int), .int .u64 (ws Rg.dot 3 : Int)]) ?_ rfl ⟨(Pk.putNew (Pk.putNew (Pk.putNew (Pk.putNew H3.out.1 (Nat.le_refl _)) (Nat.le_refl _)) (Nat.le_refl _)) (Nat.le_refl _)), ⟨_, rfl, rfl⟩, p2, (PS.put (PS.put (PS.put (PS.put H3.out.2 (Ne.symm hne)) (Ne.symm hne)) (Ne.symm hne)) (Ne.symm hne))⟩
      · simp [results, Tryd.results107, go_sem, r0, r1, r2, r3]
    | none =>
      simp only
      cases h3 : chr spO l with
      | bad u =>
        simp only [out_bad]
        go_enter Tryd.func107, Tryd.ntmps107
        go_wp2_with fail
        rw [← hW0]
        refine C1.out.mono ?_
        rintro e W1 ⟨rfl, B1, p1, hP1⟩
        have C2 := hid (skip_any pb s p1 l 46 W1 hP1)
        rw [show (((46 : UInt8).toNat : Nat) : Int) = 46 from rfl, h2] at C2
        simp only [Option.isSome_none, Option.getD_none] at C2
        have H1 := hid (HB0.out.1.trans B1)
        clear B1 hP1
        go_wp2_with fail
        refine C2.out.mono ?_
        rintro e W2 ⟨rfl, B2, p2, hP2⟩
        have C3 := hid (charO_any pb s p2 l W2 hP2)
        rw [h3] at C3
        simp only [out_bad] at C3
        have H2 := hid (H1.out.trans B2)
        clear B2 hP2
        go_wp2_with fail
        refine C3.out.mono ?_
        rintro e W3 ⟨B3, rfl, hP3⟩
        have H3 := hid (And.intro (H2.out.trans B3) (And.intro hP3 trivial))
        clear B3 hP3
        go_wp2
        exact ⟨rfl, H3.out.1, rfl, H3.out.2.1⟩
      | ok x u =>
        simp only [out_ok]
        go_enter Tryd.func107, Tryd.ntmps107
        go_wp2_with fail
        rw [← hW0]
        refine C1.out.mono ?_
        rintro e W1 ⟨rfl, B1, p1, hP1⟩
        have C2 := hid (skip_any pb s p1 l 46 W1 hP1)
        rw [show (((46 : UInt8).toNat : Nat) : Int) = 46 from rfl, h2] at C2
        simp only [Option.isSome_none, Option.getD_none] at C2
        have H1 := hid (And.intro (HB0.out.1.trans B1) ((B1.block hne (heap_lt HB0.out.2)).trans HB0.out.2))
        clear B1 hP1
        go_wp2_with fail
        refine C2.out.mono ?_
        rintro e W2 ⟨rfl, B2, p2, hP2⟩
        have C3 := hid (charO_any pb s p2 l W2 hP2)
        rw [h3] at C3
        simp only [out_ok] at C3
        have H2 := hid (And.intro (H1.out.1.trans B2) ((B2.block hne (heap_lt H1.out.2)).trans H1.out.2))
        clear B2 hP2
        go_wp2_with fail
        refine C3.out.mono ?_
        rintro e W3 ⟨B3, ⟨v, rfl, rfl⟩, p3, hP3⟩
        have H3 := hid (And.intro (H2.out.1.trans B3) (And.intro hP3 ((B3.block hne (heap_lt H2.out.2)).trans H2.out.2)))
        clear B3 hP3
        have C4 := hid (RangeB_any x x W3)
        rw [rng_one] at C4
        go_wp2_with fail
        refine C4.out.mono ?_
        rintro e W4 ⟨rfl, B4⟩
        have y0 := (B4.block _ (heap_lt H3.out.2.2)).trans H3.out.2.2
        unfold zset at y0
        have H4 := hid (And.intro (H3.out.1.trans (Pk.of B4)) (H3.out.2.1.below B4))
        clear B4
        have z := four_set (x' := .int .u64 (ws (one x) 0 : Int)) (y' := .int .u64 (ws (one x) 1 : Int)) (z' := .int .u64 (ws (one x) 2 : Int)) (u' := .int .u64 (ws (one x) 3 : Int)) y0
        obtain ⟨f0, f1, f2, f3⟩ := frozen4 y0
        obtain ⟨c0, c1, c2, c3⟩ := cells4 y0
        obtain ⟨r0, r1, r2, r3⟩ := cells4 z
        clear y0 z
        go_wp2
        refine bodyPost_ret (v := .agg #[.int .u64 (ws (one x) 0 : Int), .int .u64 (ws (one x) 1 : Int), .int .u64 (ws (one x) 2 : Int), .int .u64 (ws (one x) 3 : Int)]) ?_ rfl ⟨(Pk.putNew (Pk.putNew (Pk.putNew (Pk.putNew H4.out.1 (Nat.le_refl _)) (Nat.le_refl _)) (Nat.le_refl _)) (Nat.le_refl _)), ⟨_, rfl, rfl⟩, p3, (PS.put (PS.put (PS.put (PS.put H4.out.2 (Ne.symm hne)) (Ne.symm hne)) (Ne.symm hne)) (Ne.symm hne))⟩
        · simp [results, Tryd.results107, go_sem, r0, r1, r2, r3]
end Go.Proofs.YtednoideboeehaaDoor
end
section
set_option linter.unusedSimpArgs false
set_option linter.unusedVariables false
namespace Go.Proofs.YtednoideboeehaaDoor
open Go.RowKit Bs Rg Go.Frame
attribute [local go_sem] eq_zero eq_set

mutual
/-- A pointer to a part that stands for an expression; its blocks are of g. -/
def PT (g : Nat → Prop) (W : World) : Rx → Value → Prop
  | .mk k s l, v => ∃ b a n c, v = .pointer (some ⟨b, 0, none⟩) ∧ g b ∧ W.heap[b]? = some (.cells #[.int .i64 k, .int .u64 (ws s 0 : Int), .int .u64 (ws s 1 : Int), .int .u64 (ws s 2 : Int), .int .u64 (ws s 3 : Int), .slice a n c, .int .i64 (depth (.mk k s l) : Int)] 52 (0, 0)) ∧ l.length = n ∧ n < 140737488355328 ∧ (n = 0 ∨ ∃ b' off, a = some ⟨b', off, none⟩ ∧ g b' ∧ b' < W.heap.size ∧ PL g W b' l off)
def PL (g : Nat → Prop) (W : World) (b' : Nat) : List Rx → Nat → Prop
  | [], _ => True
  | x :: l, off => (∃ v, W.cell? ⟨b', off, none⟩ = some v ∧ PT g W x v) ∧ PL g W b' l (off + 1)
end
/-- A slice of pointers to parts. -/
def PR (g : Nat → Prop) (W : World) (a : Option Addr) (n : Nat) (l : List Rx) : Prop :=
  l.length = n ∧ n < 140737488355328 ∧ (n = 0 ∨ ∃ b' off, a = some ⟨b', off, none⟩ ∧ g b' ∧ b' < W.heap.size ∧ PL g W b' l off)
theorem PT_mk {g : Nat → Prop} {W : World} {k : Int} {s : BS} {l : List Rx} {v : Value} : PT g W (.mk k s l) v ↔ ∃ b a n c, v = .pointer (some ⟨b, 0, none⟩) ∧ g b ∧ W.heap[b]? = some (.cells #[.int .i64 k, .int .u64 (ws s 0 : Int), .int .u64 (ws s 1 : Int), .int .u64 (ws s 2 : Int), .int .u64 (ws s 3 : Int), .slice a n c, .int .i64 (depth (.mk k s l) : Int)] 52 (0, 0)) ∧ PR g W a n l := by rw [PT]; rfl
theorem PL_get {g : Nat → Prop} {W : World} {b' : Nat} : ∀ {l : List Rx} {off i : Nat} {x : Rx}, PL g W b' l off → l[i]? = some x → ∃ v, W.cell? ⟨b', off + i, none⟩ = some v ∧ PT g W x v
  | y :: l, off, 0, x, h, hi => by
    rw [PL] at h
    simp at hi; subst hi
    simpa using h.1
  | y :: l, off, i + 1, x, h, hi => by
    rw [PL] at h
    obtain ⟨v, h1, h2⟩ := PL_get (i := i) h.2 (by simpa using hi)
    exact ⟨v, by rw [show off + (i + 1) = off + 1 + i by omega]; exact h1, h2⟩
theorem PL_of {g : Nat → Prop} {W : World} {b' : Nat} : ∀ {l : List Rx} {off : Nat}, (∀ i x, l[i]? = some x → ∃ v, W.cell? ⟨b', off + i, none⟩ = some v ∧ PT g W x v) → PL g W b' l off
  | [], off, _ => by rw [PL]; trivial
  | y :: l, off, h => by
    rw [PL]
    refine ⟨by simpa using h 0 y rfl, PL_of fun i x hi => ?_⟩
    obtain ⟨v, h1, h2⟩ := h (i + 1) x (by simpa using hi)
    exact ⟨v, by rw [show off + 1 + i = off + (i + 1) by omega]; exact h1, h2⟩
theorem PT.keep {g g' : Nat → Prop} {W W' : World} (hs : W.heap.size ≤ W'.heap.size) (hk : ∀ b, g b → b < W.heap.size → W'.heap[b]? = W.heap[b]?) (hg : ∀ b, g b → b < W.heap.size → g' b) (r : Rx) : ∀ {v : Value}, PT g W r v → PT g' W' r v := by
  induction r using Rx.ind with
  | h k s l ih =>
    intro v h
    rw [PT_mk] at h ⊢
    obtain ⟨b, a, n, c, rfl, hb, hc, h1, h2, h3⟩ := h
    refine ⟨b, a, n, c, rfl, hg b hb (heap_lt hc), (hk b hb (heap_lt hc)).trans hc, h1, h2, h3.imp id ?_⟩
    rintro ⟨b', off, rfl, hb', hlt, hL⟩
    refine ⟨b', off, rfl, hg b' hb' hlt, Nat.lt_of_lt_of_le hlt hs, PL_of fun i x hi => ?_⟩
    obtain ⟨v, h4, h5⟩ := PL_get hL hi
    exact ⟨v, (World.cell?_of_block (hk b' hb' hlt)).trans h4, ih x (List.mem_of_getElem? hi) h5⟩
theorem PR.keep {g g' : Nat → Prop} {W W' : World} (hs : W.heap.size ≤ W'.heap.size) (hk : ∀ b, g b → b < W.heap.size → W'.heap[b]? = W.heap[b]?) (hg : ∀ b, g b → b < W.heap.size → g' b) {a : Option Addr} {n : Nat} {l : List Rx} (h : PR g W a n l) : PR g' W' a n l := by
  obtain ⟨h1, h2, h3⟩ := h
  refine ⟨h1, h2, h3.imp id ?_⟩
  rintro ⟨b', off, rfl, hb', hlt, hL⟩
  refine ⟨b', off, rfl, hg b' hb' hlt, Nat.lt_of_lt_of_le hlt hs, PL_of fun i x hi => ?_⟩
  obtain ⟨v, h4, h5⟩ := PL_get hL hi
  exact ⟨v, (World.cell?_of_block (hk b' hb' hlt)).trans h4, h5.keep hs hk hg x⟩
/-- All blocks from n on. -/
def ge (n : Nat) : Nat → Prop := fun b => n ≤ b
theorem PT.pk {pb n : Nat} {W W' : World} (hn : pb < n) (hp : Pk pb W W') {x : Rx} {v : Value} (h : PT (ge n) W x v) : PT (ge n) W' x v :=
  h.keep hp.size (fun b hb hl => hp.block (by unfold ge at hb; omega) hl) (fun _ h _ => h) x
theorem PT.bel {g : Nat → Prop} {W W' : World} (hp : Below W.heap.size W W') {x : Rx} {v : Value} (h : PT g W x v) : PT g W' x v := h.keep hp.size (fun b _ hl => hp.block b hl) (fun _ h _ => h) x
theorem PT.more {g g' : Nat → Prop} {W : World} (hg : ∀ b, g b → b < W.heap.size → g' b) {x : Rx} {v : Value} (h : PT g W x v) : PT g' W x v := h.keep (Nat.le_refl _) (fun _ _ _ => rfl) hg x
theorem PR.bel {g : Nat → Prop} {W W' : World} (hp : Below W.heap.size W W') {a : Option Addr} {n : Nat} {l : List Rx} (h : PR g W a n l) : PR g W' a n l := h.keep hp.size (fun b _ hl => hp.block b hl) (fun _ h _ => h)
theorem PR.nil (g : Nat → Prop) (W : World) (a : Option Addr) : PR g W a 0 [] := ⟨rfl, by omega, .inl rfl⟩
/-- A kid. -/
theorem PR.get {g : Nat → Prop} {W : World} {a : Option Addr} {n : Nat} {l : List Rx} (h : PR g W a n l) {i : Nat} (hi : i < n) : ∃ b off kb x, a = some ⟨b, off, none⟩ ∧ b < W.heap.size ∧ l[i]? = some x ∧ W.cell? ⟨b, off + i, none⟩ = some (.pointer (some ⟨kb, 0, none⟩)) ∧ PT g W x (.pointer (some ⟨kb, 0, none⟩)) := by
  obtain ⟨h1, h2, h3⟩ := h
  rcases h3 with h0 | ⟨b, off, rfl, hb, hlt, hL⟩
  · omega
  · have hx : l[i]? = some (l[i]'(by omega)) := List.getElem?_eq_getElem _
    obtain ⟨v, h4, h5⟩ := PL_get hL hx
    rw [hx]
    generalize l[i]'(by omega) = x at h5
    obtain ⟨k, s, l'⟩ := x
    obtain ⟨kb, a', n', c', rfl, h6⟩ := PT_mk.1 h5
    exact ⟨b, off, kb, _, rfl, hlt, rfl, h4, h5⟩
theorem PT.block {g : Nat → Prop} {kb : Nat} {W : World} {x : Rx} (h : PT g W x (.pointer (some ⟨kb, 0, none⟩))) : g kb ∧ ∃ k s a n c l, x = .mk k s l ∧ PR g W a n l ∧ W.heap[kb]? = some (.cells #[.int .i64 k, .int .u64 (ws s 0 : Int), .int .u64 (ws s 1 : Int), .int .u64 (ws s 2 : Int), .int .u64 (ws s 3 : Int), .slice a n c, .int .i64 (depth x : Int)] 52 (0, 0)) := by
  obtain ⟨k, s, l⟩ := x
  obtain ⟨b, a, n, c, e, hb, hc, hr⟩ := PT_mk.1 h
  simp at e
  subst e
  exact ⟨hb, k, s, a, n, c, l, rfl, hr, hc⟩
theorem cells7 {W : World} {b : Nat} {x0 x1 x2 x3 x4 x5 x6 : Value} {t : TypeId} (h : W.heap[b]? = some (.cells #[x0, x1, x2, x3, x4, x5, x6] t (0, 0))) : W.cell? ⟨b, 0, none⟩ = some x0 ∧ W.cell? ⟨b, 1, none⟩ = some x1 ∧ W.cell? ⟨b, 2, none⟩ = some x2 ∧ W.cell? ⟨b, 3, none⟩ = some x3 ∧ W.cell? ⟨b, 4, none⟩ = some x4 ∧ W.cell? ⟨b, 5, none⟩ = some x5 ∧ W.cell? ⟨b, 6, none⟩ = some x6 := by
  refine ⟨?_, ?_, ?_, ?_, ?_, ?_, ?_⟩ <;> simp [World.cell?, h]

theorem max_step {m d B D x : Nat} (h1 : 1 ≤ m) (h2 : m ≤ B + 1) (h3 : d ≤ B) (h : x + 1 = max m (max d D + 1)) : ∃ m', (1 ≤ m' ∧ m' ≤ B + 1) ∧ (m' : Int) = max (m : Int) ((d : Int) + 1) ∧ x + 1 = max m' (D + 1) :=
  ⟨max m (d + 1), by omega, by omega, by omega⟩
theorem wrap_step {d B : Nat} (h : d ≤ B) (hB : (B : Int) < 4000000000000000) : wrap64 ((d : Int) + 1) = (d : Int) + 1 := by unfold wrap64; omega

set_option maxRecDepth 100000 in
set_option maxHeartbeats 4000000 in
theorem newPart_any (g : Nat → Prop) (k : Int) (a : Option Addr) (n c : Nat) (l : List Rx) (w : World) (hR : PR g w a n l) (hpb : g w.heap.size) (B : Nat) (hB : (B : Int) < 4000000000000000) (hd : depthL l ≤ B) :
    Calls Tryd.prog 54 #[.int .i64 k, .slice a n c] w fun e w' => (e = .returned (.pointer (some ⟨w.heap.size, 0, none⟩)) ∧ PT g w' (.mk k none8 l) (.pointer (some ⟨w.heap.size, 0, none⟩))) ∧ Below w.heap.size w w' := by
  obtain ⟨W, hW⟩ : ∃ W, W = w.alloc (.cells #[.int .i64 k, .int .u64 0, .int .u64 0, .int .u64 0, .int .u64 0, .slice a n c, .int .i64 1] 52) := ⟨_, rfl⟩
  have bW : Below w.heap.size w W := by rw [hW]; exact bel1 _ _
  have x0 : W.heap[w.heap.size]? = some (.cells #[.int .i64 k, .int .u64 0, .int .u64 0, .int .u64 0, .int .u64 0, .slice a n c, .int .i64 1] 52 (0, 0)) := by rw [hW]; exact alloc_new _ _
  have hln := hid hR.1
  have hnl := hR.2.1
  have HK := hid (And.intro hR (And.intro bW (And.intro x0 (And.intro hd hpb))))
  clear hR bW x0 hd hpb
  go_enter Tryd.func54, Tryd.ntmps54
  go_wp2_with fail
  rw [← hW]
  go_loopg [14] n (fun k1 sl wr => ∃ (i m : Nat), sl = .int .i64 i ∧ i + k1 = n ∧ 1 ≤ m ∧ m ≤ B + 1 ∧ depthL l + 1 = max m (depthL (l.drop i) + 1) ∧ wr.heap[w.heap.size]? = some (.cells #[.int .i64 k, .int .u64 0, .int .u64 0, .int .u64 0, .int .u64 0, .slice a n c, .int .i64 (m : Int)] 52 (0, 0)) ∧ Below w.heap.size w wr)
  case atStart => exact ⟨0, 1, rfl, by omega, by omega, by omega, by simp, HK.out.2.2.1, HK.out.2.1⟩
  case round =>
    obtain ⟨i, m, rfl, hk, hm1, hm2, hdp, hX, hbw⟩ := hrel
    by_cases hlt : i < n
    · have hlt' : (i : Int) < (n : Int) := by omega
      obtain ⟨b, off, kb, x, rfl, hb, hx, q0, hPT⟩ := HK.out.1.get hlt
      obtain ⟨_, k', s', a', n', c', l', hxe, _, hkb⟩ := hPT.block
      have q0 := (hbw.cell (p := ⟨b, off + i, none⟩) hb).trans q0
      have hkl := heap_lt hkb
      have hkb := (hbw.block _ hkl).trans hkb
      have hdr : l.drop i = x :: l.drop (i + 1) := (List.drop_eq_getElem_cons (by have := hln.out; omega)).trans (by rw [List.getElem?_eq_getElem (by have := hln.out; omega)] at hx; simp at hx; rw [hx])
      obtain ⟨d, hdx⟩ : ∃ d, d = depth x := ⟨_, rfl⟩
      have hd9 : d ≤ B := by rw [hdx]; exact Nat.le_trans (depthL_le.1 (Nat.le_refl _) x (List.mem_of_getElem? hx)) HK.out.2.2.2.1
      rw [hdr, depthL, ← hdx] at hdp
      rw [← hdx] at hkb
      have e1 : IntKind.i64.wrap ((d : Int) + 1) = (d : Int) + 1 := by rw [wrapIn] <;> omega
      have e2 := wrap_step hd9 hB
      obtain ⟨m', a1, a2, a3⟩ := max_step hm1 hm2 hd9 hdp
      rw [hxe] at hdx
      have HM := hid (And.intro a1 (And.intro a2 (And.intro a3 (And.intro e2 hdx))))
      clear a1 a2 a3 e2 hdx
      have HX := hid (And.intro hX (And.intro hbw (And.intro hkb (And.intro hdp hkl))))
      clear hX hbw hkb hdp hdr hx hPT hb
      go_wp2_with fail
      refine (wpIn_wide (n := 0)).1 (wpIn_region_below_tail 13 free_wide (by kernel_rfl) (by kernel_rfl) (by kernel_rfl) ?_)
      intro X f _ hf hs
      have k6 := fun x => (cells7 (((hf.out x).block _ (heap_lt HX.out.2.2.1)).trans HX.out.2.2.1)).2.2.2.2.2.2
      have x6 := fun x => (cells7 (((hf.out x).block _ (heap_lt HX.out.1)).trans HX.out.1)).2.2.2.2.2.2
      simp only [List.take_succ_cons, List.take_zero, List.drop_succ_cons, List.drop_zero]
      repeat (go_big_quiet_step (fail))
      refine wpQuiet_nil ?_
      intro Y hY
      have yX := (hY.block _ (heap_lt HX.out.1)).trans HX.out.1
      have HY := hid (And.intro hY yX)
      have c6 := (cells7 yX).2.2.2.2.2.2
      have f6 := free yX 6
      clear yX hY k6 x6 hf hs
      gi_wp2
      go_wp2
      go_roundg (gk - 1)
      case measure => omega
      case rel =>
        refine ⟨i + 1, m', by go_num, by clear e1; omega, HM.out.1.1, HM.out.1.2, HM.out.2.2.1, ?_, ?_⟩
        · rw [← HM.out.2.1]
          exact (blk_put (k := 6) (v := .int .i64 (m' : Int)) HY.out.2).trans rfl
        · exact below_put (HX.out.2.1.trans (HY.out.1.mono HX.out.2.1.size)) (Nat.le_refl _)
    · have hin : ¬ (i : Int) < (n : Int) := by omega
      have HX := hid (And.intro hX (And.intro hbw hdp))
      clear hX hbw hdp
      go_wp2
      go_ret
      refine ⟨⟨rfl, PT_mk.2 ⟨w.heap.size, a, n, c, rfl, HK.out.2.2.2.2, ?_, HK.out.1.bel HX.out.2.1⟩⟩, HX.out.2.1⟩
      rw [HX.out.1, ws_none, ws_none, ws_none, ws_none]
      have hm : depth (.mk k none8 l) = m := by
        have := HX.out.2.2
        rw [List.drop_eq_nil_of_le (by have := hln.out; omega), depthL] at this
        rw [depth, this]; omega
      rw [hm]
      rfl
end Go.Proofs.YtednoideboeehaaDoor
end
section
namespace Rg

def brP : Pr (List Rx) → Pr Rx
  | .bad u => .bad u
  | .ok xs u => .ok (br xs) u
theorem depth_cat (l : List Rx) : depth (cat l) = depthL l + 1 := by unfold cat; rw [depth]
theorem depth_alt (l : List Rx) : depth (alt l) = depthL l + 1 := by unfold alt; rw [depth]
theorem depth_star (x : Rx) : depth (star x) = depth x + 1 := by unfold star; rw [depth, depthL, depthL]; omega
theorem depth_eps : depth eps = 1 := by unfold eps; rw [depth, depthL]
theorem depth_setx (s : BS) : depth (setx s) = 1 := by unfold setx; rw [depth, depthL]
theorem depthL_two (x y : Rx) : depthL [x, y] = max (depth x) (depth y) := by rw [depthL, depthL, depthL]; omega
theorem depth_br {xs : List Rx} {d : Nat} (h : ∀ y ∈ xs, depth y ≤ d) : depth (br xs) ≤ d + 1 := by
  match xs, h with
  | [], _ => simp only [br]; rw [depth_eps]; omega
  | [x], h => have := h x (by simp); simp only [br]; omega
  | x :: y :: l, h => simp only [br]; rw [depth_cat]; have := depthL_le.2 h; omega
theorem depth_al {xs : List Rx} {d : Nat} (h : ∀ y ∈ xs, depth y ≤ d) : depth (al xs) ≤ d + 1 := by
  match xs, h with
  | [], _ => simp only [al]; rw [depth_alt, depthL]; omega
  | [x], h => have := h x (by simp); simp only [al]; omega
  | x :: y :: l, h => simp only [al]; rw [depth_alt]; have := depthL_le.2 h; omega
theorem post_depth : ∀ (l : List UInt8) (x : Rx), depth (post x l).1 + 3 * (post x l).2.length ≤ depth x + 3 * l.length
  | [], x => by simp [post]
  | b :: t, x => by
    have hx := depth_pos x
    rw [post]
    split
    · have := post_depth t (star x); rw [depth_star] at this; simp; omega
    split
    · have := post_depth t (cat [x, star x]); rw [depth_cat, depthL_two, depth_star] at this; simp; omega
    split
    · have := post_depth t (alt [x, eps]); rw [depth_alt, depthL_two, depth_eps] at this; simp; omega
    · simp
theorem p_depth : ∀ n : Nat, (∀ {l t : List UInt8} {x : Rx}, pAtom n l = .ok x t → depth x + 3 * t.length ≤ 3 * l.length) ∧ (∀ {l t : List UInt8} {x : Rx}, pRepeat n l = .ok x t → depth x + 3 * t.length ≤ 3 * l.length) ∧
    (∀ {a xs : List Rx} {l t : List UInt8} {L : Nat}, pReps n a l = .ok xs t → l.length ≤ L → (∀ y ∈ a, depth y + 3 * l.length ≤ 3 * L) → ∀ y ∈ xs, depth y + 3 * t.length ≤ 3 * L) ∧
    (∀ {l t : List UInt8} {x : Rx}, pRegex n l = .ok x t → depth x + 3 * t.length ≤ 3 * l.length + 2) ∧
    (∀ {a : List Rx} {x : Rx} {l t : List UInt8} {L : Nat}, pAlts n a l = .ok x t → l.length ≤ L → (∀ y ∈ a, depth y + 3 * l.length ≤ 3 * L + 1) → depth x + 3 * t.length ≤ 3 * L + 2)
  | 0 => ⟨fun h => by simp [pAtom] at h, fun h => by simp [pRepeat] at h, fun h => by simp [pReps] at h, fun h => by simp [pRegex] at h, fun h => by simp [pAlts] at h⟩
  | n + 1 => by
    obtain ⟨i1, i2, i3, i4, i5⟩ := p_depth n
    obtain ⟨j1, j2, j3, j4, j5⟩ := p_len n
    refine ⟨fun {l t x} h => ?_, fun {l t x} h => ?_, fun {a xs l t L} h hL ha => ?_, fun {l t x} h => ?_, fun {a x l t L} h hL ha => ?_⟩
    · rw [pAtom] at h
      cases h1 : skip 40 l with
      | some u =>
        rw [h1] at h
        have h1 := skip_some h1
        simp only at h
        cases h2 : pRegex n u with
        | bad v => rw [h2] at h; cases h
        | ok y v =>
          rw [h2] at h
          have q := i4 h2
          simp only at h
          cases h3 : skip 41 v with
          | none => rw [h3] at h; cases h
          | some z =>
            rw [h3] at h
            have h3 := skip_some h3
            injection h with h0 h
            subst h h0
            rw [h1]
            rw [h3] at q
            simp at q ⊢
            omega
      | none =>
        rw [h1] at h
        simp only at h
        cases h2 : setM l with
        | bad u => rw [h2] at h; cases h
        | ok s u => rw [h2] at h; injection h with h0 h; subst h h0; have := setM_len h2; rw [depth_setx]; omega
    · rw [pRepeat] at h
      cases h1 : pAtom n l with
      | bad u => rw [h1] at h; cases h
      | ok y u =>
        rw [h1] at h
        have q1 := i1 h1
        have q2 := post_depth u y
        injection h with h0 h
        subst h h0
        omega
    · rw [pReps] at h
      split at h
      · injection h with h0 h; subst h h0; exact ha
      · cases h1 : pRepeat n l with
        | bad u => rw [h1] at h; cases h
        | ok y u =>
          rw [h1] at h
          have q1 := i2 h1
          have q2 := j2 h1
          refine i3 h (by omega) fun z hz => ?_
          rcases List.mem_append.1 hz with hz | hz
          · have := ha z hz; omega
          · simp at hz; subst hz; omega
    · rw [pRegex] at h
      cases h1 : pReps n [] l with
      | bad u => rw [h1] at h; cases h
      | ok xs u =>
        rw [h1] at h
        have q1 := i3 h1 (Nat.le_refl _) (by simp)
        have q2 := j3 h1
        have q3 : depth (br xs) ≤ (3 * l.length - 3 * u.length) + 1 := depth_br fun y hy => by have := q1 y hy; omega
        exact i5 h q2 (by simp; omega)
    · rw [pAlts] at h
      cases h1 : skip 124 l with
      | none =>
        rw [h1] at h; injection h with h0 h; subst h h0
        have : depth (al a) ≤ (3 * L + 1 - 3 * l.length) + 1 := depth_al fun y hy => by have := ha y hy; omega
        omega
      | some u =>
        rw [h1] at h
        have h1 := skip_some h1
        have h1l : l.length = u.length + 1 := by rw [h1]; rfl
        simp only at h
        cases h2 : pReps n [] u with
        | bad v => rw [h2] at h; cases h
        | ok xs v =>
          rw [h2] at h
          have q1 := i3 h2 (Nat.le_refl _) (by simp)
          have q2 := j3 h2
          have q3 : depth (br xs) ≤ (3 * u.length - 3 * v.length) + 1 := depth_br fun y hy => by have := q1 y hy; omega
          refine i5 h (by omega) fun z hz => ?_
          rcases List.mem_append.1 hz with hz | hz
          · have := ha z hz; omega
          · simp at hz; subst hz; omega

/-! Shapes. -/
theorem vd_eps : Vd eps := Vd.mk (by simp [shaped]; exact emp_iff.2 rfl) (by simp)
theorem vd_setx {s : BS} (h : ∃ b, s b = true) : Vd (setx s) := Vd.mk (by
  obtain ⟨b, hb⟩ := h
  have : emp s = false := by
    rw [← Bool.not_eq_true, emp_iff]
    rintro rfl
    cases hb
  simp [shaped, this]) (by simp)
theorem vd_star {x : Rx} (h : Vd x) : Vd (star x) := Vd.mk (by simp [shaped]; exact emp_iff.2 rfl) (by simpa using h)
theorem vd_cat {l : List Rx} (h2 : 2 ≤ l.length) (h : ∀ x ∈ l, Vd x) : Vd (cat l) := Vd.mk (by simp [shaped, h2]; exact emp_iff.2 rfl) h
theorem vd_alt {l : List Rx} (h2 : 2 ≤ l.length) (h : ∀ x ∈ l, Vd x) : Vd (alt l) := Vd.mk (by simp [shaped, h2]; exact emp_iff.2 rfl) h
theorem vd_br {xs : List Rx} (h : ∀ x ∈ xs, Vd x) : Vd (br xs) := by
  match xs, h with
  | [], _ => exact vd_eps
  | [x], h => exact h x (by simp)
  | x :: y :: l, h => exact vd_cat (by simp) h
theorem vd_al {xs : List Rx} (hn : xs ≠ []) (h : ∀ x ∈ xs, Vd x) : Vd (al xs) := by
  match xs, hn, h with
  | [x], _, h => exact h x (by simp)
  | x :: y :: l, _, h => exact vd_alt (by simp) h
theorem post_vd : ∀ (l : List UInt8) {x : Rx}, Vd x → Vd (post x l).1
  | [], x, h => by simpa [post] using h
  | b :: t, x, h => by
    rw [post]
    split; · exact post_vd t (vd_star h)
    split; · exact post_vd t (vd_cat (by simp) (by simp; exact ⟨h, vd_star h⟩))
    split; · exact post_vd t (vd_alt (by simp) (by simp; exact ⟨h, vd_eps⟩))
    · exact h
theorem escd_pos {l t : List UInt8} {b : UInt8} (h : escd l = .ok b t) : 9 ≤ b := by
  cases l with
  | nil => cases h
  | cons c l =>
    rw [escd] at h
    split at h; · cases h
    rename_i hp
    split at h; · injection h with h _; subst h; decide
    split at h; · injection h with h _; subst h; decide
    split at h; · cases h
    · injection h with h _; subst h
      unfold prn at hp
      simp [UInt8.le_iff_toNat_le] at hp ⊢
      omega
theorem chr_pos {sp l t : List UInt8} {b : UInt8} (h : chr sp l = .ok b t) : 9 ≤ b := by
  cases l with
  | nil => cases h
  | cons c l =>
    rw [chr] at h
    split at h; · exact escd_pos h
    split at h; · cases h
    rename_i hp
    split at h; · cases h
    · injection h with h _; subst h
      unfold prn at hp
      simp [UInt8.le_iff_toNat_le] at hp ⊢
      omega
theorem rng_pos {lo hi : UInt8} (h : 9 ≤ lo) (h2 : lo ≤ hi) : (∃ b, rng lo hi b = true) ∧ rng lo hi 0 = false := by
  refine ⟨⟨lo, by simp [rng, h2]⟩, ?_⟩
  unfold rng
  rw [Bool.and_eq_false_iff]
  left
  simp [UInt8.le_iff_toNat_le] at h ⊢
  omega
theorem elt_pos {l t : List UInt8} {s : BS} (h : elt l = .ok s t) : (∃ b, s b = true) ∧ s 0 = false := by
  unfold elt at h
  cases h1 : chr spI l with
  | bad u => rw [h1] at h; cases h
  | ok lo u =>
    rw [h1] at h
    have q1 := chr_pos h1
    simp only at h
    cases h2 : skip 45 u with
    | none => rw [h2] at h; injection h with h _; subst h; exact rng_pos q1 (by simp)
    | some v =>
      rw [h2] at h
      simp only at h
      cases h4 : chr spI v with
      | bad x => rw [h4] at h; cases h
      | ok hi x =>
        rw [h4] at h
        simp only at h
        split at h
        · cases h
        · rename_i hlt
          injection h with h _; subst h
          exact rng_pos q1 (by simpa using hlt)
theorem brk_pos : ∀ {n : Nat} {s s' : BS} {l t : List UInt8}, (∃ b, s b = true) ∧ s 0 = false → brk n s l = .ok s' t → (∃ b, s' b = true) ∧ s' 0 = false
  | 0, _, _, _, _, _, h => by cases h
  | n + 1, s, s', l, t, hs, h => by
    rw [brk] at h
    cases h1 : skip 93 l with
    | some u => rw [h1] at h; injection h with h _; subst h; exact hs
    | none =>
      rw [h1] at h
      simp only at h
      cases h2 : elt l with
      | bad u => rw [h2] at h; cases h
      | ok s2 u =>
        rw [h2] at h
        obtain ⟨⟨b, hb⟩, h0⟩ := hs
        exact brk_pos ⟨⟨b, by simp [uni, hb]⟩, by simp [uni, h0, (elt_pos h2).2]⟩ h
theorem elts_pos {l t : List UInt8} {s : BS} (h : elts l = .ok s t) : (∃ b, s b = true) ∧ s 0 = false := by
  unfold elts at h
  cases h1 : elt l with
  | bad u => rw [h1] at h; cases h
  | ok s1 u => rw [h1] at h; exact brk_pos (elt_pos h1) h
theorem setM_pos {l t : List UInt8} {s : BS} (h : setM l = .ok s t) : ∃ b, s b = true := by
  unfold setM at h
  cases h1 : skip 91 l with
  | some u =>
    rw [h1] at h
    simp only at h
    unfold brackets at h
    cases h2 : skip 94 u with
    | none => rw [h2] at h; exact (elts_pos h).1
    | some v =>
      rw [h2] at h
      simp only at h
      cases h3 : elts v with
      | bad x => rw [h3] at h; cases h
      | ok s1 x => rw [h3] at h; injection h with h _; subst h; exact ⟨0, by simp [cpl, (elts_pos h3).2]⟩
  | none =>
    rw [h1] at h
    simp only at h
    cases h2 : skip 46 l with
    | some u => rw [h2] at h; injection h with h _; subst h; exact ⟨0, by decide⟩
    | none =>
      rw [h2] at h
      simp only at h
      cases h3 : chr spO l with
      | bad u => rw [h3] at h; cases h
      | ok b u => rw [h3] at h; injection h with h _; subst h; exact ⟨b, by simp [one]⟩
theorem p_vd : ∀ n : Nat, (∀ {l t : List UInt8} {x : Rx}, pAtom n l = .ok x t → Vd x) ∧ (∀ {l t : List UInt8} {x : Rx}, pRepeat n l = .ok x t → Vd x) ∧
    (∀ {a xs : List Rx} {l t : List UInt8}, pReps n a l = .ok xs t → (∀ y ∈ a, Vd y) → ∀ y ∈ xs, Vd y) ∧ (∀ {l t : List UInt8} {x : Rx}, pRegex n l = .ok x t → Vd x) ∧
    (∀ {a : List Rx} {x : Rx} {l t : List UInt8}, pAlts n a l = .ok x t → a ≠ [] → (∀ y ∈ a, Vd y) → Vd x)
  | 0 => ⟨fun h => by simp [pAtom] at h, fun h => by simp [pRepeat] at h, fun h => by simp [pReps] at h, fun h => by simp [pRegex] at h, fun h => by simp [pAlts] at h⟩
  | n + 1 => by
    obtain ⟨i1, i2, i3, i4, i5⟩ := p_vd n
    refine ⟨fun {l t x} h => ?_, fun {l t x} h => ?_, fun {a xs l t} h ha => ?_, fun {l t x} h => ?_, fun {a x l t} h hn ha => ?_⟩
    · rw [pAtom] at h
      cases h1 : skip 40 l with
      | some u =>
        rw [h1] at h
        simp only at h
        cases h2 : pRegex n u with
        | bad v => rw [h2] at h; cases h
        | ok y v =>
          rw [h2] at h
          simp only at h
          cases h3 : skip 41 v with
          | none => rw [h3] at h; cases h
          | some z => rw [h3] at h; injection h with h0 h; subst h0; exact i4 h2
      | none =>
        rw [h1] at h
        simp only at h
        cases h2 : setM l with
        | bad u => rw [h2] at h; cases h
        | ok s u => rw [h2] at h; injection h with h0 h; subst h0; exact vd_setx (setM_pos h2)
    · rw [pRepeat] at h
      cases h1 : pAtom n l with
      | bad u => rw [h1] at h; cases h
      | ok y u => rw [h1] at h; injection h with h0 h; subst h0; exact post_vd u (i1 h1)
    · rw [pReps] at h
      split at h
      · injection h with h0 h; subst h0; exact ha
      · cases h1 : pRepeat n l with
        | bad u => rw [h1] at h; cases h
        | ok y u =>
          rw [h1] at h
          refine i3 h fun z hz => ?_
          rcases List.mem_append.1 hz with hz | hz
          · exact ha z hz
          · simp at hz; subst hz; exact i2 h1
    · rw [pRegex] at h
      cases h1 : pReps n [] l with
      | bad u => rw [h1] at h; cases h
      | ok xs u => rw [h1] at h; exact i5 h (by simp) (by simp; exact vd_br (i3 h1 (by simp)))
    · rw [pAlts] at h
      cases h1 : skip 124 l with
      | none => rw [h1] at h; injection h with h0 h; subst h0; exact vd_al hn ha
      | some u =>
        rw [h1] at h
        simp only at h
        cases h2 : pReps n [] u with
        | bad v => rw [h2] at h; cases h
        | ok xs v =>
          rw [h2] at h
          refine i5 h (by simp) fun z hz => ?_
          rcases List.mem_append.1 hz with hz | hz
          · exact ha z hz
          · simp at hz; subst hz; exact vd_br (i3 h2 (by simp))
end Rg
end
