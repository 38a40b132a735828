/-
  Contracts: then, edit, Compose and its reference.
-/
import Derived.Test.YtclebcpapcoafaaD
import Derived.StillTailTactics

namespace Go.Proofs.Ytclebcpapcoafaa
open Go.RowKit Te

def cov (f l : ByteArray) (b c : Int) : Value := .agg #[.string f, .string l, .int .i64 b, .int .i64 c]
def Cx (W : World) (k : Nat) (f l : ByteArray) (b c : Int) : Prop := W.heap[k]? = some (.cells #[.string f, .string l, .int .i64 b, .int .i64 c] 45 (0, 0))
theorem frozen4 {W : World} {b : Nat} {x y z v : Value} {t : TypeId} (h : W.heap[b]? = some (.cells #[x, y, z, v] t (0, 0))) : W.frozen? ⟨b, 0, none⟩ = false ∧ W.frozen? ⟨b, 1, none⟩ = false ∧ W.frozen? ⟨b, 2, none⟩ = false ∧ W.frozen? ⟨b, 3, none⟩ = false := by
  refine ⟨?_, ?_, ?_, ?_⟩ <;> simp [World.frozen?, h]
theorem Cx.below {W W' : World} {k : Nat} {f l : ByteArray} {b c : Int} (h : Cx W k f l b c) (hb : Below W.heap.size W W') : Cx W' k f l b c := (hb.block _ (heap_lt h)).trans h

theorem Cx.set {W : World} {k : Nat} {f l f' l' : ByteArray} {b c b' c' : Int} (h : Cx W k f l b c) :
    Cx ((((W.setCell ⟨k, 0, none⟩ (.string f')).setCell ⟨k, 1, none⟩ (.string l')).setCell ⟨k, 2, none⟩ (.int .i64 b')).setCell ⟨k, 3, none⟩ (.int .i64 c')) k f' l' b' c' := by
  unfold Cx at *
  simp [World.setCell, Array.getElem?_modify, h]
theorem Bx.other {W : World} {b : Nat} {e : Ed} (h : Bx W b e) (p : Addr) (hp : p.block ≠ b) (u : Value) : Bx (W.setCell p u) b e := by
  unfold Bx at *
  rw [Below.heap_setCell _ _ _ _ hp.symm]; exact h

/-- The results of then. -/
def thv (f l : ByteArray) (b c : Int) (e : Ed) : Value :=
  if Fit l.size e then .tuple #[cov f (ap l e) (min b e.1) (min c (l.size - e.1 - e.2.1)), .int .i64 0] else .tuple #[cov .empty .empty 0 0, .int .i64 2]

set_option maxRecDepth 100000 in
set_option maxHeartbeats 4000000 in
theorem then_any (f l : ByteArray) (b c : Int) (a d : Int) (t : ByteArray) (w : World) (hs : l.size ≤ 1000000) (ht : t.size ≤ 1000000) (ha : a ≤ 9223372036854775807) :
    Calls Try.prog 28 #[.agg #[.string f, .string l, .int .i64 b, .int .i64 c], .agg #[.int .i64 a, .int .i64 d, .string t]] w fun e w' => e = .returned (thv f l b c (a, d, t)) ∧ Below w.heap.size w w' := by
  obtain ⟨W, hW⟩ : ∃ W, W = ((w.alloc (.cells #[.string f, .string l, .int .i64 b, .int .i64 c] 45)).alloc (.cells #[.int .i64 a, .int .i64 d, .string t] 23)).alloc (.cells #[.string { data := #[] }, .string { data := #[] }, .int .i64 0, .int .i64 0] 45) := ⟨_, rfl⟩
  have bW : Below w.heap.size w W := by rw [hW]; exact (((Below.refl _ _).alloc (Nat.le_refl _) _).alloc (by simp) _).alloc (by simp; omega) _
  have hsz : W.heap.size = w.heap.size + 1 + 1 + 1 := by rw [hW]; simp
  have x1 : Cx W w.heap.size f l b c := by rw [hW]; exact blk_alloc (blk_alloc (alloc_new _ _))
  have x2 : Bx W (w.heap.size + 1) (a, d, t) := by rw [hW]; exact blk_alloc (alloc_at _ _ (by simp))
  have x3 : Cx W (w.heap.size + 1 + 1) { data := #[] } { data := #[] } 0 0 := by rw [hW]; exact alloc_at _ _ (by simp)
  have X := hid (show ∀ W', Below W.heap.size W W' → Cx W' w.heap.size f l b c ∧ Bx W' (w.heap.size + 1) (a, d, t) ∧ Cx W' (w.heap.size + 1 + 1) { data := #[] } { data := #[] } 0 0 from fun W' h => ⟨x1.below h, x2.below h, x3.below h⟩)
  have HW := hid hW
  have l0 : (0 : Int) ≤ (l.size : Int) := by omega
  have l1 : (l.size : Int) ≤ 1000000 := by omega
  clear hW x1 x2 x3
  by_cases hf : Fit l.size (a, d, t)
  · have HF := hid hf
    have a0 : 0 ≤ a := hf.1
    have d0 : 0 ≤ d := hf.2.1
    have a1 : d ≤ l.size - a := hf.2.2
    clear hf
    go_enter Try.func28, Try.ntmps28
    go_wp2_with fail
    rw [← HW.out]
    refine (apply_any l t a d _ hs ht ha).mono ?_
    rintro e w1 ⟨rfl, hb1⟩
    obtain ⟨x1, x2, x3⟩ := X.out _ hb1
    obtain ⟨k00, k01, k02, k03⟩ := cells4 x1
    obtain ⟨k10, k11, k12⟩ := x2.cells
    obtain ⟨k20, k21, k22, k23⟩ := cells4 x3
    obtain ⟨f00, f01, f02, f03⟩ := frozen4 x1
    obtain ⟨f20, f21, f22, f23⟩ := frozen4 x3
    rw [apv_yes HF.out]
    clear x1 x2 x3
    have hM := hid (show thv f l b c (a, d, t) = .tuple #[.agg #[.string f, .string (ap l (a, d, t)), .int .i64 (min b a), .int .i64 (min c (l.size - a - d))], .int .i64 0] by unfold thv; rw [if_pos HF.out]; rfl)
    go_wp2
    all_goals
      obtain ⟨m1, hm1, hm1'⟩ : ∃ m1, m1 = min b a ∧ (m1 = a ∨ m1 = b) := ⟨_, rfl, by omega⟩
      obtain ⟨m2, hm2, hm2'⟩ : ∃ m2, m2 = min c (l.size - a - d) ∧ (m2 = c ∨ m2 = l.size - a - d) := ⟨_, rfl, by omega⟩
      refine bodyPost_ret (v := .tuple #[.agg #[.string f, .string (ap l (a, d, t)), .int .i64 m1, .int .i64 m2], .int .i64 0]) ?_ rfl ⟨?_, ?_⟩
      · simp [results, Try.results28, go_sem, k20, k21, k22, k23]
        omega
      · rw [hM.out, hm1, hm2]
      · repeat (refine Below.setCell ?_ (by first | (simp; done) | (simp; omega)) _)
        exact bW.trans (hb1.mono bW.size)
  · have HF := hid hf
    clear hf
    go_enter Try.func28, Try.ntmps28
    go_wp2_with fail
    rw [← HW.out]
    refine (apply_any l t a d _ hs ht ha).mono ?_
    rintro e w1 ⟨rfl, hb1⟩
    obtain ⟨x1, x2, x3⟩ := X.out _ hb1
    obtain ⟨k20, k21, k22, k23⟩ := cells4 x3
    obtain ⟨f20, f21, f22, f23⟩ := frozen4 x3
    rw [apv_no HF.out]
    clear x1 x2 x3
    go_wp2
    refine bodyPost_ret (v := .tuple #[.agg #[.string .empty, .string .empty, .int .i64 0, .int .i64 0], .int .i64 2]) ?_ rfl ⟨?_, ?_⟩
    · simp [results, Try.results28, go_sem, k20, k21, k22, k23]
      try rfl
    · unfold thv; rw [if_neg HF.out]; rfl
    · repeat (refine Below.setCell ?_ (by first | (simp; done) | (simp; omega)) _)
      exact bW.trans (hb1.mono bW.size)

set_option maxRecDepth 100000 in
set_option maxHeartbeats 4000000 in
theorem edit_any (f l : ByteArray) (k m : Nat) (w : World) (hf : f.size ≤ 1000000) (hs : l.size ≤ 1000000) (h1 : k + m ≤ f.size) (h2 : k + m ≤ l.size) :
    Calls Try.prog 29 #[.agg #[.string f, .string l, .int .i64 k, .int .i64 m]] w fun e w' => e = .returned (edv (fin f (l, (k : Int), (m : Int)))) ∧ Below w.heap.size w w' := by
  obtain ⟨W, hW⟩ : ∃ W, W = (w.alloc (.cells #[.string f, .string l, .int .i64 k, .int .i64 m] 45)).alloc (.cells #[.int .i64 0, .int .i64 0, .string { data := #[] }] 23) := ⟨_, rfl⟩
  have bW : Below w.heap.size w W := by rw [hW]; exact ((Below.refl _ _).alloc (Nat.le_refl _) _).alloc (by simp) _
  have hsz : W.heap.size = w.heap.size + 1 + 1 := by rw [hW]; simp
  have x1 : Cx W w.heap.size f l k m := by rw [hW]; exact blk_alloc (alloc_new _ _)
  have x2 : Bx W (w.heap.size + 1) (0, 0, { data := #[] }) := by rw [hW]; exact alloc_at _ _ (by simp)
  have HW := hid hW
  clear hW
  have g0 : (0 : Int) ≤ (l.size : Int) := by omega
  have g1 : (l.size : Int) ≤ 1000000 := by omega
  have g2 : (0 : Int) ≤ (f.size : Int) := by omega
  have g3 : (f.size : Int) ≤ 1000000 := by omega
  have g4 : (k : Int) ≤ (l.size : Int) - (m : Int) := by omega
  have g5 : (l.size : Int) - (m : Int) ≤ (l.size : Int) := by omega
  have g6 : (0 : Int) ≤ (k : Int) := by omega
  have g7 : (0 : Int) ≤ (m : Int) := by omega
  have e1 : IntKind.i64.wrap ((f.size : Int) - (m : Int)) = (f.size : Int) - (m : Int) := wrapIn (by omega) (by omega)
  have e2 : IntKind.i64.wrap ((f.size : Int) - (m : Int) - (k : Int)) = (f.size : Int) - (m : Int) - (k : Int) := wrapIn (by omega) (by omega)
  have e3 : IntKind.i64.wrap ((l.size : Int) - (m : Int)) = (l.size : Int) - (m : Int) := wrapIn (by omega) (by omega)
  have g8 : (0 : Int) ≤ (l.size : Int) - (m : Int) := by omega
  go_enter Try.func29, Try.ntmps29
  go_wp2_with fail
  rw [← HW.out]
  refine wp_region_still_tail 23 (by kernel_rfl) (by kernel_rfl) ?_
  obtain ⟨V, hV⟩ : ∃ V, V = ({ W with drawn := W.drawn + 1 } : World) := ⟨_, rfl⟩
  have bV : Below w.heap.size w V := by rw [hV]; exact bW.drew
  have y1 : Cx V w.heap.size f l k m := by rw [hV]; exact x1
  have y2 : Bx V (w.heap.size + 1) (0, 0, { data := #[] }) := by rw [hV]; exact x2
  rw [← hV]
  clear hV x1 x2
  obtain ⟨k00, k01, k02, k03⟩ := cells4 y1
  obtain ⟨k10, k11, k12⟩ := y2.cells
  obtain ⟨f10, f11, f12⟩ := y2.free
  clear y1 y2
  simp only [List.take_succ_cons, List.take_zero, List.drop_succ_cons, List.drop_zero]
  repeat still_step
  refine wpStill_nil ?_
  go_wp2
  refine bodyPost_ret (v := .agg #[.int .i64 k, .int .i64 (f.size - m - k), .string (l.extract k (l.size - m))]) ?_ rfl ⟨?_, ?_⟩
  · simp [results, Try.results29, go_sem, k10, k11, k12]
  · unfold edv fin
    simp only [Int.toNat_natCast]
    rw [show ((l.size : Int) - (m : Int)).toNat = l.size - m by omega]
  · repeat (refine Below.setCell ?_ (by first | (simp; done) | (simp; omega)) _)
    exact bV

/-- The results of Compose. -/
def cmv : Option Ed → Value
  | some e => .tuple #[edv e, .int .i64 0]
  | none => .tuple #[edv (0, 0, .empty), .int .i64 2]
theorem cst_drop {cur : ByteArray} {b c : Int} {E : List Ed} {i : Nat} {x : Ed} (h : E[i]? = some x) : cst cur b c (E.drop i) = if Fit cur.size x then cst (ap cur x) (min b x.1) (min c (cur.size - x.1 - x.2.1)) (E.drop (i + 1)) else none := by
  obtain ⟨hl, rfl⟩ := List.getElem?_eq_some_iff.1 h
  rw [List.drop_eq_getElem_cons hl]
  rfl

set_option maxRecDepth 100000 in
set_option maxHeartbeats 4000000 in
theorem compose_any (s : ByteArray) (p : Option Addr) (n c : Nat) (E : List Ed) (w : World) (hn : n ≤ 1000000) (hE : s.size + sz E ≤ 1000000) (hB : Big E) (h : Row w p n E) :
    Calls Try.prog 21 #[.string s, .slice p n c] w fun e w' => e = .returned (cmv (cmp s E)) ∧ Below w.heap.size w w' := by
  have HE := hid hE
  have HR := hid h
  have hl := hid h.1
  have HB := hid hB
  clear h hE hB
  by_cases h0 : n = 0
  · subst h0
    have Hn := hid (show cmp s E = some (0, 0, .empty) by unfold cmp; rw [if_pos (List.eq_nil_of_length_eq_zero hl.out)])
    go_enter Try.func21, Try.ntmps21
    go_wp2
    refine bodyPost_ret (v := .tuple #[.agg #[.int .i64 0, .int .i64 0, .string .empty], .int .i64 0]) ?_ rfl ⟨?_, ?_⟩
    · simp [results, Try.results21, go_sem]
      try rfl
    · rw [Hn.out]; rfl
    · repeat (first | refine Below.setCell ?_ (by first | (simp; done) | (simp; omega)) _ | refine Below.alloc ?_ (by first | exact Nat.le_refl _ | (simp; done) | (simp; omega)) _)
      exact Below.refl _ _
  · have hn0 : (0 : Int) < (n : Int) := by omega
    have hnb : ((n : Int) == 0) = false := by simp; omega
    go_enter Try.func21, Try.ntmps21
    go_wp2_with fail
    go_loopg [7, 27] n (fun k s7 s27 wr => ∃ (i : Nat) (cur : ByteArray) (b q : Int), s7 = .func (.func 28) #[.agg #[.string s, .string cur, .int .i64 b, .int .i64 q]] #[] ∧ s27 = .int .i64 i ∧ i + k = n ∧
      cst cur b q (E.drop i) = cst s s.size s.size E ∧ cur.size + sz (E.drop i) ≤ 1000000 ∧ Inv0 s cur b q ∧ (0 < i → Inv s cur b q) ∧ Below w.heap.size w wr ∧ Bx wr w.heap.size (0, 0, { data := #[] }) ∧ Cx wr (w.heap.size + 1) s cur b q)
    case atStart =>
      refine ⟨0, s, s.size, s.size, rfl, rfl, by omega, rfl, HE.out, .inl ⟨rfl, rfl, rfl⟩, fun h => by omega, ((Below.refl _ _).alloc (Nat.le_refl _) _).alloc (by simp) _, blk_alloc (alloc_new _ _), alloc_at _ _ (by simp)⟩
    case round =>
      obtain ⟨i, cur, b, q, rfl, rfl, hk, hap, hsz, hiv, hiv', hbw, hx0, hx1⟩ := hrel
      have HA := hid hap
      have HZ := hid hsz
      have HI := hid hiv
      have HI' := hid hiv'
      clear hap hsz hiv hiv'
      have K := hid (show ∀ W', Below wr.heap.size wr W' → Bx W' w.heap.size (0, 0, { data := #[] }) ∧ Cx W' (w.heap.size + 1) s cur b q from fun W' h => ⟨hx0.below h, hx1.below h⟩)
      have hgt := heap_lt hx1
      by_cases hlt : i < n
      · have hlt' : (i : Int) < (n : Int) := by omega
        have hi0 : (0 : Int) ≤ (i : Int) := by omega
        obtain ⟨⟨a, d, t⟩, hxi⟩ : ∃ x, E[i]? = some x := ⟨_, List.getElem?_eq_getElem (by rw [hl.out]; exact hlt)⟩
        have HX := hid hxi
        have hrow := (HR.out.below hbw).2.resolve_left (by omega)
        obtain ⟨b', off, rfl, hb, hx⟩ := hrow
        obtain ⟨c0, c1, c2⟩ := hx i _ hxi
        have hz1 : cur.size ≤ 1000000 := by have := HZ.out; omega
        have hz2 : t.size ≤ 1000000 := by have := HZ.out; have := sz_drop hxi; simp only at this; omega
        have ha : a ≤ 9223372036854775807 := HB.out _ (List.mem_of_getElem? hxi)
        clear hx hxi hx0 hx1
        go_wp2_with fail
        refine (then_any s cur b q a d t _ hz1 hz2 ha).mono ?_
        rintro e w1 ⟨rfl, hb1⟩
        have hb2 : Below wr.heap.size wr w1 := ((Below.refl _ _).alloc (Nat.le_refl _) _).trans (hb1.mono (by simp))
        by_cases hf : Fit cur.size (a, d, t)
        · have HF := hid hf
          have hz := hid (Inv0.step HI.out hf)
          unfold thv cov
          rw [if_pos hf]
          have H := hid (apAll_drop (cur := cur) HX.out)
          have Hc := hid (cst_drop (cur := cur) (b := b) (c := q) HX.out)
          rw [if_pos hf] at Hc
          have Hle := hid (ap_le hf)
          clear hf
          obtain ⟨cur', hcur⟩ : ∃ cur', cur' = ap cur (a, d, t) := ⟨_, rfl⟩
          obtain ⟨m1, hm1⟩ : ∃ m1, m1 = min b a := ⟨_, rfl⟩
          obtain ⟨m2, hm2⟩ : ∃ m2, m2 = min q ((cur.size : Int) - a - d) := ⟨_, rfl⟩
          simp only at hz Hc Hle ⊢
          rw [← hcur, ← hm1, ← hm2] at hz Hc
          rw [← hcur] at Hle
          rw [← hcur, ← hm1, ← hm2]
          clear hcur hm1 hm2
          go_wp2_with fail
          obtain ⟨w2, hw2⟩ : ∃ w2, w2 = w1.alloc (.cells #[.string s, .string cur', .int .i64 m1, .int .i64 m2] 45) := ⟨_, rfl⟩
          have b2 : Below wr.heap.size wr w2 := by rw [hw2]; exact hb2.alloc hb2.size _
          have y1 : Cx w2 w1.heap.size s cur' m1 m2 := by rw [hw2]; exact alloc_new _ _
          have h12 : wr.heap.size ≤ w1.heap.size := hb2.size
          rw [← hw2]
          obtain ⟨x1, x2⟩ := K.out _ b2
          obtain ⟨k00, k01, k02, k03⟩ := cells4 y1
          obtain ⟨k10, k11, k12, k13⟩ := cells4 x2
          obtain ⟨f10, f11, f12, f13⟩ := frozen4 x2
          have X1 := hid x1
          have X2 := hid x2
          clear hw2 y1 x1 x2
          go_region
          all_goals go_wp2
          go_roundg (gk - 1)
          case measure => omega
          case rel =>
            refine ⟨i + 1, cur', m1, m2, rfl, by go_num, by omega, ?_, ?_, .inr hz.out, fun _ => hz.out, ?_, ?_, ?_⟩
            · rw [← Hc.out, HA.out]
            · have := HZ.out
              have := sz_drop HX.out
              have := Hle.out
              simp only at *
              omega
            · have b3 := hbw.trans (b2.mono hbw.size)
              exact (((((b3.setCell (by simp) _).setCell (by simp) _).setCell (by simp) _).setCell (by simp) _)).drew
            · exact (((X1.out.other _ (by simp) _).other _ (by simp) _).other _ (by simp) _).other _ (by simp) _
            · exact X2.out.set
        · have HF := hid hf
          unfold thv cov
          rw [if_neg hf]
          clear hf
          have b2 : Below wr.heap.size wr (w1.alloc (.cells #[.string .empty, .string .empty, .int .i64 0, .int .i64 0] 45)) := hb2.alloc hb2.size _
          obtain ⟨x1, x2⟩ := K.out _ b2
          obtain ⟨k00, k01, k02⟩ := x1.cells
          obtain ⟨f00, f01, f02⟩ := x1.free
          have Hn := hid (show cmp s E = none by
            have := cst_drop (cur := cur) (b := b) (c := q) HX.out
            rw [if_neg HF.out, HA.out] at this
            unfold cmp
            rw [if_neg (fun h => by have := hl.out; rw [h] at this; simp at this; omega), this]
            rfl)
          clear x1 x2
          go_wp2
          refine bodyPost_ret (v := .tuple #[.agg #[.int .i64 0, .int .i64 0, .string .empty], .int .i64 2]) ?_ rfl ⟨?_, ?_⟩
          · simp [results, Try.results21, go_sem, k00, k01, k02]
            try rfl
          · rw [Hn.out]; rfl
          · repeat (refine Below.setCell ?_ (by first | (simp; done) | (simp; omega)) _)
            exact hbw.trans (b2.mono hbw.size)
      · have hin : ¬ (i : Int) < (n : Int) := by omega
        have hi : 0 < i := by omega
        obtain ⟨k, m, rfl, rfl, j1, j2, j3, j4⟩ := HI'.out hi
        obtain ⟨k00, k01, k02, k03⟩ := cells4 hx1
        have Hs := hid (show s.size ≤ 1000000 by have := HE.out; omega)
        have Hc := hid (show cur.size ≤ 1000000 by have := HZ.out; omega)
        have Hn := hid (show cmp s E = some (fin s (cur, (k : Int), (m : Int))) by
          have := HA.out
          rw [List.drop_eq_nil_of_le (by rw [hl.out]; omega)] at this
          unfold cmp
          rw [if_neg (fun h => by have := hl.out; rw [h] at this; simp at this; omega), ← this]
          rfl)
        clear hx0 hx1 j3 j4
        go_wp2_with fail
        refine (edit_any s cur k m _ Hs.out Hc.out j1 j2).mono ?_
        rintro e w1 ⟨rfl, hb1⟩
        obtain ⟨x1, x2⟩ := K.out _ hb1
        obtain ⟨k10, k11, k12⟩ := x1.cells
        obtain ⟨f10, f11, f12⟩ := x1.free
        clear x1 x2
        obtain ⟨⟨e1, e2, e3⟩, he⟩ : ∃ e, e = fin s (cur, (k : Int), (m : Int)) := ⟨_, rfl⟩
        rw [← he]
        rw [← he] at Hn
        clear he
        unfold edv
        go_wp2
        refine bodyPost_ret (v := .tuple #[.agg #[.int .i64 e1, .int .i64 e2, .string e3], .int .i64 0]) ?_ rfl ⟨?_, ?_⟩
        · simp [results, Try.results21, go_sem, k10, k11, k12]
        · rw [Hn.out]; rfl
        · repeat (refine Below.setCell ?_ (by first | (simp; done) | (simp; omega)) _)
          exact hbw.trans (hb1.mono hbw.size)
end Go.Proofs.Ytclebcpapcoafaa
