/-
  The reference's parser: contract: atom.
-/
import Derived.Test.YtednoideboeehaaDoorZ26
import Derived.Deep.Cut
section
set_option linter.unusedSimpArgs false
set_option linter.unusedVariables false
namespace Go.Proofs.YtednoideboeehaaDoor
open Go.RowKit Bs Rg Go.Frame
attribute [local go_sem] eq_zero eq_set

/-- What a function of the descent answers. -/
def AO (pb : Nat) (s : ByteArray) (r : Pr Rx) (w : World) (e : Ending) (w' : World) : Prop :=
  Pk pb w w' ∧ ∃ (x' : Rx) (cs : List Value), e = .returned (.agg cs.toArray) ∧ RC (ge w.heap.size) w' x' cs ∧ match r with
    | .ok x t => x' = x ∧ RS pb s w' t false
    | .bad t => RS pb s w' t true
theorem leaf_rc (g : Nat → Prop) (W : World) (S : BS) : RC g W (setx S) [.int .i64 3, .int .u64 (ws S 0 : Int), .int .u64 (ws S 1 : Int), .int .u64 (ws S 2 : Int), .int .u64 (ws S 3 : Int), .slice none 0 0] := RC_mk.2 ⟨none, 0, 0, rfl, rfl, by omega, .inl rfl⟩
/-- The bytes that begin something of their own. -/
theorem nx_eq {l : List UInt8} {b : UInt8} (h : ∀ t, l ≠ b :: t) : (nx l == (b.toNat : Int)) = false := by
  rw [← Bool.not_eq_true]; intro hq
  cases l with
  | nil => simp [nx] at hq
  | cons c t =>
    have : c.toNat = b.toNat := by simp [nx] at hq; omega
    exact h t (by rw [UInt8.toNat_inj.1 this])
set_option maxRecDepth 100000 in
set_option maxHeartbeats 4000000 in
theorem atom_char (pb : Nat) (s : ByteArray) (w : World) (l : List UInt8) (h1 : ∀ t, l ≠ 40 :: t) (h2 : ∀ t, l ≠ 91 :: t) (h3 : ∀ t, l ≠ 46 :: t) (h : RS pb s w l false) :
    Calls Tryd.prog 95 #[.pointer (some ⟨pb, 0, none⟩)] w (AO pb s (match chr spO l with | .bad t => .bad t | .ok b t => .ok (setx (one b)) t) w) := by
  have hpb := hid (heap_lt h.box)
  obtain ⟨W0, hW0⟩ : ∃ W0, W0 = w.alloc (.cells #[.int .i64 0, .int .u64 0, .int .u64 0, .int .u64 0, .int .u64 0, .slice none 0 0] 27) := ⟨_, rfl⟩
  have H0 := hid (show W0.heap[w.heap.size]? = some (.cells #[.int .i64 0, .int .u64 0, .int .u64 0, .int .u64 0, .int .u64 0, .slice none 0 0] 27 (0, 0)) ∧ Pk pb w W0 ∧ RS pb s W0 l false from by
    have hb : Below w.heap.size w W0 := by rw [hW0]; exact bel1 _ _
    exact ⟨by rw [hW0]; exact alloc_new _ _, Pk.of hb, h.below hb⟩)
  have CN := hid (fun V (hR : RS pb s V l false) => next_any pb s V l false hR)
  have q1 : (nx l == 40) = false := nx_eq h1
  have q2 : (nx l == 91) = false := nx_eq h2
  have q3 : (nx l == 46) = false := nx_eq h3
  have CC := hid (fun V (hR : RS pb s V l false) => char_any pb s V false l hR)
  rw [show spc false = spO from rfl] at CC
  clear h h1 h2 h3
  obtain ⟨r, hr⟩ : ∃ r, r = chr spO l := ⟨_, rfl⟩
  rw [← hr] at CC ⊢
  clear hr
  cases r with
  | bad t =>
    go_enter Tryd.func95, Tryd.ntmps95
    go_wp2_with fail
    rw [← hW0]
    clear hW0
    refine (CN.out _ H0.out.2.2).mono ?_
    rintro e W1 ⟨rfl, b1⟩
    have H1 := hid (show W1.heap[w.heap.size]? = some (.cells #[.int .i64 0, .int .u64 0, .int .u64 0, .int .u64 0, .int .u64 0, .slice none 0 0] 27 (0, 0)) ∧ Pk pb w W1 ∧ RS pb s W1 l false from ⟨(b1.block _ (heap_lt H0.out.1)).trans H0.out.1, H0.out.2.1.trans (Pk.of b1), H0.out.2.2.below b1⟩)
    clear b1
    have C1 := hid (fun V => rOneX_any 0 V)
    rw [show (((0 : UInt8).toNat : Nat) : Int) = 0 from rfl] at C1
    go_wp2_with fail
    refine (CC.out _ H1.out.2.2).mono ?_
    rintro e W2 ⟨hpk, rfl, hrs⟩
    have H2 := hid (show W2.heap[w.heap.size]? = some (.cells #[.int .i64 0, .int .u64 0, .int .u64 0, .int .u64 0, .int .u64 0, .slice none 0 0] 27 (0, 0)) ∧ Pk pb w W2 ∧ RS pb s W2 t true from ⟨(hpk.block (by have := hpb.out; omega) (heap_lt H1.out.1)).trans H1.out.1, H1.out.2.1.trans hpk, hrs⟩)
    clear hpk hrs
    go_wp2_with fail
    refine (C1.out _).mono ?_
    rintro e W3 ⟨rfl, b3⟩
    have H3 := hid (show W3.heap[w.heap.size]? = some (.cells #[.int .i64 0, .int .u64 0, .int .u64 0, .int .u64 0, .int .u64 0, .slice none 0 0] 27 (0, 0)) ∧ Pk pb w W3 ∧ RS pb s W3 t true from ⟨(b3.block _ (heap_lt H2.out.1)).trans H2.out.1, H2.out.2.1.trans (Pk.of b3), H2.out.2.2.below b3⟩)
    clear b3
    have hres := H3.out.1
    obtain ⟨d0, d1, d2, d3, d4, d5⟩ := cells6 hres
    have f0 := Go.Frame.free hres 0
    have f1 := Go.Frame.free hres 1
    have f2 := Go.Frame.free hres 2
    have f3 := Go.Frame.free hres 3
    have f4 := Go.Frame.free hres 4
    have f5 := Go.Frame.free hres 5
    clear hres
    go_wp2
    have zz := six_set (y0 := .int .i64 3) (y1 := .int .u64 (ws (one 0) 0 : Int)) (y2 := .int .u64 (ws (one 0) 1 : Int)) (y3 := .int .u64 (ws (one 0) 2 : Int)) (y4 := .int .u64 (ws (one 0) 3 : Int)) (y5 := .slice none 0 0) H3.out.1
    obtain ⟨r0, r1, r2, r3, r4, r5⟩ := cells6 zz
    refine bodyPost_ret (v := .agg #[.int .i64 3, .int .u64 (ws (one 0) 0 : Int), .int .u64 (ws (one 0) 1 : Int), .int .u64 (ws (one 0) 2 : Int), .int .u64 (ws (one 0) 3 : Int), .slice none 0 0]) ?_ rfl ?_
    · simp [results, Tryd.results95, go_sem, r0, r1, r2, r3, r4, r5]
    · have k1 := pk_six (x0 := .int .i64 3) (x1 := .int .u64 (ws (one 0) 0 : Int)) (x2 := .int .u64 (ws (one 0) 1 : Int)) (x3 := .int .u64 (ws (one 0) 2 : Int)) (x4 := .int .u64 (ws (one 0) 3 : Int)) (x5 := .slice none 0 0) H3.out.2.1
      have k2 := H3.out.2.2.six (B := w.heap.size) (x0 := .int .i64 3) (x1 := .int .u64 (ws (one 0) 0 : Int)) (x2 := .int .u64 (ws (one 0) 1 : Int)) (x3 := .int .u64 (ws (one 0) 2 : Int)) (x4 := .int .u64 (ws (one 0) 3 : Int)) (x5 := .slice none 0 0) (by have := hpb.out; omega)
      exact ⟨k1, setx (one 0), _, rfl, leaf_rc _ _ _, k2⟩
  | ok b t =>
    go_enter Tryd.func95, Tryd.ntmps95
    go_wp2_with fail
    rw [← hW0]
    clear hW0
    refine (CN.out _ H0.out.2.2).mono ?_
    rintro e W1 ⟨rfl, b1⟩
    have H1 := hid (show W1.heap[w.heap.size]? = some (.cells #[.int .i64 0, .int .u64 0, .int .u64 0, .int .u64 0, .int .u64 0, .slice none 0 0] 27 (0, 0)) ∧ Pk pb w W1 ∧ RS pb s W1 l false from ⟨(b1.block _ (heap_lt H0.out.1)).trans H0.out.1, H0.out.2.1.trans (Pk.of b1), H0.out.2.2.below b1⟩)
    clear b1
    have C1 := hid (fun V => rOneX_any b V)
    go_wp2_with fail
    refine (CC.out _ H1.out.2.2).mono ?_
    rintro e W2 ⟨hpk, rfl, hrs⟩
    have H2 := hid (show W2.heap[w.heap.size]? = some (.cells #[.int .i64 0, .int .u64 0, .int .u64 0, .int .u64 0, .int .u64 0, .slice none 0 0] 27 (0, 0)) ∧ Pk pb w W2 ∧ RS pb s W2 t false from ⟨(hpk.block (by have := hpb.out; omega) (heap_lt H1.out.1)).trans H1.out.1, H1.out.2.1.trans hpk, hrs⟩)
    clear hpk hrs
    go_wp2_with fail
    refine (C1.out _).mono ?_
    rintro e W3 ⟨rfl, b3⟩
    have H3 := hid (show W3.heap[w.heap.size]? = some (.cells #[.int .i64 0, .int .u64 0, .int .u64 0, .int .u64 0, .int .u64 0, .slice none 0 0] 27 (0, 0)) ∧ Pk pb w W3 ∧ RS pb s W3 t false from ⟨(b3.block _ (heap_lt H2.out.1)).trans H2.out.1, H2.out.2.1.trans (Pk.of b3), H2.out.2.2.below b3⟩)
    clear b3
    have hres := H3.out.1
    obtain ⟨d0, d1, d2, d3, d4, d5⟩ := cells6 hres
    have f0 := Go.Frame.free hres 0
    have f1 := Go.Frame.free hres 1
    have f2 := Go.Frame.free hres 2
    have f3 := Go.Frame.free hres 3
    have f4 := Go.Frame.free hres 4
    have f5 := Go.Frame.free hres 5
    clear hres
    go_wp2
    have zz := six_set (y0 := .int .i64 3) (y1 := .int .u64 (ws (one b) 0 : Int)) (y2 := .int .u64 (ws (one b) 1 : Int)) (y3 := .int .u64 (ws (one b) 2 : Int)) (y4 := .int .u64 (ws (one b) 3 : Int)) (y5 := .slice none 0 0) H3.out.1
    obtain ⟨r0, r1, r2, r3, r4, r5⟩ := cells6 zz
    refine bodyPost_ret (v := .agg #[.int .i64 3, .int .u64 (ws (one b) 0 : Int), .int .u64 (ws (one b) 1 : Int), .int .u64 (ws (one b) 2 : Int), .int .u64 (ws (one b) 3 : Int), .slice none 0 0]) ?_ rfl ?_
    · simp [results, Tryd.results95, go_sem, r0, r1, r2, r3, r4, r5]
    · have k1 := pk_six (x0 := .int .i64 3) (x1 := .int .u64 (ws (one b) 0 : Int)) (x2 := .int .u64 (ws (one b) 1 : Int)) (x3 := .int .u64 (ws (one b) 2 : Int)) (x4 := .int .u64 (ws (one b) 3 : Int)) (x5 := .slice none 0 0) H3.out.2.1
      have k2 := H3.out.2.2.six (B := w.heap.size) (x0 := .int .i64 3) (x1 := .int .u64 (ws (one b) 0 : Int)) (x2 := .int .u64 (ws (one b) 1 : Int)) (x3 := .int .u64 (ws (one b) 2 : Int)) (x4 := .int .u64 (ws (one b) 3 : Int)) (x5 := .slice none 0 0) (by have := hpb.out; omega)
      exact ⟨k1, setx (one b), _, rfl, leaf_rc _ _ _, rfl, k2⟩
set_option maxRecDepth 100000 in
set_option maxHeartbeats 4000000 in
theorem atom_dot (pb : Nat) (s : ByteArray) (w : World) (t : List UInt8) (h : RS pb s w (46 :: t) false) :
    Calls Tryd.prog 95 #[.pointer (some ⟨pb, 0, none⟩)] w (AO pb s (.ok (setx dot) t) w) := by
  have hpb := hid (heap_lt h.box)
  obtain ⟨W0, hW0⟩ : ∃ W0, W0 = w.alloc (.cells #[.int .i64 0, .int .u64 0, .int .u64 0, .int .u64 0, .int .u64 0, .slice none 0 0] 27) := ⟨_, rfl⟩
  have H0 := hid (show W0.heap[w.heap.size]? = some (.cells #[.int .i64 0, .int .u64 0, .int .u64 0, .int .u64 0, .int .u64 0, .slice none 0 0] 27 (0, 0)) ∧ Pk pb w W0 ∧ RS pb s W0 (46 :: t) false from by
    have hb : Below w.heap.size w W0 := by rw [hW0]; exact bel1 _ _
    exact ⟨by rw [hW0]; exact alloc_new _ _, Pk.of hb, h.below hb⟩)
  have CN := hid (fun V (hR : RS pb s V (46 :: t) false) => next_b pb s V 46 t false hR)
  have CD := hid (fun V => rDot_any V)
  clear h
  go_enter Tryd.func95, Tryd.ntmps95
  go_wp2_with fail
  rw [← hW0]
  clear hW0
  refine (CN.out _ H0.out.2.2).mono ?_
  rintro e W1 ⟨rfl, h1, b1⟩
  have H1 := hid (show W1.heap[w.heap.size]? = some (.cells #[.int .i64 0, .int .u64 0, .int .u64 0, .int .u64 0, .int .u64 0, .slice none 0 0] 27 (0, 0)) ∧ Pk pb w W1 ∧ RS pb s W1 (46 :: t) false from ⟨(b1.block _ (heap_lt H0.out.1)).trans H0.out.1, H0.out.2.1.trans (Pk.of b1), h1⟩)
  clear b1 h1
  have hnx := H1.out.2.2.next
  obtain ⟨z0, z1, z2⟩ := H1.out.2.2.cells
  have f1 := Go.Frame.free H1.out.2.2.box 1
  obtain ⟨p, hp⟩ : ∃ p, p = s.size - ((46 : UInt8) :: t).length := ⟨_, rfl⟩
  obtain ⟨p', hp'⟩ : ∃ p', p' = s.size - t.length := ⟨_, rfl⟩
  rw [← hp] at z1 hnx
  rw [← hp'] at hnx
  have HP := hid hp'
  have hpb' : (p : Int) ≤ 1000000 := by have := H1.out.2.2.sz; omega
  clear hp hp'
  go_upto_region 17 with fail
  obtain ⟨V0, hV0⟩ : ∃ V, V = W1.setCell ⟨pb, 1, none⟩ (.int .i64 (p' : Int)) := ⟨_, rfl⟩
  have H2 := hid (show V0.heap[w.heap.size]? = some (.cells #[.int .i64 0, .int .u64 0, .int .u64 0, .int .u64 0, .int .u64 0, .slice none 0 0] 27 (0, 0)) ∧ Pk pb w V0 ∧ RS pb s V0 t false from by
    rw [hV0, HP.out]
    exact ⟨blk_set H1.out.1 (by show w.heap.size ≠ pb; have := hpb.out; omega), H1.out.2.1.put, H1.out.2.2.step⟩)
  rw [← hV0]
  clear hV0 z0 z1 z2 f1 hnx
  go_wp2_with fail
  refine (CD.out _).mono ?_
  rintro e W3 ⟨rfl, b3⟩
  have H3 := hid (show W3.heap[w.heap.size]? = some (.cells #[.int .i64 0, .int .u64 0, .int .u64 0, .int .u64 0, .int .u64 0, .slice none 0 0] 27 (0, 0)) ∧ Pk pb w W3 ∧ RS pb s W3 t false from ⟨(b3.block _ (heap_lt H2.out.1)).trans H2.out.1, H2.out.2.1.trans (Pk.of b3), H2.out.2.2.below b3⟩)
  clear b3
  have hres := H3.out.1
  obtain ⟨d0, d1, d2, d3, d4, d5⟩ := cells6 hres
  have f0 := Go.Frame.free hres 0
  have f1 := Go.Frame.free hres 1
  have f2 := Go.Frame.free hres 2
  have f3 := Go.Frame.free hres 3
  have f4 := Go.Frame.free hres 4
  have f5 := Go.Frame.free hres 5
  clear hres
  go_wp2
  have zz := six_set (y0 := .int .i64 3) (y1 := .int .u64 (ws dot 0 : Int)) (y2 := .int .u64 (ws dot 1 : Int)) (y3 := .int .u64 (ws dot 2 : Int)) (y4 := .int .u64 (ws dot 3 : Int)) (y5 := .slice none 0 0) H3.out.1
  obtain ⟨r0, r1, r2, r3, r4, r5⟩ := cells6 zz
  refine bodyPost_ret (v := .agg #[.int .i64 3, .int .u64 (ws dot 0 : Int), .int .u64 (ws dot 1 : Int), .int .u64 (ws dot 2 : Int), .int .u64 (ws dot 3 : Int), .slice none 0 0]) ?_ rfl ?_
  · simp [results, Tryd.results95, go_sem, r0, r1, r2, r3, r4, r5]
  · have k1 := pk_six (x0 := .int .i64 3) (x1 := .int .u64 (ws dot 0 : Int)) (x2 := .int .u64 (ws dot 1 : Int)) (x3 := .int .u64 (ws dot 2 : Int)) (x4 := .int .u64 (ws dot 3 : Int)) (x5 := .slice none 0 0) H3.out.2.1
    have k2 := H3.out.2.2.six (B := w.heap.size) (x0 := .int .i64 3) (x1 := .int .u64 (ws dot 0 : Int)) (x2 := .int .u64 (ws dot 1 : Int)) (x3 := .int .u64 (ws dot 2 : Int)) (x4 := .int .u64 (ws dot 3 : Int)) (x5 := .slice none 0 0) (by have := hpb.out; omega)
    exact ⟨k1, setx dot, _, rfl, leaf_rc _ _ _, rfl, k2⟩
set_option maxRecDepth 100000 in
set_option maxHeartbeats 4000000 in
theorem atom_brk (pb : Nat) (s : ByteArray) (w : World) (t : List UInt8) (h : RS pb s w (91 :: t) false) :
    Calls Tryd.prog 95 #[.pointer (some ⟨pb, 0, none⟩)] w (AO pb s (match brackets t with | .bad u => .bad u | .ok S u => .ok (setx S) u) w) := by
  have hpb := hid (heap_lt h.box)
  obtain ⟨W0, hW0⟩ : ∃ W0, W0 = w.alloc (.cells #[.int .i64 0, .int .u64 0, .int .u64 0, .int .u64 0, .int .u64 0, .slice none 0 0] 27) := ⟨_, rfl⟩
  have H0 := hid (show W0.heap[w.heap.size]? = some (.cells #[.int .i64 0, .int .u64 0, .int .u64 0, .int .u64 0, .int .u64 0, .slice none 0 0] 27 (0, 0)) ∧ Pk pb w W0 ∧ RS pb s W0 (91 :: t) false from by
    have hb : Below w.heap.size w W0 := by rw [hW0]; exact bel1 _ _
    exact ⟨by rw [hW0]; exact alloc_new _ _, Pk.of hb, h.below hb⟩)
  have CN := hid (fun V (hR : RS pb s V (91 :: t) false) => next_b pb s V 91 t false hR)
  have CB := hid (fun V (hR : RS pb s V t false) => rbrackets_any pb s V t hR)
  clear h
  obtain ⟨r, hr⟩ : ∃ r, r = brackets t := ⟨_, rfl⟩
  rw [← hr] at CB ⊢
  clear hr
  cases r with
  | bad u =>
    go_enter Tryd.func95, Tryd.ntmps95
    go_wp2_with fail
    rw [← hW0]
    clear hW0
    refine (CN.out _ H0.out.2.2).mono ?_
    rintro e W1 ⟨rfl, h1, b1⟩
    have H1 := hid (show W1.heap[w.heap.size]? = some (.cells #[.int .i64 0, .int .u64 0, .int .u64 0, .int .u64 0, .int .u64 0, .slice none 0 0] 27 (0, 0)) ∧ Pk pb w W1 ∧ RS pb s W1 (91 :: t) false from ⟨(b1.block _ (heap_lt H0.out.1)).trans H0.out.1, H0.out.2.1.trans (Pk.of b1), h1⟩)
    clear b1 h1
    have hnx := H1.out.2.2.next
    obtain ⟨z0, z1, z2⟩ := H1.out.2.2.cells
    have f1 := Go.Frame.free H1.out.2.2.box 1
    obtain ⟨p, hp⟩ : ∃ p, p = s.size - ((91 : UInt8) :: t).length := ⟨_, rfl⟩
    obtain ⟨p', hp'⟩ : ∃ p', p' = s.size - t.length := ⟨_, rfl⟩
    rw [← hp] at z1 hnx
    rw [← hp'] at hnx
    have HP := hid hp'
    have hpb' : (p : Int) ≤ 1000000 := by have := H1.out.2.2.sz; omega
    clear hp hp'
    go_upto_region 14 with fail
    obtain ⟨V0, hV0⟩ : ∃ V, V = W1.setCell ⟨pb, 1, none⟩ (.int .i64 (p' : Int)) := ⟨_, rfl⟩
    have H2 := hid (show V0.heap[w.heap.size]? = some (.cells #[.int .i64 0, .int .u64 0, .int .u64 0, .int .u64 0, .int .u64 0, .slice none 0 0] 27 (0, 0)) ∧ Pk pb w V0 ∧ RS pb s V0 t false from by
      rw [hV0, HP.out]
      exact ⟨blk_set H1.out.1 (by show w.heap.size ≠ pb; have := hpb.out; omega), H1.out.2.1.put, H1.out.2.2.step⟩)
    rw [← hV0]
    clear hV0 z0 z1 z2 f1 hnx
    go_wp2_with fail
    refine (CB.out _ H2.out.2.2).mono ?_
    rintro e W3 ⟨hpk, rfl, hrs⟩
    have H3 := hid (show W3.heap[w.heap.size]? = some (.cells #[.int .i64 0, .int .u64 0, .int .u64 0, .int .u64 0, .int .u64 0, .slice none 0 0] 27 (0, 0)) ∧ Pk pb w W3 ∧ RS pb s W3 u true from ⟨(hpk.block (by have := hpb.out; omega) (heap_lt H2.out.1)).trans H2.out.1, H2.out.2.1.trans hpk, hrs⟩)
    clear hpk hrs
    have hres := H3.out.1
    obtain ⟨d0, d1, d2, d3, d4, d5⟩ := cells6 hres
    have f0 := Go.Frame.free hres 0
    have f1 := Go.Frame.free hres 1
    have f2 := Go.Frame.free hres 2
    have f3 := Go.Frame.free hres 3
    have f4 := Go.Frame.free hres 4
    have f5 := Go.Frame.free hres 5
    clear hres
    go_wp2
    have zz := six_set (y0 := .int .i64 0) (y1 := .int .u64 0) (y2 := .int .u64 0) (y3 := .int .u64 0) (y4 := .int .u64 0) (y5 := .slice none 0 0) H3.out.1
    obtain ⟨r0, r1, r2, r3, r4, r5⟩ := cells6 zz
    refine bodyPost_ret (v := .agg #[.int .i64 0, .int .u64 0, .int .u64 0, .int .u64 0, .int .u64 0, .slice none 0 0]) ?_ rfl ?_
    · simp [results, Tryd.results95, go_sem, r0, r1, r2, r3, r4, r5]
    · have k1 := pk_six (x0 := .int .i64 0) (x1 := .int .u64 0) (x2 := .int .u64 0) (x3 := .int .u64 0) (x4 := .int .u64 0) (x5 := .slice none 0 0) H3.out.2.1
      have k2 := H3.out.2.2.six (B := w.heap.size) (x0 := .int .i64 0) (x1 := .int .u64 0) (x2 := .int .u64 0) (x3 := .int .u64 0) (x4 := .int .u64 0) (x5 := .slice none 0 0) (by have := hpb.out; omega)
      exact ⟨k1, zr, _, rfl, zr_rc _ _, k2⟩
  | ok S u =>
    go_enter Tryd.func95, Tryd.ntmps95
    go_wp2_with fail
    rw [← hW0]
    clear hW0
    refine (CN.out _ H0.out.2.2).mono ?_
    rintro e W1 ⟨rfl, h1, b1⟩
    have H1 := hid (show W1.heap[w.heap.size]? = some (.cells #[.int .i64 0, .int .u64 0, .int .u64 0, .int .u64 0, .int .u64 0, .slice none 0 0] 27 (0, 0)) ∧ Pk pb w W1 ∧ RS pb s W1 (91 :: t) false from ⟨(b1.block _ (heap_lt H0.out.1)).trans H0.out.1, H0.out.2.1.trans (Pk.of b1), h1⟩)
    clear b1 h1
    have hnx := H1.out.2.2.next
    obtain ⟨z0, z1, z2⟩ := H1.out.2.2.cells
    have f1 := Go.Frame.free H1.out.2.2.box 1
    obtain ⟨p, hp⟩ : ∃ p, p = s.size - ((91 : UInt8) :: t).length := ⟨_, rfl⟩
    obtain ⟨p', hp'⟩ : ∃ p', p' = s.size - t.length := ⟨_, rfl⟩
    rw [← hp] at z1 hnx
    rw [← hp'] at hnx
    have HP := hid hp'
    have hpb' : (p : Int) ≤ 1000000 := by have := H1.out.2.2.sz; omega
    clear hp hp'
    go_upto_region 14 with fail
    obtain ⟨V0, hV0⟩ : ∃ V, V = W1.setCell ⟨pb, 1, none⟩ (.int .i64 (p' : Int)) := ⟨_, rfl⟩
    have H2 := hid (show V0.heap[w.heap.size]? = some (.cells #[.int .i64 0, .int .u64 0, .int .u64 0, .int .u64 0, .int .u64 0, .slice none 0 0] 27 (0, 0)) ∧ Pk pb w V0 ∧ RS pb s V0 t false from by
      rw [hV0, HP.out]
      exact ⟨blk_set H1.out.1 (by show w.heap.size ≠ pb; have := hpb.out; omega), H1.out.2.1.put, H1.out.2.2.step⟩)
    rw [← hV0]
    clear hV0 z0 z1 z2 f1 hnx
    go_wp2_with fail
    refine (CB.out _ H2.out.2.2).mono ?_
    rintro e W3 ⟨hpk, rfl, hrs⟩
    have H3 := hid (show W3.heap[w.heap.size]? = some (.cells #[.int .i64 0, .int .u64 0, .int .u64 0, .int .u64 0, .int .u64 0, .slice none 0 0] 27 (0, 0)) ∧ Pk pb w W3 ∧ RS pb s W3 u false from ⟨(hpk.block (by have := hpb.out; omega) (heap_lt H2.out.1)).trans H2.out.1, H2.out.2.1.trans hpk, hrs⟩)
    clear hpk hrs
    have hres := H3.out.1
    obtain ⟨d0, d1, d2, d3, d4, d5⟩ := cells6 hres
    have f0 := Go.Frame.free hres 0
    have f1 := Go.Frame.free hres 1
    have f2 := Go.Frame.free hres 2
    have f3 := Go.Frame.free hres 3
    have f4 := Go.Frame.free hres 4
    have f5 := Go.Frame.free hres 5
    clear hres
    go_wp2
    have zz := six_set (y0 := .int .i64 3) (y1 := .int .u64 (ws S 0 : Int)) (y2 := .int .u64 (ws S 1 : Int)) (y3 := .int .u64 (ws S 2 : Int)) (y4 := .int .u64 (ws S 3 : Int)) (y5 := .slice none 0 0) H3.out.1
    obtain ⟨r0, r1, r2, r3, r4, r5⟩ := cells6 zz
    refine bodyPost_ret (v := .agg #[.int .i64 3, .int .u64 (ws S 0 : Int), .int .u64 (ws S 1 : Int), .int .u64 (ws S 2 : Int), .int .u64 (ws S 3 : Int), .slice none 0 0]) ?_ rfl ?_
    · simp [results, Tryd.results95, go_sem, r0, r1, r2, r3, r4, r5]
    · have k1 := pk_six (x0 := .int .i64 3) (x1 := .int .u64 (ws S 0 : Int)) (x2 := .int .u64 (ws S 1 : Int)) (x3 := .int .u64 (ws S 2 : Int)) (x4 := .int .u64 (ws S 3 : Int)) (x5 := .slice none 0 0) H3.out.2.1
      have k2 := H3.out.2.2.six (B := w.heap.size) (x0 := .int .i64 3) (x1 := .int .u64 (ws S 0 : Int)) (x2 := .int .u64 (ws S 1 : Int)) (x3 := .int .u64 (ws S 2 : Int)) (x4 := .int .u64 (ws S 3 : Int)) (x5 := .slice none 0 0) (by have := hpb.out; omega)
      exact ⟨k1, setx S, _, rfl, leaf_rc _ _ _, rfl, k2⟩
theorem rc_out {w W V : World} {pb B : Nat} {x : Rx} {cs : List Value} (h : RC (ge B) W x cs) (hp : Pk pb W V) (h1 : pb < B) (h2 : w.heap.size < B) {x0 x1 x2 x3 x4 x5 : Value} : RC (ge w.heap.size) ((((((V.setCell ⟨w.heap.size, 0, none⟩ x0).setCell ⟨w.heap.size, 1, none⟩ x1).setCell ⟨w.heap.size, 2, none⟩ x2).setCell ⟨w.heap.size, 3, none⟩ x3).setCell ⟨w.heap.size, 4, none⟩ x4).setCell ⟨w.heap.size, 5, none⟩ x5) x cs := by
  refine RC.keep (by simpa using hp.size) (fun b hb hl => ?_) (fun b hb => ?_) x h
  · have hb' : B ≤ b := hb
    have hn : b ≠ w.heap.size := by omega
    rw [heap_setCell_other _ _ _ _ hn, heap_setCell_other _ _ _ _ hn, heap_setCell_other _ _ _ _ hn, heap_setCell_other _ _ _ _ hn, heap_setCell_other _ _ _ _ hn, heap_setCell_other _ _ _ _ hn]
    exact hp.block (by omega) hl
  · have hb' : B ≤ b := hb
    show w.heap.size ≤ b
    omega
theorem rcs_arr2 (k : Int) (s : BS) (v : Value) : (rcs k s v).toArray = #[.int .i64 k, .int .u64 (ws s 0 : Int), .int .u64 (ws s 1 : Int), .int .u64 (ws s 2 : Int), .int .u64 (ws s 3 : Int), v] := rfl
/-- A group's end. -/
def grpM : Pr Rx → Pr Rx
  | .bad u => .bad u
  | .ok x u => match skip 41 u with
    | some v => .ok x v
    | none => .bad u
set_option maxRecDepth 100000 in
set_option maxHeartbeats 4000000 in
theorem atom_grp (pb : Nat) (s : ByteArray) (w : World) (t : List UInt8) (R : Pr Rx) (CR : ∀ V, RS pb s V t false → Calls Tryd.prog 35 #[.pointer (some ⟨pb, 0, none⟩)] V (AO pb s R V)) (h : RS pb s w (40 :: t) false) :
    Calls Tryd.prog 95 #[.pointer (some ⟨pb, 0, none⟩)] w (AO pb s (grpM R) w) := by
  have hpb := hid (heap_lt h.box)
  obtain ⟨W0, hW0⟩ : ∃ W0, W0 = w.alloc (.cells #[.int .i64 0, .int .u64 0, .int .u64 0, .int .u64 0, .int .u64 0, .slice none 0 0] 27) := ⟨_, rfl⟩
  have H0 := hid (show W0.heap[w.heap.size]? = some (.cells #[.int .i64 0, .int .u64 0, .int .u64 0, .int .u64 0, .int .u64 0, .slice none 0 0] 27 (0, 0)) ∧ Pk pb w W0 ∧ RS pb s W0 (40 :: t) false from by
    have hb : Below w.heap.size w W0 := by rw [hW0]; exact bel1 _ _
    exact ⟨by rw [hW0]; exact alloc_new _ _, Pk.of hb, h.below hb⟩)
  have CN := hid (fun V (hR : RS pb s V (40 :: t) false) => next_b pb s V 40 t false hR)
  clear h
  cases R with
  | bad u =>
    go_enter Tryd.func95, Tryd.ntmps95
    go_wp2_with fail
    rw [← hW0]
    clear hW0
    refine (CN.out _ H0.out.2.2).mono ?_
    rintro e W1 ⟨rfl, h1, b1⟩
    have H1 := hid (show W1.heap[w.heap.size]? = some (.cells #[.int .i64 0, .int .u64 0, .int .u64 0, .int .u64 0, .int .u64 0, .slice none 0 0] 27 (0, 0)) ∧ Pk pb w W1 ∧ RS pb s W1 (40 :: t) false from ⟨(b1.block _ (heap_lt H0.out.1)).trans H0.out.1, H0.out.2.1.trans (Pk.of b1), h1⟩)
    clear b1 h1
    have hnx := H1.out.2.2.next
    obtain ⟨z0, z1, z2⟩ := H1.out.2.2.cells
    have f1 := Go.Frame.free H1.out.2.2.box 1
    obtain ⟨p, hp⟩ : ∃ p, p = s.size - ((40 : UInt8) :: t).length := ⟨_, rfl⟩
    obtain ⟨p', hp'⟩ : ∃ p', p' = s.size - t.length := ⟨_, rfl⟩
    rw [← hp] at z1 hnx
    rw [← hp'] at hnx
    have HP := hid hp'
    have hpb' : (p : Int) ≤ 1000000 := by have := H1.out.2.2.sz; omega
    clear hp hp'
    go_upto_region 4 with fail
    obtain ⟨V0, hV0⟩ : ∃ V, V = W1.setCell ⟨pb, 1, none⟩ (.int .i64 (p' : Int)) := ⟨_, rfl⟩
    have H2 := hid (show V0.heap[w.heap.size]? = some (.cells #[.int .i64 0, .int .u64 0, .int .u64 0, .int .u64 0, .int .u64 0, .slice none 0 0] 27 (0, 0)) ∧ Pk pb w V0 ∧ RS pb s V0 t false from by
      rw [hV0, HP.out]
      exact ⟨blk_set H1.out.1 (by show w.heap.size ≠ pb; have := hpb.out; omega), H1.out.2.1.put, H1.out.2.2.step⟩)
    rw [← hV0]
    clear hV0 z0 z1 z2 f1 hnx
    go_wp2_with fail
    refine (CR V0 H2.out.2.2).mono ?_
    rintro e W3 ⟨hpk, x', cs, rfl, hrc, hm⟩
    obtain ⟨k', S', l'⟩ := x'
    obtain ⟨a', n', c', rfl, hKd⟩ := RC_mk.1 hrc
    rw [rcs_arr2]
    have HR3 := hid (And.intro hrc hpk)
    obtain ⟨V, hV⟩ : ∃ V, V = W3.alloc (.cells #[.int .i64 k', .int .u64 (ws S' 0 : Int), .int .u64 (ws S' 1 : Int), .int .u64 (ws S' 2 : Int), .int .u64 (ws S' 3 : Int), .slice a' n' c'] 27) := ⟨_, rfl⟩
    have hbl : Below W3.heap.size W3 V := by rw [hV]; exact bel1 _ _
    have H3 := hid (show V.heap[w.heap.size]? = some (.cells #[.int .i64 0, .int .u64 0, .int .u64 0, .int .u64 0, .int .u64 0, .slice none 0 0] 27 (0, 0)) ∧ Pk pb w V ∧ RS pb s V u true ∧ V.heap[W3.heap.size]? = some (.cells #[.int .i64 k', .int .u64 (ws S' 0 : Int), .int .u64 (ws S' 1 : Int), .int .u64 (ws S' 2 : Int), .int .u64 (ws S' 3 : Int), .slice a' n' c'] 27 (0, 0)) ∧ Pk pb W3 V ∧ w.heap.size < V0.heap.size ∧ pb < V0.heap.size from
      ⟨((hpk.trans (Pk.of hbl)).block (by have := hpb.out; omega) (heap_lt H2.out.1)).trans H2.out.1, (H2.out.2.1.trans hpk).trans (Pk.of hbl), (hm).below hbl, by rw [hV]; exact alloc_new _ _, Pk.of hbl, heap_lt H2.out.1, heap_lt H2.out.2.2.box⟩)
    clear hpk hrc hKd hm hbl
    have H4 := hid (And.intro H3.out.1 (And.intro H3.out.2.1 H3.out.2.2.1))
    go_upto_region 5 with fail
    rw [← hV]
    clear hV
    obtain ⟨z0, z1, z2⟩ := H3.out.2.2.1.cells
    obtain ⟨p0, p1, p2, p3, p4, p5⟩ := cells6 H3.out.2.2.2.1
    have hres := H4.out.1
    obtain ⟨d0, d1, d2, d3, d4, d5⟩ := cells6 hres
    have f0 := Go.Frame.free hres 0
    have f1 := Go.Frame.free hres 1
    have f2 := Go.Frame.free hres 2
    have f3 := Go.Frame.free hres 3
    have f4 := Go.Frame.free hres 4
    have f5 := Go.Frame.free hres 5
    clear hres
    go_wp2
    have zz := six_set (y0 := .int .i64 k') (y1 := .int .u64 (ws S' 0 : Int)) (y2 := .int .u64 (ws S' 1 : Int)) (y3 := .int .u64 (ws S' 2 : Int)) (y4 := .int .u64 (ws S' 3 : Int)) (y5 := .slice a' n' c') H4.out.1
    obtain ⟨r0, r1, r2, r3, r4, r5⟩ := cells6 zz
    refine bodyPost_ret (v := .agg #[.int .i64 k', .int .u64 (ws S' 0 : Int), .int .u64 (ws S' 1 : Int), .int .u64 (ws S' 2 : Int), .int .u64 (ws S' 3 : Int), .slice a' n' c']) ?_ rfl ?_
    · simp [results, Tryd.results95, go_sem, r0, r1, r2, r3, r4, r5]
    · have k1 := pk_six (x0 := .int .i64 k') (x1 := .int .u64 (ws S' 0 : Int)) (x2 := .int .u64 (ws S' 1 : Int)) (x3 := .int .u64 (ws S' 2 : Int)) (x4 := .int .u64 (ws S' 3 : Int)) (x5 := .slice a' n' c') H4.out.2.1
      have k2 := H4.out.2.2.six (B := w.heap.size) (x0 := .int .i64 k') (x1 := .int .u64 (ws S' 0 : Int)) (x2 := .int .u64 (ws S' 1 : Int)) (x3 := .int .u64 (ws S' 2 : Int)) (x4 := .int .u64 (ws S' 3 : Int)) (x5 := .slice a' n' c') (by have := hpb.out; omega)
      exact ⟨k1, _, _, rfl, rc_out HR3.out.1 H3.out.2.2.2.2.1 H3.out.2.2.2.2.2.2 H3.out.2.2.2.2.2.1, k2⟩
  | ok x u =>
    go_enter Tryd.func95, Tryd.ntmps95
    go_wp2_with fail
    rw [← hW0]
    clear hW0
    refine (CN.out _ H0.out.2.2).mono ?_
    rintro e W1 ⟨rfl, h1, b1⟩
    have H1 := hid (show W1.heap[w.heap.size]? = some (.cells #[.int .i64 0, .int .u64 0, .int .u64 0, .int .u64 0, .int .u64 0, .slice none 0 0] 27 (0, 0)) ∧ Pk pb w W1 ∧ RS pb s W1 (40 :: t) false from ⟨(b1.block _ (heap_lt H0.out.1)).trans H0.out.1, H0.out.2.1.trans (Pk.of b1), h1⟩)
    clear b1 h1
    have hnx := H1.out.2.2.next
    obtain ⟨z0, z1, z2⟩ := H1.out.2.2.cells
    have f1 := Go.Frame.free H1.out.2.2.box 1
    obtain ⟨p, hp⟩ : ∃ p, p = s.size - ((40 : UInt8) :: t).length := ⟨_, rfl⟩
    obtain ⟨p', hp'⟩ : ∃ p', p' = s.size - t.length := ⟨_, rfl⟩
    rw [← hp] at z1 hnx
    rw [← hp'] at hnx
    have HP := hid hp'
    have hpb' : (p : Int) ≤ 1000000 := by have := H1.out.2.2.sz; omega
    clear hp hp'
    go_upto_region 4 with fail
    obtain ⟨V0, hV0⟩ : ∃ V, V = W1.setCell ⟨pb, 1, none⟩ (.int .i64 (p' : Int)) := ⟨_, rfl⟩
    have H2 := hid (show V0.heap[w.heap.size]? = some (.cells #[.int .i64 0, .int .u64 0, .int .u64 0, .int .u64 0, .int .u64 0, .slice none 0 0] 27 (0, 0)) ∧ Pk pb w V0 ∧ RS pb s V0 t false from by
      rw [hV0, HP.out]
      exact ⟨blk_set H1.out.1 (by show w.heap.size ≠ pb; have := hpb.out; omega), H1.out.2.1.put, H1.out.2.2.step⟩)
    rw [← hV0]
    clear hV0 z0 z1 z2 f1 hnx
    go_wp2_with fail
    refine (CR V0 H2.out.2.2).mono ?_
    rintro e W3 ⟨hpk, x', cs, rfl, hrc, hm⟩
    obtain ⟨k', S', l'⟩ := x'
    obtain ⟨a', n', c', rfl, hKd⟩ := RC_mk.1 hrc
    rw [rcs_arr2]
    have HR3 := hid (And.intro hrc hpk)
    obtain ⟨V, hV⟩ : ∃ V, V = W3.alloc (.cells #[.int .i64 k', .int .u64 (ws S' 0 : Int), .int .u64 (ws S' 1 : Int), .int .u64 (ws S' 2 : Int), .int .u64 (ws S' 3 : Int), .slice a' n' c'] 27) := ⟨_, rfl⟩
    have hbl : Below W3.heap.size W3 V := by rw [hV]; exact bel1 _ _
    have H3 := hid (show V.heap[w.heap.size]? = some (.cells #[.int .i64 0, .int .u64 0, .int .u64 0, .int .u64 0, .int .u64 0, .slice none 0 0] 27 (0, 0)) ∧ Pk pb w V ∧ RS pb s V u false ∧ V.heap[W3.heap.size]? = some (.cells #[.int .i64 k', .int .u64 (ws S' 0 : Int), .int .u64 (ws S' 1 : Int), .int .u64 (ws S' 2 : Int), .int .u64 (ws S' 3 : Int), .slice a' n' c'] 27 (0, 0)) ∧ Pk pb W3 V ∧ w.heap.size < V0.heap.size ∧ pb < V0.heap.size from
      ⟨((hpk.trans (Pk.of hbl)).block (by have := hpb.out; omega) (heap_lt H2.out.1)).trans H2.out.1, (H2.out.2.1.trans hpk).trans (Pk.of hbl), (hm.2).below hbl, by rw [hV]; exact alloc_new _ _, Pk.of hbl, heap_lt H2.out.1, heap_lt H2.out.2.2.box⟩)
    have HX := hid hm.1
    clear hpk hrc hKd hm hbl
    have H4 := hid (And.intro H3.out.1 (And.intro H3.out.2.1 H3.out.2.2.1))
    go_upto_region 5 with fail
    rw [← hV]
    clear hV
    obtain ⟨z0, z1, z2⟩ := H3.out.2.2.1.cells
    obtain ⟨p0, p1, p2, p3, p4, p5⟩ := cells6 H3.out.2.2.2.1
    by_cases h41 : ∃ v, u = 41 :: v
    · obtain ⟨v, rfl⟩ := h41
      rw [show grpM (.ok x (41 :: v)) = .ok x v from by unfold grpM; simp only; rw [skip_cons]]
      have CX := hid (next_b pb s V 41 v false H3.out.2.2.1)
      go_wp2_with fail
      refine CX.out.mono ?_
      rintro e W4 ⟨rfl, hr, bx⟩
      have H5 := hid (show W4.heap[w.heap.size]? = some (.cells #[.int .i64 0, .int .u64 0, .int .u64 0, .int .u64 0, .int .u64 0, .slice none 0 0] 27 (0, 0)) ∧ Pk pb w W4 ∧ RS pb s W4 (41 :: v) false ∧ W4.heap[W3.heap.size]? = some (.cells #[.int .i64 k', .int .u64 (ws S' 0 : Int), .int .u64 (ws S' 1 : Int), .int .u64 (ws S' 2 : Int), .int .u64 (ws S' 3 : Int), .slice a' n' c'] 27 (0, 0)) ∧ Pk pb W3 W4 from
        ⟨(bx.block _ (heap_lt H3.out.1)).trans H3.out.1, H3.out.2.1.trans (Pk.of bx), hr, (bx.block _ (heap_lt H3.out.2.2.2.1)).trans H3.out.2.2.2.1, H3.out.2.2.2.2.1.trans (Pk.of bx)⟩)
      clear hr bx z0 z1 z2 p0 p1 p2 p3 p4 p5
      have hnx := H5.out.2.2.1.next
      obtain ⟨z0, z1, z2⟩ := H5.out.2.2.1.cells
      have f1 := Go.Frame.free H5.out.2.2.1.box 1
      obtain ⟨p9, hp⟩ : ∃ p, p = s.size - ((41 : UInt8) :: v).length := ⟨_, rfl⟩
      obtain ⟨p8, hp'⟩ : ∃ p', p' = s.size - v.length := ⟨_, rfl⟩
      rw [← hp] at z1 hnx
      rw [← hp'] at hnx
      have HP2 := hid hp'
      have hpb'' : (p9 : Int) ≤ 1000000 := by have := H5.out.2.2.1.sz; omega
      clear hp hp'
      go_upto_region 11 with fail
      obtain ⟨V1, hV1⟩ : ∃ V1, V1 = W4.setCell ⟨pb, 1, none⟩ (.int .i64 (p8 : Int)) := ⟨_, rfl⟩
      have H6 := hid (show V1.heap[w.heap.size]? = some (.cells #[.int .i64 0, .int .u64 0, .int .u64 0, .int .u64 0, .int .u64 0, .slice none 0 0] 27 (0, 0)) ∧ Pk pb w V1 ∧ RS pb s V1 v false from by
        rw [hV1, HP2.out]
        exact ⟨blk_set H5.out.1 (by show w.heap.size ≠ pb; have := hpb.out; omega), H5.out.2.1.put, H5.out.2.2.1.step⟩)
      have H7 := hid (show V1.heap[W3.heap.size]? = some (.cells #[.int .i64 k', .int .u64 (ws S' 0 : Int), .int .u64 (ws S' 1 : Int), .int .u64 (ws S' 2 : Int), .int .u64 (ws S' 3 : Int), .slice a' n' c'] 27 (0, 0)) ∧ Pk pb W3 V1 from by
        rw [hV1]
        exact ⟨blk_set H5.out.2.2.2.1 (by show W3.heap.size ≠ pb; have := hpb.out; have := HR3.out.2.size; have := H3.out.2.2.2.2.2.2; omega), H5.out.2.2.2.2.put⟩)
      rw [← hV1]
      clear hV1 z0 z1 z2 f1 hnx
      obtain ⟨p0, p1, p2, p3, p4, p5⟩ := cells6 H7.out.1
      have hres := H6.out.1
      obtain ⟨d0, d1, d2, d3, d4, d5⟩ := cells6 hres
      have f0 := Go.Frame.free hres 0
      have f1 := Go.Frame.free hres 1
      have f2 := Go.Frame.free hres 2
      have f3 := Go.Frame.free hres 3
      have f4 := Go.Frame.free hres 4
      have f5 := Go.Frame.free hres 5
      clear hres
      go_wp2
      have zz := six_set (y0 := .int .i64 k') (y1 := .int .u64 (ws S' 0 : Int)) (y2 := .int .u64 (ws S' 1 : Int)) (y3 := .int .u64 (ws S' 2 : Int)) (y4 := .int .u64 (ws S' 3 : Int)) (y5 := .slice a' n' c') H6.out.1
      obtain ⟨r0, r1, r2, r3, r4, r5⟩ := cells6 zz
      refine bodyPost_ret (v := .agg #[.int .i64 k', .int .u64 (ws S' 0 : Int), .int .u64 (ws S' 1 : Int), .int .u64 (ws S' 2 : Int), .int .u64 (ws S' 3 : Int), .slice a' n' c']) ?_ rfl ?_
      · simp [results, Tryd.results95, go_sem, r0, r1, r2, r3, r4, r5]
      · have k1 := pk_six (x0 := .int .i64 k') (x1 := .int .u64 (ws S' 0 : Int)) (x2 := .int .u64 (ws S' 1 : Int)) (x3 := .int .u64 (ws S' 2 : Int)) (x4 := .int .u64 (ws S' 3 : Int)) (x5 := .slice a' n' c') H6.out.2.1
        have k2 := H6.out.2.2.six (B := w.heap.size) (x0 := .int .i64 k') (x1 := .int .u64 (ws S' 0 : Int)) (x2 := .int .u64 (ws S' 1 : Int)) (x3 := .int .u64 (ws S' 2 : Int)) (x4 := .int .u64 (ws S' 3 : Int)) (x5 := .slice a' n' c') (by have := hpb.out; omega)
        exact ⟨k1, _, _, rfl, rc_out HR3.out.1 H7.out.2 H3.out.2.2.2.2.2.2 H3.out.2.2.2.2.2.1, HX.out, k2⟩
    · have HG := hid (show grpM (.ok x u) = .bad u from by unfold grpM; simp only; rw [skip_hd (fun v hv => h41 ⟨v, hv⟩)])
      have q41 : (nx u == 41) = false := nx_eq (b := 41) (fun v hv => h41 ⟨v, hv⟩)
      have q41' : (nx u != 41) = true := by simp [bne, q41]
      have CX := hid (next_any pb s V u false H3.out.2.2.1)
      clear h41
      go_wp2_with fail
      refine CX.out.mono ?_
      rintro e W4 ⟨rfl, bx⟩
      have H5 := hid (show W4.heap[w.heap.size]? = some (.cells #[.int .i64 0, .int .u64 0, .int .u64 0, .int .u64 0, .int .u64 0, .slice none 0 0] 27 (0, 0)) ∧ Pk pb w W4 ∧ RS pb s W4 u false ∧ W4.heap[W3.heap.size]? = some (.cells #[.int .i64 k', .int .u64 (ws S' 0 : Int), .int .u64 (ws S' 1 : Int), .int .u64 (ws S' 2 : Int), .int .u64 (ws S' 3 : Int), .slice a' n' c'] 27 (0, 0)) ∧ Pk pb W3 W4 from
        ⟨(bx.block _ (heap_lt H3.out.1)).trans H3.out.1, H3.out.2.1.trans (Pk.of bx), H3.out.2.2.1.below bx, (bx.block _ (heap_lt H3.out.2.2.2.1)).trans H3.out.2.2.2.1, H3.out.2.2.2.2.1.trans (Pk.of bx)⟩)
      clear bx z0 z1 z2 p0 p1 p2 p3 p4 p5
      obtain ⟨z0, z1, z2⟩ := H5.out.2.2.1.cells
      have f2 := Go.Frame.free H5.out.2.2.1.box 2
      go_upto_region 9 with fail
      obtain ⟨V1, hV1⟩ : ∃ V1, V1 = W4.setCell ⟨pb, 2, none⟩ (.bool true) := ⟨_, rfl⟩
      have H6 := hid (show V1.heap[w.heap.size]? = some (.cells #[.int .i64 0, .int .u64 0, .int .u64 0, .int .u64 0, .int .u64 0, .slice none 0 0] 27 (0, 0)) ∧ Pk pb w V1 ∧ RS pb s V1 u true from by
        rw [hV1]
        exact ⟨blk_set H5.out.1 (by show w.heap.size ≠ pb; have := hpb.out; omega), H5.out.2.1.put, H5.out.2.2.1.fail⟩)
      have H7 := hid (show V1.heap[W3.heap.size]? = some (.cells #[.int .i64 k', .int .u64 (ws S' 0 : Int), .int .u64 (ws S' 1 : Int), .int .u64 (ws S' 2 : Int), .int .u64 (ws S' 3 : Int), .slice a' n' c'] 27 (0, 0)) ∧ Pk pb W3 V1 from by
        rw [hV1]
        exact ⟨blk_set H5.out.2.2.2.1 (by show W3.heap.size ≠ pb; have := hpb.out; have := HR3.out.2.size; have := H3.out.2.2.2.2.2.2; omega), H5.out.2.2.2.2.put⟩)
      rw [← hV1]
      clear hV1 z0 z1 z2 f2
      obtain ⟨p0, p1, p2, p3, p4, p5⟩ := cells6 H7.out.1
      have hres := H6.out.1
      obtain ⟨d0, d1, d2, d3, d4, d5⟩ := cells6 hres
      have f0 := Go.Frame.free hres 0
      have f1 := Go.Frame.free hres 1
      have f2 := Go.Frame.free hres 2
      have f3 := Go.Frame.free hres 3
      have f4 := Go.Frame.free hres 4
      have f5 := Go.Frame.free hres 5
      clear hres
      go_wp2
      have zz := six_set (y0 := .int .i64 k') (y1 := .int .u64 (ws S' 0 : Int)) (y2 := .int .u64 (ws S' 1 : Int)) (y3 := .int .u64 (ws S' 2 : Int)) (y4 := .int .u64 (ws S' 3 : Int)) (y5 := .slice a' n' c') H6.out.1
      obtain ⟨r0, r1, r2, r3, r4, r5⟩ := cells6 zz
      refine bodyPost_ret (v := .agg #[.int .i64 k', .int .u64 (ws S' 0 : Int), .int .u64 (ws S' 1 : Int), .int .u64 (ws S' 2 : Int), .int .u64 (ws S' 3 : Int), .slice a' n' c']) ?_ rfl ?_
      · simp [results, Tryd.results95, go_sem, r0, r1, r2, r3, r4, r5]
      · have k1 := pk_six (x0 := .int .i64 k') (x1 := .int .u64 (ws S' 0 : Int)) (x2 := .int .u64 (ws S' 1 : Int)) (x3 := .int .u64 (ws S' 2 : Int)) (x4 := .int .u64 (ws S' 3 : Int)) (x5 := .slice a' n' c') H6.out.2.1
        have k2 := H6.out.2.2.six (B := w.heap.size) (x0 := .int .i64 k') (x1 := .int .u64 (ws S' 0 : Int)) (x2 := .int .u64 (ws S' 1 : Int)) (x3 := .int .u64 (ws S' 2 : Int)) (x4 := .int .u64 (ws S' 3 : Int)) (x5 := .slice a' n' c') (by have := hpb.out; omega)
        exact ⟨k1, _, _, rfl, rc_out HR3.out.1 H7.out.2 H3.out.2.2.2.2.2.2 H3.out.2.2.2.2.2.1, by rw [HG.out]; exact k2⟩
theorem ratom_any (pb : Nat) (s : ByteArray) (n : Nat) (IH : ∀ (V : World) (l : List UInt8), RS pb s V l false → Calls Tryd.prog 35 #[.pointer (some ⟨pb, 0, none⟩)] V (AO pb s (pRegex n l) V)) (w : World) (l : List UInt8) (h : RS pb s w l false) :
    Calls Tryd.prog 95 #[.pointer (some ⟨pb, 0, none⟩)] w (AO pb s (pAtom (n + 1) l) w) := by
  rw [pAtom]
  cases h40 : skip 40 l with
  | some t =>
    obtain rfl := skip_some h40
    have := atom_grp pb s w t (pRegex n t) (fun V hV => IH V t hV) h
    unfold grpM at this
    exact this
  | none =>
    simp only
    unfold setM
    cases h91 : skip 91 l with
    | some t =>
      obtain rfl := skip_some h91
      simp only
      exact atom_brk pb s w t h
    | none =>
      simp only
      cases h46 : skip 46 l with
      | some t =>
        obtain rfl := skip_some h46
        exact atom_dot pb s w t h
      | none =>
        simp only
        have := atom_char pb s w l (skip_none h40) (skip_none h91) (skip_none h46) h
        cases hc : chr spO l with
        | bad t => rw [hc] at this; exact this
        | ok b t => rw [hc] at this; exact this
end Go.Proofs.YtednoideboeehaaDoor
end
