/-
  Contracts: New, Concat, Len, Height, Byte, Replace.
-/
import Derived.Test.YtaafnodabjbakaaF
namespace Go.Proofs.Ytaafnodabjbakaa
open Go.RowKit Rp

/-- The rope with root p has the text l. -/
structure Rope (W : World) (p : Option Addr) (l : List UInt8) : Prop where
  ex : ∃ O, OG W p O ∧ tx (olv O) = l
theorem Rope.below {A B : World} (h : Below A.heap.size A B) {p : Option Addr} {l : List UInt8} (g : Rope A p l) : Rope B p l := by
  obtain ⟨O, g1, g2⟩ := g.ex
  exact ⟨O, g1.below h, g2⟩

theorem box_after (w : World) (v : Value) (t : TypeId) {w1 : World} (hb : Below (w.alloc (.cells #[v] t)).heap.size (w.alloc (.cells #[v] t)) w1) : w1.heap[w.heap.size]? = some (.cells #[v] t (0, 0)) :=
  (hb.block _ (by simp)).trans (alloc_new _ _)
theorem rep_setBox {W : World} {B : Nat} {v u : Value} {fz : Nat × Nat} (hB : W.heap[B]? = some (.cells #[v] 26 fz)) : ∀ {q : Option Addr} {T : BT}, Rep W q T → Rep (W.setCell ⟨B, 0, none⟩ u) q T
  | _, .leaf _, ⟨b, hp, hb⟩ => ⟨b, hp, by
      rw [Below.heap_setCell _ _ _ _ (by rintro rfl; rw [hB] at hb; simp at hb)]; exact hb⟩
  | _, .node _ _, ⟨b, pl, pr, hp, hb, hl, hr⟩ => ⟨b, pl, pr, hp, by
      rw [Below.heap_setCell _ _ _ _ (by rintro rfl; rw [hB] at hb; simp at hb)]; exact hb, rep_setBox hB hl, rep_setBox hB hr⟩
theorem Rope.setBox {W : World} {B : Nat} {v u : Value} {fz : Nat × Nat} (hB : W.heap[B]? = some (.cells #[v] 26 fz)) {q : Option Addr} {l : List UInt8} (h : Rope W q l) : Rope (W.setCell ⟨B, 0, none⟩ u) q l := by
  obtain ⟨O, g1, g2⟩ := h.ex
  refine ⟨O, ⟨?_, g1.hok, g1.tight⟩, g2⟩
  cases O with
  | none => exact g1.rep
  | some T => exact rep_setBox hB (T := T) g1.rep
theorem OG.rope {W : World} {p : Option Addr} {O : Option BT} {l : List UInt8} (h : OG W p O) (ht : tx (olv O) = l) : Rope W p l := ⟨O, h, ht⟩

set_option maxHeartbeats 400000 in
theorem New_any (s : ByteArray) (w : World) (hs : s.size ≤ 100000000) :
    Calls Try.prog 13 #[.string s] w fun e w' => ∃ p : Option Addr, e = .returned (.agg #[.pointer p]) ∧ Rope w' p s.data.toList ∧ Below w.heap.size w w' := by
  go_enter Try.func13, Try.ntmps13
  go_wp2_with (go_at_call 28; refine (fromText_any s _ hs).mono ?_; rintro e w1 ⟨p, O, rfl, hO, ht, hb⟩; have hbx := box_after w _ _ hb; have c0 := cell_of_one hbx; have f0 := free_of_one hbx)
  have R := hO.rope ht
  have hbw : Below w.heap.size w w1 := ((Below.refl _ _).alloc (Nat.le_refl _) _).trans (hb.mono (by simp))
  exact bodyPost_ret (v := .agg #[.pointer p]) (by simp [results, Try.results13, go_sem, c0]) rfl ⟨p, rfl, R.setBox hbx, hbw.setCell (p := ⟨w.heap.size, 0, none⟩) (Nat.le_refl _) _⟩

set_option maxHeartbeats 400000 in
theorem Concat_any (p q : Option Addr) (a b : List UInt8) (w : World) (ha : Rope w p a) (hb' : Rope w q b) (hs : a.length + b.length ≤ 100000000) :
    Calls Try.prog 14 #[.agg #[.pointer p], .agg #[.pointer q]] w fun e w' => ∃ r : Option Addr, e = .returned (.agg #[.pointer r]) ∧ Rope w' r (a ++ b) ∧ Below w.heap.size w w' := by
  obtain ⟨A, hA, hta⟩ := ha.ex
  obtain ⟨B, hB, htb⟩ := hb'.ex
  have h1 : osz A = a.length := by rw [osz_tx, hta]
  have h2 : osz B = b.length := by rw [osz_tx, htb]
  have hs2 : osz A + osz B ≤ 900000000 := by omega
  have H := hid (And.intro hta htb)
  clear h1 h2 hta htb ha hb'
  go_enter Try.func14, Try.ntmps14
  have bA : Below w.heap.size w (((w.alloc (.cells #[.pointer p] 26)).alloc (.cells #[.pointer q] 26)).alloc (.cells #[.pointer none] 26)) := (((Below.refl _ _).alloc (Nat.le_refl _) _).alloc (by simp) _).alloc (by simp; omega) _
  go_wp2_with (go_at_call 29; refine (join_any p q A B _ (hA.below bA) (hB.below bA) hs2).mono ?_; rintro e w1 ⟨r, O, rfl, hO, ht, hb⟩; have hbx := box_after _ _ _ hb; simp only [World.size_alloc] at hbx; have c0 := cell_of_one hbx; have f0 := free_of_one hbx)
  have R := hO.rope (l := a ++ b) (by rw [ht, H.out.1, H.out.2])
  have hbw : Below w.heap.size w w1 := bA.trans (hb.mono (by simp; omega))
  exact bodyPost_ret (v := .agg #[.pointer r]) (by simp [results, Try.results14, go_sem, c0]) rfl ⟨r, rfl, R.setBox hbx, hbw.setCell (by show w.heap.size ≤ _; simp; omega) _⟩

set_option maxHeartbeats 400000 in
theorem Len_any (p : Option Addr) (l : List UInt8) (w : World) (h : Rope w p l) :
    Calls Try.prog 25 #[.agg #[.pointer p]] w fun e w' => e = .returned (.int .i64 l.length) ∧ Below w.heap.size w w' := by
  obtain ⟨O, hO, ht⟩ := h.ex
  have HL := hid (show osz O = l.length by rw [osz_tx, ht])
  clear ht
  go_enter Try.func25, Try.ntmps25
  go_wp2_with (go_at_call 38; refine (length_any p O _ (hO.rep.below ((Below.refl _ _).alloc (Nat.le_refl _) _))).mono ?_; rintro e w1 ⟨rfl, rfl⟩)
  go_ret
  exact ⟨ret_int (by rw [HL.out]), (Below.refl _ _).alloc (Nat.le_refl _) _⟩

set_option maxHeartbeats 400000 in
theorem Height_any (p : Option Addr) (l : List UInt8) (w : World) (h : Rope w p l) :
    Calls Try.prog 26 #[.agg #[.pointer p]] w fun e w' => ∃ n : Nat, e = .returned (.int .i64 n) ∧ n ≤ hb l.length ∧ Below w.heap.size w w' := by
  obtain ⟨O, hO, ht⟩ := h.ex
  have HL := hid (show oht O ≤ hb l.length by
    rw [← ht, ← osz_tx]
    cases O with
    | none => exact Nat.zero_le _
    | some T => exact Rp.Good.ht_le ⟨hO.hok, hO.tight⟩)
  clear ht
  go_enter Try.func26, Try.ntmps26
  go_wp2_with (go_at_call 39; refine (depth_any p O _ (hO.rep.below ((Below.refl _ _).alloc (Nat.le_refl _) _))).mono ?_; rintro e w1 ⟨rfl, rfl⟩)
  go_ret
  exact ⟨oht O, rfl, HL.out, (Below.refl _ _).alloc (Nat.le_refl _) _⟩

theorem byte_eq {s : ByteArray} {m : Nat} {c : UInt8} (hm : m < s.size) (h : s.data.toList[m]? = some c) : s[m] = c := by
  rw [List.getElem?_eq_getElem (by simpa using hm)] at h
  exact Option.some.inj h

set_option maxRecDepth 100000 in
set_option maxHeartbeats 2000000 in
theorem byteAt_any (T : BT) (p : Option Addr) (w : World) (h : Rep w p T) (k : Nat) (hk : k < T.size) (c : UInt8) (hc : T.text[k]? = some c) (hs : T.size ≤ 1000000000) :
    Calls Try.prog 36 #[.pointer p, .int .i64 k] w fun e w' => e = .returned (.int .u8 c.toNat) ∧ w = w' := by
  have HC := hid hc
  clear hc
  go_enter Try.func36, Try.ntmps36
  go_wp2
  go_loopg [0, 1] T.ht (fun n tv av wr => ∃ (q : Option Addr) (U : BT) (m : Nat), tv = .pointer q ∧ av = .int .i64 m ∧ Rep w q U ∧ m < U.size ∧ U.text[m]? = some c ∧ U.size ≤ 1000000000 ∧ U.ht ≤ n ∧ w = wr)
  case atStart => exact ⟨p, T, k, rfl, rfl, h, hk, HC.out, hs, Nat.le_refl _, rfl⟩
  case round =>
    obtain ⟨q, U, m, rfl, rfl, hU, hm, hcm, hUs, hn, rfl⟩ := hrel
    have HM := hid hcm
    clear hcm h hk
    cases U with
    | leaf s =>
      have hU' := hU
      obtain ⟨b, rfl, hb⟩ := hU
      have c2 := (cells_of (h := 0) hb).c2
      have hm' : m < s.size := hm
      have hmi : (m : Int) < (s.size : Int) := by omega
      clear hb hm
      go_wp2_with (go_at_call 47; refine (isLeaf_leaf _ s _ hU').mono ?_; rintro e w' ⟨rfl, rfl⟩)
      go_ret
      refine ⟨?_, ?_⟩
      · exact ret_int (by rw [byte_eq hm' HM.out])
      · rfl
    | node x y =>
      have hU' := hU
      obtain ⟨b, pl, pr, rfl, hb, hl, hr⟩ := hU
      obtain ⟨d, _, _, _, rfl, hd, cl⟩ := Rep.some hl
      have c0 := (cells_of hb).c0
      have c1 := (cells_of hb).c1
      have d3 := cl.c3
      have hk2 : 1 + max x.ht y.ht ≤ gk := hn
      have hm' : m < x.size + y.size := hm
      have hUs' : x.size + y.size ≤ 1000000000 := hUs
      clear hb hm hUs hn cl
      by_cases hx : m < x.size
      · have hx' : (m : Int) < (x.size : Int) := by omega
        go_wp2_with (go_at_call 47; refine (isLeaf_node _ _ _ _ hU').mono ?_; rintro e w' ⟨rfl, rfl⟩)
        go_roundg (gk - 1)
        case measure => omega
        case rel =>
          refine ⟨_, _, _, rfl, rfl, hl, hx, ?_, by omega, by omega, rfl⟩
          have := HM.out
          simp only [BT.text] at this
          rwa [List.getElem?_append_left (by rw [x.text_length]; exact hx)] at this
      · have hx' : (x.size : Int) ≤ (m : Int) := by omega
        obtain ⟨j, hj⟩ : ∃ j, j = m - x.size := ⟨_, rfl⟩
        have hdj : (m : Int) - (x.size : Int) = (j : Int) := by omega
        have hjy : j < y.size := by omega
        have HJ := hid hj
        clear hj
        go_wp2_with (go_at_call 47; refine (isLeaf_node _ _ _ _ hU').mono ?_; rintro e w' ⟨rfl, rfl⟩)
        go_roundg (gk - 1)
        case measure => omega
        case rel =>
          refine ⟨_, _, j, rfl, rfl, hr, hjy, ?_, by omega, by omega, rfl⟩
          have := HM.out
          simp only [BT.text] at this
          rwa [List.getElem?_append_right (by rw [x.text_length]; omega), x.text_length, ← HJ.out] at this

set_option maxRecDepth 100000 in
set_option maxHeartbeats 2000000 in
theorem Byte_ok (p : Option Addr) (l : List UInt8) (w : World) (h : Rope w p l) (k : Nat) (c : UInt8) (hc : l[k]? = some c) (hs : l.length ≤ 1000000000) :
    Calls Try.prog 19 #[.agg #[.pointer p], .int .i64 k] w fun e w' => e = .returned (.tuple #[.int .u8 c.toNat, .int .i64 0]) ∧ Below w.heap.size w w' := by
  obtain ⟨O, hO, ht⟩ := h.ex
  have hk : k < l.length := (List.getElem?_eq_some_iff.1 hc).1
  cases O with
  | none => rw [← ht] at hk; simp [olv, tx] at hk
  | some T =>
    have hT : T.text = l := by rw [T.text_lv]; exact ht
    have hsz : T.size = l.length := by rw [← T.text_length, hT]
    have HX := hid (And.intro hT (And.intro hsz hc))
    have hki : (k : Int) < (l.length : Int) := by omega
    have hk0 : (0 : Int) ≤ (k : Int) := by omega
    clear hT hsz hc ht
    have b1 : Below w.heap.size w (w.alloc (.cells #[.pointer p] 26)) := (Below.refl _ _).alloc (Nat.le_refl _) _
    go_enter Try.func19, Try.ntmps19
    go_wp2_with (first
      | (go_at_call 25; refine (Len_any p l _ (h.below b1)).mono ?_; rintro e w1 ⟨rfl, hb⟩; have hbx := box_after w _ _ hb; have c0 := cell_of_one hbx; have hb1 := b1.trans (hb.mono (by simp)))
      | (go_at_call 36; refine (byteAt_any T p _ ((show Rep w p T from hO.rep).below hb1) k (by rw [HX.out.2.1]; exact hk) c (by rw [HX.out.1]; exact HX.out.2.2) (by rw [HX.out.2.1]; exact hs)).mono ?_; rintro e w2 ⟨rfl, rfl⟩))
    go_ret2
    exact ⟨rfl, hb1⟩

set_option maxRecDepth 100000 in
set_option maxHeartbeats 2000000 in
theorem Byte_no (p : Option Addr) (l : List UInt8) (w : World) (h : Rope w p l) (k : Int) (hk : k < 0 ∨ (l.length : Int) ≤ k) :
    Calls Try.prog 19 #[.agg #[.pointer p], .int .i64 k] w fun e w' => e = .returned (.tuple #[.int .u8 0, .int .i64 2]) ∧ Below w.heap.size w w' := by
  have b1 : Below w.heap.size w (w.alloc (.cells #[.pointer p] 26)) := (Below.refl _ _).alloc (Nat.le_refl _) _
  by_cases hx : k < 0
  · go_enter Try.func19, Try.ntmps19
    go_wp2
    go_ret2
    exact ⟨rfl, b1⟩
  · have hy : (l.length : Int) ≤ k := by omega
    have hz : 0 ≤ k := by omega
    go_enter Try.func19, Try.ntmps19
    go_wp2_with (go_at_call 25; refine (Len_any p l _ (h.below b1)).mono ?_; rintro e w1 ⟨rfl, hb⟩; have hbx := box_after w _ _ hb; have c0 := cell_of_one hbx; have hb1 := b1.trans (hb.mono (by simp)))
    go_ret2
    exact ⟨rfl, hb1⟩

set_option maxHeartbeats 400000 in
theorem split_none (w : World) :
    Calls Try.prog 30 #[.pointer none, .int .i64 0] w fun e w' => e = .returned (.tuple #[.pointer none, .pointer none]) ∧ w = w' := by
  go_enter Try.func30, Try.ntmps30
  go_wp2
  go_ret2
  exact ⟨rfl, rfl⟩
theorem split_opt (O : Option BT) (p : Option Addr) (k : Nat) (w : World) (h : OG w p O) (hk : k ≤ osz O) (hs : osz O ≤ 400000000) :
    Calls Try.prog 30 #[.pointer p, .int .i64 k] w fun e w' => ∃ (p1 p2 : Option Addr) (O1 O2 : Option BT), e = .returned (.tuple #[.pointer p1, .pointer p2]) ∧ OG w' p1 O1 ∧ OG w' p2 O2 ∧
      tx (olv O1) = (tx (olv O)).take k ∧ tx (olv O2) = (tx (olv O)).drop k ∧ Below w.heap.size w w' := by
  cases O with
  | none =>
    obtain rfl : p = none := h.rep
    obtain rfl : k = 0 := Nat.le_zero.1 hk
    refine (split_none w).mono ?_
    rintro e w' ⟨rfl, rfl⟩
    exact ⟨none, none, none, none, rfl, OG.nil _, OG.nil _, rfl, rfl, Below.refl _ _⟩
  | some T =>
    refine (split_any T p k w h hk hs).mono ?_
    rintro e w' ⟨p1, p2, O1, O2, rfl, g1, g2, t1, t2, hb⟩
    exact ⟨p1, p2, O1, O2, rfl, g1, g2, by rw [t1, T.text_lv]; rfl, by rw [t2, T.text_lv]; rfl, hb⟩

set_option maxRecDepth 100000 in
set_option maxHeartbeats 4000000 in
theorem Replace_ok (p : Option Addr) (l : List UInt8) (w : World) (h : Rope w p l) (at' del : Nat) (ins : ByteArray) (h1 : at' + del ≤ l.length) (hs : l.length ≤ 400000000) (hi : ins.size ≤ 100000000) :
    Calls Try.prog 15 #[.agg #[.pointer p], .agg #[.int .i64 at', .int .i64 del, .string ins]] w fun e w' => ∃ r : Option Addr, e = .returned (.tuple #[.agg #[.pointer r], .int .i64 0]) ∧
      Rope w' r (l.take at' ++ ins.data.toList ++ l.drop (at' + del)) ∧ Below w.heap.size w w' := by
  obtain ⟨W, hW⟩ : ∃ W : World, W = ((w.alloc (.cells #[.pointer p] 26)).alloc (.cells #[.int .i64 at', .int .i64 del, .string ins] 32)).alloc (.cells #[.pointer none] 26) := ⟨_, rfl⟩
  have bW : Below w.heap.size w W := by rw [hW]; exact (((Below.refl _ _).alloc (Nat.le_refl _) _).alloc (by simp) _).alloc (by simp; omega) _
  have hsz : W.heap.size = w.heap.size + 3 := by rw [hW]; simp
  have hB0 : W.heap[w.heap.size]? = some (.cells #[.pointer p] 26 (0, 0)) := by
    rw [hW, Below.heap_alloc _ _ _ (by simp; omega), Below.heap_alloc _ _ _ (by simp)]; exact alloc_new _ _
  have hB1 : W.heap[w.heap.size + 1]? = some (.cells #[.int .i64 at', .int .i64 del, .string ins] 32 (0, 0)) := by
    rw [hW, Below.heap_alloc _ _ _ (by simp)]
    have := alloc_new (w.alloc (.cells #[.pointer p] 26)) (.cells #[.int .i64 at', .int .i64 del, .string ins] 32)
    simpa using this
  have hB2 : W.heap[w.heap.size + 1 + 1]? = some (.cells #[.pointer none] 26 (0, 0)) := by
    rw [hW]
    have := alloc_new ((w.alloc (.cells #[.pointer p] 26)).alloc (.cells #[.int .i64 at', .int .i64 del, .string ins] 32)) (.cells #[.pointer none] 26)
    simpa using this
  have Keep := hid (show ∀ W', Below W.heap.size W W' → W'.cell? ⟨w.heap.size, 0, none⟩ = some (.pointer p) ∧ W'.cell? ⟨w.heap.size + 1, 0, none⟩ = some (.int .i64 at') ∧ W'.cell? ⟨w.heap.size + 1, 1, none⟩ = some (.int .i64 del) ∧
      W'.cell? ⟨w.heap.size + 1, 2, none⟩ = some (.string ins) ∧ W'.heap[w.heap.size + 1 + 1]? = some (.cells #[.pointer none] 26 (0, 0)) from fun W' hb => by
    have e0 := hb.block w.heap.size (by omega)
    have e1 := hb.block (w.heap.size + 1) (by omega)
    have e2 := hb.block (w.heap.size + 1 + 1) (by omega)
    refine ⟨?_, ?_, ?_, ?_, e2.trans hB2⟩
    · show World.cell? W' ⟨w.heap.size, 0, none⟩ = _; unfold World.cell?; rw [e0, hB0]; rfl
    · show World.cell? W' ⟨w.heap.size + 1, 0, none⟩ = _; unfold World.cell?; rw [e1, hB1]; rfl
    · show World.cell? W' ⟨w.heap.size + 1, 1, none⟩ = _; unfold World.cell?; rw [e1, hB1]; rfl
    · show World.cell? W' ⟨w.heap.size + 1, 2, none⟩ = _; unfold World.cell?; rw [e1, hB1]; rfl)
  obtain ⟨k0, k1, k2, k3, k4⟩ := Keep.out _ (Below.refl _ W)
  have HW := hid hW
  have hRW := h.below bW
  have HSZ := hid hsz
  have hle : w.heap.size ≤ W.heap.size := by omega
  clear hB0 hB1 hB2 hsz hW k4
  have a0 : (0 : Int) ≤ (at' : Int) := by omega
  have a1 : (0 : Int) ≤ (del : Int) := by omega
  have a2 : (at' : Int) ≤ (l.length : Int) := by omega
  have a3 : (del : Int) ≤ (l.length : Int) - (at' : Int) := by omega
  have g1 : decide (l.length < at') = false := by simp; omega
  have g2 : decide ((l.length : Int) - (at' : Int) < (del : Int)) = false := by simp; omega
  have e4 : IntKind.i64.wrap (↑l.length - ↑at') = (l.length : Int) - (at' : Int) := wrapIn (by omega) (by omega)
  go_enter Try.func15, Try.ntmps15
  go_wp2
  rw [← HW.out]
  go_region_held3 (fun w' => w'.cell? ⟨w.heap.size, 0, none⟩ = some (.pointer p) ∧ w'.cell? ⟨w.heap.size + 1, 0, none⟩ = some (.int .i64 at') ∧ w'.cell? ⟨w.heap.size + 1, 1, none⟩ = some (.int .i64 del))
    (first | exact ⟨k0, k1, k2⟩ | exact ⟨(Keep.out _ hb1).1, (Keep.out _ hb1).2.1, (Keep.out _ hb1).2.2.1⟩ | exact ⟨(Keep.out _ hb2).1, (Keep.out _ hb2).2.1, (Keep.out _ hb2).2.2.1⟩)
    (first
      | (go_at_call 25; (with_reducible refine (Len_any p l W.drew (hRW.below (Below.refl _ _).drew)).mono ?_); rintro e w1 ⟨rfl, hb10⟩; have hb1 := undrew hb10)
      | (go_at_call 25; (with_reducible refine (Len_any p l w1 (hRW.below hb1)).mono ?_); rintro e w2 ⟨rfl, hb20⟩; have hb2 := hb1.trans (hb20.mono hb1.size)))
  obtain ⟨z0, z1, z2, z3, _⟩ := Keep.out _ hb2
  obtain ⟨O, hO, ht⟩ := hRW.ex
  have hosz : osz O = l.length := by rw [osz_tx, ht]
  have HO := hid (And.intro ht hosz)
  clear ht hosz
  go_wp2_with fail
  refine (split_opt O p at' w2 (hO.below hb2) (by rw [HO.out.2]; omega) (by rw [HO.out.2]; exact hs)).mono ?_
  rintro e w3 ⟨p1, p2, O1, O2, rfl, g1', g2', t1, t2, hb30⟩
  have T1 := hid t1
  have T2 := hid t2
  have hb3 := hb2.trans (hb30.mono hb2.size)
  obtain ⟨y0, y1, y2, y3, _⟩ := Keep.out _ hb3
  have o1 : osz O1 ≤ at' := by rw [osz_tx, t1, List.length_take]; omega
  have o2 : osz O2 = l.length - at' := by rw [osz_tx, t2, List.length_drop, HO.out.1]
  have o2' : del ≤ osz O2 := by omega
  have o2'' : osz O2 ≤ 400000000 := by omega
  clear t1 t2 o2 z0 z1 z2 z3 k0 k1 k2 k3
  go_wp2_with fail
  refine (split_opt O2 p2 del w3 g2' o2' o2'').mono ?_
  rintro e w4 ⟨p3, p4, O3, O4, rfl, g3, g4, t3, t4, hb40⟩
  have T4 := hid t4
  have hb4 := hb3.trans (hb40.mono hb3.size)
  obtain ⟨x0, x1, x2, x3, _⟩ := Keep.out _ hb4
  have o4 : osz O4 ≤ 400000000 := by rw [osz_tx, t4, List.length_drop, ← osz_tx]; omega
  clear t3 t4 y0 y1 y2 y3
  go_wp2_with fail
  refine (fromText_any ins w4 hi).mono ?_
  rintro e w5 ⟨p5, O5, rfl, g5, t5, hb50⟩
  have T5 := hid t5
  have o5 : osz O5 = ins.size := by rw [osz_tx, t5]; simp
  have o15 : osz O1 + osz O5 ≤ 500000000 := by omega
  have hb5 := hb4.trans (hb50.mono hb4.size)
  clear t5 o5
  go_wp2_with fail
  refine (join_any p1 p5 O1 O5 w5 ((g1'.below hb40).below hb50) g5 (by omega)).mono ?_
  rintro e w6 ⟨p6, O6, rfl, g6, t6, hb60⟩
  have T6 := hid t6
  have hb6 := hb5.trans (hb60.mono hb5.size)
  have o6 : osz O6 = osz O1 + osz O5 := by rw [osz_tx, t6, List.length_append, ← osz_tx, ← osz_tx]
  have o6' : osz O6 + osz O4 ≤ 900000000 := by omega
  clear t6 o6
  go_wp2_with fail
  refine (join_any p6 p4 O6 O4 w6 g6 ((g4.below hb50).below hb60) o6').mono ?_
  rintro e w7 ⟨p7, O7, rfl, g7, t7, hb70⟩
  have hb7 := hb6.trans (hb70.mono hb6.size)
  obtain ⟨_, _, _, _, hbx⟩ := Keep.out _ hb7
  have c0 := cell_of_one hbx
  have f0 := free_of_one hbx
  have R := hid (g7.rope (l := l.take at' ++ ins.data.toList ++ l.drop (at' + del)) (by rw [t7, T6.out, T1.out, T5.out, T4.out, T2.out, HO.out.1, List.drop_drop]))
  clear t7 x0 x1 x2 x3
  go_wp2
  exact bodyPost_ret (v := .tuple #[.agg #[.pointer p7], .int .i64 0]) (by simp [results, Try.results15, go_sem, c0]) rfl ⟨p7, rfl, R.out.setBox hbx, (bW.trans (hb7.mono hle)).setCell (by show w.heap.size ≤ _; simp; omega) _⟩

end Go.Proofs.Ytaafnodabjbakaa
