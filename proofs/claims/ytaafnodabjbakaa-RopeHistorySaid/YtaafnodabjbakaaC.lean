/-
  Contracts: the height bound, a balanced node (balanced), two trees joined (link), the last block replaced, the first one removed.
-/
import Derived.Test.YtaafnodabjbakaaB
namespace Go.Proofs.Ytaafnodabjbakaa
open Go.RowKit Rp

theorem bitLenAux_eq : ∀ (f x : Nat), x < 2 ^ f → Lib.bitLenAux f x = bl x
  | 0, x, h => by
    have : x = 0 := by simpa using h
    subst this; rfl
  | f + 1, x, h => by
    unfold Lib.bitLenAux
    by_cases h0 : x = 0
    · simp [h0, bl]
    · rw [if_neg h0, bitLenAux_eq f (x / 2) (by rw [Nat.pow_succ] at h; omega)]
      unfold bl
      rw [if_neg h0]
      by_cases h1 : x / 2 = 0
      · have : x = 1 := by omega
        subst this; simp [Nat.log2_def]
      · rw [if_neg h1, Nat.log2_def x, if_pos (by omega)]; omega
theorem bitLen_eq {x : Nat} (h : x < 2 ^ 64) : Lib.bitLen x = bl x := bitLenAux_eq 64 x h

set_option maxHeartbeats 400000 in
theorem heightBound_any (n : Nat) (hn : n ≤ 1000000000) (w : World) :
    Calls Try.prog 54 #[.int .i64 n] w fun e w' => e = .returned (.int .i64 (hb n)) ∧ w = w' := by
  by_cases h : n ≤ 64
  · have h' : (n : Int) ≤ 64 := by omega
    go_enter Try.func54, Try.ntmps54
    go_wp2
    go_ret
    exact ⟨ret_int (by unfold hb; rw [if_pos h]; rfl), rfl⟩
  · have h' : (64 : Int) < (n : Int) := by omega
    obtain ⟨m, hm⟩ : ∃ m, m = (n - 1) / 64 := ⟨_, rfl⟩
    have hd : ((n : Int) - 1) / 64 = (m : Int) := by omega
    have hm1 : (m : Int) ≤ 1000000000 := by omega
    have hm0 : (0 : Int) ≤ (m : Int) := by omega
    have hbl : bl m ≤ 62 := bl_le (by omega)
    have hbe := bitLen_eq (x := m) (by omega)
    have HF := hid (show (hb n : Int) = 2 * (bl m : Int) + 2 by unfold hb; rw [if_neg h, ← hm]; omega)
    have hle : Lib.bitLen m ≤ 62 := by rw [hbe]; exact hbl
    have HE := hid hbe
    clear hbe hm
    go_enter Try.func54, Try.ntmps54
    go_wp2_with (go_at_call 56; refine (Try.bits_Len _ _ (by omega) (by omega)).mono ?_; rw [Int.toNat_natCast]; rintro e w' ⟨rfl, rfl⟩)
    go_ret
    exact ⟨ret_int (by rw [HF.out, HE.out]), rfl⟩

theorem own_shape {w : World} {B : Nat} {v : Value} {ys : List (Option Addr)} (h : w.ownsRow B 24 1 v ys.length (ys.map Value.pointer)) (hne : ys ≠ []) :
    ∃ g cap, v = .slice (some ⟨g, 0, none⟩) ys.length cap ∧ ys.length ≤ cap ∧ cap ≤ 9223372036854775807 ∧ At w g 0 ys ∧ g < w.heap.size := by
  rcases h.2 with ⟨_, h0⟩ | ⟨g, cap, cur, rfl, _, hg, hn, hc, _, ht⟩
  · exact absurd (List.length_eq_zero_iff.1 h0) hne
  · refine ⟨g, cap, rfl, hn, hc, ?_, heap_lt hg⟩
    intro j q hj
    have hlt : j < ys.length := (List.getElem?_eq_some_iff.1 hj).1
    have h1 : (cur.toList.take (ys.length * 1))[j]? = some (Value.pointer q) := by rw [ht, List.getElem?_map, hj]; rfl
    rw [List.getElem?_take, if_pos (by omega)] at h1
    show World.cell? w ⟨g, 0 + j, none⟩ = _
    unfold World.cell?
    rw [hg]
    simpa using h1

theorem first_of {T a : BT} {r : List ByteArray} (h : T.lv = a.lv ++ r) : T.first = a.first := by
  have h1 := T.head_lv
  rw [h, List.head?_append, a.head_lv] at h1
  simpa using h1.symm

set_option maxRecDepth 100000 in
set_option maxHeartbeats 2000000 in
theorem balanced_any (pl pr : Option Addr) (l r : BT) (w : World) (hl : Rep w pl l) (hr : Rep w pr r) (kl : l.hok) (kr : r.hok) (ht : Tight (l.lv ++ r.lv)) (hs : l.size + r.size ≤ 1000000000) :
    Calls Try.prog 51 #[.pointer pl, .pointer pr] w fun e w' => ∃ (p : Option Addr) (T : BT), e = .returned (.pointer p) ∧ Rep w' p T ∧ T.hok ∧ T.lv = l.lv ++ r.lv ∧ Below w.heap.size w w' := by
  have hlh : l.ht ≤ 130 := Nat.le_trans (Good.ht_le ⟨kl, ht.left⟩) (hb_le (by omega))
  have hrh : r.ht ≤ 130 := Nat.le_trans (Good.ht_le ⟨kr, ht.right⟩) (hb_le (by omega))
  obtain ⟨N, hN⟩ : ∃ N, N = BT.node l r := ⟨_, rfl⟩
  have hNs : N.size ≤ 1000000000 := by rw [hN]; exact hs
  have hNh : N.ht ≤ 131 := by rw [hN]; simp only [BT.ht]; omega
  have hNl : N.lv = l.lv ++ r.lv := by rw [hN]; rfl
  have hNk : N.ht ≤ hb N.size → N.hok := by rw [hN]; exact fun h => ⟨kl, kr, h⟩
  have hc : N.lv.length ≤ 1000000000 := by
    have := tight_sz _ N.lv rfl (by rw [hNl]; exact ht)
    rw [← N.size_lv] at this; omega
  have HN := hid (And.intro hN (And.intro hNl hNk))
  have HT := hid ht
  have hin := inner_any pl pr l r w hl hr hs (by omega) (by omega)
  rw [← hN] at hin
  have HI := hid hin
  clear hN hNl hNk hin ht kl kr hl hr
  by_cases hx : hb N.size < N.ht
  · go_enter Try.func51, Try.ntmps51
    go_wp2_with (go_at_call 50; refine HI.out.mono ?_; rintro e w1 ⟨p, rfl, hp, hb1⟩; obtain ⟨b, x1, x2, s, rfl, hbb, cl⟩ := Rep.some hp; have y1 := cl.c3; have y2 := cl.c4; clear cl)
    go_region_held3 (fun w' => w'.cell? ⟨b, 3, none⟩ = some (.int .i64 N.size) ∧ w'.cell? ⟨b, 4, none⟩ = some (.int .i64 N.ht)) (first | exact ⟨y1, y2⟩)
      (first | (go_at_call 54; refine (heightBound_any N.size hNs _).mono ?_; rintro e w' ⟨rfl, rfl⟩))
    go_wp2_with (first
      | (go_at_call 55; refine (leaves_any N w1.drew w1.drew _ (.slice none 0 0) [] (hp.below (Below.refl _ _).drew) (Below.refl _ _) (World.ownsRow_nil _ _ _ _) (by simpa using hc)).mono ?_
         rintro e w2 ⟨v2, ys, rfl, hr2, hb2, hown2⟩
         obtain ⟨g, cap, rfl, hc1, hc2, hat, hg⟩ := own_shape (ys := ys) hown2 (by intro h; subst h; exact N.lv_ne (List.length_eq_zero_iff.1 hr2.length.symm)))
      | (go_at_call 41; refine (build_any ys.length ys N.lv w2 g 0 cap rfl (by rw [hr2.length]; exact List.length_pos_iff.2 N.lv_ne) hc1 hc2 hat hg (hr2.below hb2) (by rw [HN.out.2.1]; exact HT.out) (by rw [← N.size_lv]; exact hNs) (by rw [hr2.length]; exact hc)).mono ?_
         rintro e w3 ⟨p3, T3, rfl, hr3, hl3, hk3, _, hb3⟩))
    go_ret
    have hb12 := undrew hb2
    exact ⟨p3, T3, rfl, hr3, hk3, by rw [hl3, HN.out.2.1], hb1.trans ((hb12.mono hb1.size).trans (hb3.mono (Nat.le_trans hb1.size hb12.size)))⟩
  · go_enter Try.func51, Try.ntmps51
    go_wp2_with (go_at_call 50; refine HI.out.mono ?_; rintro e w1 ⟨p, rfl, hp, hb1⟩; obtain ⟨b, x1, x2, s, rfl, hbb, cl⟩ := Rep.some hp; have y1 := cl.c3; have y2 := cl.c4; clear cl)
    go_region_held3 (fun w' => w'.cell? ⟨b, 3, none⟩ = some (.int .i64 N.size) ∧ w'.cell? ⟨b, 4, none⟩ = some (.int .i64 N.ht)) (first | exact ⟨y1, y2⟩)
      (first | (go_at_call 54; refine (heightBound_any N.size hNs _).mono ?_; rintro e w' ⟨rfl, rfl⟩))
    go_wp2
    go_ret
    exact ⟨_, N, rfl, hp.below (Below.refl _ _).drew, HN.out.2.2 (by omega), HN.out.2.1, hb1.drew⟩

end Go.Proofs.Ytaafnodabjbakaa
