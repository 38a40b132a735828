/-
  Contracts: at, right, awake.
-/
import Derived.Test.YtcfcbemfnibaeaaB
import Derived.Test.YtcfcbemfnibaeaaFr
import Derived.Deep.CutRange
import Derived.Deep.CutBlock

namespace Go.Proofs.Ytcfcbemfnibaeaa
open Go.RowKit Go.Frame

theorem at_any (n : Int) (w : World) : Calls Try.prog 14 #[.int .i64 n] w fun e w' => e = .returned (.agg #[.int .i64 n, .bool false]) ∧ Below w.heap.size w w' := by
  go_enter Try.func14, Try.ntmps14
  go_wp2
  exact bodyPost_ret (v := .agg #[.int .i64 n, .bool false]) (by simp [results, Try.results14, go_sem]) rfl ⟨rfl, (Below.refl _ _).alloc (Nat.le_refl _) _⟩
theorem right_any (n : Int) (w : World) : Calls Try.prog 15 #[.int .i64 n] w fun e w' => e = .returned (.agg #[.int .i64 n, .bool true]) ∧ Below w.heap.size w w' := by
  go_enter Try.func15, Try.ntmps15
  go_wp2
  exact bodyPost_ret (v := .agg #[.int .i64 n, .bool true]) (by simp [results, Try.results15, go_sem]) rfl ⟨rfl, (Below.refl _ _).alloc (Nat.le_refl _) _⟩

def sAbc : ByteArray := ⟨#[97, 98, 99]⟩

theorem alloc_at (w : World) (o : Obj) {b : Nat} (h : w.heap.size = b) : (w.alloc o).heap[b]? = some o := by subst h; exact alloc_new _ _

theorem move_to (o a d : Int) (r : Bool) (s : ByteArray) (w : World) (h : Mid o a d s.size) (q : Int) (hq : mv o r a d s.size = q) :
    Calls Try.prog 10 #[.agg #[.int .i64 o, .bool r], .agg #[.int .i64 a, .int .i64 d, .string s]] w fun e w' => e = .returned (.agg #[.int .i64 q, .bool r]) ∧ Below w.heap.size w w' := by
  subst hq; exact move_any o a d r s w h

theorem mid2 : ∀ k e, [((3 : Int), (2 : Int), sAbc), (0, 1, ByteArray.empty)][k]? = some e → MidL (([((3 : Int), (2 : Int), sAbc), (0, 1, ByteArray.empty)].take k).foldl mvl [(6, false), (5, true)]) e := by
  intro k e he
  match k, he with
  | 0, he =>
    cases he
    intro x hx
    simp at hx
    rcases hx with rfl | rfl <;> (unfold Mid; decide)
  | 1, he =>
    cases he
    intro x hx
    simp [mvl] at hx
    rcases hx with rfl | rfl <;> (unfold Mid; decide)

set_option maxRecDepth 100000 in
set_option maxHeartbeats 4000000 in
theorem awake_any (w : World) : Calls Try.prog 9 #[] w fun e w' => e = .returned (.bool true) ∧ Below w.heap.size w w' := by
  have M1 := fun w => move_to 2 3 2 false { data := #[97, 98, 99] } w (by unfold Mid; decide) 2 (by decide)
  have M2 := fun w => move_to 3 3 2 false { data := #[97, 98, 99] } w (by unfold Mid; decide) 3 (by decide)
  have M3 := fun w => move_to 5 3 2 false { data := #[97, 98, 99] } w (by unfold Mid; decide) 3 (by decide)
  have M4 := fun w => move_to 6 3 2 false { data := #[97, 98, 99] } w (by unfold Mid; decide) 7 (by decide)
  have M5 := fun w => move_to 3 3 2 true { data := #[97, 98, 99] } w (by unfold Mid; decide) 6 (by decide)
  have M6 := fun w => move_to 6 3 2 true { data := #[97, 98, 99] } w (by unfold Mid; decide) 7 (by decide)
  go_enter Try.func9, Try.ntmps9
  go_wp2_with fail
  obtain ⟨W, hW⟩ : ∃ W, W = w.alloc (.cells #[.int .i64 3, .int .i64 2, .string { data := #[97, 98, 99] }] 25) := ⟨_, rfl⟩
  obtain ⟨B, hB⟩ : ∃ B, B = w.heap.size := ⟨_, rfl⟩
  rw [← hW, ← hB]
  have bW : Below w.heap.size w W := by rw [hW]; exact (Below.refl _ _).alloc (Nat.le_refl _) _
  have hbx : W.heap[B]? = some (.cells #[.int .i64 3, .int .i64 2, .string { data := #[97, 98, 99] }] 25 (0, 0)) := by rw [hW, hB]; exact alloc_new _ _
  have Keep := hid (show ∀ W', Below W.heap.size W W' → W'.cell? ⟨B, 0, none⟩ = some (.int .i64 3) ∧ W'.cell? ⟨B, 1, none⟩ = some (.int .i64 2) ∧ W'.cell? ⟨B, 2, none⟩ = some (.string { data := #[97, 98, 99] }) from fun W' hb => cells3 ((hb.block _ (heap_lt hbx)).trans hbx))
  have hle := bW.size
  clear hbx hW hB
  go_cut [2] from 4 to 10 (fun s2 wx => ∃ g cap, s2 = .slice (some ⟨g, 0, none⟩) 2 cap ∧ Anc wx g [(6, false), (5, true)] ∧ g < wx.heap.size ∧ 2 ≤ cap ∧ Below W.heap.size W wx)
  case first =>
    have k0 := Keep.out _ (Below.refl _ W)
    go_region_held3 (fun W' => W'.cell? ⟨B, 0, none⟩ = some (.int .i64 3) ∧ W'.cell? ⟨B, 1, none⟩ = some (.int .i64 2) ∧ W'.cell? ⟨B, 2, none⟩ = some (.string { data := #[97, 98, 99] }))
      (first | exact k0 | exact Keep.out _ h3 | exact Keep.out _ h1 | exact Keep.out _ h2 | exact Keep.out _ (h1.alloc h1.size _) | exact Keep.out _ (h2.alloc h2.size _) | exact Keep.out _ ((Below.refl _ _).alloc (Nat.le_refl _) _) | exact Keep.out _ ((Below.refl _ _).alloc (Nat.le_refl _) _).drew | exact Keep.out _ ((h2.alloc h2.size _).alloc (by have := h2.size; simp; omega) _))
      (first
        | (go_at_call 14; refine (at_any _ _).mono ?_; rintro e y1 ⟨rfl, g1⟩; have h1 : Below W.heap.size W y1 := Below.trans (by repeat (first | exact Below.refl _ _ | refine Below.drew ?_ | refine Below.alloc ?_ (by first | exact Nat.le_refl _ | (simp; done) | exact h1.size | exact h2.size) _)) (g1.mono (by first | exact Nat.le_refl _ | (simp; done) | (simp; omega))); try (have e35 : y1.heap[W.heap.size]? = some (.cells (ecells [(3, 2, sAbc), (0, 1, .empty)]).toArray 25 (0, 0)) := (g1.block _ (by simp)).trans (alloc_new _ _)))
        | (go_at_call 15; refine (right_any _ _).mono ?_; rintro e y2 ⟨rfl, g2⟩; have h2 : Below W.heap.size W y2 := Below.trans (by repeat (first | exact Below.refl _ _ | exact h1 | refine Below.drew ?_ | refine Below.alloc ?_ (by first | exact Nat.le_refl _ | (simp; done) | exact h1.size | exact h2.size) _)) (g2.mono (by first | exact h1.size | (have := h1.size; simp; omega))); (try (have e35 := (g2.block _ (heap_lt e35)).trans e35)); try (have e35 : y2.heap[y1.heap.size]? = some (.cells (ecells [(3, 2, sAbc), (0, 1, .empty)]).toArray 25 (0, 0)) := (g2.block _ (by simp)).trans (alloc_new _ _)))
        | (go_at_call 13; refine Calls.mono (moveAll_any _ 2 2 _ 2 2 [(6, false), (5, true)] [(3, 2, sAbc), (0, 1, .empty)] _ (by omega) (by omega) (by omega) (by omega) rfl rfl ?_ ?_ ?_ ?_ mid2) ?_; (· (refine anc_blk ?_; repeat (first | exact alloc_new _ _ | exact alloc_at _ _ (by simp; done) | exact e35 | refine blk_alloc ?_))); (· (refine eds_blk ?_; repeat (first | exact alloc_new _ _ | exact alloc_at _ _ (by simp; done) | exact e35 | refine blk_alloc ?_))); (· (first | (simp; done) | (have := h2.size; simp; omega))); (· (first | (simp; done) | (simp; omega) | (have := heap_lt e35; simp; omega))); rintro e y3 ⟨g, cap, rfl, hA, hgw, hgl, hcap, g3⟩; have h3 : Below W.heap.size W y3 := Below.trans (by repeat (first | exact h2 | refine Below.drew ?_ | refine Below.alloc ?_ (by have := h2.size; first | omega | (simp; omega)) _)) (g3.mono (by have := h2.size; simp; omega))))
    all_goals (go_wp2_with fail; go_meet)
    all_goals exact ⟨g, cap, rfl, hA, hgl, hcap, h3⟩
  case rest =>
    obtain ⟨g, cap, rfl, hA, hg, hcap, hb⟩ := hcut
    have HA := hid (show ∀ W', Below wc.heap.size wc W' → Anc W' g [(6, false), (5, true)] from fun W' h => hA.below hg h)
    have HW := hid (show ∀ W', Below wc.heap.size wc W' → Below W.heap.size W W' from fun W' h => hb.trans (h.mono hb.size))
    clear hA
    go_wp2_with fail
    refine wp_region_below (by kernel_rfl) (by kernel_rfl) ?_
    intro X f _ hf hs
    have k0 := fun x => (Keep.out _ (HW.out _ (hf.out x))).1
    have k1 := fun x => (Keep.out _ (HW.out _ (hf.out x))).2.1
    have k2 := fun x => (Keep.out _ (HW.out _ (hf.out x))).2.2
    have l0 := fun x => (HA.out _ (hf.out x) 0 (6, false) rfl).1
    have l1 := fun x => (HA.out _ (hf.out x) 0 (6, false) rfl).2.1
    have l2 := fun x => (HA.out _ (hf.out x) 1 (5, true) rfl).1
    have l3 := fun x => (HA.out _ (hf.out x) 1 (5, true) rfl).2.1
    have c2 : (2 : Int) ≤ (cap : Int) := by omega
    repeat (go_big_quiet_step (first
      | (go_at_call 14; exact calls_below hf hs (at_any _ _))
      | (go_at_call 15; exact calls_below hf hs (right_any _ _))
      | (go_at_call 10; with_reducible exact calls_below hf hs (M1 _))
      | (go_at_call 10; with_reducible exact calls_below hf hs (M2 _))
      | (go_at_call 10; with_reducible exact calls_below hf hs (M3 _))
      | (go_at_call 10; with_reducible exact calls_below hf hs (M4 _))
      | (go_at_call 10; with_reducible exact calls_below hf hs (M5 _))
      | (go_at_call 10; with_reducible exact calls_below hf hs (M6 _))))
    refine wpQuiet_nil ?_
    intro w' hw'
    go_wp2
    go_ret
    exact ⟨rfl, bW.trans ((HW.out _ hw').mono hle)⟩
end Go.Proofs.Ytcfcbemfnibaeaa
