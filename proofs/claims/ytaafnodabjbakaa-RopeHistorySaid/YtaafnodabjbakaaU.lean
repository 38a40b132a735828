/-
  Contracts: Chunks, its iterator, String.
-/
import Derived.Test.YtaafnodabjbakaaV
import Derived.Test.YtaafnodabjbakaaS
namespace Go.Proofs.Ytaafnodabjbakaa
open Go.RowKit Rp Go.Shelf

attribute [local go_sem] Oper.semAt_some

theorem yield_any {P : Program} {m m' l : Nat} {args : Array Value} {W : World} {R : Ending → World → Prop} (h : YieldAt Fence.wide m P l args W R) : YieldAt Fence.wide m' P l args W R := by
  obtain ⟨fn, tmps, assign, body, hy, hR⟩ := h
  exact ⟨fn, tmps, assign, body, hy, ⟨hR.1, fun c cs _ => hR.2 c cs (room_wide _)⟩⟩

theorem grow_drew {w w' : World} (h : w.drew.grownBy w' none) : w.grownBy w' none := ⟨h.os, h.tape, h.output, h.size, h.block⟩
theorem grow_below {n : Nat} {w w' : World} (hn : n ≤ w.heap.size) (h : w.drew.grownBy w' none) : Below n w.drew w' := ⟨h.os, h.tape, h.output, h.size, fun k hk => h.block k (Nat.lt_of_lt_of_le hk hn) (by simp)⟩
set_option maxHeartbeats 400000 in
/-- Len lays one new block and turns nothing. -/
theorem Len_grow (p : Option Addr) (l : List UInt8) (w : World) (h : Rope w p l) :
    Calls Try.prog 25 #[.agg #[.pointer p]] w fun e w' => e = .returned (.int .i64 l.length) ∧ w.grownBy w' none := by
  obtain ⟨O, hO, ht⟩ := h.ex
  have HL := hid (show osz O = l.length by rw [osz_tx, ht])
  clear ht
  go_enter Try.func25, Try.ntmps25
  go_wp2_with (go_at_call 38; refine (length_any p O _ (hO.rep.below ((Below.refl _ _).alloc (Nat.le_refl _) _))).mono ?_; rintro e w1 ⟨rfl, rfl⟩)
  go_ret
  exact ⟨ret_int (by rw [HL.out]), World.grownBy_alloc w _ none⟩

/-- visit over the whole of a rope. -/
theorem visit_rope (l n₀ : Nat) (W0 : World) (h0 : n₀ = W0.heap.size) (p : Option Addr) (t : List UInt8) (hR : Rope W0 p t) (hs : t.length ≤ 1000000000) (J Jx : List Pc → World → Prop)
    (hJg : ∀ pre W W', J pre W → W.grownBy W' none → J pre W')
    (hY : ∀ m pre x W, J pre W → pre.length < t.length → YieldAt Fence.wide m Try.prog l #[.string x.1] W fun e W' =>
      (e = .returned (.bool true) ∧ J (pre ++ [x]) W' ∧ Below n₀ W W') ∨ (e = .returned (.bool false) ∧ Jx (pre ++ [x]) W'))
    (W : World) (hb : Below n₀ W0 W) (hJ : J [] W) :
    Calls Try.prog 32 #[.pointer p, .int .i64 0, .int .i64 t.length, .func (.yield l) #[] #[]] W fun e W' =>
      ∃ b : Bool, e = .returned (.bool b) ∧ ((∃ xs, px xs = t ∧ J xs W') ∨ (∃ pre, px pre <+: t ∧ Jx pre W')) := by
  obtain ⟨O, hO, ht⟩ := hR.ex
  cases O with
  | none =>
    obtain rfl : p = none := hO.rep
    refine (visit_nil _ _ _ W).mono ?_
    rintro e W' ⟨rfl, rfl⟩
    exact ⟨true, rfl, .inl ⟨[], ht, hJ⟩⟩
  | some T =>
    have hT : T.text = t := by rw [T.text_lv]; exact ht
    have hTs : T.size = t.length := by rw [← T.text_length, hT]
    obtain ⟨vs, hvs⟩ := lift_pc _ (vis_size T 0 t.length hO.tight)
    have hpx : px vs = t := by
      unfold px
      rw [hvs, vis_tx, hT, hTs]
      have e1 : (max (0 : Int) 0).toNat = 0 := by omega
      have e2 : (min (t.length : Int) (t.length : Int) - max (0 : Int) 0).toNat = t.length := by omega
      rw [e1, e2, List.drop_zero, List.take_length]
    have hvl : vs.length ≤ t.length := by
      have h1 := (px_len vs).1
      rwa [hpx] at h1
    refine (visit_in l n₀ t.length W0 h0 J Jx hJg hY T p 0 t.length vs [] W hO.rep hb hO.tight (by rw [hTs]; exact hs) (by omega) (by omega) (by omega) (by omega) hvs hJ (by simpa using hvl)).mono ?_
    rintro e W' (⟨rfl, hj, _⟩ | ⟨rfl, q, hq, hx⟩)
    · exact ⟨true, rfl, .inl ⟨vs, hpx, hj⟩⟩
    · refine ⟨false, rfl, .inr ⟨q, ?_, hx⟩⟩
      obtain ⟨r, hr⟩ := hq
      rw [← hpx, ← hr, px_append]
      exact List.prefix_append _ _

set_option maxHeartbeats 400000 in
theorem Chunks_any (p : Option Addr) (w : World) :
    Calls Try.prog 24 #[.agg #[.pointer p]] w fun e w' => e = .returned (.func (.func 37) #[] #[.pointer (some ⟨w.heap.size, 0, none⟩)]) ∧ w' = w.alloc (.cells #[.pointer p] 26) := by
  go_enter Try.func24, Try.ntmps24
  go_wp2
  go_ret
  exact ⟨rfl, rfl⟩

set_option maxRecDepth 100000 in
set_option maxHeartbeats 4000000 in
theorem chunks_stops (n Bt n₀ : Nat) (w0 : World) (p : Option Addr) (t : List UInt8) (hs : t.length ≤ 1000000000) (W0 : World) (h0 : n₀ = W0.heap.size) (hR : Rope W0 p t) (hW0 : Below n₀ W0 w0) (hBt : w0.heap[Bt]? = some (.cells #[.pointer p] 26 (0, 0))) :
    SeqStopsK Fence.wide n Try.prog 37 #[.pointer (some ⟨Bt, 0, none⟩)] (fun x : Pc => #[Value.string x.1]) (Below n₀) (fun ys => px ys = t) (fun pre => px pre <+: t) t.length w0 := by
  intro l J Jx W hW hJ hJx hY hJ0
  refine callsIn_wide.2 ?_
  have hn0 : n₀ ≤ w0.heap.size := by rw [h0]; exact hW0.size
  have hbW : Below n₀ W0 W := hW0.trans (hW.mono hn0)
  have hbx : W.heap[Bt]? = some (.cells #[.pointer p] 26 (0, 0)) := (hW.block Bt (heap_lt hBt)).trans hBt
  have c0 := cell_of_one hbx
  have HV := hid (visit_rope l n₀ W0 h0 p t hR hs J Jx (fun pre W W' hj hg => hJ _ _ _ none hj (hg) (fun r e => by cases e) ) (fun m pre x W hj hl => yield_any (hY pre x W hj hl)))
  have hRW : Rope W p t := by
    obtain ⟨O, g1, g2⟩ := hR.ex
    refine ⟨O, ⟨?_, g1.hok, g1.tight⟩, g2⟩
    have := g1.rep
    cases O with
    | none => exact this
    | some T => exact Rep.later (by omega) hbW this
  have HR := hid hRW
  have HJ := hid (show ∀ W', W.grownBy W' none → J [] W' from fun W' hg => hJ _ _ _ none hJ0 hg (fun r e => by cases e))
  have HX := hid hbx
  have hnW : n₀ ≤ W.heap.size := by rw [h0]; exact hbW.size
  clear hY hJ hJx hJ0 hW hBt hRW hbx hR hW0
  show Calls Try.prog 37 #[.func (.yield l) #[] #[], .pointer (some ⟨Bt, 0, none⟩)] W _
  go_enter Try.func37, Try.ntmps37
  go_wp2
  go_region_with (first
    | (go_at_call 25; (with_reducible refine (Len_grow p t W.drew (HR.out.below (Below.refl _ _).drew)).mono ?_); rintro e w1 ⟨rfl, hg1⟩; have hb1 := hbW.drew.trans (grow_below hnW hg1); have hb2 := hg1.size; have d0 : w1.cell? ⟨Bt, 0, none⟩ = some (.pointer p) := cell_of_one ((hg1.block Bt (heap_lt HX.out) (by simp)).trans HX.out))
    | (go_at_call 32; (with_reducible refine (HV.out w1 hb1 (HJ.out _ (grow_drew hg1))).mono ?_); rintro e w2 ⟨bv, rfl, hq⟩))
  all_goals go_wp2
  all_goals go_end0
  all_goals exact ⟨⟨_, rfl⟩, hq⟩

end Go.Proofs.Ytaafnodabjbakaa
