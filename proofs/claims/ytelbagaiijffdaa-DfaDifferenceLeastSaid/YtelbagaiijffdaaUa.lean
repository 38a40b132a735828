/-
  Contract: slices.Repeat of one number.
-/
import Derived.Test.YtelbagaiijffdaaTn
import Derived.Laws.CopyRow
import Derived.Laws.IdiomCopy
set_option linter.unusedSimpArgs false
set_option linter.unusedVariables false
namespace Go.Proofs.Ytelbagaiijffdaa
open Go.RowKit Lx Go.Frame

/-- The first p of n numbers are x, the others 0. -/
def dbl (n : Nat) (x : Int) (p : Nat) : List Int := List.replicate p x ++ List.replicate (n - p) 0
theorem size3 : (Try.prog.info? 3).map (·.size) = some 1 := by kernel_rfl
theorem IB.row_set {W : World} {b : Nat} {l m : List Int} (h : IB W b l) : IB (W.setRow b (m.map iv).toArray) b m := setRow_heap _ _ _ _ _ _ h
theorem below_row (W : World) (b : Nat) (cs : Array Value) : Below b W (W.setRow b cs) := ⟨rfl, rfl, rfl, by simp, fun k hk => setRow_other _ _ _ _ (by omega)⟩
theorem copy_dbl {W : World} {b n p : Nat} {x : Int} (h : IB W b (dbl n x p)) (hp : p < n) (c1 c2 : Nat) :
    (Builtin.copy_ #[22, 22] 3 #[.slice (some ⟨b, p, none⟩) (n - p) c1, .slice (some ⟨b, 0, none⟩) p c2]).run Try.prog W = .ok (.int .i64 ((min p (n - p) : Nat) : Int)) (W.setRow b ((dbl n x (p + min p (n - p))).map iv).toArray) := by
  have hm : Nat.min p (n - p) = min p (n - p) := rfl
  have := run_copy_row (P := Try.prog) W 22 22 3 3 b p (n - p) c1 ⟨b, 0, none⟩ p c2 _ 3 ((List.replicate (min p (n - p)) x).map iv) Try.underlying22 size3 h (by rw [hm]; simp) (fun j v hj => by
    rw [List.getElem?_map] at hj
    obtain ⟨y, hy, rfl⟩ := Option.map_eq_some_iff.1 hj
    have hjl := (List.getElem?_eq_some_iff.1 hy).1
    have hyx : y = x := by rw [List.getElem?_replicate] at hy; split at hy <;> simp at hy; exact hy.symm
    simp only [List.length_replicate] at hjl
    have hh := h
    unfold IB at hh
    have : (⟨b, 0, none⟩ : Addr).add j = ⟨b, j, none⟩ := by unfold Addr.add; split <;> simp_all
    rw [this]
    simp only [World.cell?, hh]
    have h2 : (dbl n x p)[j]? = some x := by
      unfold dbl
      rw [List.getElem?_append_left (by simp; omega), List.getElem?_replicate, if_pos (by omega)]
    rw [hyx]
    simp [h2]) (by simp [dbl]; omega) (fun v hv => by
    obtain ⟨y, _, rfl⟩ := List.mem_map.1 hv
    rfl)
  rw [this]
  congr 1
  · simp [goInt]
  · congr 2
    simp only [List.length_map, List.length_replicate]
    rw [← List.map_take, ← List.map_drop, ← List.map_append, ← List.map_append]
    congr 1
    unfold dbl
    rw [List.take_append_of_le_length (by simp), List.take_of_length_le (by simp), List.drop_append, List.length_replicate, List.drop_replicate, List.drop_replicate]
    rw [show p - (p + min p (n - p)) = 0 by omega, show n - p - (p + min p (n - p) - p) = n - (p + min p (n - p)) by omega]
    rw [← List.replicate_append_replicate]
    simp
theorem copy_one {W : World} {b n : Nat} {x : Int} (h : IB W b (dbl n x 0)) (hn : 0 < n) (a1 : Option Addr) (c0 c1 : Nat) (hr : Row W a1 1 [iv x]) :
    (Builtin.copy_ #[22, 22] 3 #[.slice (some ⟨b, 0, none⟩) n c0, .slice a1 1 c1]).run Try.prog W = .ok (.int .i64 1) (W.setRow b ((dbl n x 1).map iv).toArray) := by
  obtain ⟨g, o, rfl, _, hc⟩ := hr.2.resolve_left (by omega)
  have h1 := hc 0 (iv x) rfl
  rw [Nat.add_zero] at h1
  have := run_copy_row (P := Try.prog) W 22 22 3 3 b 0 n c0 ⟨g, o, none⟩ 1 c1 _ 3 [iv x] Try.underlying22 size3 h (by show 1 = min 1 n; omega) (fun j v hj => by
    have hj0 : j = 0 := by have := (List.getElem?_eq_some_iff.1 hj).1; simp at this; omega
    subst hj0
    simp at hj; subst hj
    have : (⟨g, o, none⟩ : Addr).add 0 = ⟨g, o, none⟩ := by unfold Addr.add; split <;> simp_all
    rw [this]; exact h1) (by simp [dbl]; omega) (fun v hv => by simp at hv; subst hv; rfl)
  rw [this]
  congr 2
  congr 1
  simp only [List.take_zero, List.nil_append, Nat.zero_add, List.length_cons, List.length_nil]
  obtain ⟨k, rfl⟩ : ∃ k, n = k + 1 := ⟨n - 1, by omega⟩
  simp [dbl, List.replicate_succ]
set_option maxRecDepth 100000 in
set_option maxHeartbeats 4000000 in
theorem repeat_any (w : World) (a1 : Option Addr) (c1 : Nat) (n : Nat) (x : Int) (h1 : Row w a1 1 [iv x]) (hn0 : 0 < n) (hn1 : n ≤ 1000000) :
    Calls Try.prog 41 #[.slice a1 1 c1, .int .i64 (n : Int)] w (NRes w (List.replicate n x)) := by
  have C := hid (mul_any w n hn1)
  have H1 := hid h1
  have hmk := fun V => make_n V n hn1
  have e1 : IntKind.u64.wrap 1 = 1 := by rw [IntKind.wrap_u64]; rfl
  have en : IntKind.u64.wrap (n : Int) = (n : Int) := by rw [IntKind.wrap_u64]; omega
  have en' : IntKind.i64.wrap (n : Int) = (n : Int) := wrapIn (by omega) (by omega)
  have hneg : ¬ (n : Int) < 0 := by omega
  have hbig : ¬ (9223372036854775807 : Int) < (n : Int) := by omega
  have hn0' : (0 : Int) ≤ (n : Int) := by omega
  unfold NRes
  rw [List.length_replicate]
  clear h1
  go_enter Try.func41, Try.ntmps41
  go_wp2_with fail
  refine C.out.mono ?_
  rintro e w1 ⟨rfl, hb1⟩
  have HB := hid hb1
  obtain ⟨W, hW⟩ : ∃ W, W = w1.alloc (.cells (zr n) 3) := ⟨_, rfl⟩
  have hI : IB W w1.heap.size (dbl n x 0) := by rw [hW]; simp only [dbl, List.replicate_zero, List.nil_append, Nat.sub_zero]; exact alloc_new _ _
  have hbW : Below w.heap.size w W := by rw [hW]; exact HB.out.trans ((bel1 _ _).mono HB.out.size)
  have hcp := copy_one (n := n) (x := x) hI hn0 a1 n c1 (H1.out.below hbW)
  obtain ⟨V, hV⟩ : ∃ V, V = W.setRow w1.heap.size ((dbl n x 1).map iv).toArray := ⟨_, rfl⟩
  have HV := hid (show IB V w1.heap.size (dbl n x 1) ∧ Below w.heap.size w V from by rw [hV]; exact ⟨hI.row_set, hbW.trans ((below_row _ _ _).mono HB.out.size)⟩)
  rw [← hV] at hcp
  rw [hW] at hcp
  have hsz := HB.out.size
  clear hb1 hI hbW hV C
  go_wp2_with fail
  go_loopg [8] n (fun kk s8 wr => ∃ p : Nat, s8 = .int .i64 (p : Int) ∧ 1 ≤ p ∧ p ≤ n ∧ p + kk = n + 1 ∧ IB wr w1.heap.size (dbl n x p) ∧ Below w.heap.size w wr)
  case atStart => exact ⟨1, rfl, Nat.le_refl _, hn0, by omega, HV.out.1, HV.out.2⟩
  case round =>
    obtain ⟨p, rfl, hp1, hp2, hk, hI, hb⟩ := hrel
    have HB2 := hid (And.intro hb hI)
    by_cases hlt : p < n
    · have hlt' : (p : Int) < (n : Int) := by omega
      have hp0 : (0 : Int) ≤ (p : Int) := by omega
      have hpn : (p : Int) ≤ (n : Int) := by omega
      have hpn' : p ≤ n := by omega
      have hcp := copy_dbl (W := wr.drew) (x := x) hI hlt (n - p) n
      obtain ⟨m, hm⟩ : ∃ m, m = min p (n - p) := ⟨_, rfl⟩
      rw [← hm] at hcp
      obtain ⟨V', hV'⟩ : ∃ V', V' = wr.drew.setRow w1.heap.size ((dbl n x (p + m)).map iv).toArray := ⟨_, rfl⟩
      have HV' := hid (show IB V' w1.heap.size (dbl n x (p + m)) ∧ Below w.heap.size w V' from by rw [hV']; exact ⟨IB.row_set (W := wr.drew) hI, (below_drewN hb 1).trans ((below_row _ _ _).mono hsz)⟩)
      rw [← hV'] at hcp
      have hadd : IntKind.i64.wrap ((p : Int) + (m : Int)) = ((p + m : Nat) : Int) := by rw [wrapIn (by omega) (by omega)]; omega
      have HM := hid (show 0 < m ∧ p + m ≤ n from by omega)
      clear hb hI hV' hm
      go_wp2
      go_region
      all_goals
        go_wp2
        go_roundg (n + 1 - (p + m))
        case measure => have := HM.out; omega
        case rel => exact ⟨p + m, by go_num, by have := HM.out; omega, HM.out.2, by have := HM.out; omega, HV'.out.1, HV'.out.2⟩
    · have hlt' : ¬ (p : Int) < (n : Int) := by omega
      obtain rfl : p = n := by omega
      clear hb hI
      go_wp2
      go_ret
      exact ⟨⟨w1.heap.size, rfl, by have := HB2.out.2; simpa [dbl] using this, hsz⟩, HB2.out.1⟩
end Go.Proofs.Ytelbagaiijffdaa
