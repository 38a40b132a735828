/-
  Contracts: All, its iterator.
-/
import Derived.Test.YtnjlnldbfejjpaaDoorH
import Derived.RangeFuncNested
import Derived.RangeFuncBound
import Derived.RangeFuncCalls
import Derived.RangeFuncLeaves
import Derived.RangeFuncFrom
import Derived.OwnWalkIn
import Derived.TacticsInMore
import Derived.LoopNIn
import Derived.LoopIn
set_option linter.unusedSimpArgs false
set_option linter.unusedVariables false
namespace Go.Proofs.YtnjlnldbfejjpaaDoor
open Go.RowKit Bs Go.Frame

attribute [local go_sem] Oper.semAt_some
attribute [local irreducible] nb cnt pc els

set_option maxHeartbeats 400000 in
theorem All_any (p : Nat → Bool) (w : World) :
    Calls Tryd.prog 25 #[sv p] w fun e w' => e = .returned (.func (.func 33) #[] #[.pointer (some ⟨w.heap.size, 0, none⟩)]) ∧ w' = w.alloc (.cells #[.int .u64 (wd (p) 0 : Int), .int .u64 (wd (p) 1 : Int), .int .u64 (wd (p) 2 : Int), .int .u64 (wd (p) 3 : Int)] 25) := by
  unfold sv
  go_enter Tryd.func25, Tryd.ntmps25
  go_wp2
  go_ret
  exact ⟨rfl, rfl⟩

def encB (x : Fin 256) : Array Value := #[.int .u8 (x.1 : Int)]
/-- A round leaves the table alone. -/
def Zero (W W' : World) : Prop := W'.heap[0]? = W.heap[0]?
theorem Zero.trans {X Y Z : World} (h : Zero X Y) (k : Zero Y Z) : Zero X Z := Eq.trans k h
theorem Zero.refl (X : World) : Zero X X := rfl
/-- What is left of word i from place m on. -/
def rest (p : Nat → Bool) (i m : Nat) : Nat := nb (fun j => p (64 * i + j) && decide (m ≤ j)) 64
theorem rest_zero (p : Nat → Bool) (i : Nat) : rest p i 0 = wd p i := nb_congr fun j _ => by simp
theorem rest_lt (p : Nat → Bool) (i m : Nat) : rest p i m < 18446744073709551616 := nb_lt 64 _
theorem rest_end {p : Nat → Bool} {i m : Nat} (hm : m ≤ 64) (h : rest p i m = 0) : els p (64 * (i + 1)) = els p (64 * i + m) :=
  els_skip (by omega) fun j h1 h2 => by
    have := nb_eq_zero h (j - 64 * i) (by omega)
    rw [show 64 * i + (j - 64 * i) = j by omega] at this
    simpa [show m ≤ j - 64 * i by omega] using this
theorem rest_next {p : Nat → Bool} {i m : Nat} (hi : i < 4) (h : rest p i m ≠ 0) : ∃ (j y : Nat) (b : Fin 256), j < 64 ∧ b.1 = 64 * i + j ∧ m ≤ j ∧ rest p i m = 2 ^ j * (1 + 2 * y) ∧ rest p i m &&& (rest p i m - 1) = rest p i (j + 1) ∧
    els p (64 * i + (j + 1)) = els p (64 * i + m) ++ [b] := by
  obtain ⟨j, hj, hf, hl⟩ := nb_some 64 _ h
  obtain ⟨y, hy⟩ := nb_least j 64 _ hj hl hf
  have hc := nb_clear hj hl hf
  simp only [Bool.and_eq_true, decide_eq_true_eq] at hf
  refine ⟨j, y, ⟨64 * i + j, by omega⟩, hj, rfl, hf.2, hy, hc.trans (nb_congr fun x hx => ?_), ?_⟩
  · by_cases e : j < x
    · have e1 : m ≤ x := by omega
      simp [e, e1, show j + 1 ≤ x by omega]
    · simp [e, show ¬ j + 1 ≤ x by omega]
  · rw [← Nat.add_assoc, els_hit hf.1 (by omega)]
    congr 1
    refine els_skip (by omega) fun x h1 h2 => ?_
    have := hl (x - 64 * i) (by omega)
    rw [show 64 * i + (x - 64 * i) = x by omega] at this
    simpa [show m ≤ x - 64 * i by omega] using this
theorem rest_less {p : Nat → Bool} {i m : Nat} (h : rest p i m ≠ 0) : rest p i m &&& (rest p i m - 1) < rest p i m := by
  have : rest p i m &&& (rest p i m - 1) ≤ rest p i m - 1 := Nat.and_le_right
  omega

set_option maxRecDepth 100000 in
set_option maxHeartbeats 2000000 in
theorem all_stops (k A : Nat) (hk : 1 ≤ k) (w0 : World) (p : Nat → Bool) (hA : SB w0 A p) (hT : Tb w0) :
    SeqStopsK Fence.wide k Tryd.prog 33 #[.pointer (some ⟨A, 0, none⟩)] encB Zero (fun ys => ys = els p 256) (fun ys => ys <+: els p 256) 256 w0 := by
  intro l J Jx W hW _ _ hY h0
  obtain ⟨a0, a1, a2, a3⟩ := cells4 ((hW.block _ (heap_lt hA)).trans hA)
  have TW := hid (hT.below hW)
  have HY := hid hY
  clear hY hW hA hT
  refine callsIn_of_wp Tryd.func33 rfl trivial ?_ rfl
  simp only [Tryd.ntmps33, List.size_toArray, List.length_cons, List.length_nil, Nat.reduceAdd, Nat.reduceSub, Array.replicate_succ, Array.replicate_zero, List.push_toArray, List.append_toArray, List.nil_append, List.cons_append]
  gi_wp2
  gi_loopw [6] (fun s wr => ∃ (i : Nat), s = .int .i64 i ∧ i ≤ 4 ∧ J (els p (64 * i)) wr ∧ Zero W wr)
    (fun s _ => (4 - intOf s).toNat)
  case atStart => exact ⟨0, rfl, by omega, by rw [show els p (64 * 0) = [] by rw [Nat.mul_zero, els]]; exact h0, Zero.refl _⟩
  case round =>
    obtain ⟨i, rfl, hi, hJ, hZ⟩ := hrel
    have HJ := hid (And.intro hJ hZ)
    clear hJ hZ
    by_cases hi4 : i < 4
    · have hlt' : (i : Int) < 4 := by omega
      have ix : ∀ V, (Instr.index 25 (.agg #[.int .u64 (wd p 0 : Int), .int .u64 (wd p 1 : Int), .int .u64 (wd p 2 : Int), .int .u64 (wd p 3 : Int)]) (.int .i64 (i : Int))).run Tryd.prog V = .ok (.int .u64 (wd p i : Int)) V := fun V => by
        have hi5 : i = 0 ∨ i = 1 ∨ i = 2 ∨ i = 3 := by omega
        rcases hi5 with rfl | rfl | rfl | rfl
        · exact ix0 (wd p 0) (wd p 1) (wd p 2) (wd p 3) V
        · exact ix1 (wd p 0) (wd p 1) (wd p 2) (wd p 3) V
        · exact ix2 (wd p 0) (wd p 1) (wd p 2) (wd p 3) V
        · exact ix3 (wd p 0) (wd p 1) (wd p 2) (wd p 3) V
      have e1 : IntKind.i64.wrap (64 * (i : Int)) = 64 * (i : Int) := wrapIn (by omega) (by omega)
      have e2 : IntKind.i64.wrap ((i : Int) + 1) = (i : Int) + 1 := wrapIn (by omega) (by omega)
      have L := hid hi4
      clear hi hi4
      gi_wp2
      gi_loopw [4] (fun s wr => ∃ (m x : Nat), s = .int .u64 (x : Int) ∧ x = rest p i m ∧ m ≤ 64 ∧ J (els p (64 * i + m)) wr ∧ Zero W wr)
        (fun s _ => (intOf s).toNat)
      case atStart => exact ⟨0, wd p i, rfl, (rest_zero p i).symm, by omega, HJ.out.1, HJ.out.2⟩
      case round =>
        obtain ⟨m, x, rfl, hx, hm, hJ, hZ⟩ := hrel
        by_cases h0 : x = 0
        · have n0 : (x : Int) = 0 := by omega
          have HH := hid (And.intro hx (And.intro hm (And.intro hJ hZ)))
          clear hx hm hJ hZ
          subst h0
          gi_wp2
          go_roundw
          case rel =>
            obtain ⟨hx, hm, hJ, hZ⟩ := HH.out
            have := L.out
            exact ⟨i + 1, by go_num, by omega, by rw [rest_end hm hx.symm]; exact hJ, hZ⟩
          case measure => have := L.out; simp only [intOf]; omega
        · have n0 : ¬ (x : Int) = 0 := by omega
          obtain ⟨j, y, b, hj, hb, hmj, hxy, hcl, hel⟩ := rest_next (p := p) (m := m) L.out (by rw [← hx]; exact h0)
          have hless := rest_less (p := p) (i := i) (m := m) (by rw [← hx]; exact h0)
          have hxl := rest_lt p i m
          rw [← hx] at hxy hcl hless hxl
          obtain ⟨z, hz⟩ : ∃ z, z = rest p i (j + 1) := ⟨_, rfl⟩
          rw [← hz] at hcl
          rw [hcl] at hless
          have CT := hid (fun V (hV : Zero W V) => tz_any x j y V hxl hj hxy (TW.out.same hV))
          have hlen : (els p (64 * i + m)).length < 256 := by have h1 := els_length p (64 * i + m); have h2 := cnt_le p (64 * i + m); have h3 := L.out; omega
          have i4 := L.out
          obtain ⟨fn, tmps, assign, body, hyv, hR⟩ := HY.out _ b _ hJ hlen
          rw [show encB b = #[.int .u8 (64 * (i : Int) + (j : Int))] by unfold encB; rw [hb]; simp] at hyv
          have e3 : IntKind.i64.wrap (64 * (i : Int) + (j : Int)) = 64 * (i : Int) + (j : Int) := wrapIn (by omega) (by omega)
          have e4 : IntKind.u8.wrap (64 * (i : Int) + (j : Int)) = 64 * (i : Int) + (j : Int) := by rw [IntKind.wrap_u8]; omega
          have e5 : IntKind.u64.wrap ((x : Int) - 1) = ((x - 1 : Nat) : Int) := by rw [IntKind.wrap_u64]; omega
          have e6 : bits .and .u64 (x : Int) ((x - 1 : Nat) : Int) = (z : Int) := by rw [uand hxl (by omega), hcl]
          have HH := hid (And.intro hx (And.intro hm (And.intro hJ (And.intro hZ (And.intro hz (And.intro hel (And.intro hless hj)))))))
          have cT := CT.out wr hZ
          clear hx hm hJ hZ hz hel hless hj hcl hxy hxl hmj i4 hlen h0 hb
          gi_wp2
          refine ⟨trivial, callsIn_wide.2 (cT.mono ?_)⟩
          rintro e w' ⟨rfl, rfl⟩
          gi_wp2
          refine hR.mono ?_
          rintro e W3 (⟨rfl, hJ3, hk3⟩ | ⟨rfl, hJx3⟩)
          · have HK := hid (And.intro hJ3 hk3)
            clear hJ3 hk3 hR
            gi_wp2
            go_roundw
            case rel =>
              obtain ⟨hx, hm, hJ, hZ, hz, hel, hless, hj⟩ := HH.out
              exact ⟨j + 1, z, rfl, hz, by omega, by rw [hel]; exact HK.out.1, hZ.trans HK.out.2⟩
            case measure =>
              obtain ⟨hx, hm, hJ, hZ, hz, hel, hless, hj⟩ := HH.out
              simp only [intOf]; omega
          · have HK := hid hJx3
            clear hJx3 hR
            gi_wp2
            obtain ⟨hx, hm, hJ, hZ, hz, hel, hless, hj⟩ := HH.out
            refine bodyPost_ret (results_none rfl _ _ _) rfl ?_
            exact ⟨⟨_, rfl⟩, .inr ⟨_, by rw [← hel]; exact els_prefix (by have := L.out; omega), HK.out⟩⟩
    · have i4 : i = 4 := by omega
      subst i4
      gi_wp2
      go_end0
      exact ⟨⟨_, rfl⟩, .inl ⟨_, rfl, HJ.out.1⟩⟩
end Go.Proofs.YtnjlnldbfejjpaaDoor
