/-
  Contracts: Of and the reference's.
-/
import Derived.Test.YtblcjjhjgoccgaaC7
import Derived.Test.YtblcjjhjgoccgaaRq
import Derived.Deep.LoopGhost
import Derived.LoopIn
import Derived.TacticsInMore
set_option linter.unusedSimpArgs false
set_option linter.unusedVariables false
namespace Go.Proofs.Ytblcjjhjgoccgaa
open Go.RowKit Bs Go.Frame

/-- A box that holds a set. -/
def SB (W : World) (b : Nat) (p : Nat → Bool) : Prop := W.heap[b]? = some (.cells #[.int .u64 (wd p 0 : Int), .int .u64 (wd p 1 : Int), .int .u64 (wd p 2 : Int), .int .u64 (wd p 3 : Int)] 64 (0, 0))
theorem wd_false (k : Nat) : wd (fun _ => false) k = 0 := nb_zero 64
theorem zcells : (#[.int .u64 (wd (fun _ => false) 0 : Int), .int .u64 (wd (fun _ => false) 1 : Int), .int .u64 (wd (fun _ => false) 2 : Int), .int .u64 (wd (fun _ => false) 3 : Int)] : Array Value) = #[.int .u64 0, .int .u64 0, .int .u64 0, .int .u64 0] := by
  rw [wd_false, wd_false, wd_false, wd_false]; rfl
theorem sb_zero {W : World} {b : Nat} (h : W.heap[b]? = some (.cells #[.int .u64 0, .int .u64 0, .int .u64 0, .int .u64 0] 64 (0, 0))) : SB W b (fun _ => false) := by unfold SB; rw [zcells]; exact h
def zset : Obj := .cells #[.int .u64 0, .int .u64 0, .int .u64 0, .int .u64 0] 64
/-- The bytes of the first i. -/
def ofp (s : ByteArray) : Nat → Nat → Bool
  | 0 => fun _ => false
  | i + 1 => if h : i < s.size then add1 (ofp s i) s[i].toNat else ofp s i
theorem ofp_next (s : ByteArray) {i : Nat} (h : i < s.size) : ofp s (i + 1) = add1 (ofp s i) s[i].toNat := by
  rw [ofp]; simp only [h, dite_true]

set_option maxRecDepth 100000 in
set_option maxHeartbeats 4000000 in
theorem rOf_any (s : ByteArray) (w : World) (hs : s.size ≤ 1000000) :
    Calls Try.prog 34 #[.string s] w fun e w' => e = .returned (sv (ofp s s.size)) ∧ Below w.heap.size w w' := by
  obtain ⟨W, hW⟩ : ∃ W, W = (w.alloc zset).alloc zset := ⟨_, rfl⟩
  obtain ⟨x0, x1, bW, hsz⟩ := two w zset zset
  rw [← hW] at x0 x1 bW hsz
  have HW := hid hW
  unfold zset at hW x0 x1
  go_enter Try.func34, Try.ntmps34
  go_wp2_with fail
  rw [← hW]
  clear hW
  go_loopg [4] s.size (fun k sl wr => ∃ i : Nat, sl = .int .i64 i ∧ i + k = s.size ∧ SB wr (w.heap.size + 1) (ofp s i) ∧ SB wr w.heap.size (fun _ => false) ∧ Below w.heap.size w wr)
  case atStart => exact ⟨0, rfl, by omega, sb_zero x1, sb_zero x0, bW⟩
  case round =>
    obtain ⟨i, rfl, hk, hB, hA, hbw⟩ := hrel
    by_cases hlt : i < s.size
    · have hlt' : (i : Int) < (s.size : Int) := by omega
      have hi0 : (0 : Int) ≤ (i : Int) := by omega
      have hby : s[i].toNat < 256 := UInt8.toNat_lt _
      have E := hid (ofp_next s hlt)
      have HH := hid (And.intro hB (And.intro hA hbw))
      have CW := hid (show ∀ V, Below wr.heap.size wr V → Calls Try.prog 46 #[.agg #[.int .u64 (wd (ofp s i) 0 : Int), .int .u64 (wd (ofp s i) 1 : Int), .int .u64 (wd (ofp s i) 2 : Int), .int .u64 (wd (ofp s i) 3 : Int)], .int .u8 (s[i].toNat : Int)] V fun e w'' => e = .returned (.agg #[.int .u64 (wd (ofp s (i + 1)) 0 : Int), .int .u64 (wd (ofp s (i + 1)) 1 : Int), .int .u64 (wd (ofp s (i + 1)) 2 : Int), .int .u64 (wd (ofp s (i + 1)) 3 : Int)]) ∧ Below V.heap.size V w'' from
        fun V _ => by rw [E.out]; exact rwith_any (ofp s i) s[i].toNat V hby)
      clear hB hA hbw x0 x1 bW
      go_wp2_with fail
      refine (wpIn_wide (n := 0)).1 (wpIn_region_below_tail 5 free_wide (by kernel_rfl) (by kernel_rfl) (by kernel_rfl) ?_)
      intro X f _ hf hs
      have lB := heap_lt HH.out.1
      have k0 := fun x => (cells4 (((hf.out x).block _ lB).trans HH.out.1)).1
      have k1 := fun x => (cells4 (((hf.out x).block _ lB).trans HH.out.1)).2.1
      have k2 := fun x => (cells4 (((hf.out x).block _ lB).trans HH.out.1)).2.2.1
      have k3 := fun x => (cells4 (((hf.out x).block _ lB).trans HH.out.1)).2.2.2
      simp only [List.take_succ_cons, List.take_zero, List.drop_succ_cons, List.drop_zero]
      repeat (go_big_quiet_step (first | (go_at_call 46; with_reducible exact calls_below hf hs (CW.out _ (hf.out _)))))
      refine wpQuiet_nil ?_
      intro Y hY
      have yB := (hY.block _ lB).trans HH.out.1
      have HY := hid hY
      obtain ⟨c0, c1, c2, c3⟩ := cells4 yB
      obtain ⟨f0, f1, f2, f3⟩ := frozen4 yB
      have HYB := hid yB
      clear yB hY k0 k1 k2 k3 hf hs lB
      gi_wp2
      go_wp2
      go_roundg (gk - 1)
      case measure => omega
      case rel =>
        have h2 := HH.out.2.2
        have h3 := h2.size
        refine ⟨i + 1, by go_num, by omega, ?_, ?_, ?_⟩
        · unfold SB; exact four_set HYB.out
        · unfold SB; exact far4 ((HY.out.block _ (heap_lt HH.out.2.1)).trans HH.out.2.1) (by omega)
        · exact below_put (below_put (below_put (below_put (h2.trans (HY.out.mono h2.size)) (by omega)) (by omega)) (by omega)) (by omega)
    · have hin : ¬ (i : Int) < (s.size : Int) := by omega
      obtain rfl : i = s.size := by omega
      obtain ⟨c0, c1, c2, c3⟩ := cells4 hB
      obtain ⟨a0, a1, a2, a3⟩ := cells4 hA
      obtain ⟨f0, f1, f2, f3⟩ := frozen4 hA
      have HA := hid hA
      have HB := hid hbw
      clear hA hB hbw x0 x1 bW
      go_wp2
      have z := four_set (x' := .int .u64 (wd (ofp s s.size) 0 : Int)) (y' := .int .u64 (wd (ofp s s.size) 1 : Int)) (z' := .int .u64 (wd (ofp s s.size) 2 : Int)) (u' := .int .u64 (wd (ofp s s.size) 3 : Int)) HA.out
      obtain ⟨r0, r1, r2, r3⟩ := cells4 z
      refine bodyPost_ret (v := sv (ofp s s.size)) ?_ rfl ⟨rfl, ?_⟩
      · unfold sv; simp [results, Try.results34, go_sem, r0, r1, r2, r3]
      · exact below_put (below_put (below_put (below_put HB.out (Nat.le_refl _)) (Nat.le_refl _)) (Nat.le_refl _)) (Nat.le_refl _)


end Go.Proofs.Ytblcjjhjgoccgaa
