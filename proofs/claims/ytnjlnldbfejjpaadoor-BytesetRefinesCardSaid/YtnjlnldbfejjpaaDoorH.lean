/-
  Contracts: Len; the reference's List and Len.
-/
import Derived.Test.YtnjlnldbfejjpaaDoorG
set_option linter.unusedSimpArgs false
set_option linter.unusedVariables false
namespace Go.Proofs.YtnjlnldbfejjpaaDoor
open Go.RowKit Bs Go.Frame

theorem ix0 (a b c d : Int) (w : World) : (Instr.index 25 (.agg #[.int .u64 a, .int .u64 b, .int .u64 c, .int .u64 d]) (.int .i64 0)).run Tryd.prog w = .ok (.int .u64 a) w := by kernel_rfl
theorem ix1 (a b c d : Int) (w : World) : (Instr.index 25 (.agg #[.int .u64 a, .int .u64 b, .int .u64 c, .int .u64 d]) (.int .i64 1)).run Tryd.prog w = .ok (.int .u64 b) w := by kernel_rfl
theorem ix2 (a b c d : Int) (w : World) : (Instr.index 25 (.agg #[.int .u64 a, .int .u64 b, .int .u64 c, .int .u64 d]) (.int .i64 2)).run Tryd.prog w = .ok (.int .u64 c) w := by kernel_rfl
theorem ix3 (a b c d : Int) (w : World) : (Instr.index 25 (.agg #[.int .u64 a, .int .u64 b, .int .u64 c, .int .u64 d]) (.int .i64 3)).run Tryd.prog w = .ok (.int .u64 d) w := by kernel_rfl
theorem len_step (p : Nat → Bool) (i : Nat) : ((cnt p (64 * i) : Nat) : Int) + (pc 64 (wd p i) : Int) = (cnt p (64 * (i + 1)) : Int) := by
  have h : pc 64 (wd p i) = cnt (fun j => p (64 * i + j)) 64 := pc_nb 64 _
  rw [h, show 64 * (i + 1) = 64 * i + 64 by omega, cnt_add]
  omega
set_option maxRecDepth 100000 in
set_option maxHeartbeats 4000000 in
theorem Len_any (p : Nat → Bool) (w : World) :
    Calls Tryd.prog 22 #[sv p] w fun e w' => e = .returned (.int .i64 (cnt p 256 : Int)) ∧ Below w.heap.size w w' := by
  have bW : Below w.heap.size w (w.alloc (.cells #[.int .u64 (wd (p) 0 : Int), .int .u64 (wd (p) 1 : Int), .int .u64 (wd (p) 2 : Int), .int .u64 (wd (p) 3 : Int)] 25)) := (Below.refl _ _).alloc (Nat.le_refl _) _
  have HW := hid bW
  clear bW
  unfold sv
  go_enter Tryd.func22, Tryd.ntmps22
  go_wp2_with fail
  go_loopg [3, 7] 4 (fun k s3 s7 wr => ∃ i : Nat, s3 = .int .i64 (cnt p (64 * i) : Int) ∧ s7 = .int .i64 i ∧ i + k = 4 ∧ Below w.heap.size w wr)
  case atStart => exact ⟨0, rfl, rfl, rfl, HW.out⟩
  case round =>
    obtain ⟨i, rfl, rfl, hk, hbw⟩ := hrel
    have hi5 : i = 0 ∨ i = 1 ∨ i = 2 ∨ i = 3 ∨ i = 4 := by omega
    rcases hi5 with rfl | rfl | rfl | rfl | rfl
    · have CO := hid (show Calls Tryd.prog 31 #[.int .u64 (wd p 0 : Int)] wr fun e w'' => e = .returned (.int .i64 (pc 64 (wd p 0) : Int)) ∧ w'' = wr from ones_any _ wr (wd_lt p 0))
      have ix := ix0 (wd p 0) (wd p 1) (wd p 2) (wd p 3) wr
      have e0 : ((cnt p (64 * 0) : Nat) : Int) + (pc 64 (wd p 0) : Int) = (cnt p (64 * (0 + 1)) : Int) := len_step p 0
      have hl := cnt_le p (64 * (0 + 1))
      have e1 : IntKind.i64.wrap (cnt p (64 * (0 + 1)) : Int) = (cnt p (64 * (0 + 1)) : Int) := wrapIn (by omega) (by omega)
      obtain ⟨x, hx⟩ : ∃ x, x = cnt p (64 * 0) := ⟨_, rfl⟩
      obtain ⟨y, hy⟩ : ∃ y, y = cnt p (64 * (0 + 1)) := ⟨_, rfl⟩
      rw [← hy] at e0 e1
      rw [← hx] at e0 ⊢
      have HB := hid hbw
      have HY := hid hy
      clear hbw hx hy hl
      go_wp2_with fail
      refine CO.out.mono ?_
      rintro e w' ⟨rfl, rfl⟩
      go_wp2
      go_roundg (gk - 1)
      case measure => omega
      case rel => exact ⟨1, by rw [HY.out], by go_num, by omega, HB.out⟩
    · have CO := hid (show Calls Tryd.prog 31 #[.int .u64 (wd p 1 : Int)] wr fun e w'' => e = .returned (.int .i64 (pc 64 (wd p 1) : Int)) ∧ w'' = wr from ones_any _ wr (wd_lt p 1))
      have ix := ix1 (wd p 0) (wd p 1) (wd p 2) (wd p 3) wr
      have e0 : ((cnt p (64 * 1) : Nat) : Int) + (pc 64 (wd p 1) : Int) = (cnt p (64 * (1 + 1)) : Int) := len_step p 1
      have hl := cnt_le p (64 * (1 + 1))
      have e1 : IntKind.i64.wrap (cnt p (64 * (1 + 1)) : Int) = (cnt p (64 * (1 + 1)) : Int) := wrapIn (by omega) (by omega)
      obtain ⟨x, hx⟩ : ∃ x, x = cnt p (64 * 1) := ⟨_, rfl⟩
      obtain ⟨y, hy⟩ : ∃ y, y = cnt p (64 * (1 + 1)) := ⟨_, rfl⟩
      rw [← hy] at e0 e1
      rw [← hx] at e0 ⊢
      have HB := hid hbw
      have HY := hid hy
      clear hbw hx hy hl
      go_wp2_with fail
      refine CO.out.mono ?_
      rintro e w' ⟨rfl, rfl⟩
      go_wp2
      go_roundg (gk - 1)
      case measure => omega
      case rel => exact ⟨2, by rw [HY.out], by go_num, by omega, HB.out⟩
    · have CO := hid (show Calls Tryd.prog 31 #[.int .u64 (wd p 2 : Int)] wr fun e w'' => e = .returned (.int .i64 (pc 64 (wd p 2) : Int)) ∧ w'' = wr from ones_any _ wr (wd_lt p 2))
      have ix := ix2 (wd p 0) (wd p 1) (wd p 2) (wd p 3) wr
      have e0 : ((cnt p (64 * 2) : Nat) : Int) + (pc 64 (wd p 2) : Int) = (cnt p (64 * (2 + 1)) : Int) := len_step p 2
      have hl := cnt_le p (64 * (2 + 1))
      have e1 : IntKind.i64.wrap (cnt p (64 * (2 + 1)) : Int) = (cnt p (64 * (2 + 1)) : Int) := wrapIn (by omega) (by omega)
      obtain ⟨x, hx⟩ : ∃ x, x = cnt p (64 * 2) := ⟨_, rfl⟩
      obtain ⟨y, hy⟩ : ∃ y, y = cnt p (64 * (2 + 1)) := ⟨_, rfl⟩
      rw [← hy] at e0 e1
      rw [← hx] at e0 ⊢
      have HB := hid hbw
      have HY := hid hy
      clear hbw hx hy hl
      go_wp2_with fail
      refine CO.out.mono ?_
      rintro e w' ⟨rfl, rfl⟩
      go_wp2
      go_roundg (gk - 1)
      case measure => omega
      case rel => exact ⟨3, by rw [HY.out], by go_num, by omega, HB.out⟩
    · have CO := hid (show Calls Tryd.prog 31 #[.int .u64 (wd p 3 : Int)] wr fun e w'' => e = .returned (.int .i64 (pc 64 (wd p 3) : Int)) ∧ w'' = wr from ones_any _ wr (wd_lt p 3))
      have ix := ix3 (wd p 0) (wd p 1) (wd p 2) (wd p 3) wr
      have e0 : ((cnt p (64 * 3) : Nat) : Int) + (pc 64 (wd p 3) : Int) = (cnt p (64 * (3 + 1)) : Int) := len_step p 3
      have hl := cnt_le p (64 * (3 + 1))
      have e1 : IntKind.i64.wrap (cnt p (64 * (3 + 1)) : Int) = (cnt p (64 * (3 + 1)) : Int) := wrapIn (by omega) (by omega)
      obtain ⟨x, hx⟩ : ∃ x, x = cnt p (64 * 3) := ⟨_, rfl⟩
      obtain ⟨y, hy⟩ : ∃ y, y = cnt p (64 * (3 + 1)) := ⟨_, rfl⟩
      rw [← hy] at e0 e1
      rw [← hx] at e0 ⊢
      have HB := hid hbw
      have HY := hid hy
      clear hbw hx hy hl
      go_wp2_with fail
      refine CO.out.mono ?_
      rintro e w' ⟨rfl, rfl⟩
      go_wp2
      go_roundg (gk - 1)
      case measure => omega
      case rel => exact ⟨4, by rw [HY.out], by go_num, by omega, HB.out⟩
    · have HB := hid hbw
      clear hbw
      go_wp2
      go_ret
      exact ⟨rfl, HB.out⟩

/-- Bytes as values. -/
def bys (l : List (Fin 256)) : List Value := l.map fun x => Value.int .u8 (x.1 : Int)
theorem bys_length (l : List (Fin 256)) : (bys l).length = l.length := by simp [bys]
theorem bys_snoc (l : List (Fin 256)) (x : Fin 256) : bys (l ++ [x]) = bys l ++ [.int .u8 (x.1 : Int)] := by simp [bys]
theorem Tryd.info5 : (Tryd.prog.info? 5).map (fun i => (i.zero, i.size, i.bytes)) = some (some (.int .u8 0), 1, 1) := by kernel_rfl
/-- What the reference's List comes to. -/
def ListRes (p : Nat → Bool) (w : World) (e : Ending) (w' : World) : Prop := (∃ a c, e = .returned (.slice a (cnt p 256) c)) ∧ Below w.heap.size w w'
set_option maxRecDepth 100000 in
set_option maxHeartbeats 4000000 in
theorem rList_any (p : Nat → Bool) (w : World) : Calls Tryd.prog 32 #[sv p] w fun e w' => ListRes p w e w' := by
  obtain ⟨i0, hi, hz0, hz1, hz2⟩ := info_parts Tryd.info5
  obtain ⟨W, hW⟩ : ∃ W, W = w.alloc (.cells #[.int .u64 (wd (p) 0 : Int), .int .u64 (wd (p) 1 : Int), .int .u64 (wd (p) 2 : Int), .int .u64 (wd (p) 3 : Int)] 25) := ⟨_, rfl⟩
  have bW : Below w.heap.size w W := by rw [hW]; exact (Below.refl _ _).alloc (Nat.le_refl _) _
  have x0 : SB W w.heap.size p := by rw [hW]; exact alloc_new _ _
  have hsz : W.heap.size = w.heap.size + 1 := by rw [hW]; simp
  have HX := hid (And.intro x0 (And.intro bW hsz))
  clear x0 bW hsz
  unfold sv
  go_enter Tryd.func32, Tryd.ntmps32
  go_wp2_with fail
  rw [← hW]
  clear hW
  go_loopg [3, 4] 256 (fun k s3 s4 wr => ∃ i : Nat, s4 = .int .i64 i ∧ i + k = 256 ∧ wr.ownsRow W.heap.size 5 1 s3 (els p i).length (bys (els p i)) ∧ Below W.heap.size W wr)
  case atStart => exact ⟨0, rfl, rfl, World.ownsRow_nil _ _ _ _, Below.refl _ _⟩
  case round =>
    obtain ⟨i, rfl, hk, hown, hbw⟩ := hrel
    by_cases hlt : i < 256
    · have hlt' : (i : Int) < 256 := by omega
      have e3 : IntKind.u8.wrap (i : Int) = (i : Int) := by rw [IntKind.wrap_u8]; omega
      have Cp := hid (fun V => show Calls Tryd.prog 15 #[.agg #[.int .u64 (wd (p) 0 : Int), .int .u64 (wd (p) 1 : Int), .int .u64 (wd (p) 2 : Int), .int .u64 (wd (p) 3 : Int)], .int .u8 (i : Int)] V fun e w'' => e = .returned (.bool (p i)) ∧ Below V.heap.size V w'' from rHas_any p i V hlt)
      have hA := (hbw.block _ (heap_lt HX.out.1)).trans HX.out.1
      obtain ⟨p0, p1, p2, p3⟩ := cells4 hA
      have HO := hid hown
      have HB := hid hbw
      have L := hid hlt
      have hll := els_length p i
      have hcl := cnt_le p i
      have HL := hid (show (els p i).length ≤ 256 by omega)
      clear hA hbw hown hlt hll hcl
      go_wp2_with fail
      refine (Cp.out _).mono ?_
      rintro e w1 ⟨rfl, b1⟩
      have hown1 : w1.ownsRow W.heap.size 5 1 _ (els p i).length (bys (els p i)) := ownsRow_keep HO.out fun k hk => b1.block k (HO.out.lt k hk).2
      have hb1 := HB.out.trans (b1.mono HB.out.size)
      cases hp : p i
      · have HN := hid (And.intro hown1 (And.intro hb1 hp))
        clear hown1 hb1 b1 hp p0 p1 p2 p3
        go_wp2
        go_roundg (gk - 1)
        case measure => have := L.out; omega
        case rel => exact ⟨i + 1, by go_num, by have := L.out; omega, by rw [els_skip (m := i) (m' := i + 1) (by omega) (fun j h1 h2 => by rw [show j = i by omega]; exact HN.out.2.2)]; exact HN.out.1, HN.out.2.1⟩
      · have HN := hid (And.intro hb1 hp)
        clear hb1 b1 hp p0 p1 p2 p3
        go_wp2_with (at_builtin; refine wpList_append_own _ rfl (.tmp 13) (.tmp 16) 34 rfl W.heap.size 5 i0 (.int .u8 0) 1 1 Tryd.underlying34 hi hz0 hz1 hz2 rfl (by decide) _ _ _ rfl (hown1.alloc _) ⟨w1.heap.size, 0, none⟩ 1 1 [.int .u8 (i : Int)] rfl rfl ?c1 ?c2 ?c3 ?c4 ?c5 ?_)
        case c1 => exact fun j u hj => one_cell _ _ _ _ _ hj
        case c2 => intro u hu; simp at hu; subst hu; rfl
        case c3 => have := HL.out; unfold maxLen; omega
        case c4 => have := HL.out; omega
        case c5 => have := HN.out.1.size; simp; omega
        intro v' w2 hown' hgrow _
        have hb2 : Below W.heap.size W w2 := (HN.out.1.alloc HN.out.1.size _).grown hgrow (by have := HN.out.1.size; simp; omega) (fun k hk => (hown1.lt k hk).1)
        have hown2 : w2.ownsRow W.heap.size 5 1 v' (els p (i + 1)).length (bys (els p (i + 1))) := by
          rw [els_hit HN.out.2 L.out, bys_snoc]
          simpa using hown'
        clear hown' hgrow hown1
        go_wp2
        go_roundg (gk - 1)
        case measure => have := L.out; omega
        case rel => exact ⟨i + 1, by go_num, by have := L.out; omega, hown2, hb2⟩
    · have hin : ¬ (i : Int) < 256 := by omega
      obtain rfl : i = 256 := by omega
      rw [els_length] at hown
      obtain ⟨a, c, rfl, hrow⟩ := own_row hown
      have HB := hid hbw
      clear hown hrow hbw
      go_wp2
      go_ret
      exact ⟨⟨a, c, rfl⟩, HX.out.2.1.trans (HB.out.mono HX.out.2.1.size)⟩
set_option maxRecDepth 100000 in
set_option maxHeartbeats 4000000 in
theorem rLen_any (p : Nat → Bool) (w : World) :
    Calls Tryd.prog 23 #[sv p] w fun e w' => e = .returned (.int .i64 (cnt p 256 : Int)) ∧ Below w.heap.size w w' := by
  have bW : Below w.heap.size w (w.alloc (.cells #[.int .u64 (wd (p) 0 : Int), .int .u64 (wd (p) 1 : Int), .int .u64 (wd (p) 2 : Int), .int .u64 (wd (p) 3 : Int)] 25)) := (Below.refl _ _).alloc (Nat.le_refl _) _
  have HW := hid bW
  have CL := hid (fun V => show Calls Tryd.prog 32 #[.agg #[.int .u64 (wd (p) 0 : Int), .int .u64 (wd (p) 1 : Int), .int .u64 (wd (p) 2 : Int), .int .u64 (wd (p) 3 : Int)]] V fun e w' => ListRes p V e w' from rList_any p V)
  clear bW
  unfold sv
  go_enter Tryd.func23, Tryd.ntmps23
  go_wp2_with fail
  refine (CL.out _).mono ?_
  rintro e w1 ⟨⟨a, c, rfl⟩, b1⟩
  have B := HW.out.trans (b1.mono HW.out.size)
  go_wp2
  go_ret
  exact ⟨rfl, B⟩
end Go.Proofs.YtnjlnldbfejjpaaDoor
