/-
  Contracts: pick, firsts.
-/
import Derived.Test.YtelbagaiijffdaaTa
import Derived.Laws.MakeOwn
set_option linter.unusedSimpArgs false
set_option linter.unusedVariables false
namespace Go.Proofs.Ytelbagaiijffdaa
open Go.RowKit Lx Go.Frame

theorem info3 : (Try.prog.info? 3).map (fun i => (i.zero, i.size, i.bytes)) = some (some (.int .i64 0), 1, 8) := by kernel_rfl
/-- A list under way: the first i stand, the others are 0. -/
def fil (l : List Int) (i : Nat) : List Int := l.take i ++ List.replicate (l.length - i) 0
theorem fil_len (l : List Int) {i : Nat} (h : i ≤ l.length) : (fil l i).length = l.length := by unfold fil; simp; omega
theorem fil_set {l : List Int} {i : Nat} {x : Int} (h : l[i]? = some x) : (fil l i).set i x = fil l (i + 1) := by
  obtain ⟨hl, rfl⟩ := List.getElem?_eq_some_iff.1 h
  unfold fil
  have ht : (l.take i).length = i := by rw [List.length_take]; omega
  rw [List.set_append, if_neg (by omega), ht, Nat.sub_self, show l.length - i = (l.length - (i + 1)) + 1 by omega, List.replicate_succ, List.set_cons_zero, List.take_add_one, h, List.append_assoc]
  rfl
theorem fil_zero (l : List Int) : fil l 0 = List.replicate l.length 0 := by simp [fil]
theorem fil_all (l : List Int) : fil l l.length = l := by simp [fil]
theorem made_ints (n : Nat) : madeCells #[Value.int .i64 0] n = ((List.replicate n (0 : Int)).map iv).toArray := by
  apply Array.ext_getElem?
  intro i
  unfold madeCells
  simp only [List.map_replicate, List.getElem?_toArray, Array.getElem?_map]
  by_cases h : i < n
  · simp [h, iv, Nat.mod_one]
  · simp [h]
/-- n zeros. -/
def zr (n : Nat) : Array Value := ((List.replicate n (0 : Int)).map iv).toArray
theorem make_n (w : World) (n : Nat) (hn : n ≤ 1000000) : (Instr.makeSlice 22 (.int .i64 (n : Int)) (.int .i64 (n : Int))).run Try.prog w = .ok (.slice (some ⟨w.heap.size, 0, none⟩) n n) (w.alloc (.cells (zr n) 3)) := by
  obtain ⟨i, hi, h0, h1, h2⟩ := info_parts info3
  have := run_make (P := Try.prog) w 22 3 i _ Try.underlying22 hi h0 .i64 .i64 (n : Int) (n : Int) (by omega) (Int.le_refl _) (by rw [h2]; omega) (by omega)
  rw [h1, show (Value.int .i64 0).cells = #[.int .i64 0] by kernel_rfl] at this
  rw [made_ints] at this
  simpa [zr] using this
/-- A block that holds a list of numbers. -/
def IB (W : World) (b : Nat) (l : List Int) : Prop := W.heap[b]? = some (.cells (l.map iv).toArray 3 (0, 0))
theorem IB.set {W : World} {b i : Nat} {l : List Int} (h : IB W b l) (x : Int) : IB (W.setCell ⟨b, i, none⟩ (.int .i64 x)) b (l.set i x) := by
  unfold IB at h ⊢
  rw [blk_put h]
  congr 2
  apply Array.ext'
  simp [List.map_set, iv]
theorem IB.row {W : World} {b : Nat} {l : List Int} (h : IB W b l) : Row W (some ⟨b, 0, none⟩) l.length (l.map iv) := by
  refine ⟨by simp, .inr ⟨b, 0, rfl, heap_lt h, fun i x hi => ?_⟩⟩
  unfold IB at h
  rw [Nat.zero_add]
  simp only [World.cell?, h]
  simpa using hi
theorem IB.cell {W : World} {b i : Nat} {l : List Int} (h : IB W b l) (hi : i < l.length) : ∃ x, W.cell? ⟨b, i, none⟩ = some (.int .i64 x) := by
  refine ⟨l[i], ?_⟩
  unfold IB at h
  simp only [World.cell?, h]
  simp [iv, hi]
/-- What a function returns that makes a list of numbers in a block of its own. -/
def NRes (w : World) (l : List Int) (e : Ending) (w' : World) : Prop := (∃ b, e = .returned (.slice (some ⟨b, 0, none⟩) l.length l.length) ∧ IB w' b l ∧ w.heap.size ≤ b) ∧ Below w.heap.size w w'
set_option maxRecDepth 100000 in
set_option maxHeartbeats 4000000 in
theorem pick_any (w : World) (a1 : Option Addr) (n1 c1 : Nat) (l : List Int) (a2 : Option Addr) (n2 c2 : Nat) (ix : List Nat) (h1 : Row w a1 n1 (l.map iv)) (h2 : Row w a2 n2 ((ix.map fun (x : Nat) => (x : Int)).map iv)) (hn1 : n1 ≤ 1000000) (hn2 : n2 ≤ 1000000) (hix : ∀ x ∈ ix, x < n1) (out : List Int) (hout : out = ix.map fun x => l.getD x 0) :
    Calls Try.prog 32 #[.slice a1 n1 c1, .slice a2 n2 c2] w (NRes w out) := by
  have hl1 : l.length = n1 := by have := h1.1; simpa using this
  have hl2 : ix.length = n2 := by have := h2.1; simpa using this
  have hlo : out.length = n2 := by rw [hout, List.length_map, hl2]
  have HH := hid (And.intro h1 (And.intro h2 (And.intro hix (And.intro hout (And.intro hl1 (And.intro hl2 hlo))))))
  have hmk := fun V => make_n V n2 hn2
  obtain ⟨W, hW⟩ : ∃ W, W = w.alloc (.cells (zr n2) 3) := ⟨_, rfl⟩
  have HW := hid (show IB W w.heap.size (fil out 0) ∧ Below w.heap.size w W from by rw [hW, fil_zero, hlo]; exact ⟨alloc_new _ _, bel1 _ _⟩)
  unfold NRes
  rw [hlo]
  clear h1 h2 hix hout hl1 hl2 hlo
  go_enter Try.func32, Try.ntmps32
  go_upto_region 2 with fail
  rw [← hW]
  clear hW hmk
  go_wp2_with fail
  go_loopg [13] n2 (fun kk s13 wr => ∃ i : Nat, s13 = .int .i64 (i : Int) ∧ i + kk = n2 ∧ IB wr w.heap.size (fil out i) ∧ Below w.heap.size w wr)
  case atStart => exact ⟨0, rfl, by omega, HW.out.1, HW.out.2⟩
  case round =>
    obtain ⟨i, rfl, hk, hI, hb⟩ := hrel
    have HB := hid hb
    have HI := hid hI
    by_cases hlt : i < n2
    · have hlt' : (i : Int) < (n2 : Int) := by omega
      have hi0 : (0 : Int) ≤ (i : Int) := by omega
      have hi1 : IntKind.i64.wrap ((i : Int) + 1) = (i : Int) + 1 := wrapIn (by omega) (by omega)
      obtain ⟨b2, o2, x2, rfl, _, hx2, p2⟩ := int_at (HH.out.2.1.below hb) hlt
      rw [List.getElem?_map] at hx2
      obtain ⟨x, hx, rfl⟩ := Option.map_eq_some_iff.1 hx2
      have hxn := HH.out.2.2.1 x (List.mem_of_getElem? hx)
      obtain ⟨b1, o1, y, rfl, _, hy, p1⟩ := int_at (HH.out.1.below hb) hxn
      have hxn' : (x : Int) < (n1 : Int) := by omega
      have hx0 : (0 : Int) ≤ (x : Int) := by omega
      have hoi : out[i]? = some y := by
        rw [HH.out.2.2.2.1, List.getElem?_map, hx]
        simp [List.getD_eq_getElem?_getD, hy]
      have hfr : wr.frozen? ⟨w.heap.size, i, none⟩ = false := Go.Frame.free hI i
      obtain ⟨z, q0⟩ := hI.cell (i := i) (by rw [fil_len out (by have := HH.out.2.2.2.2.2.2; omega), HH.out.2.2.2.2.2.2]; exact hlt)
      have HN := hid (show IB (wr.setCell ⟨w.heap.size, i, none⟩ (.int .i64 y)) w.heap.size (fil out (i + 1)) from by rw [← fil_set hoi]; exact hI.set y)
      clear hb hI hx2 hx hy hoi
      go_wp2
      go_roundg (gk - 1)
      case measure => omega
      case rel => exact ⟨i + 1, by go_num, by omega, HN.out, below_put HB.out (Nat.le_refl _)⟩
    · have hlt' : ¬ (i : Int) < (n2 : Int) := by omega
      have hin : i = out.length := by have := HH.out.2.2.2.2.2.2; omega
      rw [hin, fil_all] at hI
      have HI := hid hI
      clear hI hb hin
      go_wp2
      go_ret
      exact ⟨⟨w.heap.size, rfl, HI.out, Nat.le_refl _⟩, HB.out⟩
end Go.Proofs.Ytelbagaiijffdaa
