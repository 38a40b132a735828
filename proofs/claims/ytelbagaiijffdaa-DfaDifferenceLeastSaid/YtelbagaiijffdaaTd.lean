/-
  Contract: ranks of ints.
-/
import Derived.Test.YtelbagaiijffdaaTc
import Derived.Laws.MakeOwn
set_option linter.unusedSimpArgs false
set_option linter.unusedVariables false
namespace Go.Proofs.Ytelbagaiijffdaa
open Go.RowKit Lx Go.Frame

theorem known_app {α : Type} [DecidableEq α] : ∀ (l m k : List α), Rk.known k (l ++ m) = Rk.known (Rk.known k l) m
  | [], m, k => rfl
  | x :: r, m, k => by
    simp only [List.cons_append, Rk.known]
    split
    · exact known_app r m k
    · exact known_app r m _
/-- The known numbers behind the first i. -/
def kn {α : Type} [DecidableEq α] (l : List α) (i : Nat) : List α := Rk.known [] (l.take i)
theorem kn_zero {α : Type} [DecidableEq α] (l : List α) : kn l 0 = [] := by simp [kn, Rk.known]
theorem kn_in {α : Type} [DecidableEq α] {l : List α} {i : Nat} {x : α} (h : l[i]? = some x) (hx : x ∈ kn l i) : kn l (i + 1) = kn l i := by
  unfold kn at hx ⊢
  rw [List.take_add_one, h, known_app]
  simp [Rk.known, hx]
theorem kn_new {α : Type} [DecidableEq α] {l : List α} {i : Nat} {x : α} (h : l[i]? = some x) (hx : x ∉ kn l i) : kn l (i + 1) = kn l i ++ [x] := by
  unfold kn at hx ⊢
  rw [List.take_add_one, h, known_app]
  simp [Rk.known, hx]
theorem kn_pre {α : Type} [DecidableEq α] (l : List α) (i : Nat) : ∃ e, Rk.known [] l = kn l i ++ e := by
  have := known_app (l.take i) (l.drop i) []
  rw [List.take_append_drop] at this
  rw [this]
  exact Rk.known_pre _ _
theorem rank_in {α : Type} [DecidableEq α] {l : List α} {i : Nat} {x : α} (h : l[i]? = some x) (hx : x ∈ kn l i) : (Rk.ranks l)[i]? = some ((kn l i).idxOf x) := by
  obtain ⟨e, he⟩ := kn_pre l i
  unfold Rk.ranks
  rw [Rk.ranksF_eq, List.getElem?_map, h, he]
  simp [Rk.idx_pre hx]
theorem rank_new {α : Type} [DecidableEq α] {l : List α} {i : Nat} {x : α} (h : l[i]? = some x) (hx : x ∉ kn l i) : (Rk.ranks l)[i]? = some (kn l i).length := by
  obtain ⟨e, he⟩ := kn_pre l (i + 1)
  unfold Rk.ranks
  rw [Rk.ranksF_eq, List.getElem?_map, h, he, kn_new h hx]
  rw [Option.map_some, Rk.idx_pre (by simp), List.idxOf_append, if_neg hx]
  simp
theorem kn_len {α : Type} [DecidableEq α] (l : List α) : ∀ i, (kn l i).length ≤ i
  | 0 => by simp [kn_zero]
  | i + 1 => by
    have := kn_len l i
    rcases h : l[i]? with _ | x
    · unfold kn at this ⊢; rw [List.take_add_one, h]; simp; omega
    · by_cases hx : x ∈ kn l i
      · rw [kn_in h hx]; omega
      · rw [kn_new h hx]; simp; omega
/-- A list of places as whole numbers. -/
def zs (l : List Nat) : List Int := l.map fun (x : Nat) => (x : Int)
theorem zs_at {l : List Nat} {i n : Nat} (h : l[i]? = some n) : (zs l)[i]? = some (n : Int) := by unfold zs; rw [List.getElem?_map, h]; rfl
theorem zs_len (l : List Nat) : (zs l).length = l.length := by simp [zs]
theorem run_lenI {W : World} {f : Nat} {ks : List Int} (h : MapI W f ks) (ty : TypeId) : (Builtin.len_ #[73] ty #[.map (some f)]).run Try.prog W = .ok (.int .i64 (ks.length : Int)) W := by
  obtain ⟨es, ck, h1, h2, h3⟩ := h
  have hlen : es.size = ks.length := by have := congrArg List.length h2; simpa using this
  have hg : (getObj f).run Try.prog W = .ok (.map es ck) W := by simp [getObj, Sem.run, h1]
  simp [Builtin.len_, run_underlying und73, hg, goInt, Result.andThen, hlen]
theorem map73 (W : World) : (Instr.makeMap 73 none).run Try.prog W = .ok (.map (some W.heap.size)) (W.alloc (.map #[] 0)) := by kernel_rfl
attribute [local go_sem] map73
set_option maxRecDepth 100000 in
set_option maxHeartbeats 4000000 in
theorem ranks_any (w : World) (a1 : Option Addr) (n1 c1 : Nat) (l : List Int) (h1 : Row w a1 n1 (l.map iv)) (hn1 : n1 ≤ 1000000) (out : List Int) (hout : out = zs (Rk.ranks l)) :
    Calls Try.prog 26 #[.slice a1 n1 c1] w (NRes w out) := by
  have hl1 : l.length = n1 := by have := h1.1; simpa using this
  have hlo : out.length = n1 := by rw [hout, zs_len, Rk.ranks_length, hl1]
  have HH := hid (And.intro h1 (And.intro hout (And.intro hl1 hlo)))
  have hmk := fun V => make_n V n1 hn1
  obtain ⟨V, hV⟩ : ∃ V, V = w.alloc (.map #[] 0) := ⟨_, rfl⟩
  have HV := hid (show MapI V w.heap.size [] ∧ V.heap.size = w.heap.size + 1 ∧ Below w.heap.size w V from by rw [hV]; exact ⟨⟨#[], 0, alloc_new _ _, rfl, fun i e h => by simp at h⟩, World.size_alloc .., bel1 _ _⟩)
  obtain ⟨W, hW⟩ : ∃ W, W = V.alloc (.cells (zr n1) 3) := ⟨_, rfl⟩
  have HW := hid (show IB W (w.heap.size + 1) (fil out 0) ∧ MapI W w.heap.size (kn l 0) ∧ Below w.heap.size w W from by
    have hb : Below V.heap.size V W := by rw [hW]; exact bel1 _ _
    refine ⟨by rw [hW, ← HV.out.2.1, fil_zero, hlo]; exact alloc_new _ _, by rw [kn_zero]; exact HV.out.1.keep (hb.block _ (by rw [HV.out.2.1]; omega)), HV.out.2.2.trans (hb.mono (by rw [HV.out.2.1]; omega))⟩)
  have hsz := HV.out.2.1
  unfold NRes
  rw [hlo]
  clear h1 hout hl1 hlo
  go_enter Try.func26, Try.ntmps26
  go_wp2_with fail
  rw [← hV, ← hW]
  clear hV hW hmk
  go_loopg [15] n1 (fun kk s15 wr => ∃ i : Nat, s15 = .int .i64 (i : Int) ∧ i + kk = n1 ∧ IB wr (w.heap.size + 1) (fil out i) ∧ MapI wr w.heap.size (kn l i) ∧ Below w.heap.size w wr)
  case atStart => exact ⟨0, rfl, by omega, HW.out.1, HW.out.2.1, HW.out.2.2⟩
  case round =>
    obtain ⟨i, rfl, hk, hI, hM, hb⟩ := hrel
    have HB := hid hb
    have HI := hid hI
    have HM := hid hM
    by_cases hlt : i < n1
    · have hlt' : (i : Int) < (n1 : Int) := by omega
      have hi0 : (0 : Int) ≤ (i : Int) := by omega
      have hi1 : IntKind.i64.wrap ((i : Int) + 1) = (i : Int) + 1 := wrapIn (by omega) (by omega)
      obtain ⟨b2, o2, x, rfl, _, hx, p2⟩ := int_at (HH.out.1.below hb) hlt
      have HX := hid hx
      have hlook := run_lookI hM x
      have hfr : wr.frozen? ⟨w.heap.size + 1, i, none⟩ = false := Go.Frame.free hI i
      obtain ⟨z, q0⟩ := hI.cell (i := i) (by rw [fil_len out (by have := HH.out.2.2.2; omega), HH.out.2.2.2]; exact hlt)
      by_cases hin : x ∈ kn l i
      · have hoi : out[i]? = some (((kn l i).idxOf x : Nat) : Int) := by rw [HH.out.2.1]; exact zs_at (rank_in hx hin)
        have HN := hid (show IB (wr.setCell ⟨w.heap.size + 1, i, none⟩ (.int .i64 (((kn l i).idxOf x : Nat) : Int))) (w.heap.size + 1) (fil out (i + 1)) ∧ MapI (wr.setCell ⟨w.heap.size + 1, i, none⟩ (.int .i64 (((kn l i).idxOf x : Nat) : Int))) w.heap.size (kn l (i + 1)) from by rw [← fil_set hoi, kn_in hx hin]; exact ⟨hI.set _, hM.keep ((below_put (Below.refl (w.heap.size + 1) wr) (Nat.le_refl _)).block _ (by omega))⟩)
        rw [lkv, if_pos hin] at hlook
        clear hb hI hx hM hoi
        go_wp2
        go_roundg (gk - 1)
        case measure => omega
        case rel => exact ⟨i + 1, by go_num, by omega, HN.out.1, HN.out.2, below_put HB.out (by omega)⟩
      · have hoi : out[i]? = some (((kn l i).length : Nat) : Int) := by rw [HH.out.2.1]; exact zs_at (rank_new hx hin)
        rw [lkv, if_neg hin] at hlook
        have hlen := run_lenI hM
        obtain ⟨W', hup, hM', hK⟩ := run_updI hM x hin
        have hI' : IB W' (w.heap.size + 1) (fil out i) := by unfold IB at hI ⊢; rw [hK.block _ (by omega)]; exact hI
        have hfr' : W'.frozen? ⟨w.heap.size + 1, i, none⟩ = false := Go.Frame.free hI' i
        obtain ⟨z', q0'⟩ := hI'.cell (i := i) (by rw [fil_len out (by have := HH.out.2.2.2; omega), HH.out.2.2.2]; exact hlt)
        have HN := hid (show IB (W'.setCell ⟨w.heap.size + 1, i, none⟩ (.int .i64 (((kn l i).length : Nat) : Int))) (w.heap.size + 1) (fil out (i + 1)) ∧ MapI (W'.setCell ⟨w.heap.size + 1, i, none⟩ (.int .i64 (((kn l i).length : Nat) : Int))) w.heap.size (kn l (i + 1)) ∧ Below w.heap.size w W' from by rw [← fil_set hoi, kn_new hx hin]; exact ⟨hI'.set _, hM'.keep ((below_put (Below.refl (w.heap.size + 1) W') (Nat.le_refl _)).block _ (by omega)), ⟨hK.os.trans hb.os, hK.tape.trans hb.tape, hK.output.trans hb.output, Nat.le_trans hb.size hK.size, fun k h => (hK.block k (by omega)).trans (hb.block k h)⟩⟩)
        clear hb hI hx hM hoi hM' hK hI'
        go_wp2
        go_roundg (gk - 1)
        case measure => omega
        case rel => exact ⟨i + 1, by go_num, by omega, HN.out.1, HN.out.2.1, below_put HN.out.2.2 (by omega)⟩
    · have hlt' : ¬ (i : Int) < (n1 : Int) := by omega
      have hin : i = out.length := by have := HH.out.2.2.2; omega
      rw [hin, fil_all] at hI
      have HI := hid hI
      clear hI hM hb hin
      go_wp2
      go_ret
      exact ⟨⟨w.heap.size + 1, rfl, HI.out, by omega⟩, HB.out⟩
end Go.Proofs.Ytelbagaiijffdaa
