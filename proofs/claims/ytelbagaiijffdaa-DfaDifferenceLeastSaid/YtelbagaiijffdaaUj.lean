/-
  Maps of numbers by pairs; contract: ranks of pairs.
-/
import Derived.Test.YtelbagaiijffdaaUi
import Derived.ChangeKeysEq
import Derived.MapKept
set_option linter.unusedSimpArgs false
set_option linter.unusedVariables false
namespace Go.Proofs.Ytelbagaiijffdaa
open Go.RowKit Lx Go.Frame
attribute [-instance] instBEqProd

/-- A pair as a value. -/
def pv (p : Int × Int) : Value := .agg #[.int .i64 p.1, .int .i64 p.2]
theorem u58 : Try.prog.underlying 58 = some (.array 2 3) := by kernel_rfl
theorem und78 : Try.prog.underlying 78 = some (.map 58 3) := by kernel_rfl
theorem cellsOf3 : Try.prog.cellsOf 3 = 1 := by kernel_rfl
theorem check_p (a : Int × Int) (w : World) : (Instr.checkKey false 10000 58 (pv a)).run Try.prog w = .ok () w := by kernel_rfl
theorem check_p' (a : Int × Int) (w : World) : (Instr.checkKey true 10000 58 (pv a)).run Try.prog w = .ok () w := by kernel_rfl
theorem pp0 (a b : Int) (w : World) : (Go.part 3 #[Value.int .i64 a, .int .i64 b] 0).run Try.prog w = .ok (.int .i64 a) w := by kernel_rfl
theorem pp1 (a b : Int) (w : World) : (Go.part 3 #[Value.int .i64 a, .int .i64 b] 1).run Try.prog w = .ok (.int .i64 b) w := by kernel_rfl
theorem eq_pv (p q : Int × Int) (w : World) : (Op.equal 58 (pv p) (pv q)).run Try.prog w = .ok (decide (p = q)) w := by
  obtain ⟨a, b⟩ := p
  obtain ⟨c, d⟩ := q
  obtain ⟨i, hi, _⟩ := info_parts info3
  unfold Op.equal Op.maxDepth pv
  rw [show (10000 : Nat) = 9999 + 1 from rfl, run_equalIn_array w 9999 _ _ u58 hi, cellsOf3]
  have he : ∀ (x y : Int) (w : World), (Op.equalIn 9999 3 (.int .i64 x) (.int .i64 y)).run Try.prog w = .ok (decide (x = y)) w := fun x y w => by
    rw [show (9999 : Nat) = 9998 + 1 from rfl, run_equalIn_int w 9998 3 .i64 .i64 x y Try.underlying3]
    by_cases h : x = y <;> simp [h]
  rw [show List.range 2 = [0, 1] from rfl]
  by_cases h0 : a = c
  · by_cases h1 : b = d <;> simp [Op.eqItems, Sem.run_bind, pp0, pp1, he, h0, h1]
  · simp [Op.eqItems, Sem.run_bind, pp0, pp1, he, h0]
theorem run_findP (q : Int × Int) (w : World) : ∀ (l : List MapEntry) (ps : List (Int × Int)) (i : Nat), l.map (·.key) = ps.map pv → (Instr.findAsking 58 (pv q) l i).run Try.prog w = .ok (match ps.findIdx? (fun p => decide (q = p)) with | some j => (l[j]?).map fun e => (i + j, e.val) | none => none) w
  | [], [], i, _ => by simp [Instr.findAsking]
  | [], p :: ps, i, h => by simp at h
  | e :: l, [], i, h => by simp at h
  | e :: l, p :: ps, i, h => by
    simp only [List.map_cons, List.cons.injEq] at h
    have ih := run_findP q w l ps (i + 1) h.2
    have he : (Op.equal 58 (pv q) e.key).run Try.prog w = .ok (decide (q = p)) w := by rw [h.1]; exact eq_pv _ _ w
    rw [Instr.findAsking]
    simp only [Sem.run_bind, he, Result.andThen_ok, List.findIdx?_cons]
    by_cases hq : q = p
    · simp [hq]
    · simp only [hq, decide_false, Bool.false_eq_true, if_false]
      rw [ih]
      cases hf : List.findIdx? (fun p => decide (q = p)) ps with
      | none => simp
      | some j => simp [Nat.add_assoc, Nat.add_comm 1 j]
theorem findIdx_mem (q : Int × Int) : ∀ ps : List (Int × Int), ps.findIdx? (fun p => decide (q = p)) = if q ∈ ps then some (ps.idxOf q) else none
  | [] => by simp
  | p :: ps => by
    rw [List.findIdx?_cons]
    by_cases h : q = p
    · subst h; simp
    · have h' : (p == q) = false := by rw [beq_eq_false_iff_ne]; exact Ne.symm h
      have ih := findIdx_mem q ps
      simp only [h, decide_false, Bool.false_eq_true, if_false, ih, List.mem_cons, false_or, List.idxOf_cons, h', cond_false]
      by_cases hq : q ∈ ps <;> simp [hq]
/-- A map whose keys are the known pairs, in their order, each with its place. -/
def MapP (W : World) (f : Nat) (ks : List (Int × Int)) : Prop := ∃ (es : Array MapEntry) (ck : Nat), W.heap[f]? = some (.map es ck) ∧ es.toList.map (·.key) = ks.map pv ∧ ∀ (i : Nat) (e : MapEntry), es.toList[i]? = some e → e.val = .int .i64 (i : Int)
theorem run_findKeyP (q : Int × Int) (w : World) (l : List MapEntry) (ps : List (Int × Int)) (h : l.map (·.key) = ps.map pv) : (Instr.findKey 58 (pv q) l).run Try.prog w = .ok (match ps.findIdx? (fun p => decide (q = p)) with | some j => (l[j]?).map fun e => (j, e.val) | none => none) w := by
  unfold Instr.findKey
  have hu : (underlying 58).run Try.prog w = .ok (.array 2 3) w := run_underlying u58 w
  simp only [Sem.run_bind, hu, Result.andThen_ok]
  cases l with
  | nil =>
    cases ps with
    | nil => simp [Instr.findNow]
    | cons p ps => simp at h
  | cons e l =>
    have hn : Instr.findNow (.array 2 3) (pv q) (e :: l) 0 = none := by simp [Instr.findNow, Instr.sameNow, pv]
    rw [hn]
    simp only
    rw [run_findP q w (e :: l) ps 0 h]
    cases List.findIdx? (fun p => decide (q = p)) ps <;> simp
def lkp (ks : List (Int × Int)) (q : Int × Int) : Value := if q ∈ ks then .tuple #[.int .i64 (ks.idxOf q : Int), .bool true] else .tuple #[.int .i64 0, .bool false]
theorem run_lookP {W : World} {f : Nat} {ks : List (Int × Int)} (h : MapP W f ks) (q : Int × Int) : (Instr.lookup 78 (.map (some f)) (pv q) true).run Try.prog W = .ok (lkp ks q) W := by
  obtain ⟨es, ck, h1, h2, h3⟩ := h
  have hu : (underlying 78).run Try.prog W = .ok (.map 58 3) W := run_underlying und78 W
  have hg : (getObj f).run Try.prog W = .ok (.map es ck) W := by simp [getObj, Sem.run, h1]
  have hc : (Instr.checkKey es.isEmpty 10000 58 (pv q)).run Try.prog W = .ok () W := by
    cases es.isEmpty
    · exact check_p _ W
    · exact check_p' _ W
  have hl : es.size = ks.length := by have := congrArg List.length h2; simpa using this
  unfold Instr.lookup lkp
  simp only [Sem.run_bind, hu, Result.andThen_ok, hg, Sem.run_pure, hc, run_findKeyP q W es.toList ks h2, findIdx_mem]
  by_cases hq : q ∈ ks
  · have hj : ks.idxOf q < es.size := by rw [hl]; exact List.idxOf_lt_length_of_mem hq
    have h6 := h3 (ks.idxOf q) es[ks.idxOf q] (by rw [Array.getElem?_toList]; exact Array.getElem?_eq_getElem hj)
    simp [hq, hj, h6]
  · simp [hq, zero3]
theorem run_updP {W : World} {f : Nat} {ks : List (Int × Int)} (h : MapP W f ks) (q : Int × Int) (hq : q ∉ ks) : ∃ W', (Instr.mapUpdate 78 (.map (some f)) (pv q) (.int .i64 (ks.length : Int))).run Try.prog W = .ok () W' ∧ MapP W' f (ks ++ [q]) ∧ Kept (· = f) W W' := by
  obtain ⟨es, ck, h1, h2, h3⟩ := h
  have hlen : es.size = ks.length := by have := congrArg List.length h2; simpa using this
  have hu : (underlying 78).run Try.prog W = .ok (.map 58 3) W := run_underlying und78 W
  have hg : (getObj f).run Try.prog W = .ok (.map es ck) W := by simp [getObj, Sem.run, h1]
  have hc : (Instr.checkKey false 10000 58 (pv q)).run Try.prog W = .ok () W := check_p _ W
  have hf := heap_lt h1
  have hfi : ks.findIdx? (fun p => decide (q = p)) = none := by rw [findIdx_mem, if_neg hq]
  refine ⟨W.putObj f (.map (es.push { key := pv q, val := .int .i64 (ks.length : Int), born := ck }) (ck + 1)), ?_, ⟨_, _, World.putObj_heap_same hf, by simp [h2], fun i e he => ?_⟩, ⟨rfl, rfl, rfl, by rw [World.putObj_size]; exact Nat.le_refl _, fun k hk => World.putObj_heap_other hk⟩⟩
  · unfold Instr.mapUpdate
    simp only [Sem.run_bind, hu, Result.andThen_ok, hg, Sem.run_pure, hc, run_findKeyP q W es.toList ks h2, hfi]
    simp [setObj, Sem.run, World.putObj, h1]
  · rw [Array.toList_push] at he
    by_cases hi : i < es.size
    · rw [List.getElem?_append_left (by simpa using hi)] at he
      exact h3 i e he
    · have hie : i = es.size := by have := (List.getElem?_eq_some_iff.1 he).1; simp at this; omega
      subst hie
      rw [List.getElem?_append_right (by simp)] at he
      simp at he
      rw [← he, hlen]
theorem MapP.keep {W W' : World} {f : Nat} {ks : List (Int × Int)} (h : MapP W f ks) (hb : W'.heap[f]? = W.heap[f]?) : MapP W' f ks := by
  obtain ⟨es, ck, h1, h2⟩ := h
  exact ⟨es, ck, hb.trans h1, h2⟩
theorem run_lenP {W : World} {f : Nat} {ks : List (Int × Int)} (h : MapP W f ks) (ty : TypeId) : (Builtin.len_ #[78] ty #[.map (some f)]).run Try.prog W = .ok (.int .i64 (ks.length : Int)) W := by
  obtain ⟨es, ck, h1, h2, h3⟩ := h
  have hlen : es.size = ks.length := by have := congrArg List.length h2; simpa using this
  have hg : (getObj f).run Try.prog W = .ok (.map es ck) W := by simp [getObj, Sem.run, h1]
  simp [Builtin.len_, run_underlying und78, hg, goInt, Result.andThen, hlen]
theorem map78 (W : World) : (Instr.makeMap 78 none).run Try.prog W = .ok (.map (some W.heap.size)) (W.alloc (.map #[] 0)) := by kernel_rfl
attribute [local go_sem] map78
/-- The cells of pairs. -/
def pcs (l : List (Int × Int)) : List Value := l.flatMap fun p => [.int .i64 p.1, .int .i64 p.2]
/-- A block that holds pairs. -/
def PB (W : World) (b : Nat) (l : List (Int × Int)) : Prop := W.heap[b]? = some (.cells (pcs l).toArray 58 (0, 0))
theorem PB.keep {W W' : World} {b : Nat} {l : List (Int × Int)} (h : PB W b l) (hb : Below W.heap.size W W') : PB W' b l := (hb.block b (heap_lt h)).trans h
theorem pcs_at : ∀ {l : List (Int × Int)} {i : Nat} {p : Int × Int}, l[i]? = some p → (pcs l)[i * 2]? = some (.int .i64 p.1) ∧ (pcs l)[i * 2 + 1]? = some (.int .i64 p.2)
  | [], i, p, h => by simp at h
  | q :: l, 0, p, h => by simp at h; subst h; exact ⟨rfl, rfl⟩
  | q :: l, i + 1, p, h => by
    have := pcs_at (l := l) (i := i) (p := p) (by simpa using h)
    rw [show (i + 1) * 2 = i * 2 + 2 by omega]
    exact this
theorem PB.at_ {W : World} {b i : Nat} {l : List (Int × Int)} (h : PB W b l) {p : Int × Int} (hp : l[i]? = some p) : W.cell? ⟨b, i * 2, none⟩ = some (.int .i64 p.1) ∧ W.cell? ⟨b, i * 2 + 1, none⟩ = some (.int .i64 p.2) := by
  obtain ⟨h1, h2⟩ := pcs_at hp
  unfold PB at h
  exact ⟨by simp only [World.cell?, h]; simpa using h1, by simp only [World.cell?, h]; simpa using h2⟩
set_option maxRecDepth 100000 in
set_option maxHeartbeats 4000000 in
theorem ranksP_any (w : World) (bl n1 c1 : Nat) (l : List (Int × Int)) (h1 : PB w bl l) (hnl : l.length = n1) (hn1 : n1 ≤ 1000000) (out : List Int) (hout : out = zs (Rk.ranks l)) :
    Calls Try.prog 33 #[.slice (some ⟨bl, 0, none⟩) n1 c1] w (NRes w out) := by
  have hl1 := hnl
  have hlo : out.length = n1 := by rw [hout, zs_len, Rk.ranks_length, hl1]
  have HH := hid (And.intro h1 (And.intro hout (And.intro hl1 hlo)))
  have hmk := fun V => make_n V n1 hn1
  obtain ⟨V, hV⟩ : ∃ V, V = w.alloc (.map #[] 0) := ⟨_, rfl⟩
  have HV := hid (show MapP V w.heap.size [] ∧ V.heap.size = w.heap.size + 1 ∧ Below w.heap.size w V from by rw [hV]; exact ⟨⟨#[], 0, alloc_new _ _, rfl, fun i e h => by simp at h⟩, World.size_alloc .., bel1 _ _⟩)
  obtain ⟨W, hW⟩ : ∃ W, W = V.alloc (.cells (zr n1) 3) := ⟨_, rfl⟩
  have HW := hid (show IB W (w.heap.size + 1) (fil out 0) ∧ MapP W w.heap.size (kn l 0) ∧ Below w.heap.size w W from by
    have hb : Below V.heap.size V W := by rw [hW]; exact bel1 _ _
    refine ⟨by rw [hW, ← HV.out.2.1, fil_zero, hlo]; exact alloc_new _ _, by rw [kn_zero]; exact HV.out.1.keep (hb.block _ (by rw [HV.out.2.1]; omega)), HV.out.2.2.trans (hb.mono (by rw [HV.out.2.1]; omega))⟩)
  have hsz := HV.out.2.1
  unfold NRes
  rw [hlo]
  clear h1 hout hl1 hlo hnl
  go_enter Try.func33, Try.ntmps33
  go_wp2_with fail
  rw [← hV, ← hW]
  clear hV hW hmk
  go_loopg [15] n1 (fun kk s15 wr => ∃ i : Nat, s15 = .int .i64 (i : Int) ∧ i + kk = n1 ∧ IB wr (w.heap.size + 1) (fil out i) ∧ MapP wr w.heap.size (kn l i) ∧ Below w.heap.size w wr)
  case atStart => exact ⟨0, rfl, by omega, HW.out.1, HW.out.2.1, HW.out.2.2⟩
  case round =>
    obtain ⟨i, rfl, hk, hI, hM, hb⟩ := hrel
    have HB := hid hb
    have HI := hid hI
    have HM := hid hM
    by_cases hlt : i < n1
    · have hlt' : (i : Int) < (n1 : Int) := by omega
      have hi0 : (0 : Int) ≤ (i : Int) := by omega
      have hi1 : IntKind.i64.wrap ((i : Int) + 1) = (i : Int) + 1 := wrapIn (by omega) (by omega)
      obtain ⟨x, hx⟩ : ∃ x, l[i]? = some x := ⟨_, List.getElem?_eq_getElem (by have := HH.out.2.2.1; omega)⟩
      have hPB := HH.out.1.keep hb
      obtain ⟨p2, p3⟩ := hPB.at_ hx
      obtain ⟨wo, hwo⟩ : ∃ wo, wo = wr.alloc (.cells #[.int .i64 x.1, .int .i64 x.2] 58) := ⟨_, rfl⟩
      have hbo : Below wr.heap.size wr wo := by rw [hwo]; exact bel1 _ _
      have xo := alloc_new wr (.cells #[.int .i64 x.1, .int .i64 x.2] 58)
      rw [← hwo] at xo
      obtain ⟨x0, x1⟩ := cells2 xo
      have hI := hI.keep hbo
      have hM := hM.keep (hbo.block _ (by obtain ⟨es, ck, h9, _⟩ := hM; exact heap_lt h9))
      have hb := hb.trans (hbo.mono hb.size)
      have HB := hid hb
      go_upto_region 6 with fail
      rw [← hwo]
      clear hwo
      have HX := hid hx
      have hlook := run_lookP hM x
      have hfr : wo.frozen? ⟨w.heap.size + 1, i, none⟩ = false := Go.Frame.free hI i
      obtain ⟨z, q0⟩ := hI.cell (i := i) (by rw [fil_len out (by have := HH.out.2.2.2; omega), HH.out.2.2.2]; exact hlt)
      by_cases hin : x ∈ kn l i
      · have hoi : out[i]? = some (((kn l i).idxOf x : Nat) : Int) := by rw [HH.out.2.1]; exact zs_at (rank_in hx hin)
        have HN := hid (show IB (wo.setCell ⟨w.heap.size + 1, i, none⟩ (.int .i64 (((kn l i).idxOf x : Nat) : Int))) (w.heap.size + 1) (fil out (i + 1)) ∧ MapP (wo.setCell ⟨w.heap.size + 1, i, none⟩ (.int .i64 (((kn l i).idxOf x : Nat) : Int))) w.heap.size (kn l (i + 1)) from by rw [← fil_set hoi, kn_in hx hin]; exact ⟨hI.set _, hM.keep ((below_put (Below.refl (w.heap.size + 1) wo) (Nat.le_refl _)).block _ (by omega))⟩)
        rw [lkp, if_pos hin] at hlook
        unfold pv at hlook
        clear hb hI hx hM hoi
        go_wp2
        go_roundg (gk - 1)
        case measure => omega
        case rel => exact ⟨i + 1, by go_num, by omega, HN.out.1, HN.out.2, below_put HB.out (by omega)⟩
      · have hoi : out[i]? = some (((kn l i).length : Nat) : Int) := by rw [HH.out.2.1]; exact zs_at (rank_new hx hin)
        rw [lkp, if_neg hin] at hlook
        unfold pv at hlook
        have hlen := run_lenP hM
        obtain ⟨W', hup, hM', hK⟩ := run_updP hM x hin
        unfold pv at hup
        have hI' : IB W' (w.heap.size + 1) (fil out i) := by unfold IB at hI ⊢; rw [hK.block _ (by omega)]; exact hI
        have hfr' : W'.frozen? ⟨w.heap.size + 1, i, none⟩ = false := Go.Frame.free hI' i
        obtain ⟨z', q0'⟩ := hI'.cell (i := i) (by rw [fil_len out (by have := HH.out.2.2.2; omega), HH.out.2.2.2]; exact hlt)
        have HN := hid (show IB (W'.setCell ⟨w.heap.size + 1, i, none⟩ (.int .i64 (((kn l i).length : Nat) : Int))) (w.heap.size + 1) (fil out (i + 1)) ∧ MapP (W'.setCell ⟨w.heap.size + 1, i, none⟩ (.int .i64 (((kn l i).length : Nat) : Int))) w.heap.size (kn l (i + 1)) ∧ Below w.heap.size w W' from by rw [← fil_set hoi, kn_new hx hin]; exact ⟨hI'.set _, hM'.keep ((below_put (Below.refl (w.heap.size + 1) W') (Nat.le_refl _)).block _ (by omega)), ⟨hK.os.trans hb.os, hK.tape.trans hb.tape, hK.output.trans hb.output, Nat.le_trans hb.size hK.size, fun k h => (hK.block k (by omega)).trans (hb.block k h)⟩⟩)
        clear hb hI hx hM hoi hM' hK hI'
        go_wp2
        go_roundg (gk - 1)
        case measure => omega
        case rel => exact ⟨i + 1, by go_num, by omega, HN.out.1, HN.out.2.1, below_put HN.out.2.2 (by omega)⟩
    · have hlt' : ¬ (i : Int) < (n1 : Int) := by omega
      have hin : i = out.length := by have := HH.out.2.2.2; omega
      rw [hin, fil_all] at hI
      have HI := hid hI
      clear hI hM hb hin
      go_wp2
      go_ret
      exact ⟨⟨w.heap.size + 1, rfl, HI.out, by omega⟩, HB.out⟩
end Go.Proofs.Ytelbagaiijffdaa
