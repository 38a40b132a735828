/-
  Maps of numbers by strings; contract: ranks of strings.
-/
import Derived.Test.YtelbagaiijffdaaTd
import Derived.MapKept
import Derived.Laws.MakeOwn
import Derived.Maps.OwnOps
import Derived.RangeFuncRecord
set_option linter.unusedSimpArgs false
set_option linter.unusedVariables false
namespace Go.Proofs.Ytelbagaiijffdaa
open Go.RowKit Lx Go.Frame
attribute [-instance] ByteArray.instBEq

/-- A map whose keys are the known numbers, in their order, each with its place. -/
def MapS (W : World) (f : Nat) (ks : List ByteArray) : Prop := ∃ (es : Array MapEntry) (ck : Nat), W.heap[f]? = some (.map es ck) ∧ es.toList.map (·.key) = ks.map Value.string ∧ ∀ (i : Nat) (e : MapEntry), es.toList[i]? = some e → e.val = .int .i64 (i : Int)
theorem findS (q : ByteArray) : ∀ (l : List MapEntry) (ks : List ByteArray) (i : Nat), l.map (·.key) = ks.map Value.string → (∀ (j : Nat) (e : MapEntry), l[j]? = some e → e.val = .int .i64 ((i + j : Nat) : Int)) →
    (q ∈ ks → Instr.findNow .string (.string q) l i = some (some (i + ks.idxOf q, .int .i64 ((i + ks.idxOf q : Nat) : Int)))) ∧ (q ∉ ks → Instr.findNow .string (.string q) l i = some none)
  | [], [], i, _, _ => ⟨fun h => (by cases h), fun _ => by simp [Instr.findNow]⟩
  | [], n :: ns, i, h, _ => by simp at h
  | e :: l, [], i, h, _ => by simp at h
  | e :: l, n :: ns, i, h, hv => by
    simp only [List.map_cons, List.cons.injEq] at h
    obtain ⟨g1, g2⟩ := findS q l ns (i + 1) h.2 fun j x hx => by
      have := hv (j + 1) x (by simpa using hx)
      rw [this]; congr 2; omega
    have he := hv 0 e rfl
    have hk : e.key = .string n := h.1
    by_cases hq : q = n
    · subst hq
      refine ⟨fun _ => ?_, fun h' => absurd (List.mem_cons_self ..) h'⟩
      simp [Instr.findNow, Instr.sameNow, hk, he, (MapKept.bytes_beq q q).2 rfl]
    · have hq' := Bool.eq_false_iff.2 fun e => hq ((MapKept.bytes_beq q n).1 e)
      refine ⟨fun h' => ?_, fun h' => ?_⟩
      · have hj := g1 (by rcases List.mem_cons.1 h' with e | e; · exact absurd e hq
                          · exact e)
        have hi : (n :: ns).idxOf q = ns.idxOf q + 1 := by
          have hb : (n == q) = false := by rw [beq_eq_false_iff_ne]; exact Ne.symm hq
          rw [List.idxOf_cons, hb]; rfl
        simp only [Instr.findNow, Instr.sameNow, hk, hq', hj, if_true, hi]
        rw [show i + 1 + ns.idxOf q = i + (ns.idxOf q + 1) by omega]
      · have hj := g2 fun e => h' (List.mem_cons_of_mem _ e)
        simp only [Instr.findNow, Instr.sameNow, hk, hq', hj, if_true]
theorem und76 : Try.prog.underlying 76 = some (.map 9 3) := by kernel_rfl
theorem zero3s (w : World) : (zeroValue 3).run Try.prog w = .ok (.int .i64 0) w := by kernel_rfl
theorem check_s (a : ByteArray) (w : World) : (Instr.checkKey false 10000 9 (.string a)).run Try.prog w = .ok () w := by kernel_rfl
theorem check_s' (a : ByteArray) (w : World) : (Instr.checkKey true 10000 9 (.string a)).run Try.prog w = .ok () w := by kernel_rfl
/-- What a lookup comes to. -/
def lks (ks : List ByteArray) (q : ByteArray) : Value := if q ∈ ks then .tuple #[.int .i64 (ks.idxOf q : Int), .bool true] else .tuple #[.int .i64 0, .bool false]
theorem run_lookS {W : World} {f : Nat} {ks : List ByteArray} (h : MapS W f ks) (q : ByteArray) : (Instr.lookup 76 (.map (some f)) (.string q) true).run Try.prog W = .ok (lks ks q) W := by
  obtain ⟨es, ck, h1, h2, h3⟩ := h
  have hu : (underlying 76).run Try.prog W = .ok (.map 9 3) W := run_underlying und76 W
  have hu3 : (underlying 9).run Try.prog W = .ok .string W := run_underlying Try.underlying9 W
  have hg : (getObj f).run Try.prog W = .ok (.map es ck) W := by simp [getObj, Sem.run, h1]
  have hc : (Instr.checkKey es.isEmpty 10000 9 (.string q)).run Try.prog W = .ok () W := by
    cases es.isEmpty
    · exact check_s _ W
    · exact check_s' _ W
  obtain ⟨g1, g2⟩ := findS q es.toList ks 0 h2 (fun j e hj => by rw [Nat.zero_add]; exact h3 j e hj)
  unfold Instr.lookup Instr.findKey lks
  simp only [Sem.run_bind, hu, Result.andThen_ok, hg, Sem.run_pure, hc, hu3]
  by_cases hq : q ∈ ks
  · have hj := g1 hq
    rw [Nat.zero_add] at hj
    simp [hj, hq]
  · simp [g2 hq, hq, zero3s]
theorem run_updS {W : World} {f : Nat} {ks : List ByteArray} (h : MapS W f ks) (q : ByteArray) (hq : q ∉ ks) : ∃ W', (Instr.mapUpdate 76 (.map (some f)) (.string q) (.int .i64 (ks.length : Int))).run Try.prog W = .ok () W' ∧ MapS W' f (ks ++ [q]) ∧ Kept (· = f) W W' := by
  obtain ⟨es, ck, h1, h2, h3⟩ := h
  have hlen : es.size = ks.length := by have := congrArg List.length h2; simpa using this
  have hu : (underlying 76).run Try.prog W = .ok (.map 9 3) W := run_underlying und76 W
  have hu3 : (underlying 9).run Try.prog W = .ok .string W := run_underlying Try.underlying9 W
  have hg : (getObj f).run Try.prog W = .ok (.map es ck) W := by simp [getObj, Sem.run, h1]
  have hc : (Instr.checkKey false 10000 9 (.string q)).run Try.prog W = .ok () W := check_s _ W
  have hf := heap_lt h1
  have hfn := (findS q es.toList ks 0 h2 (fun j e hj => by rw [Nat.zero_add]; exact h3 j e hj)).2 hq
  refine ⟨W.putObj f (.map (es.push { key := .string q, val := .int .i64 (ks.length : Int), born := ck }) (ck + 1)), ?_, ⟨_, _, World.putObj_heap_same hf, by simp [h2], fun i e he => ?_⟩, ⟨rfl, rfl, rfl, by rw [World.putObj_size]; exact Nat.le_refl _, fun k hk => World.putObj_heap_other hk⟩⟩
  · unfold Instr.mapUpdate Instr.findKey
    simp only [Sem.run_bind, hu, Result.andThen_ok, hg, Sem.run_pure, hc, hu3, hfn]
    simp [setObj, Sem.run, World.putObj, h1]
  · rw [Array.toList_push] at he
    by_cases hi : i < es.size
    · rw [List.getElem?_append_left (by simpa using hi)] at he
      exact h3 i e he
    · have hie : i = es.size := by have := (List.getElem?_eq_some_iff.1 he).1; simp at this; omega
      subst hie
      rw [List.getElem?_append_right (by simp)] at he
      simp at he
      rw [← he, hlen]
theorem MapS.keep {W W' : World} {f : Nat} {ks : List ByteArray} (h : MapS W f ks) (hb : W'.heap[f]? = W.heap[f]?) : MapS W' f ks := by
  obtain ⟨es, ck, h1, h2⟩ := h
  exact ⟨es, ck, hb.trans h1, h2⟩
theorem str_at {W : World} {l : List ByteArray} {a1 : Option Addr} {m i : Nat} (h : Row W a1 m (l.map Value.string)) (hi : i < m) : ∃ b off x, a1 = some ⟨b, off, none⟩ ∧ b < W.heap.size ∧ l[i]? = some x ∧ W.cell? ⟨b, off + i, none⟩ = some (.string x) := by
  obtain ⟨h1, h2⟩ := h
  rcases h2 with h2 | ⟨b, off, rfl, hb, h2⟩
  · omega
  · have hl : i < l.length := by simp at h1; omega
    exact ⟨b, off, l[i], rfl, hb, List.getElem?_eq_getElem hl, h2 i _ (by rw [List.getElem?_map, List.getElem?_eq_getElem hl]; rfl)⟩
theorem run_lenS {W : World} {f : Nat} {ks : List ByteArray} (h : MapS W f ks) (ty : TypeId) : (Builtin.len_ #[76] ty #[.map (some f)]).run Try.prog W = .ok (.int .i64 (ks.length : Int)) W := by
  obtain ⟨es, ck, h1, h2, h3⟩ := h
  have hlen : es.size = ks.length := by have := congrArg List.length h2; simpa using this
  have hg : (getObj f).run Try.prog W = .ok (.map es ck) W := by simp [getObj, Sem.run, h1]
  simp [Builtin.len_, run_underlying und76, hg, goInt, Result.andThen, hlen]
theorem map76 (W : World) : (Instr.makeMap 76 none).run Try.prog W = .ok (.map (some W.heap.size)) (W.alloc (.map #[] 0)) := by kernel_rfl
attribute [local go_sem] map76
set_option maxRecDepth 100000 in
set_option maxHeartbeats 4000000 in
theorem ranksS_any (w : World) (a1 : Option Addr) (n1 c1 : Nat) (l : List ByteArray) (h1 : Row w a1 n1 (l.map Value.string)) (hn1 : n1 ≤ 1000000) (out : List Int) (hout : out = zs (Rk.ranks l)) :
    Calls Try.prog 30 #[.slice a1 n1 c1] w (NRes w out) := by
  have hl1 : l.length = n1 := by have := h1.1; simpa using this
  have hlo : out.length = n1 := by rw [hout, zs_len, Rk.ranks_length, hl1]
  have HH := hid (And.intro h1 (And.intro hout (And.intro hl1 hlo)))
  have hmk := fun V => make_n V n1 hn1
  obtain ⟨V, hV⟩ : ∃ V, V = w.alloc (.map #[] 0) := ⟨_, rfl⟩
  have HV := hid (show MapS V w.heap.size [] ∧ V.heap.size = w.heap.size + 1 ∧ Below w.heap.size w V from by rw [hV]; exact ⟨⟨#[], 0, alloc_new _ _, rfl, fun i e h => by simp at h⟩, World.size_alloc .., bel1 _ _⟩)
  obtain ⟨W, hW⟩ : ∃ W, W = V.alloc (.cells (zr n1) 3) := ⟨_, rfl⟩
  have HW := hid (show IB W (w.heap.size + 1) (fil out 0) ∧ MapS W w.heap.size (kn l 0) ∧ Below w.heap.size w W from by
    have hb : Below V.heap.size V W := by rw [hW]; exact bel1 _ _
    refine ⟨by rw [hW, ← HV.out.2.1, fil_zero, hlo]; exact alloc_new _ _, by rw [kn_zero]; exact HV.out.1.keep (hb.block _ (by rw [HV.out.2.1]; omega)), HV.out.2.2.trans (hb.mono (by rw [HV.out.2.1]; omega))⟩)
  have hsz := HV.out.2.1
  unfold NRes
  rw [hlo]
  clear h1 hout hl1 hlo
  go_enter Try.func30, Try.ntmps30
  go_wp2_with fail
  rw [← hV, ← hW]
  clear hV hW hmk
  go_loopg [15] n1 (fun kk s15 wr => ∃ i : Nat, s15 = .int .i64 (i : Int) ∧ i + kk = n1 ∧ IB wr (w.heap.size + 1) (fil out i) ∧ MapS wr w.heap.size (kn l i) ∧ Below w.heap.size w wr)
  case atStart => exact ⟨0, rfl, by omega, HW.out.1, HW.out.2.1, HW.out.2.2⟩
  case round =>
    obtain ⟨i, rfl, hk, hI, hM, hb⟩ := hrel
    have HB := hid hb
    have HI := hid hI
    have HM := hid hM
    by_cases hlt : i < n1
    · have hlt' : (i : Int) < (n1 : Int) := by omega
      have hi0 : (0 : Int) ≤ (i : Int) := by omega
      have hi1 : IntKind.i64.wrap ((i : Int) + 1) = (i : Int) + 1 := wrapIn (by omega) (by omega)
      obtain ⟨b2, o2, x, rfl, _, hx, p2⟩ := str_at (HH.out.1.below hb) hlt
      have HX := hid hx
      have hlook := run_lookS hM x
      have hfr : wr.frozen? ⟨w.heap.size + 1, i, none⟩ = false := Go.Frame.free hI i
      obtain ⟨z, q0⟩ := hI.cell (i := i) (by rw [fil_len out (by have := HH.out.2.2.2; omega), HH.out.2.2.2]; exact hlt)
      by_cases hin : x ∈ kn l i
      · have hoi : out[i]? = some (((kn l i).idxOf x : Nat) : Int) := by rw [HH.out.2.1]; exact zs_at (rank_in hx hin)
        have HN := hid (show IB (wr.setCell ⟨w.heap.size + 1, i, none⟩ (.int .i64 (((kn l i).idxOf x : Nat) : Int))) (w.heap.size + 1) (fil out (i + 1)) ∧ MapS (wr.setCell ⟨w.heap.size + 1, i, none⟩ (.int .i64 (((kn l i).idxOf x : Nat) : Int))) w.heap.size (kn l (i + 1)) from by rw [← fil_set hoi, kn_in hx hin]; exact ⟨hI.set _, hM.keep ((below_put (Below.refl (w.heap.size + 1) wr) (Nat.le_refl _)).block _ (by omega))⟩)
        rw [lks, if_pos hin] at hlook
        clear hb hI hx hM hoi
        go_wp2
        go_roundg (gk - 1)
        case measure => omega
        case rel => exact ⟨i + 1, by go_num, by omega, HN.out.1, HN.out.2, below_put HB.out (by omega)⟩
      · have hoi : out[i]? = some (((kn l i).length : Nat) : Int) := by rw [HH.out.2.1]; exact zs_at (rank_new hx hin)
        rw [lks, if_neg hin] at hlook
        have hlen := run_lenS hM
        obtain ⟨W', hup, hM', hK⟩ := run_updS hM x hin
        have hI' : IB W' (w.heap.size + 1) (fil out i) := by unfold IB at hI ⊢; rw [hK.block _ (by omega)]; exact hI
        have hfr' : W'.frozen? ⟨w.heap.size + 1, i, none⟩ = false := Go.Frame.free hI' i
        obtain ⟨z', q0'⟩ := hI'.cell (i := i) (by rw [fil_len out (by have := HH.out.2.2.2; omega), HH.out.2.2.2]; exact hlt)
        have HN := hid (show IB (W'.setCell ⟨w.heap.size + 1, i, none⟩ (.int .i64 (((kn l i).length : Nat) : Int))) (w.heap.size + 1) (fil out (i + 1)) ∧ MapS (W'.setCell ⟨w.heap.size + 1, i, none⟩ (.int .i64 (((kn l i).length : Nat) : Int))) w.heap.size (kn l (i + 1)) ∧ Below w.heap.size w W' from by rw [← fil_set hoi, kn_new hx hin]; exact ⟨hI'.set _, hM'.keep ((below_put (Below.refl (w.heap.size + 1) W') (Nat.le_refl _)).block _ (by omega)), ⟨hK.os.trans hb.os, hK.tape.trans hb.tape, hK.output.trans hb.output, Nat.le_trans hb.size hK.size, fun k h => (hK.block k (by omega)).trans (hb.block k h)⟩⟩)
        clear hb hI hx hM hoi hM' hK hI'
        go_wp2
        go_roundg (gk - 1)
        case measure => omega
        case rel => exact ⟨i + 1, by go_num, by omega, HN.out.1, HN.out.2.1, below_put HN.out.2.2 (by omega)⟩
    · have hlt' : ¬ (i : Int) < (n1 : Int) := by omega
      have hin : i = out.length := by have := HH.out.2.2.2; omega
      rw [hin, fil_all] at hI
      have HI := hid hI
      clear hI hM hb hin
      go_wp2
      go_ret
      exact ⟨⟨w.heap.size + 1, rfl, HI.out, by omega⟩, HB.out⟩
end Go.Proofs.Ytelbagaiijffdaa
