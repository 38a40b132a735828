/-
  A map from moves to sets of states: look-up, update.
-/
import Derived.Test.YtogpnlkjcdedlaaDoorSw
import Derived.Laws.StructEq
import Derived.ChangeKeysEq
import Derived.RangeFuncRecord
set_option linter.unusedSimpArgs false
set_option linter.unusedVariables false
namespace Go.Proofs.YtogpnlkjcdedlaaDoor
open Go.RowKit Bs Rg Nf Go.Frame
attribute [local go_sem] eq_zero eq_set

/-- A move as a value. -/
def kv (p : Nat × Nat) : Value := .agg #[.int .i64 (p.1 : Int), .int .u8 (p.2 : Int)]
theorem check_kv (p : Nat × Nat) (w : World) : (Instr.checkKey false 10000 105 (kv p)).run Tryd.prog w = .ok () w := by kernel_rfl
theorem check_kv' (p : Nat × Nat) (w : World) : (Instr.checkKey true 10000 105 (kv p)).run Tryd.prog w = .ok () w := by kernel_rfl
theorem u105 : Tryd.prog.underlying 105 = some (.struct (Tryd.prog.fieldsOf 105)) := by kernel_rfl
theorem f105 : ((Tryd.prog.fieldsOf 105).toList.map fun f => (f.name, f.type, f.offset)) = [("state", 3, 0), ("b", 5, 1)] := by kernel_rfl
theorem h105 : Tryd.prog.stoodInHeld 105 = false := by kernel_rfl
theorem kp0 (a b : Int) (w : World) : (Go.part 3 #[Value.int .i64 a, .int .u8 b] 0).run Tryd.prog w = .ok (.int .i64 a) w := by kernel_rfl
theorem kp1 (a b : Int) (w : World) : (Go.part 5 #[Value.int .i64 a, .int .u8 b] 1).run Tryd.prog w = .ok (.int .u8 b) w := by kernel_rfl
set_option maxRecDepth 100000 in
set_option maxHeartbeats 4000000 in
theorem eq_kv (p q : Nat × Nat) (w : World) : (Op.equal 105 (kv p) (kv q)).run Tryd.prog w = .ok (decide (p = q)) w := by
  obtain ⟨a, b⟩ := p
  obtain ⟨a', b'⟩ := q
  unfold Op.equal Op.maxDepth kv
  rw [show (10000 : Nat) = 9999 + 1 from rfl, run_equalIn_struct w 9999 105 _ _ u105 h105]
  generalize hf : (Tryd.prog.fieldsOf 105).toList = fs
  have := f105
  rw [hf] at this
  match fs, this with
  | [f0, f1], this =>
    simp only [List.map_cons, List.map_nil, List.cons.injEq, Prod.mk.injEq, and_true] at this
    obtain ⟨⟨n0, t0, o0⟩, n1, t1, o1⟩ := this
    have he : ∀ (x y : Int) (w : World), (Op.equalIn 9999 3 (.int .i64 x) (.int .i64 y)).run Tryd.prog w = .ok (decide (x = y)) w := fun x y w => by
      rw [show (9999 : Nat) = 9998 + 1 from rfl, run_equalIn_int w 9998 3 .i64 .i64 x y Tryd.underlying3]
      by_cases h : x = y <;> simp [h]
    have he5 : ∀ (x y : Int) (w : World), (Op.equalIn 9999 5 (.int .u8 x) (.int .u8 y)).run Tryd.prog w = .ok (decide (x = y)) w := fun x y w => by
      rw [show (9999 : Nat) = 9998 + 1 from rfl, run_equalIn_int w 9998 5 .u8 .u8 x y Tryd.underlying5]
      by_cases h : x = y <;> simp [h]
    by_cases h0 : a = a'
    · by_cases h1 : b = b'
      · simp [Op.eqFields, n0, n1, t0, t1, o0, o1, Sem.run_bind, kp0, kp1, he, he5, h0, h1]
      · have h1' : ¬ (b : Int) = (b' : Int) := by omega
        simp [Op.eqFields, n0, n1, t0, t1, o0, o1, Sem.run_bind, kp0, kp1, he, he5, h0, h1, h1']
    · have h0' : ¬ (a : Int) = (a' : Int) := by omega
      simp [Op.eqFields, n0, n1, t0, t1, o0, o1, Sem.run_bind, kp0, kp1, he, he5, h0, h0']
theorem run_findM (q : Nat × Nat) (w : World) : ∀ (l : List MapEntry) (ps : List (Nat × Nat)) (i : Nat), l.map (·.key) = ps.map kv → (Instr.findAsking 105 (kv q) l i).run Tryd.prog w = .ok (match ps.findIdx? (fun p => decide (q = p)) with | some j => (l[j]?).map fun e => (i + j, e.val) | none => none) w
  | [], [], i, _ => by simp [Instr.findAsking]
  | [], p :: ps, i, h => by simp at h
  | e :: l, [], i, h => by simp at h
  | e :: l, p :: ps, i, h => by
    simp only [List.map_cons, List.cons.injEq] at h
    have ih := run_findM q w l ps (i + 1) h.2
    have he : (Op.equal 105 (kv q) e.key).run Tryd.prog w = .ok (decide (q = p)) w := by rw [h.1]; exact eq_kv _ _ w
    rw [Instr.findAsking]
    simp only [Sem.run_bind, he, Result.andThen_ok, List.findIdx?_cons]
    by_cases hq : q = p
    · simp [hq]
    · simp only [decide_eq_false hq, Bool.false_eq_true, if_false]
      rw [ih]
      cases hf : List.findIdx? (fun p => decide (q = p)) ps with
      | none => simp
      | some j => simp [Nat.add_assoc, Nat.add_comm 1 j]
/-- A map from moves to values. -/
def MapM (W : World) (m : Nat) (ps : List (Nat × Nat)) (vs : List Value) : Prop := ps.length = vs.length ∧ ∃ (es : Array MapEntry) (ck : Nat), W.heap[m]? = some (.map es ck) ∧ es.toList.map (·.key) = ps.map kv ∧ es.toList.map (·.val) = vs
theorem und96 : Tryd.prog.underlying 96 = some (.map 105 61) := by kernel_rfl
theorem zero61 (w : World) : (zeroValue 61).run Tryd.prog w = .ok (.slice none 0 0) w := by kernel_rfl
theorem len_of_map {α β γ : Type} {f : α → γ} {h : β → γ} : ∀ {l : List α} {m : List β}, l.map f = m.map h → l.length = m.length := fun {l m} e => by have := congrArg List.length e; simpa using this
theorem run_findKeyM (q : Nat × Nat) (w : World) (l : List MapEntry) (ps : List (Nat × Nat)) (h : l.map (·.key) = ps.map kv) : (Instr.findKey 105 (kv q) l).run Tryd.prog w = .ok (match ps.findIdx? (fun p => decide (q = p)) with | some j => (l[j]?).map fun e => (j, e.val) | none => none) w := by
  unfold Instr.findKey
  have hu : (underlying 105).run Tryd.prog w = .ok (.struct (Tryd.prog.fieldsOf 105)) w := run_underlying u105 w
  simp only [Sem.run_bind, hu, Result.andThen_ok]
  cases l with
  | nil =>
    cases ps with
    | nil => simp [Instr.findNow]
    | cons p ps => simp at h
  | cons e l =>
    have hn : Instr.findNow (.struct (Tryd.prog.fieldsOf 105)) (kv q) (e :: l) 0 = none := by simp [Instr.findNow, Instr.sameNow, kv]
    rw [hn]
    simp only
    rw [run_findM q w (e :: l) ps 0 h]
    cases List.findIdx? (fun p => decide (q = p)) ps <;> simp
/-- The look-up. -/
theorem run_lookM {W : World} {m : Nat} {ps : List (Nat × Nat)} {vs : List Value} (h : MapM W m ps vs) (q : Nat × Nat) : (Instr.lookup 96 (.map (some m)) (kv q) true).run Tryd.prog W = .ok (match ps.findIdx? (fun p => decide (q = p)) with | some j => .tuple #[vs.getD j (.slice none 0 0), .bool true] | none => .tuple #[.slice none 0 0, .bool false]) W := by
  obtain ⟨hl, es, ck, h1, h2, h3⟩ := h
  have hu : (underlying 96).run Tryd.prog W = .ok (.map 105 61) W := run_underlying und96 W
  have hg : (getObj m).run Tryd.prog W = .ok (.map es ck) W := by simp [getObj, Sem.run, h1]
  have hc : (Instr.checkKey es.isEmpty 10000 105 (kv q)).run Tryd.prog W = .ok () W := by
    cases es.isEmpty
    · exact check_kv _ W
    · exact check_kv' _ W
  unfold Instr.lookup
  simp only [Sem.run_bind, hu, Result.andThen_ok, hg, Sem.run_pure, hc, run_findKeyM q W es.toList ps h2]
  cases hf : List.findIdx? (fun p => decide (q = p)) ps with
  | none => simp [zero61]
  | some j =>
    have hj : j < es.size := by
      have h4 := len_of_map h2
      have h5 := (List.findIdx?_eq_some_iff_findIdx_eq.1 hf).1
      rw [Array.length_toList] at h4
      omega
    have h6 : vs[j]? = some es[j].val := by rw [← h3, List.getElem?_map, Array.getElem?_toList, Array.getElem?_eq_getElem hj]; rfl
    simp [hj, List.getD_eq_getElem?_getD, h6]
/-- A new key. -/
theorem run_updM {W : World} {m : Nat} {ps : List (Nat × Nat)} {vs : List Value} (h : MapM W m ps vs) (q : Nat × Nat) (v : Value) (hq : ps.findIdx? (fun p => decide (q = p)) = none) : ∃ W', (Instr.mapUpdate 96 (.map (some m)) (kv q) v).run Tryd.prog W = .ok () W' ∧ MapM W' m (ps ++ [q]) (vs ++ [v]) ∧ Kept (· = m) W W' ∧ W'.heap.size = W.heap.size := by
  obtain ⟨hl, es, ck, h1, h2, h3⟩ := h
  have hu : (underlying 96).run Tryd.prog W = .ok (.map 105 61) W := run_underlying und96 W
  have hg : (getObj m).run Tryd.prog W = .ok (.map es ck) W := by simp [getObj, Sem.run, h1]
  have hc : (Instr.checkKey false 10000 105 (kv q)).run Tryd.prog W = .ok () W := check_kv _ W
  have hm := heap_lt h1
  refine ⟨W.putObj m (.map (es.push { key := kv q, val := v, born := ck }) (ck + 1)), ?_, ⟨by simp [hl], _, _, World.putObj_heap_same hm, by simp [h2], by simp [h3]⟩, ⟨rfl, rfl, rfl, by rw [World.putObj_size]; exact Nat.le_refl _, fun k hk => World.putObj_heap_other hk⟩, World.putObj_size⟩
  unfold Instr.mapUpdate
  simp only [Sem.run_bind, hu, Result.andThen_ok, hg, Sem.run_pure, hc, run_findKeyM q W es.toList ps h2, hq]
  simp [setObj, Sem.run, World.putObj, h1]
theorem MapM.keep {W W' : World} {m : Nat} {ps : List (Nat × Nat)} {vs : List Value} (h : MapM W m ps vs) (hb : W'.heap[m]? = W.heap[m]?) : MapM W' m ps vs := by
  obtain ⟨hl, es, ck, h1, h2⟩ := h
  exact ⟨hl, es, ck, hb.trans h1, h2⟩
end Go.Proofs.YtogpnlkjcdedlaaDoor
