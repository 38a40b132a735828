/-
  Numbers of expressions and lists: the table, in memory; get, listed.
  Numbers of expressions and lists: the table and its contracts (get, listed).
  Contracts: Backward, its iterator.
  Contracts: join, Clone.
  Contracts: Clone, clone.
-/
import Derived.Test.YtednoideboeehaaDoorZ06
import Derived.Test.YtednoideboeehaaDoorZ10
import Derived.RangeFuncRecord
import Derived.WideLaws
import Derived.RangeFuncNested
import Derived.RangeFuncBound
import Derived.RangeFuncFrom
import Derived.LoopIn
import Derived.Test.YtednoideboeehaaDoorZ09
import Derived.OwnWalk
section
set_option linter.unusedSimpArgs false
set_option linter.unusedVariables false
namespace Go.Proofs.YtednoideboeehaaDoor
open Go.RowKit Bs Rg Go.Frame
attribute [local go_sem] eq_zero eq_set

/-- A shape as a value. -/
def shv (k : Int) (s : BS) (a b : Nat) : Value := .agg #[.int .i64 k, .int .u64 (ws s 0 : Int), .int .u64 (ws s 1 : Int), .int .u64 (ws s 2 : Int), .int .u64 (ws s 3 : Int), .int .i64 (a : Int), .int .i64 (b : Int)]
theorem check_shv (k : Int) (s : BS) (a b : Nat) (w : World) : (Instr.checkKey false 10000 131 (shv k s a b)).run Tryd.prog w = .ok () w := by kernel_rfl
theorem check_shv' (k : Int) (s : BS) (a b : Nat) (w : World) : (Instr.checkKey true 10000 131 (shv k s a b)).run Tryd.prog w = .ok () w := by kernel_rfl
theorem u131 : Tryd.prog.underlying 131 = some (.struct (Tryd.prog.fieldsOf 131)) := by kernel_rfl
theorem f131 : ((Tryd.prog.fieldsOf 131).toList.map fun f => (f.name, f.type, f.offset)) = [("kind", 3, 0), ("set", 24, 1), ("first", 3, 5), ("rest", 3, 6)] := by kernel_rfl
theorem h131 : Tryd.prog.stoodInHeld 131 = false := by kernel_rfl
theorem eqInD (d : Nat) (a b c e a' b' c' e' : Int) (w : World) : (Op.equalIn (d + 2) 24 (.agg #[.int .u64 a, .int .u64 b, .int .u64 c, .int .u64 e]) (.agg #[.int .u64 a', .int .u64 b', .int .u64 c', .int .u64 e'])).run Tryd.prog w = .ok (decide (a = a' ∧ b = b' ∧ c = c' ∧ e = e')) w := by
  obtain ⟨i, hi⟩ := Option.isSome_iff_exists.1 info22
  rw [run_equalIn_array w (d + 1) _ _ Tryd.underlying24 hi, cells22]
  have he : ∀ (x y : Int) (w : World), (Op.equalIn (d + 1) 22 (.int .u64 x) (.int .u64 y)).run Tryd.prog w = .ok (decide (x = y)) w := fun x y w => by
    rw [run_equalIn_int w d 22 .u64 .u64 x y Tryd.underlying22]
    by_cases h : x = y <;> simp [h]
  rw [show List.range 4 = [0, 1, 2, 3] from rfl]
  by_cases h0 : a = a'
  · by_cases h1 : b = b'
    · by_cases h2 : c = c'
      · by_cases h3 : e = e' <;> simp [Op.eqItems, Sem.run_bind, part0, part1, part2, part3, he, h0, h1, h2, h3]
      · simp [Op.eqItems, Sem.run_bind, part0, part1, part2, part3, he, h0, h1, h2]
    · simp [Op.eqItems, Sem.run_bind, part0, part1, part2, part3, he, h0, h1]
  · simp [Op.eqItems, Sem.run_bind, part0, part1, part2, part3, he, h0]
section
variable (k : Int) (x0 x1 x2 x3 : Int) (a b : Int) (w : World)
theorem sh0 : (Go.part 3 #[Value.int .i64 k, .int .u64 x0, .int .u64 x1, .int .u64 x2, .int .u64 x3, .int .i64 a, .int .i64 b] 0).run Tryd.prog w = .ok (.int .i64 k) w := by kernel_rfl
theorem sh1 : (Go.part 24 #[Value.int .i64 k, .int .u64 x0, .int .u64 x1, .int .u64 x2, .int .u64 x3, .int .i64 a, .int .i64 b] 1).run Tryd.prog w = .ok (.agg #[.int .u64 x0, .int .u64 x1, .int .u64 x2, .int .u64 x3]) w := by kernel_rfl
theorem sh2 : (Go.part 3 #[Value.int .i64 k, .int .u64 x0, .int .u64 x1, .int .u64 x2, .int .u64 x3, .int .i64 a, .int .i64 b] 5).run Tryd.prog w = .ok (.int .i64 a) w := by kernel_rfl
theorem sh3 : (Go.part 3 #[Value.int .i64 k, .int .u64 x0, .int .u64 x1, .int .u64 x2, .int .u64 x3, .int .i64 a, .int .i64 b] 6).run Tryd.prog w = .ok (.int .i64 b) w := by kernel_rfl
end
set_option maxRecDepth 100000 in
set_option maxHeartbeats 4000000 in
theorem eq_shv (k k' : Int) (s s' : BS) (a a' b b' : Nat) (w : World) : (Op.equal 131 (shv k s a b) (shv k' s' a' b')).run Tryd.prog w = .ok (decide (k = k') && (eqs s s' && (decide (a = a') && decide (b = b')))) w := by
  unfold Op.equal Op.maxDepth shv
  rw [show (10000 : Nat) = 9999 + 1 from rfl, run_equalIn_struct w 9999 131 _ _ u131 h131]
  generalize hf : (Tryd.prog.fieldsOf 131).toList = fs
  have := f131
  rw [hf] at this
  match fs, this with
  | [f0, f1, f2, f3], this =>
    simp only [List.map_cons, List.map_nil, List.cons.injEq, Prod.mk.injEq, and_true] at this
    obtain ⟨⟨n0, t0, o0⟩, ⟨n1, t1, o1⟩, ⟨n2, t2, o2⟩, n3, t3, o3⟩ := this
    have he : ∀ (x y : Int) (w : World), (Op.equalIn 9999 3 (.int .i64 x) (.int .i64 y)).run Tryd.prog w = .ok (decide (x = y)) w := fun x y w => by
      rw [show (9999 : Nat) = 9998 + 1 from rfl, run_equalIn_int w 9998 3 .i64 .i64 x y Tryd.underlying3]
      by_cases h : x = y <;> simp [h]
    have hs : ∀ (w : World), (Op.equalIn 9999 24 (.agg #[.int .u64 (ws s 0 : Int), .int .u64 (ws s 1 : Int), .int .u64 (ws s 2 : Int), .int .u64 (ws s 3 : Int)]) (.agg #[.int .u64 (ws s' 0 : Int), .int .u64 (ws s' 1 : Int), .int .u64 (ws s' 2 : Int), .int .u64 (ws s' 3 : Int)])).run Tryd.prog w = .ok (eqs s s') w := fun w => by
      rw [show (9999 : Nat) = 9997 + 2 from rfl, eqInD, words_eqs]
    by_cases h0 : k = k'
    · cases h1 : eqs s s'
      · simp [Op.eqFields, n0, n1, n2, n3, t0, t1, t2, t3, o0, o1, o2, o3, Sem.run_bind, sh0, sh1, sh2, sh3, he, hs, h0, h1]
      · by_cases h2 : a = a'
        · by_cases h3 : b = b' <;> simp [Op.eqFields, n0, n1, n2, n3, t0, t1, t2, t3, o0, o1, o2, o3, Sem.run_bind, sh0, sh1, sh2, sh3, he, hs, h0, h1, h2, h3] <;> omega
        · have h2' : ¬ (a : Int) = (a' : Int) := by omega
          simp [Op.eqFields, n0, n1, n2, n3, t0, t1, t2, t3, o0, o1, o2, o3, Sem.run_bind, sh0, sh1, sh2, sh3, he, hs, h0, h1, h2, h2']
    · simp [Op.eqFields, n0, n1, n2, n3, t0, t1, t2, t3, o0, o1, o2, o3, Sem.run_bind, sh0, sh1, sh2, sh3, he, hs, h0]
/-- One shape as a tuple. -/
abbrev Shp := Int × BS × Nat × Nat
def shV (p : Shp) : Value := shv p.1 p.2.1 p.2.2.1 p.2.2.2
def shE (p q : Shp) : Bool := decide (p.1 = q.1) && (eqs p.2.1 q.2.1 && (decide (p.2.2.1 = q.2.2.1) && decide (p.2.2.2 = q.2.2.2)))
theorem shE_iff {p q : Shp} : shE p q = true ↔ p = q := by
  obtain ⟨a, b, c, d⟩ := p
  obtain ⟨a', b', c', d'⟩ := q
  simp [shE, eqs_iff]
/-- Where a key lies among shapes. -/
theorem run_find (q : Shp) (w : World) : ∀ (l : List MapEntry) (ps : List Shp) (i : Nat), l.map (·.key) = ps.map shV → (Instr.findAsking 131 (shV q) l i).run Tryd.prog w = .ok (match ps.findIdx? (shE q) with | some j => (l[j]?).map fun e => (i + j, e.val) | none => none) w
  | [], [], i, _ => by simp [Instr.findAsking]
  | [], p :: ps, i, h => by simp at h
  | e :: l, [], i, h => by simp at h
  | e :: l, p :: ps, i, h => by
    simp only [List.map_cons, List.cons.injEq] at h
    have ih := run_find q w l ps (i + 1) h.2
    have he : (Op.equal 131 (shV q) e.key).run Tryd.prog w = .ok (shE q p) w := by rw [h.1]; exact eq_shv _ _ _ _ _ _ _ _ w
    rw [Instr.findAsking]
    simp only [Sem.run_bind, he, Result.andThen_ok, List.findIdx?_cons]
    cases hq : shE q p
    · simp only [Bool.false_eq_true, if_false]
      rw [ih]
      cases hf : List.findIdx? (shE q) ps with
      | none => simp
      | some j => simp [Nat.add_assoc, Nat.add_comm 1 j]
    · simp

/-- A map from shapes to their places (from 1 on). -/
def MapS (W : World) (m : Nat) (ps : List Shp) : Prop := ∃ (es : Array MapEntry) (ck : Nat), W.heap[m]? = some (.map es ck) ∧ es.toList.map (·.key) = ps.map shV ∧ ∀ (i : Nat) (e : MapEntry), es[i]? = some e → e.val = .int .i64 ((i + 1 : Nat) : Int)
theorem und75 : Tryd.prog.underlying 75 = some (.map 131 3) := by kernel_rfl
theorem zero3 (w : World) : (zeroValue 3).run Tryd.prog w = .ok (.int .i64 0) w := by kernel_rfl
theorem len_of_map {α β γ : Type} {f : α → γ} {h : β → γ} : ∀ {l : List α} {m : List β}, l.map f = m.map h → l.length = m.length := fun {l m} e => by have := congrArg List.length e; simpa using this
theorem run_findKey (q : Shp) (w : World) (l : List MapEntry) (ps : List Shp) (h : l.map (·.key) = ps.map shV) : (Instr.findKey 131 (shV q) l).run Tryd.prog w = .ok (match ps.findIdx? (shE q) with | some j => (l[j]?).map fun e => (j, e.val) | none => none) w := by
  unfold Instr.findKey
  have hu : (underlying 131).run Tryd.prog w = .ok (.struct (Tryd.prog.fieldsOf 131)) w := run_underlying u131 w
  simp only [Sem.run_bind, hu, Result.andThen_ok]
  cases l with
  | nil =>
    cases ps with
    | nil => simp [Instr.findNow]
    | cons p ps => simp at h
  | cons e l =>
    have hn : Instr.findNow (.struct (Tryd.prog.fieldsOf 131)) (shV q) (e :: l) 0 = none := by simp [Instr.findNow, Instr.sameNow, shV, shv]
    rw [hn]
    simp only
    rw [run_find q w (e :: l) ps 0 h]
    cases List.findIdx? (shE q) ps <;> simp
/-- The look-up. -/
theorem run_lookS {W : World} {m : Nat} {ps : List Shp} (h : MapS W m ps) (q : Shp) : (Instr.lookup 75 (.map (some m)) (shV q) true).run Tryd.prog W = .ok (match ps.findIdx? (shE q) with | some j => .tuple #[.int .i64 ((j + 1 : Nat) : Int), .bool true] | none => .tuple #[.int .i64 0, .bool false]) W := by
  obtain ⟨es, ck, h1, h2, h3⟩ := h
  have hu : (underlying 75).run Tryd.prog W = .ok (.map 131 3) W := run_underlying und75 W
  have hg : (getObj m).run Tryd.prog W = .ok (.map es ck) W := by simp [getObj, Sem.run, h1]
  have hc : (Instr.checkKey es.isEmpty 10000 131 (shV q)).run Tryd.prog W = .ok () W := by
    cases es.isEmpty
    · exact check_shv _ _ _ _ W
    · exact check_shv' _ _ _ _ W
  unfold Instr.lookup
  simp only [Sem.run_bind, hu, Result.andThen_ok, hg, Sem.run_pure, hc, run_findKey q W es.toList ps h2]
  cases hf : List.findIdx? (shE q) ps with
  | none => simp [zero3]
  | some j =>
    have hj : j < es.size := by
      have h4 := len_of_map h2
      have h5 := (List.findIdx?_eq_some_iff_findIdx_eq.1 hf).1
      rw [Array.length_toList] at h4
      omega
    have h6 := h3 j es[j] (Array.getElem?_eq_getElem hj)
    simp [hj, h6]
/-- A new key. -/
theorem run_updS {W : World} {m : Nat} {ps : List Shp} (h : MapS W m ps) (q : Shp) (hq : ps.findIdx? (shE q) = none) : ∃ W', (Instr.mapUpdate 75 (.map (some m)) (shV q) (.int .i64 ((ps.length + 1 : Nat) : Int))).run Tryd.prog W = .ok () W' ∧ MapS W' m (ps ++ [q]) ∧ W'.os = W.os ∧ W'.tape = W.tape ∧ W'.output = W.output ∧ W'.heap.size = W.heap.size ∧ ∀ k, k ≠ m → W'.heap[k]? = W.heap[k]? := by
  obtain ⟨es, ck, h1, h2, h3⟩ := h
  have hu : (underlying 75).run Tryd.prog W = .ok (.map 131 3) W := run_underlying und75 W
  have hg : (getObj m).run Tryd.prog W = .ok (.map es ck) W := by simp [getObj, Sem.run, h1]
  have hc : (Instr.checkKey false 10000 131 (shV q)).run Tryd.prog W = .ok () W := check_shv _ _ _ _ W
  have hm := heap_lt h1
  have hl : es.size = ps.length := by have := len_of_map h2; simpa using this
  refine ⟨W.putObj m (.map (es.push { key := shV q, val := .int .i64 ((ps.length + 1 : Nat) : Int), born := ck }) (ck + 1)), ?_, ⟨_, _, World.putObj_heap_same hm, by simp [h2], fun i e hi => ?_⟩, rfl, rfl, rfl, World.putObj_size, fun k hk => World.putObj_heap_other hk⟩
  · unfold Instr.mapUpdate
    simp only [Sem.run_bind, hu, Result.andThen_ok, hg, Sem.run_pure, hc, run_findKey q W es.toList ps h2, hq]
    simp [setObj, Sem.run, World.putObj, h1]
  · rw [Array.getElem?_push] at hi
    split at hi
    · rename_i e'
      simp at hi
      subst hi e'
      simp [hl]
    · exact h3 i e hi
end Go.Proofs.YtednoideboeehaaDoor
end
section
set_option linter.unusedSimpArgs false
set_option linter.unusedVariables false
namespace Go.Proofs.YtednoideboeehaaDoor
open Go.RowKit Bs Rg Go.Frame
attribute [local go_sem] eq_zero eq_set

/-- What has a number: an expression, a list that is not empty. -/
inductive Nd where
  | e (x : Rx)
  | l (x : Rx) (t : List Rx)
def Num (T : List Nd) (v : Nd) (n : Nat) : Prop := 1 ≤ n ∧ T[n - 1]? = some v
def NumL (T : List Nd) : List Rx → Nat → Prop
  | [], n => n = 0
  | x :: t, n => Num T (.l x t) n
def ShpOf (T : List Nd) : Nd → Shp → Prop
  | .e (.mk k s l), p => ∃ b, NumL T l b ∧ p = (k, s, 0, b)
  | .l x t, p => ∃ a b, Num T (.e x) a ∧ NumL T t b ∧ p = (0, none8, a, b)
theorem Num.more {T T' : List Nd} {v : Nd} {n : Nat} (h : Num T v n) (hp : T <+: T') : Num T' v n := by
  obtain ⟨r, rfl⟩ := hp
  exact ⟨h.1, by rw [List.getElem?_append_left (List.getElem?_eq_some_iff.1 h.2).1]; exact h.2⟩
theorem NumL.more {T T' : List Nd} {l : List Rx} {n : Nat} (h : NumL T l n) (hp : T <+: T') : NumL T' l n := by
  cases l with
  | nil => exact h
  | cons x t => exact Num.more h hp
theorem ShpOf.more {T T' : List Nd} {v : Nd} {p : Shp} (h : ShpOf T v p) (hp : T <+: T') : ShpOf T' v p := by
  match v, h with
  | .e (.mk k s l), h => obtain ⟨b, h1, h2⟩ := h; exact ⟨b, h1.more hp, h2⟩
  | .l x t, h => obtain ⟨a, b, h1, h2, h3⟩ := h; exact ⟨a, b, h1.more hp, h2.more hp, h3⟩
theorem Num.le {T : List Nd} {v : Nd} {n : Nat} (h : Num T v n) : n ≤ T.length := by
  have := (List.getElem?_eq_some_iff.1 h.2).1
  have := h.1
  omega
theorem NumL.le {T : List Nd} {l : List Rx} {n : Nat} (h : NumL T l n) : n ≤ T.length := by
  cases l with
  | nil => rw [NumL] at h; omega
  | cons x t => exact Num.le h
theorem Num.eq {T : List Nd} {v u : Nd} {n : Nat} (h : Num T v n) (k : Num T u n) : v = u := by
  have := h.2.symm.trans k.2
  simpa using this
theorem NumL.eq {T : List Nd} {l m : List Rx} {n : Nat} (h : NumL T l n) (k : NumL T m n) : l = m := by
  match l, m, h, k with
  | [], [], _, _ => rfl
  | [], y :: u, h, k => rw [NumL] at h; have := k.1; omega
  | x :: t, [], h, k => rw [NumL] at k; have := h.1; omega
  | x :: t, y :: u, h, k => have := Num.eq h k; simp at this; rw [this.1, this.2]
/-- No node twice. -/
def Once (T : List Nd) : Prop := ∀ (i j : Nat) (v : Nd), T[i]? = some v → T[j]? = some v → i = j
theorem Num.uniq {T : List Nd} (hT : Once T) {v : Nd} {n m : Nat} (h : Num T v n) (k : Num T v m) : n = m := by
  have := hT _ _ v h.2 k.2
  have := h.1
  have := k.1
  omega
theorem NumL.uniq {T : List Nd} (hT : Once T) {l : List Rx} {n m : Nat} (h : NumL T l n) (k : NumL T l m) : n = m := by
  cases l with
  | nil => rw [NumL] at h k; omega
  | cons x t => exact Num.uniq hT h k
theorem ShpOf.eq {T : List Nd} {v u : Nd} {p : Shp} (h : ShpOf T v p) (k : ShpOf T u p) (hv : ∀ x, v = .e x → x.k ≠ 0) (hu : ∀ x, u = .e x → x.k ≠ 0) : v = u := by
  match v, u, h, k with
  | .e (.mk k s l), .e (.mk k' s' l'), h, g =>
    obtain ⟨b, h1, rfl⟩ := h
    obtain ⟨b', h2, h3⟩ := g
    simp at h3
    obtain ⟨rfl, rfl, rfl⟩ := h3
    rw [NumL.eq h1 h2]
  | .e (.mk k s l), .l x t, h, g =>
    obtain ⟨b, h1, rfl⟩ := h
    obtain ⟨a, b', _, _, h3⟩ := g
    simp at h3
    exact absurd h3.1 (hv _ rfl)
  | .l x t, .e (.mk k s l), h, g =>
    obtain ⟨a, b', _, _, rfl⟩ := h
    obtain ⟨b, h1, h3⟩ := g
    simp at h3
    exact absurd h3.1.symm (hu _ rfl)
  | .l x t, .l y u, h, g =>
    obtain ⟨a, b, h1, h2, rfl⟩ := h
    obtain ⟨a', b', g1, g2, h3⟩ := g
    simp at h3
    obtain ⟨rfl, rfl⟩ := h3
    have := Num.eq h1 g1
    simp at this
    rw [this, NumL.eq h2 g2]
theorem ShpOf.uniq {T : List Nd} (hT : Once T) {v : Nd} {p q : Shp} (h : ShpOf T v p) (k : ShpOf T v q) : p = q := by
  match v, h, k with
  | .e (.mk k s l), h, g =>
    obtain ⟨b, h1, rfl⟩ := h
    obtain ⟨b', h2, rfl⟩ := g
    rw [NumL.uniq hT h1 h2]
  | .l x t, h, g =>
    obtain ⟨a, b, h1, h2, rfl⟩ := h
    obtain ⟨a', b', g1, g2, rfl⟩ := g
    rw [Num.uniq hT h1 g1, NumL.uniq hT h2 g2]
/-- The table in memory. -/
structure Tab (W : World) (m : Nat) (T : List Nd) : Prop where
  ex : ∃ ps, MapS W m ps ∧ ps.length = T.length ∧ ∀ (i : Nat) (v : Nd), T[i]? = some v → ∃ p, ps[i]? = some p ∧ ShpOf T v p
  once : Once T
  kind : ∀ x, Nd.e x ∈ T → x.k ≠ 0
theorem MapS.keep {W W' : World} {m : Nat} {ps : List Shp} (h : MapS W m ps) (hb : W'.heap[m]? = W.heap[m]?) : MapS W' m ps := by
  obtain ⟨es, ck, h1, h2⟩ := h
  exact ⟨es, ck, hb.trans h1, h2⟩
theorem Tab.keep {W W' : World} {m : Nat} {T : List Nd} (h : Tab W m T) (hb : W'.heap[m]? = W.heap[m]?) : Tab W' m T := by
  obtain ⟨⟨ps, h1, h2⟩, h3, h4⟩ := h
  exact ⟨⟨ps, h1.keep hb, h2⟩, h3, h4⟩
theorem Tab.lt {W : World} {m : Nat} {T : List Nd} (h : Tab W m T) : m < W.heap.size := by
  obtain ⟨⟨ps, ⟨es, ck, h1, _⟩, _⟩, _, _⟩ := h
  exact heap_lt h1
theorem Tab.below {W W' : World} {m : Nat} {T : List Nd} (h : Tab W m T) (hb : Below W.heap.size W W') : Tab W' m T := h.keep (hb.block m h.lt)
theorem Tab.isMap {W : World} {m : Nat} {T : List Nd} (h : Tab W m T) : ∃ es ck, W.heap[m]? = some (.map es ck) := by
  obtain ⟨⟨ps, ⟨es, ck, h1, _⟩, _⟩, _, _⟩ := h
  exact ⟨es, ck, h1⟩
/-- What a call that writes to blocks of S leaves alone. -/
structure Md (S : Nat → Prop) (w w' : World) : Prop where
  os : w'.os = w.os
  tape : w'.tape = w.tape
  output : w'.output = w.output
  size : w.heap.size ≤ w'.heap.size
  block : ∀ k, k < w.heap.size → ¬ S k → w'.heap[k]? = w.heap[k]?
theorem Md.refl (S : Nat → Prop) (w : World) : Md S w w := ⟨rfl, rfl, rfl, Nat.le_refl _, fun _ _ _ => rfl⟩
theorem Md.trans {S : Nat → Prop} {a b c : World} (h : Md S a b) (k : Md S b c) : Md S a c :=
  ⟨k.os.trans h.os, k.tape.trans h.tape, k.output.trans h.output, Nat.le_trans h.size k.size, fun i hi hs => (k.block i (Nat.lt_of_lt_of_le hi h.size) hs).trans (h.block i hi hs)⟩
theorem Md.below {S : Nat → Prop} {a b : World} (h : Below a.heap.size a b) : Md S a b := ⟨h.os, h.tape, h.output, h.size, fun k hk _ => h.block k hk⟩
theorem Md.mono {S S' : Nat → Prop} {a b : World} (h : Md S a b) (hs : ∀ k, S k → S' k) : Md S' a b := ⟨h.os, h.tape, h.output, h.size, fun k hk hn => h.block k hk fun e => hn (hs k e)⟩
theorem Md.drew {S : Nat → Prop} {a b : World} (h : Md S a b) : Md S a b.drew := ⟨h.os, h.tape, h.output, h.size, h.block⟩
theorem Md.toBelow {S : Nat → Prop} {n : Nat} {a b : World} (h : Md S a b) (hn : n ≤ a.heap.size) (hs : ∀ k, S k → n ≤ k) : Below n a b := ⟨h.os, h.tape, h.output, h.size, fun k hk => h.block k (by omega) fun e => by have := hs k e; omega⟩

/-- Found, or not there. -/
theorem Tab.find {T : List Nd} {ps : List Shp} (hl : ps.length = T.length) (hs : ∀ (i : Nat) (v : Nd), T[i]? = some v → ∃ p, ps[i]? = some p ∧ ShpOf T v p) (ho : Once T) (hk : ∀ x, Nd.e x ∈ T → x.k ≠ 0) {v : Nd} {p : Shp} (hp : ShpOf T v p) (hv : ∀ x, v = .e x → x.k ≠ 0) :
    (∀ j : Nat, ps.findIdx? (shE p) = some j → T[j]? = some v) ∧ (ps.findIdx? (shE p) = none → ∀ i : Nat, T[i]? ≠ some v) := by
  constructor
  · intro j hj
    rw [List.findIdx?_eq_some_iff_getElem] at hj
    obtain ⟨h1, h2, _⟩ := hj
    have h3 := shE_iff.1 h2
    obtain ⟨u, hu⟩ : ∃ u, T[j]? = some u := ⟨_, List.getElem?_eq_getElem (by omega)⟩
    obtain ⟨q, hq, hq2⟩ := hs j u hu
    rw [List.getElem?_eq_getElem h1] at hq
    simp at hq
    rw [hq] at h3
    subst h3
    rw [hu, ShpOf.eq hq2 hp (fun x e => hk x (e ▸ List.mem_of_getElem? hu)) hv]
  · intro hn i hi
    obtain ⟨q, hq, hq2⟩ := hs i v hi
    have := ShpOf.uniq ho hp hq2
    subst this
    rw [List.findIdx?_eq_none_iff] at hn
    have := hn p (List.mem_of_getElem? hq)
    rw [shE_iff.2 rfl] at this
    cases this

/-- A number is handed out. -/
def GetRes (W : World) (m : Nat) (T : List Nd) (v : Nd) (e : Ending) (w' : World) : Prop := ∃ (T' : List Nd) (n : Nat), e = .returned (.int .i64 (n : Int)) ∧ Tab w' m T' ∧ T <+: T' ∧ Num T' v n ∧ T'.length ≤ T.length + 1 ∧ Md (· = m) W w'
set_option maxRecDepth 100000 in
set_option maxHeartbeats 4000000 in
theorem get_any {W : World} {m : Nat} {T : List Nd} {v : Nd} {p : Shp} (hT : Tab W m T) (hp : ShpOf T v p) (hv : ∀ x, v = .e x → x.k ≠ 0) (hl : T.length ≤ 1000000000000000000) :
    Calls Tryd.prog 106 #[.map (some m), shV p] W (GetRes W m T v) := by
  obtain ⟨⟨ps, hM, hlen, hs⟩, ho, hk⟩ := hT
  obtain ⟨f1, f2⟩ := Tab.find hlen hs ho hk hp hv
  obtain ⟨V, hV⟩ : ∃ V, V = W.alloc (.cells #[.int .i64 p.1, .int .u64 (ws p.2.1 0 : Int), .int .u64 (ws p.2.1 1 : Int), .int .u64 (ws p.2.1 2 : Int), .int .u64 (ws p.2.1 3 : Int), .int .i64 (p.2.2.1 : Int), .int .i64 (p.2.2.2 : Int)] 131) := ⟨_, rfl⟩
  have bV : Below W.heap.size W V := by rw [hV]; exact bel1 _ _
  have hML : m < W.heap.size := by obtain ⟨es, ck, h1, _⟩ := hM; exact heap_lt h1
  have hMV := hM.keep (bV.block m hML)
  have x0 : V.heap[W.heap.size]? = some (.cells #[.int .i64 p.1, .int .u64 (ws p.2.1 0 : Int), .int .u64 (ws p.2.1 1 : Int), .int .u64 (ws p.2.1 2 : Int), .int .u64 (ws p.2.1 3 : Int), .int .i64 (p.2.2.1 : Int), .int .i64 (p.2.2.2 : Int)] 131 (0, 0)) := by rw [hV]; exact alloc_new _ _
  obtain ⟨k, s, a, b⟩ := p
  have hcs : ∀ j (u : Value), (#[Value.int .i64 k, .int .u64 (ws s 0 : Int), .int .u64 (ws s 1 : Int), .int .u64 (ws s 2 : Int), .int .u64 (ws s 3 : Int), .int .i64 (a : Int), .int .i64 (b : Int)] : Array Value)[j]? = some u → V.cell? ⟨W.heap.size, j, none⟩ = some u := fun j u hj => by simp only [World.cell?, x0]; exact hj
  have c0 := hcs 0 _ rfl
  have c1 := hcs 1 _ rfl
  have c2 := hcs 2 _ rfl
  have c3 := hcs 3 _ rfl
  have c4 := hcs 4 _ rfl
  have c5 := hcs 5 _ rfl
  have c6 := hcs 6 _ rfl
  clear hcs x0
  have hlook := run_lookS hMV (k, s, a, b)
  have hlenM : ∃ es ck, V.heap[m]? = some (.map es ck) ∧ es.size = T.length := by
    obtain ⟨es, ck, g1, g2, _⟩ := hMV
    exact ⟨es, ck, g1, by have := len_of_map g2; rw [Array.length_toList] at this; omega⟩
  obtain ⟨es, ck, hem, hes⟩ := hlenM
  have hlen9 : (Builtin.len_ #[75] 3 #[.map (some m)]).run Tryd.prog V = .ok (.int .i64 (T.length : Int)) V := by
    rw [run_len_map V 75 3 m es ck (by kernel_rfl) hem, hes]; rfl
  show Calls Tryd.prog 106 #[.map (some m), .agg #[.int .i64 k, .int .u64 (ws s 0 : Int), .int .u64 (ws s 1 : Int), .int .u64 (ws s 2 : Int), .int .u64 (ws s 3 : Int), .int .i64 (a : Int), .int .i64 (b : Int)]] W _
  cases hfi : ps.findIdx? (shE (k, s, a, b)) with
  | some j =>
    rw [hfi] at hlook
    have hTj := f1 j hfi
    have hlook : (Instr.lookup 75 (.map (some m)) (.agg #[.int .i64 k, .int .u64 (ws s 0 : Int), .int .u64 (ws s 1 : Int), .int .u64 (ws s 2 : Int), .int .u64 (ws s 3 : Int), .int .i64 (a : Int), .int .i64 (b : Int)]) true).run Tryd.prog V = .ok (.tuple #[.int .i64 ((j + 1 : Nat) : Int), .bool true]) V := hlook
    have HR := hid (show GetRes W m T v (.returned (.int .i64 ((j + 1 : Nat) : Int))) V from ⟨T, j + 1, rfl, Tab.below ⟨⟨ps, hM, hlen, hs⟩, ho, hk⟩ bV, List.prefix_rfl, ⟨by omega, by simpa using hTj⟩, by omega, Md.below bV⟩)
    clear hfi hTj f1 f2 hM hMV hlen hs ho hk hp hv bV hML hl hem hes
    go_enter Tryd.func106, Tryd.ntmps106
    go_wp2_with fail
    rw [← hV]
    clear hV
    go_wp2_with fail
    rw [hlook]
    go_wp2
    go_ret
    exact HR.out
  | none =>
    rw [hfi] at hlook
    have hno := f2 hfi
    have hlook : (Instr.lookup 75 (.map (some m)) (.agg #[.int .i64 k, .int .u64 (ws s 0 : Int), .int .u64 (ws s 1 : Int), .int .u64 (ws s 2 : Int), .int .u64 (ws s 3 : Int), .int .i64 (a : Int), .int .i64 (b : Int)]) true).run Tryd.prog V = .ok (.tuple #[.int .i64 0, .bool false]) V := hlook
    obtain ⟨W', hup, hM', h1, h2, h3, h4, h5⟩ := run_updS hMV (k, s, a, b) hfi
    rw [hlen] at hup
    have hup : (Instr.mapUpdate 75 (.map (some m)) (.agg #[.int .i64 k, .int .u64 (ws s 0 : Int), .int .u64 (ws s 1 : Int), .int .u64 (ws s 2 : Int), .int .u64 (ws s 3 : Int), .int .i64 (a : Int), .int .i64 (b : Int)]) (.int .i64 ((T.length : Int) + 1))).run Tryd.prog V = .ok () W' := by
      have e : ((T.length + 1 : Nat) : Int) = (T.length : Int) + 1 := by omega
      rw [← e]; exact hup
    have hwr : IntKind.i64.wrap ((T.length : Int) + 1) = (T.length : Int) + 1 := by rw [wrapIn] <;> omega
    have HR := hid (show GetRes W m T v (.returned (.int .i64 ((T.length + 1 : Nat) : Int))) W' from ⟨T ++ [v], T.length + 1, rfl, ⟨⟨ps ++ [(k, s, a, b)], hM', by simp [hlen], fun i u hi => by
        by_cases hlt : i < T.length
        · rw [List.getElem?_append_left hlt] at hi
          obtain ⟨q, q1, q2⟩ := hs i u hi
          exact ⟨q, by rw [List.getElem?_append_left (by omega)]; exact q1, q2.more (List.prefix_append _ _)⟩
        · rw [List.getElem?_append_right (by omega)] at hi
          have h0 : i - T.length = 0 := by have := (List.getElem?_eq_some_iff.1 hi).1; simp at this; omega
          rw [h0] at hi
          simp at hi
          subst hi
          exact ⟨_, by rw [List.getElem?_append_right (by omega), show i - ps.length = 0 by omega]; rfl, hp.more (List.prefix_append _ _)⟩⟩, fun i j u hi hj => by
        have out : ∀ (i : Nat) (u : Nd), ¬ i < T.length → (T ++ [v])[i]? = some u → i = T.length ∧ u = v := fun i u hlt hi => by
          rw [List.getElem?_append_right (by omega)] at hi
          have h0 : i - T.length = 0 := by have := (List.getElem?_eq_some_iff.1 hi).1; simp at this; omega
          rw [h0] at hi
          simp at hi
          exact ⟨by omega, hi.symm⟩
        by_cases hli : i < T.length
        · rw [List.getElem?_append_left hli] at hi
          by_cases hlj : j < T.length
          · rw [List.getElem?_append_left hlj] at hj
            exact ho i j u hi hj
          · obtain ⟨_, rfl⟩ := out j u hlj hj
            exact absurd hi (hno i)
        · obtain ⟨e1, rfl⟩ := out i u hli hi
          by_cases hlj : j < T.length
          · rw [List.getElem?_append_left hlj] at hj
            exact absurd hj (hno j)
          · obtain ⟨e2, _⟩ := out j _ hlj hj
            omega, fun x hx => by
        rcases List.mem_append.1 hx with hx | hx
        · exact hk x hx
        · simp at hx; exact hv x hx.symm⟩, List.prefix_append _ _, ⟨by omega, by simp⟩, by simp, ⟨h1.trans bV.os, h2.trans bV.tape, h3.trans bV.output, by rw [h4]; exact bV.size, fun i hi hne => (h5 i hne).trans (bV.block i hi)⟩⟩)
    have x9 := hid h5
    clear hfi hno f1 f2 hM hMV hlen hs ho hk hp hv bV hML hl hM' h1 h2 h3 h4 h5
    go_enter Tryd.func106, Tryd.ntmps106
    go_wp2_with fail
    rw [← hV]
    clear hV
    go_wp2_with fail
    rw [hlook]
    go_wp2_with fail
    refine bodyPost_ret (results_tmp rfl _ _ _) rfl ?_
    have e : ((T.length + 1 : Nat) : Int) = (T.length : Int) + 1 := by omega
    have := HR.out
    rw [e] at this
    exact this

set_option maxRecDepth 100000 in
set_option maxHeartbeats 4000000 in
theorem listed_any {W : World} {m : Nat} {T : List Nd} {x : Rx} {t : List Rx} {a b : Nat} (hT : Tab W m T) (ha : Num T (.e x) a) (hb : NumL T t b) (hl : T.length ≤ 1000000000000000000) :
    Calls Tryd.prog 92 #[.map (some m), .int .i64 (a : Int), .int .i64 (b : Int)] W (GetRes W m T (.l x t)) := by
  have CG := hid (show Calls Tryd.prog 106 #[.map (some m), .agg #[.int .i64 0, .int .u64 0, .int .u64 0, .int .u64 0, .int .u64 0, .int .i64 (a : Int), .int .i64 (b : Int)]] W (GetRes W m T (.l x t)) from by
    have := get_any (v := .l x t) (p := (0, none8, a, b)) hT ⟨a, b, ha, hb, rfl⟩ (by simp) hl
    unfold shV shv at this
    rw [ws_none, ws_none, ws_none, ws_none] at this
    exact this)
  clear hT ha hb hl
  go_enter Tryd.func92, Tryd.ntmps92
  go_wp2_with fail
  refine CG.out.mono ?_
  rintro e w' ⟨T', n, rfl, h⟩
  have H := hid h
  clear h
  go_wp2
  go_ret
  exact ⟨T', n, rfl, H.out⟩
end Go.Proofs.YtednoideboeehaaDoor
end
section
set_option linter.unusedSimpArgs false
set_option linter.unusedVariables false
namespace Go.Proofs.YtednoideboeehaaDoor
open Go.RowKit Bs Rg Go.Frame
attribute [local go_sem] Oper.semAt_some

/-- The places from the last down to j. -/
def bw (n j : Nat) : List (Fin n) := ((List.finRange n).drop j).reverse
theorem bw_end (n : Nat) : bw n n = [] := by simp [bw]
theorem bw_next {n j : Nat} (h : j < n) : bw n j = bw n (j + 1) ++ [⟨j, h⟩] := by
  unfold bw
  rw [List.drop_eq_getElem_cons (by simpa using h), List.reverse_cons]
  simp
theorem bw_len (n j : Nat) : (bw n j).length = n - j := by simp [bw]
theorem bw_prefix {n : Nat} : ∀ {j : Nat}, j ≤ n → bw n j <+: bw n 0
  | 0, _ => List.prefix_rfl
  | j + 1, h => by
    refine List.IsPrefix.trans ?_ (bw_prefix (j := j) (by omega))
    rw [bw_next (by omega : j < n)]
    exact List.prefix_append _ _
/-- A row's kids, cell by cell. -/
structure Kc where
  k : Nat → Int
  s : Nat → BS
  a : Nat → Option Addr
  n : Nat → Nat
  c : Nat → Nat
def Kc.v (q : Kc) (i : Nat) : Value := .agg #[.int .i64 (q.k i), .int .u64 (ws (q.s i) 0 : Int), .int .u64 (ws (q.s i) 1 : Int), .int .u64 (ws (q.s i) 2 : Int), .int .u64 (ws (q.s i) 3 : Int), .slice (q.a i) (q.n i) (q.c i)]
def Kc.At (q : Kc) (W : World) (bk off n : Nat) : Prop := bk < W.heap.size ∧ ∀ i, i < n → W.cell? ⟨bk, off + i * 6, none⟩ = some (.int .i64 (q.k i)) ∧ W.cell? ⟨bk, off + i * 6 + 1, none⟩ = some (.int .u64 (ws (q.s i) 0 : Int)) ∧ W.cell? ⟨bk, off + i * 6 + 2, none⟩ = some (.int .u64 (ws (q.s i) 1 : Int)) ∧ W.cell? ⟨bk, off + i * 6 + 3, none⟩ = some (.int .u64 (ws (q.s i) 2 : Int)) ∧ W.cell? ⟨bk, off + i * 6 + 4, none⟩ = some (.int .u64 (ws (q.s i) 3 : Int)) ∧ W.cell? ⟨bk, off + i * 6 + 5, none⟩ = some (.slice (q.a i) (q.n i) (q.c i))
theorem Kc.At.keep {q : Kc} {W W' : World} {bk off n : Nat} (h : q.At W bk off n) (hs : W.heap.size ≤ W'.heap.size) (hb : W'.heap[bk]? = W.heap[bk]?) : q.At W' bk off n := by
  refine ⟨Nat.lt_of_lt_of_le h.1 hs, fun i hi => ?_⟩
  obtain ⟨h0, h1, h2, h3, h4, h5⟩ := h.2 i hi
  exact ⟨(World.cell?_of_block (a := ⟨bk, _, none⟩) hb).trans h0, (World.cell?_of_block (a := ⟨bk, _, none⟩) hb).trans h1, (World.cell?_of_block (a := ⟨bk, _, none⟩) hb).trans h2, (World.cell?_of_block (a := ⟨bk, _, none⟩) hb).trans h3, (World.cell?_of_block (a := ⟨bk, _, none⟩) hb).trans h4, (World.cell?_of_block (a := ⟨bk, _, none⟩) hb).trans h5⟩
/-- The kids of a slice, with what each leads to. -/
theorem Kd.kc {g : Nat → Prop} {W : World} {a : Option Addr} {n : Nat} {l : List Rx} (h : Kd g W a n l) (hn : n ≠ 0) : ∃ (q : Kc) (bk off : Nat), a = some ⟨bk, off, none⟩ ∧ g bk ∧ q.At W bk off n ∧ ∀ i, i < n → ∃ l', l[i]? = some (.mk (q.k i) (q.s i) l') ∧ Kd g W (q.a i) (q.n i) l' := by
  obtain ⟨b0, off0, _, _, _, _, _, _, ha0, hg0, hb0, _⟩ := h.get (i := 0) (by omega)
  have H : ∀ i, ∃ (k : Int) (s : BS) (a' : Option Addr) (n' c' : Nat), i < n → (W.cell? ⟨b0, off0 + i * 6, none⟩ = some (.int .i64 k) ∧ W.cell? ⟨b0, off0 + i * 6 + 1, none⟩ = some (.int .u64 (ws s 0 : Int)) ∧ W.cell? ⟨b0, off0 + i * 6 + 2, none⟩ = some (.int .u64 (ws s 1 : Int)) ∧ W.cell? ⟨b0, off0 + i * 6 + 3, none⟩ = some (.int .u64 (ws s 2 : Int)) ∧ W.cell? ⟨b0, off0 + i * 6 + 4, none⟩ = some (.int .u64 (ws s 3 : Int)) ∧ W.cell? ⟨b0, off0 + i * 6 + 5, none⟩ = some (.slice a' n' c')) ∧ ∃ l', l[i]? = some (.mk k s l') ∧ Kd g W a' n' l' := by
    intro i
    by_cases hi : i < n
    · obtain ⟨b, off, k, s, l', a', n', c', ha, hg, hb, hx, hK, q0, q1, q2, q3, q4, q5⟩ := h.get hi
      rw [ha0] at ha
      simp only [Option.some.injEq, Addr.mk.injEq, and_true] at ha
      obtain ⟨rfl, rfl⟩ := ha
      exact ⟨k, s, a', n', c', fun _ => ⟨⟨q0, q1, q2, q3, q4, q5⟩, l', hx, hK⟩⟩
    · exact ⟨0, none8, none, 0, 0, fun h => absurd h hi⟩
  exact ⟨⟨fun i => (H i).choose, fun i => (H i).choose_spec.choose, fun i => (H i).choose_spec.choose_spec.choose, fun i => (H i).choose_spec.choose_spec.choose_spec.choose, fun i => (H i).choose_spec.choose_spec.choose_spec.choose_spec.choose⟩, b0, off0, ha0, hg0,
    ⟨hb0, fun i hi => ((H i).choose_spec.choose_spec.choose_spec.choose_spec.choose_spec hi).1⟩, fun i hi => ((H i).choose_spec.choose_spec.choose_spec.choose_spec.choose_spec hi).2⟩

set_option maxRecDepth 100000 in
set_option maxHeartbeats 2000000 in
theorem Back_any (a : Option Addr) (n c : Nat) (w : World) :
    Calls Tryd.prog 91 #[.slice a n c] w fun e w' => e = .returned (.func (.func 105) #[] #[.pointer (some ⟨w.heap.size, 0, none⟩)]) ∧ w' = w.alloc (.cells #[.slice a n c] 25) := by
  go_enter Tryd.func91, Tryd.ntmps91
  go_wp2
  go_ret
  exact ⟨rfl, rfl⟩
def encK {n : Nat} (q : Kc) (i : Fin n) : Array Value := #[.int .i64 (i.1 : Int), q.v i.1]
/-- The box and the row are as they were. -/
def Both (A bk : Nat) (W W' : World) : Prop := W'.heap[A]? = W.heap[A]? ∧ W'.heap[bk]? = W.heap[bk]? ∧ W.heap.size ≤ W'.heap.size
theorem Both.trans {A bk : Nat} {X Y Z : World} (h : Both A bk X Y) (k : Both A bk Y Z) : Both A bk X Z := ⟨k.1.trans h.1, k.2.1.trans h.2.1, Nat.le_trans h.2.2 k.2.2⟩
theorem Both.refl (A bk : Nat) (X : World) : Both A bk X X := ⟨rfl, rfl, Nat.le_refl _⟩
set_option maxRecDepth 100000 in
set_option maxHeartbeats 4000000 in
theorem back_stops (k A bk off n c : Nat) (hk : 1 ≤ k) (w0 : World) (q : Kc) (hn : n < 140737488355328) (a : Option Addr) (hA : w0.heap[A]? = some (.cells #[.slice a n c] 25 (0, 0))) (hq : n = 0 ∨ a = some ⟨bk, off, none⟩ ∧ q.At w0 bk off n) :
    SeqStopsK Fence.wide k Tryd.prog 105 #[.pointer (some ⟨A, 0, none⟩)] (encK (n := n) q) (Both A bk) (fun ys => ys = bw n 0) (fun ys => ys <+: bw n 0) (n + 1) w0 := by
  intro l J Jx W hW _ _ hY h0
  have hAW := (hW.block _ (heap_lt hA)).trans hA
  have hqW := hid (show n = 0 ∨ a = some ⟨bk, off, none⟩ ∧ q.At W bk off n from hq.imp id fun h => ⟨h.1, h.2.keep hW.size (hW.block _ h.2.1)⟩)
  have HY := hid hY
  have HA := hid hAW
  have c0 := cells1 hAW
  have e1 : IntKind.i64.wrap ((n : Int) - 1) = (n : Int) - 1 := by rw [wrapIn] <;> omega
  clear hY hW hA hq hAW
  refine callsIn_of_wp Tryd.func105 rfl trivial ?_ rfl
  simp only [Tryd.ntmps105, List.size_toArray, List.length_cons, List.length_nil, Nat.reduceAdd, Nat.reduceSub, Array.replicate_succ, Array.replicate_zero, List.push_toArray, List.append_toArray, List.nil_append, List.cons_append]
  gi_wp2
  gi_loopw [3] (fun s wr => ∃ (j : Nat), s = .int .i64 ((j : Int) - 1) ∧ j ≤ n ∧ J (bw n j) wr ∧ Both A bk W wr)
    (fun s _ => (intOf s + 1).toNat)
  case atStart => exact ⟨n, rfl, by omega, by rw [bw_end]; exact h0, Both.refl _ _ _⟩
  case round =>
    obtain ⟨j, rfl, hj, hJ, hZ⟩ := hrel
    have c0 := cells1 (hZ.1.trans HA.out)
    cases j with
    | zero =>
      have HJ := hid hJ
      clear hJ hZ
      gi_wp2
      go_end0
      exact ⟨⟨_, rfl⟩, .inl ⟨_, rfl, HJ.out⟩⟩
    | succ i =>
      have ei : (((i + 1 : Nat) : Int) - 1) = (i : Int) := by omega
      have e2 : IntKind.i64.wrap ((i : Int) - 1) = (i : Int) - 1 := by rw [wrapIn] <;> omega
      have hlt : (i : Int) < (n : Int) := by omega
      have hge : (0 : Int) ≤ (i : Int) := by omega
      obtain ⟨rfl, hqa⟩ := hqW.out.resolve_left (by omega)
      obtain ⟨q0, q1, q2, q3, q4, q5⟩ := (hqa.keep hZ.2.2 hZ.2.1).2 i (by omega)
      obtain ⟨fn, tmps, assign, body, hyv, hR⟩ := HY.out _ ⟨i, by omega⟩ _ hJ (by rw [bw_len]; omega)
      unfold encK Kc.v at hyv
      have HH := hid (And.intro hj hZ)
      clear hZ hJ hqa
      rw [ei]
      gi_wp2
      refine hR.mono ?_
      rintro e W3 (⟨rfl, hJ3, hk3⟩ | ⟨rfl, hJx3⟩)
      · have HK := hid (And.intro hJ3 hk3)
        clear hJ3 hk3 hR
        gi_wp2
        go_roundw
        case rel =>
          obtain ⟨hj, hZ⟩ := HH.out
          exact ⟨i, rfl, by omega, by rw [bw_next (show i < n by omega)]; exact HK.out.1, hZ.trans HK.out.2⟩
        case measure => simp only [intOf]; omega
      · have HK := hid hJx3
        clear hJx3 hR
        gi_wp2
        obtain ⟨hj, hZ⟩ := HH.out
        refine bodyPost_ret (results_none rfl _ _ _) rfl ?_
        exact ⟨⟨_, rfl⟩, .inr ⟨_, by rw [← bw_next (show i < n by omega)]; exact bw_prefix (by omega), HK.out⟩⟩
end Go.Proofs.YtednoideboeehaaDoor
end
section
set_option linter.unusedSimpArgs false
set_option linter.unusedVariables false
namespace Go.Proofs.YtednoideboeehaaDoor
open Go.RowKit Bs Rg Go.Frame

/-- Joined by a kind, or what there is for nothing. -/
def jw (kd nn : Int) : List Rx → Rx
  | [] => .mk nn none8 []
  | [x] => x
  | l => .mk kd none8 l
theorem jw_jn (l : List Rx) : jw 5 1 l = jn l := by
  match l with
  | [] => rfl
  | [x] => rfl
  | x :: y :: l => rfl
theorem jw_ex (l : List Rx) : jw 4 2 l = ex l := by
  match l with
  | [] => rfl
  | [x] => rfl
  | x :: y :: l => rfl
theorem rcs_none (k : Int) (v : Value) : rcs k none8 v = [.int .i64 k, .int .u64 0, .int .u64 0, .int .u64 0, .int .u64 0, v] := by
  unfold rcs; rw [ws_none, ws_none, ws_none, ws_none]; rfl

set_option maxRecDepth 100000 in
set_option maxHeartbeats 4000000 in
theorem join_any (g : Nat → Prop) (kd nn : Int) (l : List Rx) (a : Option Addr) (n c : Nat) (w : World) (h : Kd g w a n l) :
    Calls Tryd.prog 50 #[.int .i64 kd, .int .i64 nn, .slice a n c] w fun e w' => (∃ cs : List Value, e = .returned (.agg cs.toArray) ∧ RC g w' (jw kd nn l) cs) ∧ Below w.heap.size w w' := by
  have hln := h.len
  have hnl := h.lt
  obtain ⟨W, hW⟩ : ∃ W, W = w.alloc (.cells #[.int .i64 0, .int .u64 0, .int .u64 0, .int .u64 0, .int .u64 0, .slice none 0 0] 27) := ⟨_, rfl⟩
  have bW : Below w.heap.size w W := by rw [hW]; exact bel1 _ _
  have x0 : W.heap[w.heap.size]? = some (.cells #[.int .i64 0, .int .u64 0, .int .u64 0, .int .u64 0, .int .u64 0, .slice none 0 0] 27 (0, 0)) := by rw [hW]; exact alloc_new _ _
  obtain ⟨c0, c1, c2, c3, c4, c5⟩ := cells6 x0
  have f0 := free x0 0
  have f1 := free x0 1
  have f2 := free x0 2
  have f3 := free x0 3
  have f4 := free x0 4
  have f5 := free x0 5
  have key : ∀ (v0 v1 v2 v3 v4 v5 : Value) (W6 : World), W6 = (((((W.setCell ⟨w.heap.size, 0, none⟩ v0).setCell ⟨w.heap.size, 1, none⟩ v1).setCell ⟨w.heap.size, 2, none⟩ v2).setCell ⟨w.heap.size, 3, none⟩ v3).setCell ⟨w.heap.size, 4, none⟩ v4).setCell ⟨w.heap.size, 5, none⟩ v5 → W6.heap[w.heap.size]? = some (.cells #[v0, v1, v2, v3, v4, v5] 27 (0, 0)) ∧ Below w.heap.size w W6 := by
    rintro v0 v1 v2 v3 v4 v5 W6 rfl
    refine ⟨by rw [blk_put (blk_put (blk_put (blk_put (blk_put (blk_put x0)))))]; rfl, ?_⟩
    exact below_put (below_put (below_put (below_put (below_put (below_put bW (Nat.le_refl _)) (Nat.le_refl _)) (Nat.le_refl _)) (Nat.le_refl _)) (Nat.le_refl _)) (Nat.le_refl _)
  have HB := hid (And.intro bW (And.intro h key))
  clear bW x0 key
  have hn3 : n = 0 ∨ n = 1 ∨ 2 ≤ n := by omega
  rcases hn3 with rfl | rfl | h2
  · clear h
    go_enter Tryd.func50, Tryd.ntmps50
    go_wp2_with fail
    have fin := fun (cs : Array Value) => And.intro (alloc_new w (.cells cs 27)) (bel1 w (.cells cs 27))
    obtain ⟨k1, k2⟩ := fin #[.int .i64 nn, .int .u64 0, .int .u64 0, .int .u64 0, .int .u64 0, .slice none 0 0]
    obtain ⟨e0, e1, e2, e3, e4, e5⟩ := cells6 k1
    refine bodyPost_ret (v := .agg #[.int .i64 nn, .int .u64 0, .int .u64 0, .int .u64 0, .int .u64 0, .slice none 0 0]) ?_ rfl ⟨⟨[.int .i64 nn, .int .u64 0, .int .u64 0, .int .u64 0, .int .u64 0, .slice none 0 0], rfl, ?_⟩, k2⟩
    · simp [results, Tryd.results50, go_sem, e0, e1, e2, e3, e4, e5]
    · have : l = [] := List.eq_nil_of_length_eq_zero hln
      subst this
      rw [jw, ← rcs_none]
      exact RC_mk.2 ⟨none, 0, 0, rfl, rfl, by omega, .inl rfl⟩
  · obtain ⟨b, off, k', s', l', a', n', c', rfl, hg, hb, hx, hK', q0, q1, q2, q3, q4, q5⟩ := h.get (i := 0) (by omega)
    simp only [Nat.zero_mul, Nat.add_zero] at q0 q1 q2 q3 q4 q5
    have q0 := (HB.out.1.cell (p := ⟨b, off, none⟩) hb).trans q0
    have q1 := (HB.out.1.cell (p := ⟨b, off + 1, none⟩) hb).trans q1
    have q2 := (HB.out.1.cell (p := ⟨b, off + 2, none⟩) hb).trans q2
    have q3 := (HB.out.1.cell (p := ⟨b, off + 3, none⟩) hb).trans q3
    have q4 := (HB.out.1.cell (p := ⟨b, off + 4, none⟩) hb).trans q4
    have q5 := (HB.out.1.cell (p := ⟨b, off + 5, none⟩) hb).trans q5
    have HX := hid (And.intro hx hK')
    clear h hx hK'
    go_enter Tryd.func50, Tryd.ntmps50
    go_wp2_with fail
    have fin := fun (cs : Array Value) => And.intro (alloc_new w (.cells cs 27)) (bel1 w (.cells cs 27))
    obtain ⟨k1, k2⟩ := fin #[.int .i64 k', .int .u64 (ws s' 0 : Int), .int .u64 (ws s' 1 : Int), .int .u64 (ws s' 2 : Int), .int .u64 (ws s' 3 : Int), .slice a' n' c']
    obtain ⟨e0, e1, e2, e3, e4, e5⟩ := cells6 k1
    refine bodyPost_ret (v := .agg #[.int .i64 k', .int .u64 (ws s' 0 : Int), .int .u64 (ws s' 1 : Int), .int .u64 (ws s' 2 : Int), .int .u64 (ws s' 3 : Int), .slice a' n' c']) ?_ rfl ⟨⟨rcs k' s' (.slice a' n' c'), rfl, ?_⟩, k2⟩
    · simp [results, Tryd.results50, go_sem, e0, e1, e2, e3, e4, e5]
    · obtain ⟨x, rfl⟩ : ∃ x, l = [x] := by
        match l, hln with
        | [x], _ => exact ⟨x, rfl⟩
      have : x = .mk k' s' l' := by simpa using HX.out.1
      rw [jw, this]
      exact RC_mk.2 ⟨_, _, _, rfl, HX.out.2.below k2⟩
  · have n0 : ((n : Int) == 0) = false := by rw [beq_eq_false_iff_ne]; omega
    have n1 : ((n : Int) == 1) = false := by rw [beq_eq_false_iff_ne]; omega
    clear h
    go_enter Tryd.func50, Tryd.ntmps50
    go_wp2_with fail
    have fin := fun (cs : Array Value) => And.intro (alloc_new w (.cells cs 27)) (bel1 w (.cells cs 27))
    obtain ⟨k1, k2⟩ := fin #[.int .i64 kd, .int .u64 0, .int .u64 0, .int .u64 0, .int .u64 0, .slice a n c]
    obtain ⟨e0, e1, e2, e3, e4, e5⟩ := cells6 k1
    refine bodyPost_ret (v := .agg #[.int .i64 kd, .int .u64 0, .int .u64 0, .int .u64 0, .int .u64 0, .slice a n c]) ?_ rfl ⟨⟨[.int .i64 kd, .int .u64 0, .int .u64 0, .int .u64 0, .int .u64 0, .slice a n c], rfl, ?_⟩, k2⟩
    · simp [results, Tryd.results50, go_sem, e0, e1, e2, e3, e4, e5]
    · have : jw kd nn l = .mk kd none8 l := by
        match l, hln with
        | [], hln => simp at hln; omega
        | [x], hln => simp at hln; omega
        | x :: y :: l, _ => rfl
      rw [this, ← rcs_none]
      exact RC_mk.2 ⟨a, n, c, rfl, HB.out.2.1.below k2⟩
end Go.Proofs.YtednoideboeehaaDoor
end
section
set_option linter.unusedSimpArgs false
set_option linter.unusedVariables false
namespace Go.Proofs.YtednoideboeehaaDoor
open Go.RowKit Bs Rg Go.Frame

theorem nil_yes (c : Nat) (w : World) : (binOp BinOp.eql 25 (.slice none 0 c) (.slice none 0 0)).run Tryd.prog w = .ok (.bool true) w := by kernel_rfl
theorem nil_no (ad : Addr) (n c : Nat) (w : World) : (binOp BinOp.eql 25 (.slice (some ad) n c) (.slice none 0 0)).run Tryd.prog w = .ok (.bool false) w := by kernel_rfl
set_option maxRecDepth 100000 in
set_option maxHeartbeats 4000000 in
theorem Clone_any (a : Option Addr) (n c : Nat) (w : World) (hn : n ≤ 1000000) (news : List Value) (hl : news.length = n * 6) (hcells : ∀ (ad : Addr), a = some ad → n = 0 ∨ ∃ bk off, ad = ⟨bk, off, none⟩ ∧ bk < w.heap.size ∧ ∀ (j : Nat) (u : Value), news[j]? = some u → w.cell? ⟨bk, off + j, none⟩ = some u) (hone : ∀ u ∈ news, u.oneCell' = true) (ha : a = none → n = 0) :
    Calls Tryd.prog 112 #[.slice a n c] w fun e w' => ∃ (p : Option Addr) (c' : Nat), e = .returned (.slice p n c') ∧ w'.ownsRow w.heap.size 27 6 (.slice p n c') n news ∧ Below w.heap.size w w' := by
  obtain ⟨i0, hi, hz0, hz1, hz2⟩ := info_parts Tryd.info27
  cases a with
  | none =>
    obtain rfl := ha rfl
    obtain rfl : news = [] := List.eq_nil_of_length_eq_zero (by omega)
    have e1 := nil_yes c w
    go_enter Tryd.func112, Tryd.ntmps112
    go_wp2_with fail
    refine bodyPost_ret (results_tmp rfl _ _ _) rfl ?_
    exact ⟨none, 0, rfl, World.ownsRow_nil _ _ _ _, Below.refl _ _⟩
  | some ad =>
    have HC := hid (hcells _ rfl)
    clear hcells ha
    have e1 := nil_no ad n c w
    have own0 : (w.alloc (.cells #[] 27)).ownsRow w.heap.size 27 6 (.slice (some ⟨w.heap.size, 0, none⟩) 0 0) 0 [] := ⟨rfl, .inr ⟨w.heap.size, 0, #[], rfl, Nat.le_refl _, alloc_new _ _, Nat.le_refl _, by decide, rfl, rfl⟩⟩
    have b0 := bel1 w (.cells #[] 27)
    have hnews : ∀ (j : Nat) (u : Value), news[j]? = some u → (w.alloc (.cells #[] 27)).cell? (ad.add j) = some u := fun j u hj => by
      rcases HC.out with h0 | ⟨bk, off, rfl, hlt, hcl⟩
      · rw [List.eq_nil_of_length_eq_zero (l := news) (by omega)] at hj; simp at hj
      · rw [add_at]; exact (b0.cell (p := ⟨bk, off + j, none⟩) hlt).trans (hcl j u hj)
    go_enter Tryd.func112, Tryd.ntmps112
    go_wp2_with (at_builtin; refine wpList_append_own _ rfl (.tmp 5) (.tmp 6) 25 rfl w.heap.size 27 i0 _ 6 64 Tryd.underlying25 hi hz0 hz1 hz2 rfl (by decide) _ _ _ rfl own0 ad n c news rfl hl hnews hone ?c3 ?c4 ?c5 ?_)
    case c3 => unfold maxLen; omega
    case c4 => omega
    case c5 => simp
    intro v' w1 hown hgrow _
    have HQ := hid (And.intro hown (below_grown b0 hgrow (by simp) (fun k hk => by simp [Value.ownBlock] at hk; omega)))
    obtain ⟨p, c', rfl⟩ := own_form hown
    clear hown hgrow own0 b0 hnews
    go_wp2
    go_ret
    have h := HQ.out
    simp only [Nat.zero_add, List.nil_append] at h ⊢
    exact ⟨p, c', rfl, h.1, h.2⟩
end Go.Proofs.YtednoideboeehaaDoor
end
