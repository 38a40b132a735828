/-
  Maps of numbers by numbers, made by the call; contract: ranks of ints.
-/
import Derived.Test.YtelbagaiijffdaaTb
import Derived.Test.YtelbagaiijffdaaR
import Derived.Maps.OwnOps
import Derived.RangeFuncRecord
set_option linter.unusedSimpArgs false
set_option linter.unusedVariables false
namespace Go.Proofs.Ytelbagaiijffdaa
open Go.RowKit Lx Go.Frame

/-- A map whose keys are the known numbers, in their order, each with its place. -/
def MapI (W : World) (f : Nat) (ks : List Int) : Prop := ∃ (es : Array MapEntry) (ck : Nat), W.heap[f]? = some (.map es ck) ∧ es.toList.map (·.key) = ks.map iv ∧ ∀ (i : Nat) (e : MapEntry), es.toList[i]? = some e → e.val = .int .i64 (i : Int)
theorem findI (q : Int) : ∀ (l : List MapEntry) (ks : List Int) (i : Nat), l.map (·.key) = ks.map iv → (∀ (j : Nat) (e : MapEntry), l[j]? = some e → e.val = .int .i64 ((i + j : Nat) : Int)) →
    (q ∈ ks → Instr.findNow (.int .i64) (.int .i64 q) l i = some (some (i + ks.idxOf q, .int .i64 ((i + ks.idxOf q : Nat) : Int)))) ∧ (q ∉ ks → Instr.findNow (.int .i64) (.int .i64 q) l i = some none)
  | [], [], i, _, _ => ⟨fun h => (by cases h), fun _ => by simp [Instr.findNow]⟩
  | [], n :: ns, i, h, _ => by simp at h
  | e :: l, [], i, h, _ => by simp at h
  | e :: l, n :: ns, i, h, hv => by
    simp only [List.map_cons, List.cons.injEq] at h
    obtain ⟨g1, g2⟩ := findI q l ns (i + 1) h.2 fun j x hx => by
      have := hv (j + 1) x (by simpa using hx)
      rw [this]; congr 2; omega
    have he := hv 0 e rfl
    have hk : e.key = .int .i64 n := h.1
    by_cases hq : q = n
    · subst hq
      refine ⟨fun _ => ?_, fun h' => absurd (List.mem_cons_self ..) h'⟩
      simp [Instr.findNow, Instr.sameNow, hk, he]
    · have hq' : (q == n) = false := by rw [beq_eq_false_iff_ne]; exact hq
      refine ⟨fun h' => ?_, fun h' => ?_⟩
      · have hj := g1 (by rcases List.mem_cons.1 h' with e | e; · exact absurd e hq
                          · exact e)
        have hi : (n :: ns).idxOf q = ns.idxOf q + 1 := by
          have hb : (n == q) = false := by rw [beq_eq_false_iff_ne]; exact Ne.symm hq
          rw [List.idxOf_cons, hb]; rfl
        simp only [Instr.findNow, Instr.sameNow, hk, hq', hj, if_true, hi]
        rw [show i + 1 + ns.idxOf q = i + (ns.idxOf q + 1) by omega]
      · have hj := g2 fun e => h' (List.mem_cons_of_mem _ e)
        simp only [Instr.findNow, Instr.sameNow, hk, hq', hj, if_true]
theorem und73 : Try.prog.underlying 73 = some (.map 3 3) := by kernel_rfl
theorem zero3 (w : World) : (zeroValue 3).run Try.prog w = .ok (.int .i64 0) w := by kernel_rfl
theorem check_i (a : Int) (w : World) : (Instr.checkKey false 10000 3 (.int .i64 a)).run Try.prog w = .ok () w := by kernel_rfl
theorem check_i' (a : Int) (w : World) : (Instr.checkKey true 10000 3 (.int .i64 a)).run Try.prog w = .ok () w := by kernel_rfl
/-- What a lookup comes to. -/
def lkv (ks : List Int) (q : Int) : Value := if q ∈ ks then .tuple #[.int .i64 (ks.idxOf q : Int), .bool true] else .tuple #[.int .i64 0, .bool false]
theorem run_lookI {W : World} {f : Nat} {ks : List Int} (h : MapI W f ks) (q : Int) : (Instr.lookup 73 (.map (some f)) (.int .i64 q) true).run Try.prog W = .ok (lkv ks q) W := by
  obtain ⟨es, ck, h1, h2, h3⟩ := h
  have hu : (underlying 73).run Try.prog W = .ok (.map 3 3) W := run_underlying und73 W
  have hu3 : (underlying 3).run Try.prog W = .ok (.int .i64) W := run_underlying Try.underlying3 W
  have hg : (getObj f).run Try.prog W = .ok (.map es ck) W := by simp [getObj, Sem.run, h1]
  have hc : (Instr.checkKey es.isEmpty 10000 3 (.int .i64 q)).run Try.prog W = .ok () W := by
    cases es.isEmpty
    · exact check_i _ W
    · exact check_i' _ W
  obtain ⟨g1, g2⟩ := findI q es.toList ks 0 h2 (fun j e hj => by rw [Nat.zero_add]; exact h3 j e hj)
  unfold Instr.lookup Instr.findKey lkv
  simp only [Sem.run_bind, hu, Result.andThen_ok, hg, Sem.run_pure, hc, hu3]
  by_cases hq : q ∈ ks
  · have hj := g1 hq
    rw [Nat.zero_add] at hj
    simp [hj, hq]
  · simp [g2 hq, hq, zero3]
theorem run_updI {W : World} {f : Nat} {ks : List Int} (h : MapI W f ks) (q : Int) (hq : q ∉ ks) : ∃ W', (Instr.mapUpdate 73 (.map (some f)) (.int .i64 q) (.int .i64 (ks.length : Int))).run Try.prog W = .ok () W' ∧ MapI W' f (ks ++ [q]) ∧ Kept (· = f) W W' := by
  obtain ⟨es, ck, h1, h2, h3⟩ := h
  have hlen : es.size = ks.length := by have := congrArg List.length h2; simpa using this
  have hu : (underlying 73).run Try.prog W = .ok (.map 3 3) W := run_underlying und73 W
  have hu3 : (underlying 3).run Try.prog W = .ok (.int .i64) W := run_underlying Try.underlying3 W
  have hg : (getObj f).run Try.prog W = .ok (.map es ck) W := by simp [getObj, Sem.run, h1]
  have hc : (Instr.checkKey false 10000 3 (.int .i64 q)).run Try.prog W = .ok () W := check_i _ W
  have hf := heap_lt h1
  have hfn := (findI q es.toList ks 0 h2 (fun j e hj => by rw [Nat.zero_add]; exact h3 j e hj)).2 hq
  refine ⟨W.putObj f (.map (es.push { key := .int .i64 q, val := .int .i64 (ks.length : Int), born := ck }) (ck + 1)), ?_, ⟨_, _, World.putObj_heap_same hf, by simp [h2, iv], fun i e he => ?_⟩, ⟨rfl, rfl, rfl, by rw [World.putObj_size]; exact Nat.le_refl _, fun k hk => World.putObj_heap_other hk⟩⟩
  · unfold Instr.mapUpdate Instr.findKey
    simp only [Sem.run_bind, hu, Result.andThen_ok, hg, Sem.run_pure, hc, hu3, hfn]
    simp [setObj, Sem.run, World.putObj, h1]
  · rw [Array.toList_push] at he
    by_cases hi : i < es.size
    · rw [List.getElem?_append_left (by simpa using hi)] at he
      exact h3 i e he
    · have hie : i = es.size := by have := (List.getElem?_eq_some_iff.1 he).1; simp at this; omega
      subst hie
      rw [List.getElem?_append_right (by simp)] at he
      simp at he
      rw [← he, hlen]
theorem MapI.keep {W W' : World} {f : Nat} {ks : List Int} (h : MapI W f ks) (hb : W'.heap[f]? = W.heap[f]?) : MapI W' f ks := by
  obtain ⟨es, ck, h1, h2⟩ := h
  exact ⟨es, ck, hb.trans h1, h2⟩
end Go.Proofs.Ytelbagaiijffdaa
