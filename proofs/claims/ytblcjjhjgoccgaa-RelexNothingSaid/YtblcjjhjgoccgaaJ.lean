/-
  Contract: awake.
-/
import Derived.Test.YtblcjjhjgoccgaaI
set_option linter.unusedSimpArgs false
set_option linter.unusedVariables false
namespace Go.Proofs.Ytblcjjhjgoccgaa
open Go.RowKit Lx Go.Frame Go.Shelf

theorem trow_blk {W : World} {b : Nat} {t : TypeId} {c : Array Value} (l : List TQ) {n : Nat} (h : W.heap[b]? = some (.cells c t (0, 0))) (hc : c.toList = tl l) (hn : l.length = n) : TRow W (some ⟨b, 0, none⟩) n l := by
  refine ⟨by simpa using hn, .inr ⟨b, 0, rfl, heap_lt h, fun i cs hi j v hj => ?_⟩⟩
  rw [List.getElem?_map] at hi
  obtain ⟨t, ht2, rfl⟩ := Option.map_eq_some_iff.1 hi
  have hu := tl_at ht2 hj
  rw [← hc] at hu
  rw [Nat.zero_add]
  simp only [World.cell?, h]
  simpa using hu
def sA : ByteArray := ⟨#[97, 97, 97, 98, 120]⟩
def sB : ByteArray := ⟨#[97, 98]⟩
def tA : List TQ := [(0, 0, ⟨#[97, 97, 97]⟩, 4), (-1, 3, ⟨#[98]⟩, 1), (-1, 4, ⟨#[120]⟩, 1)]
def tB : List TQ := [(1, 0, ⟨#[97, 98]⟩, 3)]
set_option maxRecDepth 100000 in
theorem lexA : lexT exD sA = tA := by kernel_rfl
set_option maxRecDepth 100000 in
theorem lexB : lexT exD sB = tB := by kernel_rfl
theorem txA : (⟨(txb tA).toArray⟩ : ByteArray) = sA := by rfl
end Go.Proofs.Ytblcjjhjgoccgaa
