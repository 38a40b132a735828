/-
  Contracts: fits, ContainsFunc, Valid; the reference's Valid.
-/
import Derived.Test.YtogpnlkjcdedlaaDoorVa
set_option linter.unusedSimpArgs false
set_option linter.unusedVariables false
namespace Go.Proofs.YtogpnlkjcdedlaaDoor
open Go.RowKit Bs Rg Nf Go.Frame
attribute [local go_sem] eq_zero eq_set

set_option maxRecDepth 100000 in
set_option maxHeartbeats 4000000 in
theorem nfits_any (w : World) (n st : Int) (a1 a2 : Option Addr) (m c1 k c2 : Nat) (f t : Int) (e : Bool) (s : BS) :
    Calls Tryd.prog 33 #[.agg #[.int .i64 n, .int .i64 st, .slice a1 m c1, .slice a2 k c2], .agg #[.int .i64 f, .int .i64 t, .bool e, .int .u64 (ws s 0 : Int), .int .u64 (ws s 1 : Int), .int .u64 (ws s 2 : Int), .int .u64 (ws s 3 : Int)]] w fun r w' => r = .returned (.bool (arcOk n ⟨f, t, e, s⟩)) ∧ Below w.heap.size w w' := by
  obtain ⟨W, hW⟩ : ∃ W, W = (w.alloc (.cells #[.int .i64 n, .int .i64 st, .slice a1 m c1, .slice a2 k c2] 25)).alloc (.cells #[.int .i64 f, .int .i64 t, .bool e, .int .u64 (ws s 0 : Int), .int .u64 (ws s 1 : Int), .int .u64 (ws s 2 : Int), .int .u64 (ws s 3 : Int)] 55) := ⟨_, rfl⟩
  obtain ⟨x0, x1, bW, hsz⟩ := Go.Frame.two w (.cells #[.int .i64 n, .int .i64 st, .slice a1 m c1, .slice a2 k c2] 25) (.cells #[.int .i64 f, .int .i64 t, .bool e, .int .u64 (ws s 0 : Int), .int .u64 (ws s 1 : Int), .int .u64 (ws s 2 : Int), .int .u64 (ws s 3 : Int)] 55)
  rw [← hW] at x0 x1 bW hsz
  have X0 := hid x0
  have X1 := hid x1
  have HB := hid bW
  have CS := hid (fun V (x : Int) => isState_any V n st x a1 a2 m c1 k c2)
  clear x0 x1 bW
  obtain ⟨y1, h1⟩ : ∃ y, y = isS n f := ⟨_, rfl⟩
  obtain ⟨y2, h2⟩ : ∃ y, y = isS n t := ⟨_, rfl⟩
  obtain ⟨y3, h3⟩ : ∃ y, y = emp s := ⟨_, rfl⟩
  have hr : arcOk n ⟨f, t, e, s⟩ = (y1 && y2 && (!e || y3)) := by rw [h1, h2, h3]; rfl
  rw [hr]
  clear hr
  have C1 := hid (fun V => h1 ▸ CS.out V f)
  have C2 := hid (fun V => h2 ▸ CS.out V t)
  have E3 := hid h3
  clear h1 h2 h3 CS
  obtain ⟨d0, d1, d2, d3⟩ := cells4 X0.out
  obtain ⟨e0, e1, e2, e3, e4, e5, e6⟩ := cells7a X1.out
  go_enter Tryd.func33, Tryd.ntmps33
  go_upto_region 1 with fail
  rw [← hW]
  clear hW
  go_wp2_with fail
  refine (C1.out _).mono ?_
  rintro r V ⟨rfl, b1⟩
  have H1 := hid (HB.out.trans (b1.mono HB.out.size))
  have Y0 := hid ((b1.block _ (heap_lt X0.out)).trans X0.out)
  have Y1 := hid ((b1.block _ (heap_lt X1.out)).trans X1.out)
  clear b1 d0 d1 d2 d3 e0 e1 e2 e3 e4 e5 e6
  cases y1
  · skip
    go_wp2
    go_ret
    exact ⟨rfl, H1.out⟩
  · obtain ⟨d0, d1, d2, d3⟩ := cells4 Y0.out
    obtain ⟨e0, e1, e2, e3, e4, e5, e6⟩ := cells7a Y1.out
    go_wp2_with fail
    refine (C2.out _).mono ?_
    rintro r V2 ⟨rfl, b2⟩
    have H2 := hid (H1.out.trans (b2.mono H1.out.size))
    have Z1 := hid ((b2.block _ (heap_lt Y1.out)).trans Y1.out)
    clear b2 d0 d1 d2 d3 e0 e1 e2 e3 e4 e5 e6
    obtain ⟨e0, e1, e2, e3, e4, e5, e6⟩ := cells7a Z1.out
    cases y2
    · skip
      go_wp2
      go_ret
      exact ⟨rfl, H2.out⟩
    · cases e
      · skip
        go_wp2
        go_ret
        exact ⟨rfl, H2.out⟩
      · have hy := E3.out
        go_wp2
        go_ret
        exact ⟨by rw [hy]; rfl, H2.out⟩
end Go.Proofs.YtogpnlkjcdedlaaDoor
