/-
  Contracts: escaped, char, dot.
  Contracts: dot, Range and Of as sets of bytes, element, brackets, set.
  Contracts: element, brackets, set.
  A drawn region by an invariant: what has come up so far is a set b of operations; each operation, whenever it may come up, takes the invariant at b to the invariant at b with itself; behind all of them the invariant gives the rest. One proof an operation, whatever the number of orders (no program; lies as <Seat>Iv).
-/
import Derived.Test.YtednoideboeehaaDoorZ05
import Derived.WalkKit
import Derived.Deep.RegionHeld3
section
set_option linter.unusedSimpArgs false
set_option linter.unusedVariables false
namespace Go.Proofs.YtednoideboeehaaDoor
open Go.RowKit Bs Rg Go.Frame
attribute [local go_sem] eq_zero eq_set

theorem ib_contains (l : List UInt8) (c : UInt8) : (decide (0 ≤ Lib.indexByte l c)) = l.contains c := by
  induction l with
  | nil => rfl
  | cons b l ih =>
    have hg := Lib.indexByte_ge l c
    rw [List.contains_cons, ← ih]
    have e0 : Lib.indexByte (b :: l) c = if b == c then 0 else if Lib.indexByte l c == -1 then -1 else Lib.indexByte l c + 1 := rfl
    rw [e0]
    by_cases h : c = b
    · subst h; simp
    · have h' : ¬ b = c := fun e => h e.symm
      have e1 : (b == c) = false := by simpa using h'
      have e2 : (c == b) = false := by simpa using h
      rw [e1, e2]
      simp only [Bool.false_eq_true, if_false, Bool.false_or]
      by_cases h2 : Lib.indexByte l c = -1
      · simp [h2]
      · have e3 : (Lib.indexByte l c == -1) = false := by simpa using h2
        rw [e3]
        simp only [Bool.false_eq_true, if_false]
        rw [Bool.eq_iff_iff, decide_eq_true_eq, decide_eq_true_eq]
        omega

set_option maxRecDepth 100000 in
set_option maxHeartbeats 4000000 in
theorem escaped_any (pb : Nat) (s : ByteArray) (p : Nat) (l : List UInt8) (w : World) (h : PS pb s w p l) :
    Calls Tryd.prog 118 #[.pointer (some ⟨pb, 0, none⟩)] w fun e w' => Out pb s w (escd l) u8v e w' := by
  have CP := hid (printing_any pb s p l w h)
  have hsz := h.sz
  cases l with
  | nil =>
    simp only [prnM, out_bad] at CP
    simp only [escd, out_bad]
    clear h
    go_enter Tryd.func118, Tryd.ntmps118
    go_wp2_with fail
    refine CP.out.mono ?_
    rintro e W ⟨B, rfl, hP⟩
    have HB := hid (And.intro B hP)
    clear B hP
    go_wp2
    exact ⟨rfl, HB.out.1, rfl, HB.out.2⟩
  | cons b t =>
    cases hp : prn b with
    | false =>
      simp only [prnM, hp, Bool.false_eq_true, if_false, out_bad] at CP
      simp only [escd, hp, if_true, out_bad]
      clear h
      go_enter Tryd.func118, Tryd.ntmps118
      go_wp2_with fail
      refine CP.out.mono ?_
      rintro e W ⟨B, rfl, hP⟩
      have HB := hid (And.intro B hP)
      clear B hP
      go_wp2
      exact ⟨rfl, HB.out.1, rfl, HB.out.2⟩
    | true =>
      simp only [prnM, hp, if_true, out_ok] at CP
      clear h
      by_cases h1 : b = 110
      · have q : escd (b :: t) = .ok 10 t := by rw [escd, hp]; simp [h1]
        simp only [q, out_ok]
        subst h1
        go_enter Tryd.func118, Tryd.ntmps118
        go_wp2_with fail
        refine CP.out.mono ?_
        rintro e W ⟨B, ⟨v, rfl, rfl⟩, p2, hP⟩
        obtain ⟨c0, c1⟩ := hP.cells
        have f1 := free hP.box 1
        obtain ⟨hpl, _⟩ := hP.head
        have e1 : IntKind.i64.wrap ((p2 : Int) + 1) = ((p2 + 1 : Nat) : Int) := by rw [wrapIn] <;> omega
        have HB := hid (And.intro B hP)
        clear B hP
        rw [show (((110 : UInt8).toNat : Nat) : Int) = 110 from rfl]
        go_wp2
        go_ret
        exact ⟨HB.out.1.put, ⟨_, rfl, rfl⟩, _, by simpa using HB.out.2.next⟩
      · by_cases h2 : b = 116
        · have q : escd (b :: t) = .ok 9 t := by rw [escd, hp]; simp [h2]
          simp only [q, out_ok]
          subst h2
          go_enter Tryd.func118, Tryd.ntmps118
          go_wp2_with fail
          refine CP.out.mono ?_
          rintro e W ⟨B, ⟨v, rfl, rfl⟩, p2, hP⟩
          obtain ⟨c0, c1⟩ := hP.cells
          have f1 := free hP.box 1
          obtain ⟨hpl, _⟩ := hP.head
          have e1 : IntKind.i64.wrap ((p2 : Int) + 1) = ((p2 + 1 : Nat) : Int) := by rw [wrapIn] <;> omega
          have HB := hid (And.intro B hP)
          clear B hP
          rw [show (((116 : UInt8).toNat : Nat) : Int) = 116 from rfl]
          go_wp2
          go_ret
          exact ⟨HB.out.1.put, ⟨_, rfl, rfl⟩, _, by simpa using HB.out.2.next⟩
        · have n1 : ¬ (b.toNat : Int) = 110 := fun h => h1 (UInt8.toNat_inj.1 (by rw [show (110 : UInt8).toNat = 110 from rfl]; omega))
          have n2 : ¬ (b.toNat : Int) = 116 := fun h => h2 (UInt8.toNat_inj.1 (by rw [show (116 : UInt8).toNat = 116 from rfl]; omega))
          have CL := hid (fun V => isLetter_any b V)
          cases hl : letter b with
          | true =>
            have q : escd (b :: t) = .bad (b :: t) := by simp [escd, hp, h1, h2, hl]
            simp only [q, out_bad]
            go_enter Tryd.func118, Tryd.ntmps118
            go_wp2_with fail
            refine CP.out.mono ?_
            rintro e W ⟨B, ⟨v, rfl, rfl⟩, p2, hP⟩
            have HB := hid (And.intro B hP)
            clear B hP
            go_wp2_with fail
            refine (CL.out _).mono ?_
            rintro e W2 ⟨rfl, rfl⟩
            rw [hl]
            go_wp2_with (go_at_call 33; refine (fail_any pb _).mono ?_; rintro e W3 ⟨rfl, rfl⟩)
            exact ⟨rfl, HB.out.1, rfl, _, HB.out.2⟩
          | false =>
            have q : escd (b :: t) = .ok b t := by simp [escd, hp, h1, h2, hl]
            simp only [q, out_ok]
            go_enter Tryd.func118, Tryd.ntmps118
            go_wp2_with fail
            refine CP.out.mono ?_
            rintro e W ⟨B, ⟨v, rfl, rfl⟩, p2, hP⟩
            obtain ⟨c0, c1⟩ := hP.cells
            have f1 := free hP.box 1
            obtain ⟨hpl, _⟩ := hP.head
            have e1 : IntKind.i64.wrap ((p2 : Int) + 1) = ((p2 + 1 : Nat) : Int) := by rw [wrapIn] <;> omega
            have HB := hid (And.intro B hP)
            clear B hP
            go_wp2_with fail
            refine (CL.out _).mono ?_
            rintro e W2 ⟨rfl, rfl⟩
            rw [hl]
            go_wp2
            go_ret
            exact ⟨HB.out.1.put, ⟨_, rfl, rfl⟩, _, by simpa using HB.out.2.next⟩

set_option maxRecDepth 100000 in
set_option maxHeartbeats 4000000 in
theorem charO_any (pb : Nat) (s : ByteArray) (p : Nat) (l : List UInt8) (w : World) (h : PS pb s w p l) :
    Calls Tryd.prog 114 #[.pointer (some ⟨pb, 0, none⟩), .string { data := #[40, 41, 91, 93, 124, 42, 43, 63, 46, 92] }] w fun e w' => Out pb s w (chr spO l) u8v e w' := by
  have CS := hid (skip_any pb s p l 92 w h)
  rw [show (((92 : UInt8).toNat : Nat) : Int) = 92 from rfl] at CS
  cases l with
  | nil =>
    simp only [skip, Option.isSome_none, Option.getD_none] at CS
    simp only [chr, out_bad]
    clear h
    go_enter Tryd.func114, Tryd.ntmps114
    go_wp2_with fail
    refine CS.out.mono ?_
    rintro e W ⟨rfl, B, p1, hP⟩
    have CP := hid (printing_any pb s p1 [] W hP)
    simp only [prnM, out_bad] at CP
    have HB := hid B
    clear B hP
    go_wp2_with fail
    refine CP.out.mono ?_
    rintro e W2 ⟨B, rfl, hP⟩
    have HB2 := hid (And.intro (HB.out.trans B) hP)
    clear B hP
    go_wp2
    exact ⟨rfl, HB2.out.1, rfl, HB2.out.2⟩
  | cons b t =>
    by_cases h92 : b = 92
    · have q : chr spO (b :: t) = escd t := by simp [chr, h92]
      simp only [q]
      simp only [skip, h92, if_true, Option.isSome_some, Option.getD_some] at CS
      clear h
      cases he : escd t with
      | bad u =>
        simp only [out_bad]
        go_enter Tryd.func114, Tryd.ntmps114
        go_wp2_with fail
        refine CS.out.mono ?_
        rintro e W ⟨rfl, B, p1, hP⟩
        have CP := hid (escaped_any pb s p1 t W hP)
        have HB := hid B
        clear B hP
        rw [he] at CP
        simp only [out_bad] at CP
        go_wp2_with fail
        refine CP.out.mono ?_
        rintro e W2 ⟨B, rfl, hP⟩
        have HB2 := hid (And.intro (HB.out.trans B) hP)
        clear B hP
        go_wp2
        exact ⟨rfl, HB2.out.1, rfl, HB2.out.2⟩
      | ok x u =>
        simp only [out_ok]
        go_enter Tryd.func114, Tryd.ntmps114
        go_wp2_with fail
        refine CS.out.mono ?_
        rintro e W ⟨rfl, B, p1, hP⟩
        have CP := hid (escaped_any pb s p1 t W hP)
        have HB := hid B
        clear B hP
        rw [he] at CP
        simp only [out_ok] at CP
        go_wp2_with fail
        refine CP.out.mono ?_
        rintro e W2 ⟨B, ⟨v, rfl, rfl⟩, hP⟩
        have HB2 := hid (And.intro (HB.out.trans B) hP)
        clear B hP
        go_wp2
        go_ret
        exact ⟨HB2.out.1, ⟨_, rfl, rfl⟩, HB2.out.2⟩
    · simp only [skip, h92, if_false, Option.isSome_none, Option.getD_none] at CS
      have CP0 := hid (fun W p1 (hP : PS pb s W p1 (b :: t)) => printing_any pb s p1 (b :: t) W hP)
      clear h
      cases hp : prn b with
      | false =>
        have q : chr spO (b :: t) = .bad (b :: t) := by simp [chr, h92, hp]
        simp only [q, out_bad]
        simp only [prnM, hp, Bool.false_eq_true, if_false, out_bad] at CP0
        go_enter Tryd.func114, Tryd.ntmps114
        go_wp2_with fail
        refine CS.out.mono ?_
        rintro e W ⟨rfl, B, p1, hP⟩
        have HB := hid (And.intro B hP)
        clear B hP
        go_wp2_with fail
        refine (CP0.out _ _ HB.out.2).mono ?_
        rintro e W2 ⟨B, rfl, hP⟩
        have HB2 := hid (And.intro (HB.out.1.trans B) hP)
        clear B hP
        go_wp2
        exact ⟨rfl, HB2.out.1, rfl, HB2.out.2⟩
      | true =>
        simp only [prnM, hp, if_true, out_ok] at CP0
        have hI : decide (0 ≤ Lib.indexByte spO b) = (spO).contains b := ib_contains _ _
        have hb0 : ((b.toNat : Int).toNat).toUInt8 = b := by simp
        have CI := hid (fun V => Tryd.strings_IndexByte { data := #[40, 41, 91, 93, 124, 42, 43, 63, 46, 92] } (b.toNat : Int) V)
        rw [hb0, show ({ data := #[40, 41, 91, 93, 124, 42, 43, 63, 46, 92] } : ByteArray).data.toList = spO from rfl] at CI
        obtain ⟨j, hj⟩ : ∃ j, j = Lib.indexByte spO b := ⟨_, rfl⟩
        rw [← hj] at CI hI
        clear hj hb0
        cases hc : (spO).contains b with
        | true =>
          have q : chr spO (b :: t) = .bad (b :: t) := by
            rw [chr, if_neg h92, hp, hc]; simp
          simp only [q, out_bad]
          rw [hc] at hI
          have hj0 : 0 ≤ j := of_decide_eq_true hI
          clear hI
          go_enter Tryd.func114, Tryd.ntmps114
          go_wp2_with fail
          refine CS.out.mono ?_
          rintro e W ⟨rfl, B, p1, hP⟩
          have HB := hid (And.intro B hP)
          clear B hP
          go_wp2_with fail
          refine (CP0.out _ _ HB.out.2).mono ?_
          rintro e W2 ⟨B, ⟨v, rfl, rfl⟩, hP⟩
          have HB2 := hid (And.intro (HB.out.1.trans B) hP)
          clear B hP
          go_wp2_with fail
          refine (CI.out _).mono ?_
          rintro e W3 ⟨rfl, rfl⟩
          go_wp2_with (go_at_call 33; refine (fail_any pb _).mono ?_; rintro e W4 ⟨rfl, rfl⟩)
          exact ⟨rfl, HB2.out.1, rfl, HB2.out.2⟩
        | false =>
          have q : chr spO (b :: t) = .ok b t := by
            rw [chr, if_neg h92, hp, hc]; simp
          simp only [q, out_ok]
          rw [hc] at hI
          have hj0 : ¬ 0 ≤ j := of_decide_eq_false hI
          clear hI
          go_enter Tryd.func114, Tryd.ntmps114
          go_wp2_with fail
          refine CS.out.mono ?_
          rintro e W ⟨rfl, B, p1, hP⟩
          have HB := hid (And.intro B hP)
          clear B hP
          go_wp2_with fail
          refine (CP0.out _ _ HB.out.2).mono ?_
          rintro e W2 ⟨B, ⟨v, rfl, rfl⟩, p2, hP⟩
          obtain ⟨c0, c1⟩ := hP.cells
          have f1 := free hP.box 1
          obtain ⟨hpl, _⟩ := hP.head
          have hsz := hP.sz
          have e1 : IntKind.i64.wrap ((p2 : Int) + 1) = ((p2 + 1 : Nat) : Int) := by rw [wrapIn] <;> omega
          have HB2 := hid (And.intro (HB.out.1.trans B) hP)
          clear B hP
          go_wp2_with fail
          refine (CI.out _).mono ?_
          rintro e W3 ⟨rfl, rfl⟩
          go_wp2
          go_ret
          exact ⟨HB2.out.1.put, ⟨_, rfl, rfl⟩, _, by simpa using HB2.out.2.next⟩

set_option maxRecDepth 100000 in
set_option maxHeartbeats 4000000 in
theorem charI_any (pb : Nat) (s : ByteArray) (p : Nat) (l : List UInt8) (w : World) (h : PS pb s w p l) :
    Calls Tryd.prog 114 #[.pointer (some ⟨pb, 0, none⟩), .string { data := #[93, 92, 45] }] w fun e w' => Out pb s w (chr spI l) u8v e w' := by
  have CS := hid (skip_any pb s p l 92 w h)
  rw [show (((92 : UInt8).toNat : Nat) : Int) = 92 from rfl] at CS
  cases l with
  | nil =>
    simp only [skip, Option.isSome_none, Option.getD_none] at CS
    simp only [chr, out_bad]
    clear h
    go_enter Tryd.func114, Tryd.ntmps114
    go_wp2_with fail
    refine CS.out.mono ?_
    rintro e W ⟨rfl, B, p1, hP⟩
    have CP := hid (printing_any pb s p1 [] W hP)
    simp only [prnM, out_bad] at CP
    have HB := hid B
    clear B hP
    go_wp2_with fail
    refine CP.out.mono ?_
    rintro e W2 ⟨B, rfl, hP⟩
    have HB2 := hid (And.intro (HB.out.trans B) hP)
    clear B hP
    go_wp2
    exact ⟨rfl, HB2.out.1, rfl, HB2.out.2⟩
  | cons b t =>
    by_cases h92 : b = 92
    · have q : chr spI (b :: t) = escd t := by simp [chr, h92]
      simp only [q]
      simp only [skip, h92, if_true, Option.isSome_some, Option.getD_some] at CS
      clear h
      cases he : escd t with
      | bad u =>
        simp only [out_bad]
        go_enter Tryd.func114, Tryd.ntmps114
        go_wp2_with fail
        refine CS.out.mono ?_
        rintro e W ⟨rfl, B, p1, hP⟩
        have CP := hid (escaped_any pb s p1 t W hP)
        have HB := hid B
        clear B hP
        rw [he] at CP
        simp only [out_bad] at CP
        go_wp2_with fail
        refine CP.out.mono ?_
        rintro e W2 ⟨B, rfl, hP⟩
        have HB2 := hid (And.intro (HB.out.trans B) hP)
        clear B hP
        go_wp2
        exact ⟨rfl, HB2.out.1, rfl, HB2.out.2⟩
      | ok x u =>
        simp only [out_ok]
        go_enter Tryd.func114, Tryd.ntmps114
        go_wp2_with fail
        refine CS.out.mono ?_
        rintro e W ⟨rfl, B, p1, hP⟩
        have CP := hid (escaped_any pb s p1 t W hP)
        have HB := hid B
        clear B hP
        rw [he] at CP
        simp only [out_ok] at CP
        go_wp2_with fail
        refine CP.out.mono ?_
        rintro e W2 ⟨B, ⟨v, rfl, rfl⟩, hP⟩
        have HB2 := hid (And.intro (HB.out.trans B) hP)
        clear B hP
        go_wp2
        go_ret
        exact ⟨HB2.out.1, ⟨_, rfl, rfl⟩, HB2.out.2⟩
    · simp only [skip, h92, if_false, Option.isSome_none, Option.getD_none] at CS
      have CP0 := hid (fun W p1 (hP : PS pb s W p1 (b :: t)) => printing_any pb s p1 (b :: t) W hP)
      clear h
      cases hp : prn b with
      | false =>
        have q : chr spI (b :: t) = .bad (b :: t) := by simp [chr, h92, hp]
        simp only [q, out_bad]
        simp only [prnM, hp, Bool.false_eq_true, if_false, out_bad] at CP0
        go_enter Tryd.func114, Tryd.ntmps114
        go_wp2_with fail
        refine CS.out.mono ?_
        rintro e W ⟨rfl, B, p1, hP⟩
        have HB := hid (And.intro B hP)
        clear B hP
        go_wp2_with fail
        refine (CP0.out _ _ HB.out.2).mono ?_
        rintro e W2 ⟨B, rfl, hP⟩
        have HB2 := hid (And.intro (HB.out.1.trans B) hP)
        clear B hP
        go_wp2
        exact ⟨rfl, HB2.out.1, rfl, HB2.out.2⟩
      | true =>
        simp only [prnM, hp, if_true, out_ok] at CP0
        have hI : decide (0 ≤ Lib.indexByte spI b) = (spI).contains b := ib_contains _ _
        have hb0 : ((b.toNat : Int).toNat).toUInt8 = b := by simp
        have CI := hid (fun V => Tryd.strings_IndexByte { data := #[93, 92, 45] } (b.toNat : Int) V)
        rw [hb0, show ({ data := #[93, 92, 45] } : ByteArray).data.toList = spI from rfl] at CI
        obtain ⟨j, hj⟩ : ∃ j, j = Lib.indexByte spI b := ⟨_, rfl⟩
        rw [← hj] at CI hI
        clear hj hb0
        cases hc : (spI).contains b with
        | true =>
          have q : chr spI (b :: t) = .bad (b :: t) := by
            rw [chr, if_neg h92, hp, hc]; simp
          simp only [q, out_bad]
          rw [hc] at hI
          have hj0 : 0 ≤ j := of_decide_eq_true hI
          clear hI
          go_enter Tryd.func114, Tryd.ntmps114
          go_wp2_with fail
          refine CS.out.mono ?_
          rintro e W ⟨rfl, B, p1, hP⟩
          have HB := hid (And.intro B hP)
          clear B hP
          go_wp2_with fail
          refine (CP0.out _ _ HB.out.2).mono ?_
          rintro e W2 ⟨B, ⟨v, rfl, rfl⟩, hP⟩
          have HB2 := hid (And.intro (HB.out.1.trans B) hP)
          clear B hP
          go_wp2_with fail
          refine (CI.out _).mono ?_
          rintro e W3 ⟨rfl, rfl⟩
          go_wp2_with (go_at_call 33; refine (fail_any pb _).mono ?_; rintro e W4 ⟨rfl, rfl⟩)
          exact ⟨rfl, HB2.out.1, rfl, HB2.out.2⟩
        | false =>
          have q : chr spI (b :: t) = .ok b t := by
            rw [chr, if_neg h92, hp, hc]; simp
          simp only [q, out_ok]
          rw [hc] at hI
          have hj0 : ¬ 0 ≤ j := of_decide_eq_false hI
          clear hI
          go_enter Tryd.func114, Tryd.ntmps114
          go_wp2_with fail
          refine CS.out.mono ?_
          rintro e W ⟨rfl, B, p1, hP⟩
          have HB := hid (And.intro B hP)
          clear B hP
          go_wp2_with fail
          refine (CP0.out _ _ HB.out.2).mono ?_
          rintro e W2 ⟨B, ⟨v, rfl, rfl⟩, p2, hP⟩
          obtain ⟨c0, c1⟩ := hP.cells
          have f1 := free hP.box 1
          obtain ⟨hpl, _⟩ := hP.head
          have hsz := hP.sz
          have e1 : IntKind.i64.wrap ((p2 : Int) + 1) = ((p2 + 1 : Nat) : Int) := by rw [wrapIn] <;> omega
          have HB2 := hid (And.intro (HB.out.1.trans B) hP)
          clear B hP
          go_wp2_with fail
          refine (CI.out _).mono ?_
          rintro e W3 ⟨rfl, rfl⟩
          go_wp2
          go_ret
          exact ⟨HB2.out.1.put, ⟨_, rfl, rfl⟩, _, by simpa using HB2.out.2.next⟩
end Go.Proofs.YtednoideboeehaaDoor
end
section
set_option linter.unusedSimpArgs false
set_option linter.unusedVariables false
namespace Go.Proofs.YtednoideboeehaaDoor
open Go.RowKit Bs Rg Go.Frame
attribute [local go_sem] eq_zero eq_set

/-- A value that is a set. -/
def setv (s : BS) (_ : World) (v : Value) : Prop := v = .agg #[.int .u64 (ws s 0 : Int), .int .u64 (ws s 1 : Int), .int .u64 (ws s 2 : Int), .int .u64 (ws s 3 : Int)]
theorem sv_to {p : Nat → Bool} {s : BS} (h : ∀ x, x < 256 → p x = lf s x) : sv p = .agg #[.int .u64 (ws s 0 : Int), .int .u64 (ws s 1 : Int), .int .u64 (ws s 2 : Int), .int .u64 (ws s 3 : Int)] := (sv_congr h).trans (sv_lf s)
theorem lf_nat (s : BS) (b : UInt8) : lf s b.toNat = s b := by simp [lf]
theorem of_lt {x : Nat} (h : x < 256) : (UInt8.ofNat x).toNat = x := by simp; omega
theorem rgp_lf (lo hi : UInt8) : ∀ x, x < 256 → rgp lo.toNat (hi.toNat + 1) x = lf (rng lo hi) x := by
  intro x hx
  unfold rgp lf rng
  rw [Bool.eq_iff_iff]
  simp [UInt8.le_iff_toNat_le, of_lt hx]
  omega
theorem add_one (b : UInt8) : ∀ x, x < 256 → add1 (fun _ => false) b.toNat x = lf (one b) x := by
  intro x hx
  unfold add1 lf one
  rw [Bool.eq_iff_iff]
  simp
  constructor
  · rintro rfl; simp
  · intro h; rw [← h]; simp; omega
theorem ws_uni (s t : BS) : sv (fun x => lf s x || lf t x) = .agg #[.int .u64 (ws (uni s t) 0 : Int), .int .u64 (ws (uni s t) 1 : Int), .int .u64 (ws (uni s t) 2 : Int), .int .u64 (ws (uni s t) 3 : Int)] := sv_to fun x _ => rfl
theorem ws_cpl (s : BS) : sv (fun x => !lf s x) = .agg #[.int .u64 (ws (cpl s) 0 : Int), .int .u64 (ws (cpl s) 1 : Int), .int .u64 (ws (cpl s) 2 : Int), .int .u64 (ws (cpl s) 3 : Int)] := sv_to fun x _ => rfl
theorem RangeB_any (lo hi : UInt8) (w : World) :
    Calls Tryd.prog 78 #[.int .u8 (lo.toNat : Int), .int .u8 (hi.toNat : Int)] w fun e w' => e = .returned (.agg #[.int .u64 (ws (rng lo hi) 0 : Int), .int .u64 (ws (rng lo hi) 1 : Int), .int .u64 (ws (rng lo hi) 2 : Int), .int .u64 (ws (rng lo hi) 3 : Int)]) ∧ Below w.heap.size w w' := by
  have := Range_any lo.toNat hi.toNat w lo.toNat_lt hi.toNat_lt
  rw [sv_to (rgp_lf lo hi)] at this
  exact this
theorem UnionB_any (s t : BS) (w : World) :
    Calls Tryd.prog 77 #[.agg #[.int .u64 (ws s 0 : Int), .int .u64 (ws s 1 : Int), .int .u64 (ws s 2 : Int), .int .u64 (ws s 3 : Int)], .agg #[.int .u64 (ws t 0 : Int), .int .u64 (ws t 1 : Int), .int .u64 (ws t 2 : Int), .int .u64 (ws t 3 : Int)]] w fun e w' => e = .returned (.agg #[.int .u64 (ws (uni s t) 0 : Int), .int .u64 (ws (uni s t) 1 : Int), .int .u64 (ws (uni s t) 2 : Int), .int .u64 (ws (uni s t) 3 : Int)]) ∧ Below w.heap.size w w' := by
  have := Union_any (lf s) (lf t) w
  rw [ws_uni] at this
  exact this
theorem ComplementB_any (s : BS) (w : World) :
    Calls Tryd.prog 59 #[.agg #[.int .u64 (ws s 0 : Int), .int .u64 (ws s 1 : Int), .int .u64 (ws s 2 : Int), .int .u64 (ws s 3 : Int)]] w fun e w' => e = .returned (.agg #[.int .u64 (ws (cpl s) 0 : Int), .int .u64 (ws (cpl s) 1 : Int), .int .u64 (ws (cpl s) 2 : Int), .int .u64 (ws (cpl s) 3 : Int)]) ∧ Below w.heap.size w w' := by
  have := Complement_any (lf s) w
  rw [ws_cpl] at this
  exact this
theorem HasB_any (s : BS) (b : UInt8) (w : World) :
    Calls Tryd.prog 67 #[.agg #[.int .u64 (ws s 0 : Int), .int .u64 (ws s 1 : Int), .int .u64 (ws s 2 : Int), .int .u64 (ws s 3 : Int)], .int .u8 (b.toNat : Int)] w fun e w' => e = .returned (.bool (s b)) ∧ Below w.heap.size w w' := by
  have := Has_any (lf s) b.toNat w b.toNat_lt
  rw [lf_nat] at this
  exact this
theorem ofp_ten : sv (ofp ⟨#[10]⟩ 1) = .agg #[.int .u64 (ws (one 10) 0 : Int), .int .u64 (ws (one 10) 1 : Int), .int .u64 (ws (one 10) 2 : Int), .int .u64 (ws (one 10) 3 : Int)] := by
  have h : ofp ⟨#[10]⟩ 1 = add1 (fun _ => false) (10 : UInt8).toNat := ofp_next ⟨#[10]⟩ (i := 0) (by decide)
  rw [h]
  exact sv_to (add_one 10)

set_option maxRecDepth 100000 in
set_option maxHeartbeats 4000000 in
theorem dot_any (w : World) : Calls Tryd.prog 81 #[] w fun e w' => e = .returned (.agg #[.int .u64 (ws Rg.dot 0 : Int), .int .u64 (ws Rg.dot 1 : Int), .int .u64 (ws Rg.dot 2 : Int), .int .u64 (ws Rg.dot 3 : Int)]) ∧ Below w.heap.size w w' := by
  have CO := hid (fun V => Of_any ⟨#[10]⟩ V (by decide))
  rw [show (ByteArray.mk #[10]).size = 1 from rfl, ofp_ten] at CO
  have CC := hid (fun V => ComplementB_any (one 10) V)
  rw [show cpl (one 10) = Rg.dot from rfl] at CC
  have x0 := hid (alloc_new w zset)
  have B0 := hid (bel1 w zset)
  go_enter Tryd.func81, Tryd.ntmps81
  go_wp2_with fail
  refine (CO.out _).mono ?_
  rintro e W ⟨rfl, b1⟩
  have y0 := (b1.block _ (heap_lt x0.out)).trans x0.out
  have B1 := hid (B0.out.trans (b1.mono B0.out.size))
  have hl := heap_lt y0
  have Y := hid y0
  clear b1 y0
  go_wp2_with fail
  refine (CC.out _).mono ?_
  rintro e W2 ⟨rfl, b2⟩
  have y0 := (b2.block _ hl).trans Y.out
  unfold zset at y0
  have B2 := hid (B1.out.trans (b2.mono B1.out.size))
  clear b2
  have z := four_set (x' := .int .u64 (ws Rg.dot 0 : Int)) (y' := .int .u64 (ws Rg.dot 1 : Int)) (z' := .int .u64 (ws Rg.dot 2 : Int)) (u' := .int .u64 (ws Rg.dot 3 : Int)) y0
  obtain ⟨f0, f1, f2, f3⟩ := frozen4 y0
  obtain ⟨c0, c1, c2, c3⟩ := cells4 y0
  obtain ⟨r0, r1, r2, r3⟩ := cells4 z
  clear y0 z
  go_wp2
  refine bodyPost_ret (v := .agg #[.int .u64 (ws Rg.dot 0 : Int), .int .u64 (ws Rg.dot 1 : Int), .int .u64 (ws Rg.dot 2 : Int), .int .u64 (ws Rg.dot 3 : Int)]) ?_ rfl ⟨rfl, ?_⟩
  · simp [results, Tryd.results81, go_sem, r0, r1, r2, r3]
  · exact below_put (below_put (below_put (below_put B2.out (Nat.le_refl _)) (Nat.le_refl _)) (Nat.le_refl _)) (Nat.le_refl _)
end Go.Proofs.YtednoideboeehaaDoor
end
section
set_option linter.unusedSimpArgs false
set_option linter.unusedVariables false
namespace Go.Proofs.YtednoideboeehaaDoor
open Go.RowKit Bs Rg Go.Frame
attribute [local go_sem] eq_zero eq_set

theorem PS.back {pb : Nat} {s : ByteArray} {W W' : World} {p p' : Nat} {l l' : List UInt8} (h : PS pb s W p l) (h' : PS pb s W' p' l') : PS pb s (W'.setCell ⟨pb, 1, none⟩ (.int .i64 (p : Int))) p l :=
  ⟨blk_put h'.box, h.rest, h.le, h.sz⟩
theorem PS.put {pb rb j : Nat} {s : ByteArray} {W : World} {p : Nat} {l : List UInt8} {v : Value} (h : PS pb s W p l) (hn : pb ≠ rb) : PS pb s (W.setCell ⟨rb, j, none⟩ v) p l := ⟨blk_set h.box hn, h.rest, h.le, h.sz⟩
/-- A store into a box that is younger than the call. -/
theorem Pk.putNew {pb rb j : Nat} {w w' : World} {v : Value} (h : Pk pb w w') (hr : w.heap.size ≤ rb) : Pk pb w (w'.setCell ⟨rb, j, none⟩ v) := Kept.setCell h (.inr hr) v
theorem Pk.made {pb : Nat} {w w' : World} {o : Obj} (h : Pk pb w w') : Pk pb w (w'.alloc o) := h.trans (Pk.of (bel1 _ _))

set_option maxRecDepth 100000 in
set_option maxHeartbeats 4000000 in
theorem element_any (pb : Nat) (s : ByteArray) (p : Nat) (l : List UInt8) (w : World) (h : PS pb s w p l) :
    Calls Tryd.prog 117 #[.pointer (some ⟨pb, 0, none⟩)] w fun e w' => Out pb s w (elt l) setv e w' := by
  obtain ⟨W0, hW0⟩ : ∃ W0, W0 = w.alloc zset := ⟨_, rfl⟩
  have B0 : Below w.heap.size w W0 := by rw [hW0]; exact bel1 _ _
  have x0 : W0.heap[w.heap.size]? = some zset := by rw [hW0]; exact alloc_new _ _
  have hpb := heap_lt h.box
  have hsz := h.sz
  have hne : w.heap.size ≠ pb := by omega
  unfold zset at hW0
  have C1 := hid (charI_any pb s p l W0 (h.below B0))
  have HB0 := hid (And.intro (Pk.of (pb := pb) B0) x0)
  clear h B0 x0
  cases h1 : chr spI l with
  | bad t =>
    have q : elt l = .bad t := by unfold elt; rw [h1]
    rw [h1] at C1
    simp only [out_bad] at C1
    simp only [q, out_bad]
    go_enter Tryd.func117, Tryd.ntmps117
    go_wp2_with fail
    rw [← hW0]
    refine C1.out.mono ?_
    rintro e W1 ⟨B1, rfl, hP1⟩
    have H1 := hid (And.intro (HB0.out.1.trans B1) (And.intro hP1 trivial))
    clear B1 hP1
    go_wp2
    exact ⟨rfl, H1.out.1, rfl, H1.out.2.1⟩
  | ok lo t =>
    rw [h1] at C1
    simp only [out_ok] at C1
    cases h2 : skip 45 t with
    | none =>
      have q : elt l = .ok (rng lo lo) t := by unfold elt; rw [h1]; simp only [h2]
      simp only [q, out_ok]
      go_enter Tryd.func117, Tryd.ntmps117
      go_wp2_with fail
      rw [← hW0]
      refine C1.out.mono ?_
      rintro e W1 ⟨B1, ⟨v, rfl, rfl⟩, p1, hP1⟩
      have C2 := hid (skip_any pb s p1 t 45 W1 hP1)
      rw [show (((45 : UInt8).toNat : Nat) : Int) = 45 from rfl, h2] at C2
      simp only [Option.isSome_none, Option.getD_none] at C2
      have H1 := hid (And.intro (HB0.out.1.trans B1) ((B1.block hne (heap_lt HB0.out.2)).trans HB0.out.2))
      clear B1 hP1
      go_wp2_with fail
      refine C2.out.mono ?_
      rintro e W2 ⟨rfl, B2, hP2⟩
      have H2 := hid (And.intro (H1.out.1.trans B2) (And.intro hP2 ((B2.block hne (heap_lt H1.out.2)).trans H1.out.2)))
      clear B2 hP2
      have C3 := hid (RangeB_any lo lo W2)
      go_wp2_with fail
      refine C3.out.mono ?_
      rintro e W3 ⟨rfl, B3⟩
      have y0 := (B3.block _ (heap_lt H2.out.2.2)).trans H2.out.2.2
      unfold zset at y0
      obtain ⟨p2, hP2⟩ := H2.out.2.1
      have H3 := hid (And.intro (H2.out.1.trans (Pk.of B3)) (hP2.below B3))
      clear B3 hP2
      have z := four_set (x' := .int .u64 (ws (rng lo lo) 0 : Int)) (y' := .int .u64 (ws (rng lo lo) 1 : Int)) (z' := .int .u64 (ws (rng lo lo) 2 : Int)) (u' := .int .u64 (ws (rng lo lo) 3 : Int)) y0
      obtain ⟨f0, f1, f2, f3⟩ := frozen4 y0
      obtain ⟨c0, c1, c2, c3⟩ := cells4 y0
      obtain ⟨r0, r1, r2, r3⟩ := cells4 z
      clear y0 z
      go_wp2
      refine bodyPost_ret (v := .agg #[.int .u64 (ws (rng lo lo) 0 : Int), .int .u64 (ws (rng lo lo) 1 : Int), .int .u64 (ws (rng lo lo) 2 : Int), .int .u64 (ws (rng lo lo) 3 : Int)]) ?_ rfl ⟨(Pk.putNew (Pk.putNew (Pk.putNew (Pk.putNew H3.out.1 (Nat.le_refl _)) (Nat.le_refl _)) (Nat.le_refl _)) (Nat.le_refl _)), ⟨_, rfl, rfl⟩, p2, (PS.put (PS.put (PS.put (PS.put H3.out.2 (Ne.symm hne)) (Ne.symm hne)) (Ne.symm hne)) (Ne.symm hne))⟩
      · simp [results, Tryd.results117, go_sem, r0, r1, r2, r3]
    | some u =>
      cases h3 : chr spI u with
      | bad v =>
        have q : elt l = .bad v := by unfold elt; rw [h1]; simp only [h2, h3]
        simp only [q, out_bad]
        go_enter Tryd.func117, Tryd.ntmps117
        go_wp2_with fail
        rw [← hW0]
        refine C1.out.mono ?_
        rintro e W1 ⟨B1, ⟨v', rfl, rfl⟩, p1, hP1⟩
        have C2 := hid (skip_any pb s p1 t 45 W1 hP1)
        rw [show (((45 : UInt8).toNat : Nat) : Int) = 45 from rfl, h2] at C2
        simp only [Option.isSome_some, Option.getD_some] at C2
        have H1 := hid (HB0.out.1.trans B1)
        clear B1 hP1
        go_wp2_with fail
        refine C2.out.mono ?_
        rintro e W2 ⟨rfl, B2, p2, hP2⟩
        obtain ⟨c0, c1⟩ := hP2.cells
        have C3 := hid (charI_any pb s p2 u W2 hP2)
        rw [h3] at C3
        simp only [out_bad] at C3
        have H2 := hid (H1.out.trans B2)
        clear B2 hP2
        go_wp2_with fail
        refine C3.out.mono ?_
        rintro e W3 ⟨B3, rfl, hP3⟩
        have H3 := hid (And.intro (H2.out.trans B3) (And.intro hP3 trivial))
        clear B3 hP3
        go_wp2
        exact ⟨rfl, H3.out.1, rfl, H3.out.2.1⟩
      | ok hi v =>
        by_cases hlt : hi < lo
        · have q : elt l = .bad u := by unfold elt; rw [h1]; simp only [h2, h3, if_pos hlt]
          have hlt' : (hi.toNat : Int) < (lo.toNat : Int) := by have := UInt8.lt_iff_toNat_lt.1 hlt; omega
          simp only [q, out_bad]
          go_enter Tryd.func117, Tryd.ntmps117
          go_wp2_with fail
          rw [← hW0]
          refine C1.out.mono ?_
          rintro e W1 ⟨B1, ⟨v', rfl, rfl⟩, p1, hP1⟩
          have C2 := hid (skip_any pb s p1 t 45 W1 hP1)
          rw [show (((45 : UInt8).toNat : Nat) : Int) = 45 from rfl, h2] at C2
          simp only [Option.isSome_some, Option.getD_some] at C2
          have H1 := hid (HB0.out.1.trans B1)
          clear B1 hP1
          go_wp2_with fail
          refine C2.out.mono ?_
          rintro e W2 ⟨rfl, B2, p2, hP2⟩
          obtain ⟨c0, c1⟩ := hP2.cells
          have C3 := hid (charI_any pb s p2 u W2 hP2)
          rw [h3] at C3
          simp only [out_ok] at C3
          have H2 := hid (And.intro (H1.out.trans B2) hP2)
          clear B2 hP2
          go_wp2_with fail
          refine C3.out.mono ?_
          rintro e W3 ⟨B3, ⟨v', rfl, rfl⟩, p3, hP3⟩
          have c4 := (hP3.cells).2
          have f4 := free hP3.box 1
          have H3 := hid (And.intro (H2.out.1.trans B3) hP3)
          clear B3 hP3 c0 c1
          go_wp2_with (go_at_call 33; refine (fail_any pb _).mono ?_; rintro e W4 ⟨rfl, rfl⟩)
          exact ⟨rfl, H3.out.1.put, rfl, p2, H2.out.2.back H3.out.2⟩
        · have q : elt l = .ok (rng lo hi) v := by unfold elt; rw [h1]; simp only [h2, h3, if_neg hlt]
          have hlt' : ¬ (hi.toNat : Int) < (lo.toNat : Int) := by intro h; exact hlt (UInt8.lt_iff_toNat_lt.2 (by omega))
          simp only [q, out_ok]
          go_enter Tryd.func117, Tryd.ntmps117
          go_wp2_with fail
          rw [← hW0]
          refine C1.out.mono ?_
          rintro e W1 ⟨B1, ⟨v', rfl, rfl⟩, p1, hP1⟩
          have C2 := hid (skip_any pb s p1 t 45 W1 hP1)
          rw [show (((45 : UInt8).toNat : Nat) : Int) = 45 from rfl, h2] at C2
          simp only [Option.isSome_some, Option.getD_some] at C2
          have H1 := hid (And.intro (HB0.out.1.trans B1) ((B1.block hne (heap_lt HB0.out.2)).trans HB0.out.2))
          clear B1 hP1
          go_wp2_with fail
          refine C2.out.mono ?_
          rintro e W2 ⟨rfl, B2, p2, hP2⟩
          obtain ⟨c0, c1⟩ := hP2.cells
          have C3 := hid (charI_any pb s p2 u W2 hP2)
          rw [h3] at C3
          simp only [out_ok] at C3
          have H2 := hid (And.intro (H1.out.1.trans B2) ((B2.block hne (heap_lt H1.out.2)).trans H1.out.2))
          clear B2 hP2
          go_wp2_with fail
          refine C3.out.mono ?_
          rintro e W3 ⟨B3, ⟨v', rfl, rfl⟩, p3, hP3⟩
          have H3 := hid (And.intro (H2.out.1.trans B3) (And.intro hP3 ((B3.block hne (heap_lt H2.out.2)).trans H2.out.2)))
          clear B3 hP3 c0 c1
          have C4 := hid (RangeB_any lo hi W3)
          go_wp2_with fail
          refine C4.out.mono ?_
          rintro e W4 ⟨rfl, B4⟩
          have y0 := (B4.block _ (heap_lt H3.out.2.2)).trans H3.out.2.2
          unfold zset at y0
          have H4 := hid (And.intro (H3.out.1.trans (Pk.of B4)) (H3.out.2.1.below B4))
          clear B4
          have z := four_set (x' := .int .u64 (ws (rng lo hi) 0 : Int)) (y' := .int .u64 (ws (rng lo hi) 1 : Int)) (z' := .int .u64 (ws (rng lo hi) 2 : Int)) (u' := .int .u64 (ws (rng lo hi) 3 : Int)) y0
          obtain ⟨f0, f1, f2, f3⟩ := frozen4 y0
          obtain ⟨c0, c1, c2, c3⟩ := cells4 y0
          obtain ⟨r0, r1, r2, r3⟩ := cells4 z
          clear y0 z
          go_wp2
          refine bodyPost_ret (v := .agg #[.int .u64 (ws (rng lo hi) 0 : Int), .int .u64 (ws (rng lo hi) 1 : Int), .int .u64 (ws (rng lo hi) 2 : Int), .int .u64 (ws (rng lo hi) 3 : Int)]) ?_ rfl ⟨(Pk.putNew (Pk.putNew (Pk.putNew (Pk.putNew H4.out.1 (Nat.le_refl _)) (Nat.le_refl _)) (Nat.le_refl _)) (Nat.le_refl _)), ⟨_, rfl, rfl⟩, p3, (PS.put (PS.put (PS.put (PS.put H4.out.2 (Ne.symm hne)) (Ne.symm hne)) (Ne.symm hne)) (Ne.symm hne))⟩
          · simp [results, Tryd.results117, go_sem, r0, r1, r2, r3]
end Go.Proofs.YtednoideboeehaaDoor
end
section
set_option linter.unusedSimpArgs false
namespace Go.Frame
section
variable {P : Program} {ops : Array Oper} {Q : Exit → Act → World → Prop} {md : Region.Mode}

/-- How many of the first n have not come up. -/
def left (listed : Array Bool) : Nat → Nat
  | 0 => 0
  | n + 1 => left listed n + (if listed.getD n true = false then 1 else 0)
theorem getD_put (listed : Array Bool) (i j : Nat) : (listed.setIfInBounds i true).getD j true = (listed.getD j true || j == i) := by
  simp only [Array.getD_eq_getD_getElem?]
  rw [Array.getElem?_setIfInBounds]
  by_cases e : i = j
  · subst e
    by_cases h : i < listed.size
    · simp [h]
    · simp [h, Array.getElem?_eq_none (Nat.le_of_not_lt h)]
  · have e' : ¬ j = i := fun h => e h.symm
    simp [e, e']
theorem left_put {listed : Array Bool} {i : Nat} (h : listed.getD i true = false) : ∀ n, left (listed.setIfInBounds i true) n + (if i < n then 1 else 0) = left listed n
  | 0 => by simp [left]
  | n + 1 => by
    have ih := left_put h n
    rw [left, left, getD_put]
    by_cases e : n = i
    · subst e
      simp [h] at ih ⊢
      omega
    · have e1 : (n == i) = false := by simp [e]
      rw [e1, Bool.or_false]
      by_cases hi : i < n
      · have h1 : (if i < n + 1 then 1 else 0) = 1 := if_pos (by omega)
        rw [if_pos hi] at ih; rw [h1]; omega
      · have h1 : (if i < n + 1 then 1 else 0) = 0 := if_neg (by omega)
        rw [if_neg hi] at ih; rw [h1]; omega
theorem left_zero {listed : Array Bool} : ∀ {n : Nat}, left listed n = 0 → ∀ i, i < n → listed.getD i true = true
  | 0, _, i, hi => by omega
  | n + 1, h, i, hi => by
    rw [left] at h
    by_cases e : i = n
    · subst e
      cases hb : listed.getD i true
      · rw [hb] at h; simp at h
      · rfl
    · exact left_zero (n := n) (by omega) i (by omega)
theorem getD_in {listed : Array Bool} {i : Nat} (h : listed.getD i false = true) : listed.getD i true = true := by
  rw [Array.getD_eq_getD_getElem?] at h ⊢
  cases hb : listed[i]? with
  | none => rfl
  | some x => rw [hb] at h; exact h
theorem getD_out {listed : Array Bool} {i : Nat} (hi : i < listed.size) (h : listed.getD i true = true) : listed.getD i false = true := by
  rw [Array.getD_eq_getD_getElem?, Array.getElem?_eq_getElem hi] at h ⊢
  exact h
/-- The least that has not come up may come up. -/
theorem all_up {listed : Array Bool} (hsize : listed.size = ops.size) (hback : ∀ (i : Nat) (o : Oper), ops[i]? = some o → ∀ e ∈ o.after, e.on < i) (hr : Region.ready md ops listed = []) : ∀ i, listed.getD i true = true := by
  intro i
  induction i using Nat.strongRecOn with
  | _ i ih =>
    cases hb : listed.getD i true
    · have hi : i < ops.size := by
        apply Nat.lt_of_not_le
        intro h
        rw [Array.getD_eq_getD_getElem?, Array.getElem?_eq_none (by omega)] at hb
        cases hb
      have : i ∈ Region.ready md ops listed := mem_ready.2 ⟨hb, ops[i], Array.getElem?_eq_getElem hi, fun e he _ => getD_out (by have := hback i _ (Array.getElem?_eq_getElem hi) e he; omega) (ih e.on (hback i _ (Array.getElem?_eq_getElem hi) e he))⟩
      rw [hr] at this; cases this
    · rfl
theorem wpAny_inv (J : (Nat → Bool) → Act → World → Prop) (hback : ∀ (i : Nat) (o : Oper), ops[i]? = some o → ∀ e ∈ o.after, e.on < i)
    (hstep : ∀ (b : Nat → Bool) (a : Act) (w : World) (i : Nat) (o : Oper), ops[i]? = some o → J b a w → b i = false → (∀ e ∈ o.after, Region.binds md e = true → b e.on = true) →
      ∀ K : Act → World → Prop, Shut (∀ a w, J (fun j => b j || j == i) a w → K a w) → if Region.wanted o (yielded ops a.tmps) = true then Oper.wp P o a w K Q else K (a.put o.dst undef) w)
    (hdone : ∀ (b : Nat → Bool) (a : Act) (w : World), J b a w → (∀ i, b i = true) → Q .normal a w) :
    ∀ (fuel : Nat) (listed : Array Bool) (a : Act) (w : World), listed.size = ops.size → left listed ops.size ≤ fuel → J (fun i => listed.getD i true) a w → wpAny P md ops Q fuel listed a w
  | 0, listed, a, w, hs, hl, hJ => by
    have hall : ∀ i, listed.getD i true = true := fun i => by
      by_cases h : i < ops.size
      · exact left_zero (by omega) i h
      · rw [Array.getD_eq_getD_getElem?, Array.getElem?_eq_none (by omega)]; rfl
    refine ⟨?_, hdone _ a w hJ hall⟩
    apply List.eq_nil_iff_forall_not_mem.2
    intro i hi
    have := (mem_ready.1 hi).1
    rw [hall i] at this; cases this
  | fuel + 1, listed, a, w, hs, hl, hJ => by
    refine ⟨fun hr => hdone _ a w hJ (all_up hs hback hr), fun i hi => ?_⟩
    obtain ⟨hb, o, ho, hall⟩ := mem_ready.1 hi
    have hlt : i < ops.size := (Array.getElem?_eq_some_iff.1 ho).1
    refine wpOp_step ho fun K hK => hstep _ a w i o ho hJ hb (fun e he hbe => getD_in (hall e he hbe)) K fun a' w' hJ' => hK a' w' ?_
    refine wpAny_inv J hback hstep hdone fuel _ a' w' (by simpa using hs) ?_ ?_
    · have := left_put hb ops.size
      rw [if_pos hlt] at this
      omega
    · have e : (fun j => (listed.setIfInBounds i true).getD j true) = fun j => listed.getD j true || j == i := funext fun j => getD_put listed i j
      rw [e]; exact hJ'
theorem left_new (n : Nat) : ∀ m, left (Array.replicate n false) m ≤ m
  | 0 => Nat.le_refl _
  | m + 1 => by
    have := left_new n m
    rw [left]; split <;> omega
def backwardB (ops : Array Oper) : Bool := (List.range ops.size).all fun i => match ops[i]? with
  | some o => o.after.all fun e => decide (e.on < i)
  | none => true
theorem back_of (h : backwardB ops = true) : ∀ (i : Nat) (o : Oper), ops[i]? = some o → ∀ e ∈ o.after, e.on < i := by
  intro i o ho e he
  have hi := (Array.getElem?_eq_some_iff.1 ho).1
  have h1 := List.all_eq_true.1 h i (List.mem_range.2 hi)
  rw [ho] at h1
  simpa using (Array.all_eq_true_iff_forall_mem.1 h1) e he
/-- The beginning. -/
theorem region_inv {id : Nat} {a : Act} {w : World} (J : (Nat → Bool) → Act → World → Prop) (hm : P.follows .mixedOrders = true) (hback : ∀ (i : Nat) (o : Oper), ops[i]? = some o → ∀ e ∈ o.after, e.on < i)
    (hstep : ∀ (b : Nat → Bool) (a : Act) (w : World) (i : Nat) (o : Oper), ops[i]? = some o → J b a w → b i = false → (∀ e ∈ o.after, Region.binds .any e = true → b e.on = true) →
      ∀ K : Act → World → Prop, Shut (∀ a w, J (fun j => b j || j == i) a w → K a w) → if Region.wanted o (yielded ops a.tmps) = true then Oper.wp P o a w K Q else K (a.put o.dst undef) w)
    (hdone : ∀ (b : Nat → Bool) (a : Act) (w : World), J b a w → (∀ i, b i = true) → Q .normal a w)
    (h0 : J (fun i => decide (ops.size ≤ i)) a w.drew) : (Code.region id ops true).wp P Q a w := by
  refine wp_region_any hm (wpAny_inv J hback hstep hdone _ _ _ _ (by simp) (left_new _ _) ?_)
  have e : (fun i => (Array.replicate ops.size false).getD i true) = fun i => decide (ops.size ≤ i) := funext fun i => by
    by_cases h : ops.size ≤ i
    · rw [Array.getD_eq_getD_getElem?, Array.getElem?_eq_none (by simpa using h)]; simp [h]
    · simp [Array.getD_eq_getD_getElem?, Array.getElem?_replicate, h, Nat.lt_of_not_le h]
  rw [e]; exact h0
end
end Go.Frame
end
