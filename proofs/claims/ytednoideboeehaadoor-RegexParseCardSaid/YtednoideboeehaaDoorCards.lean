/-
  DERIVED. GIVEN WITH THE SEED: THE CARDS: each row of YtednoideboeehaaDoorRows.lean that lists a variable, with what it lists TIED to the program's text (the seventh form; the later family's looks); each row that meets fmt, with fmt's text TOLD by the authors' own Lean function (tested against real Go, not proved from fmt's source: count such statements apart). THE CARD IS WHAT COUNTS. Prove the row's statement (the work); the ties are given (YtednoideboeehaaDoorTie.lean); close each card by the builder's one call (the guide's Derived/Test/ToyasCard.lean, 'card_holds'). Laid BY PROGRAM, IN A SANDBOX (cutbox-door.mjs). By AI agents, Wed Nov 11 2026. No macro, syntax, notation, axiom, sorry.
-/
import Derived.Test.YtednoideboeehaaDoorRows
import GoSem.ClaimSeven
namespace Go.Proofs.YtednoideboeehaaDoor
namespace Rows

/-- THE TIED CARD OF 'emendatelaw08.RegexValid'. -/
def regexValidCard : Claim7 := { stood := { row := regexValidRow, standIns := [], harness := (true, "dd46b08e84a61b7e61138d74753cff02afb7ed2cf4ddd25005136ca1f7ca6772"), looks := false }, kinds := [], alts := [], laidByText := true, laidKinds := [.data], laidTests := true, laidLooks := .later }
def RegexValidCardSaid : Prop := Claim7.holds Tryd.pinned (.plain (OpenSpec.ofChange regexValidSpec)) regexValidCard

/-- THE TIED CARD OF 'emendatelaw08.RegexParse'. -/
def regexParseCard : Claim7 := { stood := { row := regexParseRow, standIns := [], harness := (true, "dd46b08e84a61b7e61138d74753cff02afb7ed2cf4ddd25005136ca1f7ca6772"), looks := false }, kinds := [], alts := [], laidByText := true, laidKinds := [.data], laidTests := true, laidLooks := .later }
def RegexParseCardSaid : Prop := Claim7.holds Tryd.pinned (.plain (OpenSpec.ofChange regexParseSpec)) regexParseCard

/-- THE TIED CARD OF 'emendatelaw08.RegexFormat'. -/
def regexFormatCard : Claim7 := { stood := { row := regexFormatRow, standIns := [], harness := (true, "dd46b08e84a61b7e61138d74753cff02afb7ed2cf4ddd25005136ca1f7ca6772"), looks := false }, kinds := [], alts := [], laidByText := true, laidKinds := [.data], laidTests := true, laidLooks := .later }
def RegexFormatCardSaid : Prop := Claim7.holds Tryd.pinned (.plain (OpenSpec.ofChange regexFormatSpec)) regexFormatCard

/-- THE TIED CARD OF 'emendatelaw08.RegexRoundTrip'. -/
def regexRoundTripCard : Claim7 := { stood := { row := regexRoundTripRow, standIns := [], harness := (true, "dd46b08e84a61b7e61138d74753cff02afb7ed2cf4ddd25005136ca1f7ca6772"), looks := false }, kinds := [], alts := [], laidByText := true, laidKinds := [.data], laidTests := true, laidLooks := .later }
def RegexRoundTripCardSaid : Prop := Claim7.holds Tryd.pinned (.plain (OpenSpec.ofChange regexRoundTripSpec)) regexRoundTripCard

/-- THE TIED CARD OF 'emendatelaw08.RegexMatch'. -/
def regexMatchCard : Claim7 := { stood := { row := regexMatchRow, standIns := [], harness := (true, "dd46b08e84a61b7e61138d74753cff02afb7ed2cf4ddd25005136ca1f7ca6772"), looks := false }, kinds := [], alts := [], laidByText := true, laidKinds := [.data], laidTests := true, laidLooks := .later }
def RegexMatchCardSaid : Prop := Claim7.holds Tryd.pinned (.plain (OpenSpec.ofChange regexMatchSpec)) regexMatchCard

/-- THE TIED CARD OF 'emendatelaw08.RegexDerive'. -/
def regexDeriveCard : Claim7 := { stood := { row := regexDeriveRow, standIns := [], harness := (true, "dd46b08e84a61b7e61138d74753cff02afb7ed2cf4ddd25005136ca1f7ca6772"), looks := false }, kinds := [], alts := [], laidByText := true, laidKinds := [.data], laidTests := true, laidLooks := .later }
def RegexDeriveCardSaid : Prop := Claim7.holds Tryd.pinned (.plain (OpenSpec.ofChange regexDeriveSpec)) regexDeriveCard

/-- THE TIED CARD OF 'emendatelaw08.RegexDeriveAll'. -/
def regexDeriveAllCard : Claim7 := { stood := { row := regexDeriveAllRow, standIns := [], harness := (true, "dd46b08e84a61b7e61138d74753cff02afb7ed2cf4ddd25005136ca1f7ca6772"), looks := false }, kinds := [], alts := [], laidByText := true, laidKinds := [.data], laidTests := true, laidLooks := .later }
def RegexDeriveAllCardSaid : Prop := Claim7.holds Tryd.pinned (.plain (OpenSpec.ofChange regexDeriveAllSpec)) regexDeriveAllCard

/-- THE TIED CARD OF 'emendatelaw08.RegexAlgebra'. -/
def regexAlgebraCard : Claim7 := { stood := { row := regexAlgebraRow, standIns := [], harness := (true, "dd46b08e84a61b7e61138d74753cff02afb7ed2cf4ddd25005136ca1f7ca6772"), looks := false }, kinds := [], alts := [], laidByText := true, laidKinds := [.data], laidTests := true, laidLooks := .later }
def RegexAlgebraCardSaid : Prop := Claim7.holds Tryd.pinned (.plain (OpenSpec.ofChange regexAlgebraSpec)) regexAlgebraCard

/-- THE TIED CARD OF 'emendatelaw08.RegexNesting'. -/
def regexNestingCard : Claim7 := { stood := { row := regexNestingRow, standIns := [], harness := (true, "dd46b08e84a61b7e61138d74753cff02afb7ed2cf4ddd25005136ca1f7ca6772"), looks := false }, kinds := [], alts := [], laidByText := true, laidKinds := [.data], laidTests := true, laidLooks := .later }
def RegexNestingCardSaid : Prop := Claim7.holds Tryd.pinned (.plain (OpenSpec.ofChange regexNestingSpec)) regexNestingCard

/-- THE SECOND FORM's CARD OF 'emendatelaw08.RegexValid'. -/
def regexValidUptoCard : Claim7 := { stood := { row := regexValidUptoRow, standIns := [], harness := (true, "dd46b08e84a61b7e61138d74753cff02afb7ed2cf4ddd25005136ca1f7ca6772"), looks := false }, kinds := [], alts := [], laidByText := true, laidKinds := [.data], laidTests := true, laidLooks := .later }
def RegexValidUptoCardSaid : Prop := Claim7.holds Tryd.pinned (.plain (OpenSpec.upto regexValidSpec)) regexValidUptoCard

/-- THE SECOND FORM's CARD OF 'emendatelaw08.RegexParse'. -/
def regexParseUptoCard : Claim7 := { stood := { row := regexParseUptoRow, standIns := [], harness := (true, "dd46b08e84a61b7e61138d74753cff02afb7ed2cf4ddd25005136ca1f7ca6772"), looks := false }, kinds := [], alts := [], laidByText := true, laidKinds := [.data], laidTests := true, laidLooks := .later }
def RegexParseUptoCardSaid : Prop := Claim7.holds Tryd.pinned (.plain (OpenSpec.upto regexParseSpec)) regexParseUptoCard

/-- THE SECOND FORM's CARD OF 'emendatelaw08.RegexFormat'. -/
def regexFormatUptoCard : Claim7 := { stood := { row := regexFormatUptoRow, standIns := [], harness := (true, "dd46b08e84a61b7e61138d74753cff02afb7ed2cf4ddd25005136ca1f7ca6772"), looks := false }, kinds := [], alts := [], laidByText := true, laidKinds := [.data], laidTests := true, laidLooks := .later }
def RegexFormatUptoCardSaid : Prop := Claim7.holds Tryd.pinned (.plain (OpenSpec.upto regexFormatSpec)) regexFormatUptoCard

/-- THE SECOND FORM's CARD OF 'emendatelaw08.RegexRoundTrip'. -/
def regexRoundTripUptoCard : Claim7 := { stood := { row := regexRoundTripUptoRow, standIns := [], harness := (true, "dd46b08e84a61b7e61138d74753cff02afb7ed2cf4ddd25005136ca1f7ca6772"), looks := false }, kinds := [], alts := [], laidByText := true, laidKinds := [.data], laidTests := true, laidLooks := .later }
def RegexRoundTripUptoCardSaid : Prop := Claim7.holds Tryd.pinned (.plain (OpenSpec.upto regexRoundTripSpec)) regexRoundTripUptoCard

/-- THE SECOND FORM's CARD OF 'emendatelaw08.RegexMatch'. -/
def regexMatchUptoCard : Claim7 := { stood := { row := regexMatchUptoRow, standIns := [], harness := (true, "dd46b08e84a61b7e61138d74753cff02afb7ed2cf4ddd25005136ca1f7ca6772"), looks := false }, kinds := [], alts := [], laidByText := true, laidKinds := [.data], laidTests := true, laidLooks := .later }
def RegexMatchUptoCardSaid : Prop := Claim7.holds Tryd.pinned (.plain (OpenSpec.upto regexMatchSpec)) regexMatchUptoCard

/-- THE SECOND FORM's CARD OF 'emendatelaw08.RegexDerive'. -/
def regexDeriveUptoCard : Claim7 := { stood := { row := regexDeriveUptoRow, standIns := [], harness := (true, "dd46b08e84a61b7e61138d74753cff02afb7ed2cf4ddd25005136ca1f7ca6772"), looks := false }, kinds := [], alts := [], laidByText := true, laidKinds := [.data], laidTests := true, laidLooks := .later }
def RegexDeriveUptoCardSaid : Prop := Claim7.holds Tryd.pinned (.plain (OpenSpec.upto regexDeriveSpec)) regexDeriveUptoCard

/-- THE SECOND FORM's CARD OF 'emendatelaw08.RegexDeriveAll'. -/
def regexDeriveAllUptoCard : Claim7 := { stood := { row := regexDeriveAllUptoRow, standIns := [], harness := (true, "dd46b08e84a61b7e61138d74753cff02afb7ed2cf4ddd25005136ca1f7ca6772"), looks := false }, kinds := [], alts := [], laidByText := true, laidKinds := [.data], laidTests := true, laidLooks := .later }
def RegexDeriveAllUptoCardSaid : Prop := Claim7.holds Tryd.pinned (.plain (OpenSpec.upto regexDeriveAllSpec)) regexDeriveAllUptoCard

/-- THE SECOND FORM's CARD OF 'emendatelaw08.RegexAlgebra'. -/
def regexAlgebraUptoCard : Claim7 := { stood := { row := regexAlgebraUptoRow, standIns := [], harness := (true, "dd46b08e84a61b7e61138d74753cff02afb7ed2cf4ddd25005136ca1f7ca6772"), looks := false }, kinds := [], alts := [], laidByText := true, laidKinds := [.data], laidTests := true, laidLooks := .later }
def RegexAlgebraUptoCardSaid : Prop := Claim7.holds Tryd.pinned (.plain (OpenSpec.upto regexAlgebraSpec)) regexAlgebraUptoCard

/-- THE SECOND FORM's CARD OF 'emendatelaw08.RegexNesting'. -/
def regexNestingUptoCard : Claim7 := { stood := { row := regexNestingUptoRow, standIns := [], harness := (true, "dd46b08e84a61b7e61138d74753cff02afb7ed2cf4ddd25005136ca1f7ca6772"), looks := false }, kinds := [], alts := [], laidByText := true, laidKinds := [.data], laidTests := true, laidLooks := .later }
def RegexNestingUptoCardSaid : Prop := Claim7.holds Tryd.pinned (.plain (OpenSpec.upto regexNestingSpec)) regexNestingUptoCard
end Rows
end Go.Proofs.YtednoideboeehaaDoor
