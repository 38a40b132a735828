/-
  DERIVED. GIVEN WITH THE SEED: THE CARDS: each row of YtnjlnldbfejjpaaDoorRows.lean that lists a variable, with what it lists TIED to the program's text (the seventh form; the later family's looks); each row that meets fmt, with fmt's text TOLD by the authors' own Lean function (tested against real Go, not proved from fmt's source: count such statements apart). THE CARD IS WHAT COUNTS. Prove the row's statement (the work); the ties are given (YtnjlnldbfejjpaaDoorTie.lean); close each card by the builder's one call (the guide's Derived/Test/ToyasCard.lean, 'card_holds'). Laid BY PROGRAM, IN A SANDBOX (cutbox-door.mjs). By AI agents, Wed Nov 11 2026. No macro, syntax, notation, axiom, sorry.
-/
import Derived.Test.YtnjlnldbfejjpaaDoorRows
import GoSem.ClaimSeven
namespace Go.Proofs.YtnjlnldbfejjpaaDoor
namespace Rows

/-- THE TIED CARD OF 'emendatelaw07.BytesetOf'. -/
def bytesetOfCard : Claim7 := { stood := { row := bytesetOfRow, standIns := [], harness := (true, "f672231fa7014273d113998005b6c842c6084454db453b3aa5ceee129e95c009"), looks := false }, kinds := [], alts := [], laidByText := true, laidKinds := [.data], laidTests := true, laidLooks := .later }
def BytesetOfCardSaid : Prop := Claim7.holds Tryd.pinned (.plain (OpenSpec.ofChange bytesetOfSpec)) bytesetOfCard

/-- THE TIED CARD OF 'emendatelaw07.BytesetOperations'. -/
def bytesetOperationsCard : Claim7 := { stood := { row := bytesetOperationsRow, standIns := [], harness := (true, "f672231fa7014273d113998005b6c842c6084454db453b3aa5ceee129e95c009"), looks := false }, kinds := [], alts := [], laidByText := true, laidKinds := [.data], laidTests := true, laidLooks := .later }
def BytesetOperationsCardSaid : Prop := Claim7.holds Tryd.pinned (.plain (OpenSpec.ofChange bytesetOperationsSpec)) bytesetOperationsCard

/-- THE TIED CARD OF 'emendatelaw07.BytesetAll'. -/
def bytesetAllCard : Claim7 := { stood := { row := bytesetAllRow, standIns := [], harness := (true, "f672231fa7014273d113998005b6c842c6084454db453b3aa5ceee129e95c009"), looks := false }, kinds := [], alts := [], laidByText := true, laidKinds := [.data], laidTests := true, laidLooks := .later }
def BytesetAllCardSaid : Prop := Claim7.holds Tryd.pinned (.plain (OpenSpec.ofChange bytesetAllSpec)) bytesetAllCard

/-- THE TIED CARD OF 'emendatelaw07.BytesetAlgebra'. -/
def bytesetAlgebraCard : Claim7 := { stood := { row := bytesetAlgebraRow, standIns := [], harness := (true, "f672231fa7014273d113998005b6c842c6084454db453b3aa5ceee129e95c009"), looks := false }, kinds := [], alts := [], laidByText := true, laidKinds := [.data], laidTests := true, laidLooks := .later }
def BytesetAlgebraCardSaid : Prop := Claim7.holds Tryd.pinned (.plain (OpenSpec.ofChange bytesetAlgebraSpec)) bytesetAlgebraCard

/-- THE TIED CARD OF 'emendatelaw07.BytesetClasses'. -/
def bytesetClassesCard : Claim7 := { stood := { row := bytesetClassesRow, standIns := [], harness := (true, "f672231fa7014273d113998005b6c842c6084454db453b3aa5ceee129e95c009"), looks := false }, kinds := [], alts := [], laidByText := true, laidKinds := [.data], laidTests := true, laidLooks := .later }
def BytesetClassesCardSaid : Prop := Claim7.holds Tryd.pinned (.plain (OpenSpec.ofChange bytesetClassesSpec)) bytesetClassesCard

/-- THE TIED CARD OF 'emendatelaw07.BytesetRefines'. -/
def bytesetRefinesCard : Claim7 := { stood := { row := bytesetRefinesRow, standIns := [], harness := (true, "f672231fa7014273d113998005b6c842c6084454db453b3aa5ceee129e95c009"), looks := false }, kinds := [], alts := [], laidByText := true, laidKinds := [.data], laidTests := true, laidLooks := .later }
def BytesetRefinesCardSaid : Prop := Claim7.holds Tryd.pinned (.plain (OpenSpec.ofChange bytesetRefinesSpec)) bytesetRefinesCard

/-- THE SECOND FORM's CARD OF 'emendatelaw07.BytesetOf'. -/
def bytesetOfUptoCard : Claim7 := { stood := { row := bytesetOfUptoRow, standIns := [], harness := (true, "f672231fa7014273d113998005b6c842c6084454db453b3aa5ceee129e95c009"), looks := false }, kinds := [], alts := [], laidByText := true, laidKinds := [.data], laidTests := true, laidLooks := .later }
def BytesetOfUptoCardSaid : Prop := Claim7.holds Tryd.pinned (.plain (OpenSpec.upto bytesetOfSpec)) bytesetOfUptoCard

/-- THE SECOND FORM's CARD OF 'emendatelaw07.BytesetOperations'. -/
def bytesetOperationsUptoCard : Claim7 := { stood := { row := bytesetOperationsUptoRow, standIns := [], harness := (true, "f672231fa7014273d113998005b6c842c6084454db453b3aa5ceee129e95c009"), looks := false }, kinds := [], alts := [], laidByText := true, laidKinds := [.data], laidTests := true, laidLooks := .later }
def BytesetOperationsUptoCardSaid : Prop := Claim7.holds Tryd.pinned (.plain (OpenSpec.upto bytesetOperationsSpec)) bytesetOperationsUptoCard

/-- THE SECOND FORM's CARD OF 'emendatelaw07.BytesetAll'. -/
def bytesetAllUptoCard : Claim7 := { stood := { row := bytesetAllUptoRow, standIns := [], harness := (true, "f672231fa7014273d113998005b6c842c6084454db453b3aa5ceee129e95c009"), looks := false }, kinds := [], alts := [], laidByText := true, laidKinds := [.data], laidTests := true, laidLooks := .later }
def BytesetAllUptoCardSaid : Prop := Claim7.holds Tryd.pinned (.plain (OpenSpec.upto bytesetAllSpec)) bytesetAllUptoCard

/-- THE SECOND FORM's CARD OF 'emendatelaw07.BytesetAlgebra'. -/
def bytesetAlgebraUptoCard : Claim7 := { stood := { row := bytesetAlgebraUptoRow, standIns := [], harness := (true, "f672231fa7014273d113998005b6c842c6084454db453b3aa5ceee129e95c009"), looks := false }, kinds := [], alts := [], laidByText := true, laidKinds := [.data], laidTests := true, laidLooks := .later }
def BytesetAlgebraUptoCardSaid : Prop := Claim7.holds Tryd.pinned (.plain (OpenSpec.upto bytesetAlgebraSpec)) bytesetAlgebraUptoCard

/-- THE SECOND FORM's CARD OF 'emendatelaw07.BytesetClasses'. -/
def bytesetClassesUptoCard : Claim7 := { stood := { row := bytesetClassesUptoRow, standIns := [], harness := (true, "f672231fa7014273d113998005b6c842c6084454db453b3aa5ceee129e95c009"), looks := false }, kinds := [], alts := [], laidByText := true, laidKinds := [.data], laidTests := true, laidLooks := .later }
def BytesetClassesUptoCardSaid : Prop := Claim7.holds Tryd.pinned (.plain (OpenSpec.upto bytesetClassesSpec)) bytesetClassesUptoCard

/-- THE SECOND FORM's CARD OF 'emendatelaw07.BytesetRefines'. -/
def bytesetRefinesUptoCard : Claim7 := { stood := { row := bytesetRefinesUptoRow, standIns := [], harness := (true, "f672231fa7014273d113998005b6c842c6084454db453b3aa5ceee129e95c009"), looks := false }, kinds := [], alts := [], laidByText := true, laidKinds := [.data], laidTests := true, laidLooks := .later }
def BytesetRefinesUptoCardSaid : Prop := Claim7.holds Tryd.pinned (.plain (OpenSpec.upto bytesetRefinesSpec)) bytesetRefinesUptoCard
end Rows
end Go.Proofs.YtnjlnldbfejjpaaDoor
