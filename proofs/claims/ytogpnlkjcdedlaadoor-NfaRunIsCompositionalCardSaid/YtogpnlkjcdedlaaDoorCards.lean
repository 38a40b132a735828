/-
  DERIVED. GIVEN WITH THE SEED: THE CARDS: each row of YtogpnlkjcdedlaaDoorRows.lean that lists a variable, with what it lists TIED to the program's text (the seventh form; the later family's looks); each row that meets fmt, with fmt's text TOLD by the authors' own Lean function (tested against real Go, not proved from fmt's source: count such statements apart). THE CARD IS WHAT COUNTS. Prove the row's statement (the work); the ties are given (YtogpnlkjcdedlaaDoorTie.lean); close each card by the builder's one call (the guide's Derived/Test/ToyasCard.lean, 'card_holds'). Laid BY PROGRAM, IN A SANDBOX (cutbox-door.mjs). By AI agents, Wed Nov 11 2026. No macro, syntax, notation, axiom, sorry.
-/
import Derived.Test.YtogpnlkjcdedlaaDoorRows
import GoSem.ClaimSeven
namespace Go.Proofs.YtogpnlkjcdedlaaDoor
namespace Rows

/-- THE TIED CARD OF 'emendatelaw09.NfaValidMatchesReference'. -/
def nfaValidMatchesReferenceCard : Claim7 := { stood := { row := nfaValidMatchesReferenceRow, standIns := [], harness := (true, "71511bba388963e0e3fd5284ca385c3324698947e3f3d6d231727d3500f7d1f1"), looks := false }, kinds := [], alts := [], laidByText := true, laidKinds := [.data], laidTests := true, laidLooks := .later }
def NfaValidMatchesReferenceCardSaid : Prop := Claim7.holds Tryd.pinned (.plain (OpenSpec.ofChange nfaValidMatchesReferenceSpec)) nfaValidMatchesReferenceCard

/-- THE TIED CARD OF 'emendatelaw09.NfaClosureIsLeastFixpoint'. -/
def nfaClosureIsLeastFixpointCard : Claim7 := { stood := { row := nfaClosureIsLeastFixpointRow, standIns := [], harness := (true, "71511bba388963e0e3fd5284ca385c3324698947e3f3d6d231727d3500f7d1f1"), looks := false }, kinds := [], alts := [], laidByText := true, laidKinds := [.data], laidTests := true, laidLooks := .later }
def NfaClosureIsLeastFixpointCardSaid : Prop := Claim7.holds Tryd.pinned (.plain (OpenSpec.ofChange nfaClosureIsLeastFixpointSpec)) nfaClosureIsLeastFixpointCard

/-- THE TIED CARD OF 'emendatelaw09.NfaStepMatchesReference'. -/
def nfaStepMatchesReferenceCard : Claim7 := { stood := { row := nfaStepMatchesReferenceRow, standIns := [], harness := (true, "71511bba388963e0e3fd5284ca385c3324698947e3f3d6d231727d3500f7d1f1"), looks := false }, kinds := [], alts := [], laidByText := true, laidKinds := [.data], laidTests := true, laidLooks := .later }
def NfaStepMatchesReferenceCardSaid : Prop := Claim7.holds Tryd.pinned (.plain (OpenSpec.ofChange nfaStepMatchesReferenceSpec)) nfaStepMatchesReferenceCard

/-- THE TIED CARD OF 'emendatelaw09.NfaStepIsMonotone'. -/
def nfaStepIsMonotoneCard : Claim7 := { stood := { row := nfaStepIsMonotoneRow, standIns := [], harness := (true, "71511bba388963e0e3fd5284ca385c3324698947e3f3d6d231727d3500f7d1f1"), looks := false }, kinds := [], alts := [], laidByText := true, laidKinds := [.data], laidTests := true, laidLooks := .later }
def NfaStepIsMonotoneCardSaid : Prop := Claim7.holds Tryd.pinned (.plain (OpenSpec.ofChange nfaStepIsMonotoneSpec)) nfaStepIsMonotoneCard

/-- THE TIED CARD OF 'emendatelaw09.NfaRunMatchesReference'. -/
def nfaRunMatchesReferenceCard : Claim7 := { stood := { row := nfaRunMatchesReferenceRow, standIns := [], harness := (true, "71511bba388963e0e3fd5284ca385c3324698947e3f3d6d231727d3500f7d1f1"), looks := false }, kinds := [], alts := [], laidByText := true, laidKinds := [.data], laidTests := true, laidLooks := .later }
def NfaRunMatchesReferenceCardSaid : Prop := Claim7.holds Tryd.pinned (.plain (OpenSpec.ofChange nfaRunMatchesReferenceSpec)) nfaRunMatchesReferenceCard

/-- THE TIED CARD OF 'emendatelaw09.NfaRunIsCompositional'. -/
def nfaRunIsCompositionalCard : Claim7 := { stood := { row := nfaRunIsCompositionalRow, standIns := [], harness := (true, "71511bba388963e0e3fd5284ca385c3324698947e3f3d6d231727d3500f7d1f1"), looks := false }, kinds := [], alts := [], laidByText := true, laidKinds := [.data], laidTests := true, laidLooks := .later }
def NfaRunIsCompositionalCardSaid : Prop := Claim7.holds Tryd.pinned (.plain (OpenSpec.ofChange nfaRunIsCompositionalSpec)) nfaRunIsCompositionalCard

/-- THE TIED CARD OF 'emendatelaw09.NfaFromRegexesMatches'. -/
def nfaFromRegexesMatchesCard : Claim7 := { stood := { row := nfaFromRegexesMatchesRow, standIns := [], harness := (true, "71511bba388963e0e3fd5284ca385c3324698947e3f3d6d231727d3500f7d1f1"), looks := false }, kinds := [], alts := [], laidByText := true, laidKinds := [.data], laidTests := true, laidLooks := .later }
def NfaFromRegexesMatchesCardSaid : Prop := Claim7.holds Tryd.pinned (.plain (OpenSpec.ofChange nfaFromRegexesMatchesSpec)) nfaFromRegexesMatchesCard

/-- THE TIED CARD OF 'emendatelaw09.NfaFromRegexesErrors'. -/
def nfaFromRegexesErrorsCard : Claim7 := { stood := { row := nfaFromRegexesErrorsRow, standIns := [], harness := (true, "71511bba388963e0e3fd5284ca385c3324698947e3f3d6d231727d3500f7d1f1"), looks := false }, kinds := [], alts := [], laidByText := true, laidKinds := [.data], laidTests := true, laidLooks := .later }
def NfaFromRegexesErrorsCardSaid : Prop := Claim7.holds Tryd.pinned (.plain (OpenSpec.ofChange nfaFromRegexesErrorsSpec)) nfaFromRegexesErrorsCard

/-- THE SECOND FORM's CARD OF 'emendatelaw09.NfaValidMatchesReference'. -/
def nfaValidMatchesReferenceUptoCard : Claim7 := { stood := { row := nfaValidMatchesReferenceUptoRow, standIns := [], harness := (true, "71511bba388963e0e3fd5284ca385c3324698947e3f3d6d231727d3500f7d1f1"), looks := false }, kinds := [], alts := [], laidByText := true, laidKinds := [.data], laidTests := true, laidLooks := .later }
def NfaValidMatchesReferenceUptoCardSaid : Prop := Claim7.holds Tryd.pinned (.plain (OpenSpec.upto nfaValidMatchesReferenceSpec)) nfaValidMatchesReferenceUptoCard

/-- THE SECOND FORM's CARD OF 'emendatelaw09.NfaClosureIsLeastFixpoint'. -/
def nfaClosureIsLeastFixpointUptoCard : Claim7 := { stood := { row := nfaClosureIsLeastFixpointUptoRow, standIns := [], harness := (true, "71511bba388963e0e3fd5284ca385c3324698947e3f3d6d231727d3500f7d1f1"), looks := false }, kinds := [], alts := [], laidByText := true, laidKinds := [.data], laidTests := true, laidLooks := .later }
def NfaClosureIsLeastFixpointUptoCardSaid : Prop := Claim7.holds Tryd.pinned (.plain (OpenSpec.upto nfaClosureIsLeastFixpointSpec)) nfaClosureIsLeastFixpointUptoCard

/-- THE SECOND FORM's CARD OF 'emendatelaw09.NfaStepMatchesReference'. -/
def nfaStepMatchesReferenceUptoCard : Claim7 := { stood := { row := nfaStepMatchesReferenceUptoRow, standIns := [], harness := (true, "71511bba388963e0e3fd5284ca385c3324698947e3f3d6d231727d3500f7d1f1"), looks := false }, kinds := [], alts := [], laidByText := true, laidKinds := [.data], laidTests := true, laidLooks := .later }
def NfaStepMatchesReferenceUptoCardSaid : Prop := Claim7.holds Tryd.pinned (.plain (OpenSpec.upto nfaStepMatchesReferenceSpec)) nfaStepMatchesReferenceUptoCard

/-- THE SECOND FORM's CARD OF 'emendatelaw09.NfaStepIsMonotone'. -/
def nfaStepIsMonotoneUptoCard : Claim7 := { stood := { row := nfaStepIsMonotoneUptoRow, standIns := [], harness := (true, "71511bba388963e0e3fd5284ca385c3324698947e3f3d6d231727d3500f7d1f1"), looks := false }, kinds := [], alts := [], laidByText := true, laidKinds := [.data], laidTests := true, laidLooks := .later }
def NfaStepIsMonotoneUptoCardSaid : Prop := Claim7.holds Tryd.pinned (.plain (OpenSpec.upto nfaStepIsMonotoneSpec)) nfaStepIsMonotoneUptoCard

/-- THE SECOND FORM's CARD OF 'emendatelaw09.NfaRunMatchesReference'. -/
def nfaRunMatchesReferenceUptoCard : Claim7 := { stood := { row := nfaRunMatchesReferenceUptoRow, standIns := [], harness := (true, "71511bba388963e0e3fd5284ca385c3324698947e3f3d6d231727d3500f7d1f1"), looks := false }, kinds := [], alts := [], laidByText := true, laidKinds := [.data], laidTests := true, laidLooks := .later }
def NfaRunMatchesReferenceUptoCardSaid : Prop := Claim7.holds Tryd.pinned (.plain (OpenSpec.upto nfaRunMatchesReferenceSpec)) nfaRunMatchesReferenceUptoCard

/-- THE SECOND FORM's CARD OF 'emendatelaw09.NfaRunIsCompositional'. -/
def nfaRunIsCompositionalUptoCard : Claim7 := { stood := { row := nfaRunIsCompositionalUptoRow, standIns := [], harness := (true, "71511bba388963e0e3fd5284ca385c3324698947e3f3d6d231727d3500f7d1f1"), looks := false }, kinds := [], alts := [], laidByText := true, laidKinds := [.data], laidTests := true, laidLooks := .later }
def NfaRunIsCompositionalUptoCardSaid : Prop := Claim7.holds Tryd.pinned (.plain (OpenSpec.upto nfaRunIsCompositionalSpec)) nfaRunIsCompositionalUptoCard

/-- THE SECOND FORM's CARD OF 'emendatelaw09.NfaFromRegexesMatches'. -/
def nfaFromRegexesMatchesUptoCard : Claim7 := { stood := { row := nfaFromRegexesMatchesUptoRow, standIns := [], harness := (true, "71511bba388963e0e3fd5284ca385c3324698947e3f3d6d231727d3500f7d1f1"), looks := false }, kinds := [], alts := [], laidByText := true, laidKinds := [.data], laidTests := true, laidLooks := .later }
def NfaFromRegexesMatchesUptoCardSaid : Prop := Claim7.holds Tryd.pinned (.plain (OpenSpec.upto nfaFromRegexesMatchesSpec)) nfaFromRegexesMatchesUptoCard

/-- THE SECOND FORM's CARD OF 'emendatelaw09.NfaFromRegexesErrors'. -/
def nfaFromRegexesErrorsUptoCard : Claim7 := { stood := { row := nfaFromRegexesErrorsUptoRow, standIns := [], harness := (true, "71511bba388963e0e3fd5284ca385c3324698947e3f3d6d231727d3500f7d1f1"), looks := false }, kinds := [], alts := [], laidByText := true, laidKinds := [.data], laidTests := true, laidLooks := .later }
def NfaFromRegexesErrorsUptoCardSaid : Prop := Claim7.holds Tryd.pinned (.plain (OpenSpec.upto nfaFromRegexesErrorsSpec)) nfaFromRegexesErrorsUptoCard
end Rows
end Go.Proofs.YtogpnlkjcdedlaaDoor
