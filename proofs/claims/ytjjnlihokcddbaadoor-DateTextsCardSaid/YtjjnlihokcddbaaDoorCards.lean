/-
  DERIVED. GIVEN WITH THE SEED: THE CARDS: each row of YtjjnlihokcddbaaDoorRows.lean that lists a variable, with what it lists TIED to the program's text (the seventh form; the later family's looks); each row that meets fmt, with fmt's text TOLD by the authors' own Lean function (tested against real Go, not proved from fmt's source: count such statements apart). THE CARD IS WHAT COUNTS. Prove the row's statement (the work); the ties are given (YtjjnlihokcddbaaDoorTie.lean); close each card by the builder's one call (the guide's Derived/Test/ToyasCard.lean, 'card_holds'). Laid BY PROGRAM, IN A SANDBOX (cutbox-door.mjs). By AI agents, Wed Nov 11 2026. No macro, syntax, notation, axiom, sorry.
-/
import Derived.Test.YtjjnlihokcddbaaDoorRows
import GoSem.ClaimSeven
namespace Go.Proofs.YtjjnlihokcddbaaDoor
namespace Rows

/-- THE TIED CARD OF 'guerdonlaw04.DateFields'. -/
def dateFieldsCard : Claim7 := { stood := { row := dateFieldsRow, standIns := [], harness := (true, "232872a8fe9b6a84f9de463e579bff74cf3be09ee8cf55a25d6088039bf0f072"), looks := false }, kinds := [], alts := [], laidByText := true, laidKinds := [.data, .data, .data, .data], laidTests := true, laidLooks := .later }
def DateFieldsCardSaid : Prop := Claim7.holds Tryd.pinned (.plain (OpenSpec.ofChange dateFieldsSpec)) dateFieldsCard

/-- THE TIED CARD OF 'guerdonlaw04.DateMonths'. -/
def dateMonthsCard : Claim7 := { stood := { row := dateMonthsRow, standIns := [], harness := (true, "232872a8fe9b6a84f9de463e579bff74cf3be09ee8cf55a25d6088039bf0f072"), looks := false }, kinds := [], alts := [], laidByText := true, laidKinds := [.data, .data, .data, .data], laidTests := true, laidLooks := .later }
def DateMonthsCardSaid : Prop := Claim7.holds Tryd.pinned (.plain (OpenSpec.ofChange dateMonthsSpec)) dateMonthsCard

/-- THE TIED CARD OF 'guerdonlaw04.DateTexts'. -/
def dateTextsCard : Claim7 := { stood := { row := dateTextsRow, standIns := [], harness := (true, "232872a8fe9b6a84f9de463e579bff74cf3be09ee8cf55a25d6088039bf0f072"), looks := false }, kinds := [], alts := [], laidByText := true, laidKinds := [.data, .data, .data, .data], laidTests := true, laidLooks := .later }
def DateTextsCardSaid : Prop := Claim7.holds Tryd.pinned (.plain (OpenSpec.ofChange dateTextsSpec)) dateTextsCard

/-- THE TIED CARD OF 'guerdonlaw04.DateRoundTrip'. -/
def dateRoundTripCard : Claim7 := { stood := { row := dateRoundTripRow, standIns := [], harness := (true, "232872a8fe9b6a84f9de463e579bff74cf3be09ee8cf55a25d6088039bf0f072"), looks := false }, kinds := [], alts := [], laidByText := true, laidKinds := [.data, .data, .data, .data], laidTests := true, laidLooks := .later }
def DateRoundTripCardSaid : Prop := Claim7.holds Tryd.pinned (.plain (OpenSpec.ofChange dateRoundTripSpec)) dateRoundTripCard

/-- THE TIED CARD OF 'guerdonlaw04.DateAnniversary'. -/
def dateAnniversaryCard : Claim7 := { stood := { row := dateAnniversaryRow, standIns := [], harness := (true, "232872a8fe9b6a84f9de463e579bff74cf3be09ee8cf55a25d6088039bf0f072"), looks := false }, kinds := [], alts := [], laidByText := true, laidKinds := [.data, .data, .data, .data], laidTests := true, laidLooks := .later }
def DateAnniversaryCardSaid : Prop := Claim7.holds Tryd.pinned (.plain (OpenSpec.ofChange dateAnniversarySpec)) dateAnniversaryCard

/-- THE SECOND FORM's CARD OF 'guerdonlaw04.DateFields'. -/
def dateFieldsUptoCard : Claim7 := { stood := { row := dateFieldsUptoRow, standIns := [], harness := (true, "232872a8fe9b6a84f9de463e579bff74cf3be09ee8cf55a25d6088039bf0f072"), looks := false }, kinds := [], alts := [], laidByText := true, laidKinds := [.data, .data, .data, .data], laidTests := true, laidLooks := .later }
def DateFieldsUptoCardSaid : Prop := Claim7.holds Tryd.pinned (.plain (OpenSpec.upto dateFieldsSpec)) dateFieldsUptoCard

/-- THE SECOND FORM's CARD OF 'guerdonlaw04.DateMonths'. -/
def dateMonthsUptoCard : Claim7 := { stood := { row := dateMonthsUptoRow, standIns := [], harness := (true, "232872a8fe9b6a84f9de463e579bff74cf3be09ee8cf55a25d6088039bf0f072"), looks := false }, kinds := [], alts := [], laidByText := true, laidKinds := [.data, .data, .data, .data], laidTests := true, laidLooks := .later }
def DateMonthsUptoCardSaid : Prop := Claim7.holds Tryd.pinned (.plain (OpenSpec.upto dateMonthsSpec)) dateMonthsUptoCard

/-- THE SECOND FORM's CARD OF 'guerdonlaw04.DateTexts'. -/
def dateTextsUptoCard : Claim7 := { stood := { row := dateTextsUptoRow, standIns := [], harness := (true, "232872a8fe9b6a84f9de463e579bff74cf3be09ee8cf55a25d6088039bf0f072"), looks := false }, kinds := [], alts := [], laidByText := true, laidKinds := [.data, .data, .data, .data], laidTests := true, laidLooks := .later }
def DateTextsUptoCardSaid : Prop := Claim7.holds Tryd.pinned (.plain (OpenSpec.upto dateTextsSpec)) dateTextsUptoCard

/-- THE SECOND FORM's CARD OF 'guerdonlaw04.DateRoundTrip'. -/
def dateRoundTripUptoCard : Claim7 := { stood := { row := dateRoundTripUptoRow, standIns := [], harness := (true, "232872a8fe9b6a84f9de463e579bff74cf3be09ee8cf55a25d6088039bf0f072"), looks := false }, kinds := [], alts := [], laidByText := true, laidKinds := [.data, .data, .data, .data], laidTests := true, laidLooks := .later }
def DateRoundTripUptoCardSaid : Prop := Claim7.holds Tryd.pinned (.plain (OpenSpec.upto dateRoundTripSpec)) dateRoundTripUptoCard

/-- THE SECOND FORM's CARD OF 'guerdonlaw04.DateAnniversary'. -/
def dateAnniversaryUptoCard : Claim7 := { stood := { row := dateAnniversaryUptoRow, standIns := [], harness := (true, "232872a8fe9b6a84f9de463e579bff74cf3be09ee8cf55a25d6088039bf0f072"), looks := false }, kinds := [], alts := [], laidByText := true, laidKinds := [.data, .data, .data, .data], laidTests := true, laidLooks := .later }
def DateAnniversaryUptoCardSaid : Prop := Claim7.holds Tryd.pinned (.plain (OpenSpec.upto dateAnniversarySpec)) dateAnniversaryUptoCard
end Rows
end Go.Proofs.YtjjnlihokcddbaaDoor
