/-
  DERIVED. GIVEN WITH THE SEED: THE CARDS: each row of YtmmohbmgodiilaaDoorRows.lean that lists a variable, with what it lists TIED to the program's text (the seventh form; the later family's looks); each row that meets fmt, with fmt's text TOLD by the authors' own Lean function (tested against real Go, not proved from fmt's source: count such statements apart). THE CARD IS WHAT COUNTS. Prove the row's statement (the work); the ties are given (YtmmohbmgodiilaaDoorTie.lean); close each card by the builder's one call (the guide's Derived/Test/ToyasCard.lean, 'card_holds'). Laid BY PROGRAM, IN A SANDBOX (cutbox-door.mjs). By AI agents, Wed Nov 11 2026. No macro, syntax, notation, axiom, sorry.
-/
import Derived.Test.YtmmohbmgodiilaaDoorRows
import GoSem.ClaimSeven
namespace Go.Proofs.YtmmohbmgodiilaaDoor
namespace Rows

/-- THE TIED CARD OF 'guerdonlaw07.MonthRanges'. -/
def monthRangesCard : Claim7 := { stood := { row := monthRangesRow, standIns := [], harness := (true, "cea3a5337673fcb9e8562a1a92ffaacfbd60d2adf82958aefc852e1bc7c50ea6"), looks := false }, kinds := [], alts := [], laidByText := true, laidKinds := [.data, .data, .data, .data], laidTests := true, laidLooks := .later }
def MonthRangesCardSaid : Prop := Claim7.holds Tryd.pinned (.plain (OpenSpec.ofChange monthRangesSpec)) monthRangesCard

/-- THE TIED CARD OF 'guerdonlaw07.MonthPayDate'. -/
def monthPayDateCard : Claim7 := { stood := { row := monthPayDateRow, standIns := [], harness := (true, "cea3a5337673fcb9e8562a1a92ffaacfbd60d2adf82958aefc852e1bc7c50ea6"), looks := false }, kinds := [], alts := [], laidByText := true, laidKinds := [.data, .data, .data, .data], laidTests := true, laidLooks := .later }
def MonthPayDateCardSaid : Prop := Claim7.holds Tryd.pinned (.plain (OpenSpec.ofChange monthPayDateSpec)) monthPayDateCard

/-- THE TIED CARD OF 'guerdonlaw07.MonthTexts'. -/
def monthTextsCard : Claim7 := { stood := { row := monthTextsRow, standIns := [], harness := (true, "cea3a5337673fcb9e8562a1a92ffaacfbd60d2adf82958aefc852e1bc7c50ea6"), looks := false }, kinds := [], alts := [], laidByText := true, laidKinds := [.data, .data, .data, .data], laidTests := true, laidLooks := .later }
def MonthTextsCardSaid : Prop := Claim7.holds Tryd.pinned (.plain (OpenSpec.ofChange monthTextsSpec)) monthTextsCard

/-- THE TIED CARD OF 'guerdonlaw07.MonthPartition'. -/
def monthPartitionCard : Claim7 := { stood := { row := monthPartitionRow, standIns := [], harness := (true, "cea3a5337673fcb9e8562a1a92ffaacfbd60d2adf82958aefc852e1bc7c50ea6"), looks := false }, kinds := [], alts := [], laidByText := true, laidKinds := [.data, .data, .data, .data], laidTests := true, laidLooks := .later }
def MonthPartitionCardSaid : Prop := Claim7.holds Tryd.pinned (.plain (OpenSpec.ofChange monthPartitionSpec)) monthPartitionCard

/-- THE TIED CARD OF 'guerdonlaw07.MonthOverlap'. -/
def monthOverlapCard : Claim7 := { stood := { row := monthOverlapRow, standIns := [], harness := (true, "cea3a5337673fcb9e8562a1a92ffaacfbd60d2adf82958aefc852e1bc7c50ea6"), looks := false }, kinds := [], alts := [], laidByText := true, laidKinds := [.data, .data, .data, .data], laidTests := true, laidLooks := .later }
def MonthOverlapCardSaid : Prop := Claim7.holds Tryd.pinned (.plain (OpenSpec.ofChange monthOverlapSpec)) monthOverlapCard

/-- THE SECOND FORM's CARD OF 'guerdonlaw07.MonthRanges'. -/
def monthRangesUptoCard : Claim7 := { stood := { row := monthRangesUptoRow, standIns := [], harness := (true, "cea3a5337673fcb9e8562a1a92ffaacfbd60d2adf82958aefc852e1bc7c50ea6"), looks := false }, kinds := [], alts := [], laidByText := true, laidKinds := [.data, .data, .data, .data], laidTests := true, laidLooks := .later }
def MonthRangesUptoCardSaid : Prop := Claim7.holds Tryd.pinned (.plain (OpenSpec.upto monthRangesSpec)) monthRangesUptoCard

/-- THE SECOND FORM's CARD OF 'guerdonlaw07.MonthPayDate'. -/
def monthPayDateUptoCard : Claim7 := { stood := { row := monthPayDateUptoRow, standIns := [], harness := (true, "cea3a5337673fcb9e8562a1a92ffaacfbd60d2adf82958aefc852e1bc7c50ea6"), looks := false }, kinds := [], alts := [], laidByText := true, laidKinds := [.data, .data, .data, .data], laidTests := true, laidLooks := .later }
def MonthPayDateUptoCardSaid : Prop := Claim7.holds Tryd.pinned (.plain (OpenSpec.upto monthPayDateSpec)) monthPayDateUptoCard

/-- THE SECOND FORM's CARD OF 'guerdonlaw07.MonthTexts'. -/
def monthTextsUptoCard : Claim7 := { stood := { row := monthTextsUptoRow, standIns := [], harness := (true, "cea3a5337673fcb9e8562a1a92ffaacfbd60d2adf82958aefc852e1bc7c50ea6"), looks := false }, kinds := [], alts := [], laidByText := true, laidKinds := [.data, .data, .data, .data], laidTests := true, laidLooks := .later }
def MonthTextsUptoCardSaid : Prop := Claim7.holds Tryd.pinned (.plain (OpenSpec.upto monthTextsSpec)) monthTextsUptoCard

/-- THE SECOND FORM's CARD OF 'guerdonlaw07.MonthPartition'. -/
def monthPartitionUptoCard : Claim7 := { stood := { row := monthPartitionUptoRow, standIns := [], harness := (true, "cea3a5337673fcb9e8562a1a92ffaacfbd60d2adf82958aefc852e1bc7c50ea6"), looks := false }, kinds := [], alts := [], laidByText := true, laidKinds := [.data, .data, .data, .data], laidTests := true, laidLooks := .later }
def MonthPartitionUptoCardSaid : Prop := Claim7.holds Tryd.pinned (.plain (OpenSpec.upto monthPartitionSpec)) monthPartitionUptoCard

/-- THE SECOND FORM's CARD OF 'guerdonlaw07.MonthOverlap'. -/
def monthOverlapUptoCard : Claim7 := { stood := { row := monthOverlapUptoRow, standIns := [], harness := (true, "cea3a5337673fcb9e8562a1a92ffaacfbd60d2adf82958aefc852e1bc7c50ea6"), looks := false }, kinds := [], alts := [], laidByText := true, laidKinds := [.data, .data, .data, .data], laidTests := true, laidLooks := .later }
def MonthOverlapUptoCardSaid : Prop := Claim7.holds Tryd.pinned (.plain (OpenSpec.upto monthOverlapSpec)) monthOverlapUptoCard
end Rows
end Go.Proofs.YtmmohbmgodiilaaDoor
