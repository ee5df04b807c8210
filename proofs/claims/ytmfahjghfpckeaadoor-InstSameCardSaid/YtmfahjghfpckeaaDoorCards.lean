/-
  DERIVED. GIVEN WITH THE SEED: THE CARDS: each row of YtmfahjghfpckeaaDoorRows.lean that lists a variable, with what it lists TIED to the program's text (the seventh form; the later family's looks); each row that meets fmt, with fmt's text TOLD by the authors' own Lean function (tested against real Go, not proved from fmt's source: count such statements apart). THE CARD IS WHAT COUNTS. Prove the row's statement (the work); the ties are given (YtmfahjghfpckeaaDoorTie.lean); close each card by the builder's one call (the guide's Derived/Test/ToyasCard.lean, 'card_holds'). Laid BY PROGRAM, IN A SANDBOX (cutbox-door.mjs). By AI agents, Wed Nov 11 2026. No macro, syntax, notation, axiom, sorry.
-/
import Derived.Test.YtmfahjghfpckeaaDoorRows
import GoSem.ClaimSeven
namespace Go.Proofs.YtmfahjghfpckeaaDoor
namespace Rows

/-- THE TIED CARD OF 'tranterlaw06.InstMay'. -/
def instMayCard : Claim7 := { stood := { row := instMayRow, standIns := [], harness := (true, "ba389260c120b5509a2730beda9a1991508f341b571afa870322f50e810af925"), looks := false }, kinds := [], alts := [], laidByText := true, laidKinds := [.data], laidTests := true, laidLooks := .later }
def InstMayCardSaid : Prop := Claim7.holds Tryd.pinned (.plain (OpenSpec.ofChange instMaySpec)) instMayCard

/-- THE TIED CARD OF 'tranterlaw06.InstWays'. -/
def instWaysCard : Claim7 := { stood := { row := instWaysRow, standIns := [], harness := (true, "ba389260c120b5509a2730beda9a1991508f341b571afa870322f50e810af925"), looks := false }, kinds := [], alts := [], laidByText := true, laidKinds := [.data], laidTests := true, laidLooks := .later }
def InstWaysCardSaid : Prop := Claim7.holds Tryd.pinned (.plain (OpenSpec.ofChange instWaysSpec)) instWaysCard

/-- THE TIED CARD OF 'tranterlaw06.InstCheap'. -/
def instCheapCard : Claim7 := { stood := { row := instCheapRow, standIns := [], harness := (true, "ba389260c120b5509a2730beda9a1991508f341b571afa870322f50e810af925"), looks := false }, kinds := [], alts := [], laidByText := true, laidKinds := [.data], laidTests := true, laidLooks := .later }
def InstCheapCardSaid : Prop := Claim7.holds Tryd.pinned (.plain (OpenSpec.ofChange instCheapSpec)) instCheapCard

/-- THE TIED CARD OF 'tranterlaw06.InstLeast'. -/
def instLeastCard : Claim7 := { stood := { row := instLeastRow, standIns := [], harness := (true, "ba389260c120b5509a2730beda9a1991508f341b571afa870322f50e810af925"), looks := false }, kinds := [], alts := [], laidByText := true, laidKinds := [.data], laidTests := true, laidLooks := .later }
def InstLeastCardSaid : Prop := Claim7.holds Tryd.pinned (.plain (OpenSpec.ofChange instLeastSpec)) instLeastCard

/-- THE TIED CARD OF 'tranterlaw06.InstSame'. -/
def instSameCard : Claim7 := { stood := { row := instSameRow, standIns := [], harness := (true, "ba389260c120b5509a2730beda9a1991508f341b571afa870322f50e810af925"), looks := false }, kinds := [], alts := [], laidByText := true, laidKinds := [.data], laidTests := true, laidLooks := .later }
def InstSameCardSaid : Prop := Claim7.holds Tryd.pinned (.plain (OpenSpec.ofChange instSameSpec)) instSameCard

/-- THE TIED CARD OF 'tranterlaw06.InstParts'. -/
def instPartsCard : Claim7 := { stood := { row := instPartsRow, standIns := [], harness := (true, "ba389260c120b5509a2730beda9a1991508f341b571afa870322f50e810af925"), looks := false }, kinds := [], alts := [], laidByText := true, laidKinds := [.data], laidTests := true, laidLooks := .later }
def InstPartsCardSaid : Prop := Claim7.holds Tryd.pinned (.plain (OpenSpec.ofChange instPartsSpec)) instPartsCard

/-- THE SECOND FORM's CARD OF 'tranterlaw06.InstMay'. -/
def instMayUptoCard : Claim7 := { stood := { row := instMayUptoRow, standIns := [], harness := (true, "ba389260c120b5509a2730beda9a1991508f341b571afa870322f50e810af925"), looks := false }, kinds := [], alts := [], laidByText := true, laidKinds := [.data], laidTests := true, laidLooks := .later }
def InstMayUptoCardSaid : Prop := Claim7.holds Tryd.pinned (.plain (OpenSpec.upto instMaySpec)) instMayUptoCard

/-- THE SECOND FORM's CARD OF 'tranterlaw06.InstWays'. -/
def instWaysUptoCard : Claim7 := { stood := { row := instWaysUptoRow, standIns := [], harness := (true, "ba389260c120b5509a2730beda9a1991508f341b571afa870322f50e810af925"), looks := false }, kinds := [], alts := [], laidByText := true, laidKinds := [.data], laidTests := true, laidLooks := .later }
def InstWaysUptoCardSaid : Prop := Claim7.holds Tryd.pinned (.plain (OpenSpec.upto instWaysSpec)) instWaysUptoCard

/-- THE SECOND FORM's CARD OF 'tranterlaw06.InstCheap'. -/
def instCheapUptoCard : Claim7 := { stood := { row := instCheapUptoRow, standIns := [], harness := (true, "ba389260c120b5509a2730beda9a1991508f341b571afa870322f50e810af925"), looks := false }, kinds := [], alts := [], laidByText := true, laidKinds := [.data], laidTests := true, laidLooks := .later }
def InstCheapUptoCardSaid : Prop := Claim7.holds Tryd.pinned (.plain (OpenSpec.upto instCheapSpec)) instCheapUptoCard

/-- THE SECOND FORM's CARD OF 'tranterlaw06.InstLeast'. -/
def instLeastUptoCard : Claim7 := { stood := { row := instLeastUptoRow, standIns := [], harness := (true, "ba389260c120b5509a2730beda9a1991508f341b571afa870322f50e810af925"), looks := false }, kinds := [], alts := [], laidByText := true, laidKinds := [.data], laidTests := true, laidLooks := .later }
def InstLeastUptoCardSaid : Prop := Claim7.holds Tryd.pinned (.plain (OpenSpec.upto instLeastSpec)) instLeastUptoCard

/-- THE SECOND FORM's CARD OF 'tranterlaw06.InstSame'. -/
def instSameUptoCard : Claim7 := { stood := { row := instSameUptoRow, standIns := [], harness := (true, "ba389260c120b5509a2730beda9a1991508f341b571afa870322f50e810af925"), looks := false }, kinds := [], alts := [], laidByText := true, laidKinds := [.data], laidTests := true, laidLooks := .later }
def InstSameUptoCardSaid : Prop := Claim7.holds Tryd.pinned (.plain (OpenSpec.upto instSameSpec)) instSameUptoCard

/-- THE SECOND FORM's CARD OF 'tranterlaw06.InstParts'. -/
def instPartsUptoCard : Claim7 := { stood := { row := instPartsUptoRow, standIns := [], harness := (true, "ba389260c120b5509a2730beda9a1991508f341b571afa870322f50e810af925"), looks := false }, kinds := [], alts := [], laidByText := true, laidKinds := [.data], laidTests := true, laidLooks := .later }
def InstPartsUptoCardSaid : Prop := Claim7.holds Tryd.pinned (.plain (OpenSpec.upto instPartsSpec)) instPartsUptoCard
end Rows
end Go.Proofs.YtmfahjghfpckeaaDoor
