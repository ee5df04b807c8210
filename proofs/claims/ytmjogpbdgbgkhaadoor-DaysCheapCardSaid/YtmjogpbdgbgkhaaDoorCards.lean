/-
  DERIVED. GIVEN WITH THE SEED: THE CARDS: each row of YtmjogpbdgbgkhaaDoorRows.lean that lists a variable, with what it lists TIED to the program's text (the seventh form; the later family's looks); each row that meets fmt, with fmt's text TOLD by the authors' own Lean function (tested against real Go, not proved from fmt's source: count such statements apart). THE CARD IS WHAT COUNTS. Prove the row's statement (the work); the ties are given (YtmjogpbdgbgkhaaDoorTie.lean); close each card by the builder's one call (the guide's Derived/Test/ToyasCard.lean, 'card_holds'). Laid BY PROGRAM, IN A SANDBOX (cutbox-door.mjs). By AI agents, Wed Nov 11 2026. No macro, syntax, notation, axiom, sorry.
-/
import Derived.Test.YtmjogpbdgbgkhaaDoorRows
import GoSem.ClaimSeven
namespace Go.Proofs.YtmjogpbdgbgkhaaDoor
namespace Rows

/-- THE TIED CARD OF 'tranterlaw02.DaysSets'. -/
def daysSetsCard : Claim7 := { stood := { row := daysSetsRow, standIns := [], harness := (true, "c8bb8805b88ceb37e4ee09d631f52b02db2fdf8ec60aba9efe259fe330769bb0"), looks := false }, kinds := [], alts := [], laidByText := true, laidKinds := [.data], laidTests := true, laidLooks := .later }
def DaysSetsCardSaid : Prop := Claim7.holds Tryd.pinned (.plain (OpenSpec.ofChange daysSetsSpec)) daysSetsCard

/-- THE TIED CARD OF 'tranterlaw02.DaysOf'. -/
def daysOfCard : Claim7 := { stood := { row := daysOfRow, standIns := [], harness := (true, "c8bb8805b88ceb37e4ee09d631f52b02db2fdf8ec60aba9efe259fe330769bb0"), looks := false }, kinds := [], alts := [], laidByText := true, laidKinds := [.data], laidTests := true, laidLooks := .later }
def DaysOfCardSaid : Prop := Claim7.holds Tryd.pinned (.plain (OpenSpec.ofChange daysOfSpec)) daysOfCard

/-- THE TIED CARD OF 'tranterlaw02.DaysTexts'. -/
def daysTextsCard : Claim7 := { stood := { row := daysTextsRow, standIns := [], harness := (true, "c8bb8805b88ceb37e4ee09d631f52b02db2fdf8ec60aba9efe259fe330769bb0"), looks := false }, kinds := [], alts := [], laidByText := true, laidKinds := [.data], laidTests := true, laidLooks := .later }
def DaysTextsCardSaid : Prop := Claim7.holds Tryd.pinned (.plain (OpenSpec.ofChange daysTextsSpec)) daysTextsCard

/-- THE TIED CARD OF 'tranterlaw02.DaysParses'. -/
def daysParsesCard : Claim7 := { stood := { row := daysParsesRow, standIns := [], harness := (true, "c8bb8805b88ceb37e4ee09d631f52b02db2fdf8ec60aba9efe259fe330769bb0"), looks := false }, kinds := [], alts := [], laidByText := true, laidKinds := [.data], laidTests := true, laidLooks := .later }
def DaysParsesCardSaid : Prop := Claim7.holds Tryd.pinned (.plain (OpenSpec.ofChange daysParsesSpec)) daysParsesCard

/-- THE TIED CARD OF 'tranterlaw02.DaysBest'. -/
def daysBestCard : Claim7 := { stood := { row := daysBestRow, standIns := [], harness := (true, "c8bb8805b88ceb37e4ee09d631f52b02db2fdf8ec60aba9efe259fe330769bb0"), looks := false }, kinds := [], alts := [], laidByText := true, laidKinds := [.data], laidTests := true, laidLooks := .later }
def DaysBestCardSaid : Prop := Claim7.holds Tryd.pinned (.plain (OpenSpec.ofChange daysBestSpec)) daysBestCard

/-- THE TIED CARD OF 'tranterlaw02.DaysNexts'. -/
def daysNextsCard : Claim7 := { stood := { row := daysNextsRow, standIns := [], harness := (true, "c8bb8805b88ceb37e4ee09d631f52b02db2fdf8ec60aba9efe259fe330769bb0"), looks := false }, kinds := [], alts := [], laidByText := true, laidKinds := [.data], laidTests := true, laidLooks := .later }
def DaysNextsCardSaid : Prop := Claim7.holds Tryd.pinned (.plain (OpenSpec.ofChange daysNextsSpec)) daysNextsCard

/-- THE TIED CARD OF 'tranterlaw02.DaysTwice'. -/
def daysTwiceCard : Claim7 := { stood := { row := daysTwiceRow, standIns := [], harness := (true, "c8bb8805b88ceb37e4ee09d631f52b02db2fdf8ec60aba9efe259fe330769bb0"), looks := false }, kinds := [], alts := [], laidByText := true, laidKinds := [.data], laidTests := true, laidLooks := .later }
def DaysTwiceCardSaid : Prop := Claim7.holds Tryd.pinned (.plain (OpenSpec.ofChange daysTwiceSpec)) daysTwiceCard

/-- THE TIED CARD OF 'tranterlaw02.DaysCheap'. -/
def daysCheapCard : Claim7 := { stood := { row := daysCheapRow, standIns := [], harness := (true, "c8bb8805b88ceb37e4ee09d631f52b02db2fdf8ec60aba9efe259fe330769bb0"), looks := false }, kinds := [], alts := [], laidByText := true, laidKinds := [.data], laidTests := true, laidLooks := .later }
def DaysCheapCardSaid : Prop := Claim7.holds Tryd.pinned (.plain (OpenSpec.ofChange daysCheapSpec)) daysCheapCard

/-- THE SECOND FORM's CARD OF 'tranterlaw02.DaysSets'. -/
def daysSetsUptoCard : Claim7 := { stood := { row := daysSetsUptoRow, standIns := [], harness := (true, "c8bb8805b88ceb37e4ee09d631f52b02db2fdf8ec60aba9efe259fe330769bb0"), looks := false }, kinds := [], alts := [], laidByText := true, laidKinds := [.data], laidTests := true, laidLooks := .later }
def DaysSetsUptoCardSaid : Prop := Claim7.holds Tryd.pinned (.plain (OpenSpec.upto daysSetsSpec)) daysSetsUptoCard

/-- THE SECOND FORM's CARD OF 'tranterlaw02.DaysOf'. -/
def daysOfUptoCard : Claim7 := { stood := { row := daysOfUptoRow, standIns := [], harness := (true, "c8bb8805b88ceb37e4ee09d631f52b02db2fdf8ec60aba9efe259fe330769bb0"), looks := false }, kinds := [], alts := [], laidByText := true, laidKinds := [.data], laidTests := true, laidLooks := .later }
def DaysOfUptoCardSaid : Prop := Claim7.holds Tryd.pinned (.plain (OpenSpec.upto daysOfSpec)) daysOfUptoCard

/-- THE SECOND FORM's CARD OF 'tranterlaw02.DaysTexts'. -/
def daysTextsUptoCard : Claim7 := { stood := { row := daysTextsUptoRow, standIns := [], harness := (true, "c8bb8805b88ceb37e4ee09d631f52b02db2fdf8ec60aba9efe259fe330769bb0"), looks := false }, kinds := [], alts := [], laidByText := true, laidKinds := [.data], laidTests := true, laidLooks := .later }
def DaysTextsUptoCardSaid : Prop := Claim7.holds Tryd.pinned (.plain (OpenSpec.upto daysTextsSpec)) daysTextsUptoCard

/-- THE SECOND FORM's CARD OF 'tranterlaw02.DaysParses'. -/
def daysParsesUptoCard : Claim7 := { stood := { row := daysParsesUptoRow, standIns := [], harness := (true, "c8bb8805b88ceb37e4ee09d631f52b02db2fdf8ec60aba9efe259fe330769bb0"), looks := false }, kinds := [], alts := [], laidByText := true, laidKinds := [.data], laidTests := true, laidLooks := .later }
def DaysParsesUptoCardSaid : Prop := Claim7.holds Tryd.pinned (.plain (OpenSpec.upto daysParsesSpec)) daysParsesUptoCard

/-- THE SECOND FORM's CARD OF 'tranterlaw02.DaysBest'. -/
def daysBestUptoCard : Claim7 := { stood := { row := daysBestUptoRow, standIns := [], harness := (true, "c8bb8805b88ceb37e4ee09d631f52b02db2fdf8ec60aba9efe259fe330769bb0"), looks := false }, kinds := [], alts := [], laidByText := true, laidKinds := [.data], laidTests := true, laidLooks := .later }
def DaysBestUptoCardSaid : Prop := Claim7.holds Tryd.pinned (.plain (OpenSpec.upto daysBestSpec)) daysBestUptoCard

/-- THE SECOND FORM's CARD OF 'tranterlaw02.DaysNexts'. -/
def daysNextsUptoCard : Claim7 := { stood := { row := daysNextsUptoRow, standIns := [], harness := (true, "c8bb8805b88ceb37e4ee09d631f52b02db2fdf8ec60aba9efe259fe330769bb0"), looks := false }, kinds := [], alts := [], laidByText := true, laidKinds := [.data], laidTests := true, laidLooks := .later }
def DaysNextsUptoCardSaid : Prop := Claim7.holds Tryd.pinned (.plain (OpenSpec.upto daysNextsSpec)) daysNextsUptoCard

/-- THE SECOND FORM's CARD OF 'tranterlaw02.DaysTwice'. -/
def daysTwiceUptoCard : Claim7 := { stood := { row := daysTwiceUptoRow, standIns := [], harness := (true, "c8bb8805b88ceb37e4ee09d631f52b02db2fdf8ec60aba9efe259fe330769bb0"), looks := false }, kinds := [], alts := [], laidByText := true, laidKinds := [.data], laidTests := true, laidLooks := .later }
def DaysTwiceUptoCardSaid : Prop := Claim7.holds Tryd.pinned (.plain (OpenSpec.upto daysTwiceSpec)) daysTwiceUptoCard

/-- THE SECOND FORM's CARD OF 'tranterlaw02.DaysCheap'. -/
def daysCheapUptoCard : Claim7 := { stood := { row := daysCheapUptoRow, standIns := [], harness := (true, "c8bb8805b88ceb37e4ee09d631f52b02db2fdf8ec60aba9efe259fe330769bb0"), looks := false }, kinds := [], alts := [], laidByText := true, laidKinds := [.data], laidTests := true, laidLooks := .later }
def DaysCheapUptoCardSaid : Prop := Claim7.holds Tryd.pinned (.plain (OpenSpec.upto daysCheapSpec)) daysCheapUptoCard
end Rows
end Go.Proofs.YtmjogpbdgbgkhaaDoor
