/-
  NARROWER THAN 'FOR EVERY INPUT', by the rows' own cells (each row's printed sentence says how): DaysSets: laid · DaysOf: laid · DaysTexts: laid · DaysParses: laid · DaysBest: laid · DaysNexts: laid · DaysTwice: laid · DaysCheap: laid.
  DERIVED. THE GIVEN ROWS OF THIS SEAT. 8 by the template 'for every input the law returns true; each argument reads behind the call as it read before'; 0 by the template 'total and deterministic' (their statements: YtmjogpbdgbgkhaaDoorTotals.lean).
  GIVEN WITH THE SEED: the statements are not yours to turn. If you find one false, say at which input.
  Laid BY PROGRAM, IN A SANDBOX (cutbox-rows.mjs): the forced cells as the released guide's own fill.sh prints them over the translation 524d5b351a8b6a70… (all of the seat's roots in one cut). By AI agents, Wed Nov 11 2026. No macro, syntax, notation, axiom, sorry.
-/
import Derived.Test.YtmjogpbdgbgkhaaDoorChecked
import GoSem.Claim
import GoSem.ClaimJoined
import GoSem.ClaimMapViews
import Derived.JoinedTies
import Derived.KernelRfl
namespace Go.Proofs.YtmjogpbdgbgkhaaDoor
/- THE CELL 'sum', in the pinned program and in every row, IS THE sha256 OF THE DUMP (.gsa) THAT YtmjogpbdgbgkhaaDoorProg.lean LOADS. Nothing in Lean hashes anything: it is a label: what it is worth is what the hold of that sum in a sandbox is worth. -/
noncomputable def Tryd.pinned : Pinned := { name := "ytmjogpbdgbgkhaadoor", sum := "524d5b351a8b6a70e68486a23e3be891ac3d64b8026889018b6b7dfb59d3e5c6", checked := Tryd.checked }
namespace Rows
def none {H : Type} : Left H := { results := [], args := [] }

/- WHAT THE LISTED PACKAGE-LEVEL VARIABLES READ AS WHEN THE CALL BEGINS. Each datum BY PROGRAM (the guide's laid-datum.mjs) off the statement by which the dump's own 'gosem.cut.vars' lays the variable. In a bare row this is a premise. The card (YtmjogpbdgbgkhaaDoorCards.lean) ties it to the program's text. -/
def laid_math_bits_deBruijn64tab {H : Type} : DataW H := .agg [.lit (.int .u8 0), .lit (.int .u8 1), .lit (.int .u8 56), .lit (.int .u8 2), .lit (.int .u8 57), .lit (.int .u8 49), .lit (.int .u8 28), .lit (.int .u8 3), .lit (.int .u8 61), .lit (.int .u8 58), .lit (.int .u8 42), .lit (.int .u8 50), .lit (.int .u8 38), .lit (.int .u8 29), .lit (.int .u8 17), .lit (.int .u8 4), .lit (.int .u8 62), .lit (.int .u8 47), .lit (.int .u8 59), .lit (.int .u8 36), .lit (.int .u8 45), .lit (.int .u8 43), .lit (.int .u8 51), .lit (.int .u8 22), .lit (.int .u8 53), .lit (.int .u8 39), .lit (.int .u8 33), .lit (.int .u8 30), .lit (.int .u8 24), .lit (.int .u8 18), .lit (.int .u8 12), .lit (.int .u8 5), .lit (.int .u8 63), .lit (.int .u8 55), .lit (.int .u8 48), .lit (.int .u8 27), .lit (.int .u8 60), .lit (.int .u8 41), .lit (.int .u8 37), .lit (.int .u8 16), .lit (.int .u8 46), .lit (.int .u8 35), .lit (.int .u8 44), .lit (.int .u8 21), .lit (.int .u8 52), .lit (.int .u8 32), .lit (.int .u8 23), .lit (.int .u8 11), .lit (.int .u8 54), .lit (.int .u8 26), .lit (.int .u8 40), .lit (.int .u8 15), .lit (.int .u8 34), .lit (.int .u8 20), .lit (.int .u8 31), .lit (.int .u8 10), .lit (.int .u8 25), .lit (.int .u8 14), .lit (.int .u8 19), .lit (.int .u8 9), .lit (.int .u8 13), .lit (.int .u8 8), .lit (.int .u8 7), .lit (.int .u8 6)]

/-- 'tranterlaw02.DaysSets': WHATEVER THE INPUT: true; the input reads as it did. -/
def daysSetsSpec : ChangeSpec := { name := "daysSets", fn := fun _ => fun
  | [d1, d2] => { results := [.lit (.bool true)], args := [d1, d2] }
  | _ => none }
def daysSetsRow : OpenClaim := { program := "ytmjogpbdgbgkhaadoor", sum := "524d5b351a8b6a70e68486a23e3be891ac3d64b8026889018b6b7dfb59d3e5c6", func := "tranter/tranterlaw02.DaysSets", spec := "daysSets", unfollowed := true, recurses := true, named := ["math/bits.deBruijn64tab"], apart := false, laid := [("math/bits.deBruijn64tab", laid_math_bits_deBruijn64tab)] }
def DaysSetsSaid : Prop := daysSetsRow.holds Tryd.pinned (OpenSpec.ofChange daysSetsSpec)

/-- ITS FALSE NEIGHBOUR: 'it returns false'. Refute it at one input. -/
def daysSetsWrong : ChangeSpec := { name := "daysSets", fn := fun _ => fun
  | [d1, d2] => { results := [.lit (.bool false)], args := [d1, d2] }
  | _ => none }
def DaysSetsWrongFalsely : Prop := daysSetsRow.holds Tryd.pinned (OpenSpec.ofChange daysSetsWrong)

/-- 'tranterlaw02.DaysOf': WHATEVER THE INPUT: true; the input reads as it did. -/
def daysOfSpec : ChangeSpec := { name := "daysOf", fn := fun _ => fun
  | [d] => { results := [.lit (.bool true)], args := [d] }
  | _ => none }
def daysOfRow : OpenClaim := { program := "ytmjogpbdgbgkhaadoor", sum := "524d5b351a8b6a70e68486a23e3be891ac3d64b8026889018b6b7dfb59d3e5c6", func := "tranter/tranterlaw02.DaysOf", spec := "daysOf", unfollowed := true, recurses := true, named := ["math/bits.deBruijn64tab"], apart := false, laid := [("math/bits.deBruijn64tab", laid_math_bits_deBruijn64tab)] }
def DaysOfSaid : Prop := daysOfRow.holds Tryd.pinned (OpenSpec.ofChange daysOfSpec)

/-- ITS FALSE NEIGHBOUR: 'it returns false'. Refute it at one input. -/
def daysOfWrong : ChangeSpec := { name := "daysOf", fn := fun _ => fun
  | [d] => { results := [.lit (.bool false)], args := [d] }
  | _ => none }
def DaysOfWrongFalsely : Prop := daysOfRow.holds Tryd.pinned (OpenSpec.ofChange daysOfWrong)

/-- 'tranterlaw02.DaysTexts': WHATEVER THE INPUT: true; the input reads as it did. -/
def daysTextsSpec : ChangeSpec := { name := "daysTexts", fn := fun _ => fun
  | [d1, d2] => { results := [.lit (.bool true)], args := [d1, d2] }
  | _ => none }
def daysTextsRow : OpenClaim := { program := "ytmjogpbdgbgkhaadoor", sum := "524d5b351a8b6a70e68486a23e3be891ac3d64b8026889018b6b7dfb59d3e5c6", func := "tranter/tranterlaw02.DaysTexts", spec := "daysTexts", unfollowed := true, recurses := true, named := ["math/bits.deBruijn64tab"], apart := false, laid := [("math/bits.deBruijn64tab", laid_math_bits_deBruijn64tab)] }
def DaysTextsSaid : Prop := daysTextsRow.holds Tryd.pinned (OpenSpec.ofChange daysTextsSpec)

/-- ITS FALSE NEIGHBOUR: 'it returns false'. Refute it at one input. -/
def daysTextsWrong : ChangeSpec := { name := "daysTexts", fn := fun _ => fun
  | [d1, d2] => { results := [.lit (.bool false)], args := [d1, d2] }
  | _ => none }
def DaysTextsWrongFalsely : Prop := daysTextsRow.holds Tryd.pinned (OpenSpec.ofChange daysTextsWrong)

/-- 'tranterlaw02.DaysParses': WHATEVER THE INPUT: true; the input reads as it did. -/
def daysParsesSpec : ChangeSpec := { name := "daysParses", fn := fun _ => fun
  | [d] => { results := [.lit (.bool true)], args := [d] }
  | _ => none }
def daysParsesRow : OpenClaim := { program := "ytmjogpbdgbgkhaadoor", sum := "524d5b351a8b6a70e68486a23e3be891ac3d64b8026889018b6b7dfb59d3e5c6", func := "tranter/tranterlaw02.DaysParses", spec := "daysParses", unfollowed := true, recurses := true, named := ["math/bits.deBruijn64tab"], apart := false, laid := [("math/bits.deBruijn64tab", laid_math_bits_deBruijn64tab)] }
def DaysParsesSaid : Prop := daysParsesRow.holds Tryd.pinned (OpenSpec.ofChange daysParsesSpec)

/-- ITS FALSE NEIGHBOUR: 'it returns false'. Refute it at one input. -/
def daysParsesWrong : ChangeSpec := { name := "daysParses", fn := fun _ => fun
  | [d] => { results := [.lit (.bool false)], args := [d] }
  | _ => none }
def DaysParsesWrongFalsely : Prop := daysParsesRow.holds Tryd.pinned (OpenSpec.ofChange daysParsesWrong)

/-- 'tranterlaw02.DaysBest': WHATEVER THE INPUT: true; the input reads as it did. -/
def daysBestSpec : ChangeSpec := { name := "daysBest", fn := fun _ => fun
  | [d1, d2] => { results := [.lit (.bool true)], args := [d1, d2] }
  | _ => none }
def daysBestRow : OpenClaim := { program := "ytmjogpbdgbgkhaadoor", sum := "524d5b351a8b6a70e68486a23e3be891ac3d64b8026889018b6b7dfb59d3e5c6", func := "tranter/tranterlaw02.DaysBest", spec := "daysBest", unfollowed := true, recurses := true, named := ["math/bits.deBruijn64tab"], apart := false, laid := [("math/bits.deBruijn64tab", laid_math_bits_deBruijn64tab)] }
def DaysBestSaid : Prop := daysBestRow.holds Tryd.pinned (OpenSpec.ofChange daysBestSpec)

/-- ITS FALSE NEIGHBOUR: 'it returns false'. Refute it at one input. -/
def daysBestWrong : ChangeSpec := { name := "daysBest", fn := fun _ => fun
  | [d1, d2] => { results := [.lit (.bool false)], args := [d1, d2] }
  | _ => none }
def DaysBestWrongFalsely : Prop := daysBestRow.holds Tryd.pinned (OpenSpec.ofChange daysBestWrong)

/-- 'tranterlaw02.DaysNexts': WHATEVER THE INPUT: true; the input reads as it did. -/
def daysNextsSpec : ChangeSpec := { name := "daysNexts", fn := fun _ => fun
  | [d] => { results := [.lit (.bool true)], args := [d] }
  | _ => none }
def daysNextsRow : OpenClaim := { program := "ytmjogpbdgbgkhaadoor", sum := "524d5b351a8b6a70e68486a23e3be891ac3d64b8026889018b6b7dfb59d3e5c6", func := "tranter/tranterlaw02.DaysNexts", spec := "daysNexts", unfollowed := true, recurses := true, named := ["math/bits.deBruijn64tab"], apart := false, laid := [("math/bits.deBruijn64tab", laid_math_bits_deBruijn64tab)] }
def DaysNextsSaid : Prop := daysNextsRow.holds Tryd.pinned (OpenSpec.ofChange daysNextsSpec)

/-- ITS FALSE NEIGHBOUR: 'it returns false'. Refute it at one input. -/
def daysNextsWrong : ChangeSpec := { name := "daysNexts", fn := fun _ => fun
  | [d] => { results := [.lit (.bool false)], args := [d] }
  | _ => none }
def DaysNextsWrongFalsely : Prop := daysNextsRow.holds Tryd.pinned (OpenSpec.ofChange daysNextsWrong)

/-- 'tranterlaw02.DaysTwice': WHATEVER THE INPUT: true; the input reads as it did. -/
def daysTwiceSpec : ChangeSpec := { name := "daysTwice", fn := fun _ => fun
  | [d1, d2] => { results := [.lit (.bool true)], args := [d1, d2] }
  | _ => none }
def daysTwiceRow : OpenClaim := { program := "ytmjogpbdgbgkhaadoor", sum := "524d5b351a8b6a70e68486a23e3be891ac3d64b8026889018b6b7dfb59d3e5c6", func := "tranter/tranterlaw02.DaysTwice", spec := "daysTwice", unfollowed := true, recurses := true, named := ["math/bits.deBruijn64tab"], apart := false, laid := [("math/bits.deBruijn64tab", laid_math_bits_deBruijn64tab)] }
def DaysTwiceSaid : Prop := daysTwiceRow.holds Tryd.pinned (OpenSpec.ofChange daysTwiceSpec)

/-- ITS FALSE NEIGHBOUR: 'it returns false'. Refute it at one input. -/
def daysTwiceWrong : ChangeSpec := { name := "daysTwice", fn := fun _ => fun
  | [d1, d2] => { results := [.lit (.bool false)], args := [d1, d2] }
  | _ => none }
def DaysTwiceWrongFalsely : Prop := daysTwiceRow.holds Tryd.pinned (OpenSpec.ofChange daysTwiceWrong)

/-- 'tranterlaw02.DaysCheap': WHATEVER THE INPUT: true; the input reads as it did. -/
def daysCheapSpec : ChangeSpec := { name := "daysCheap", fn := fun _ => fun
  | [d1, d2, d3] => { results := [.lit (.bool true)], args := [d1, d2, d3] }
  | _ => none }
def daysCheapRow : OpenClaim := { program := "ytmjogpbdgbgkhaadoor", sum := "524d5b351a8b6a70e68486a23e3be891ac3d64b8026889018b6b7dfb59d3e5c6", func := "tranter/tranterlaw02.DaysCheap", spec := "daysCheap", unfollowed := true, recurses := true, named := ["math/bits.deBruijn64tab"], apart := false, laid := [("math/bits.deBruijn64tab", laid_math_bits_deBruijn64tab)] }
def DaysCheapSaid : Prop := daysCheapRow.holds Tryd.pinned (OpenSpec.ofChange daysCheapSpec)

/-- ITS FALSE NEIGHBOUR: 'it returns false'. Refute it at one input. -/
def daysCheapWrong : ChangeSpec := { name := "daysCheap", fn := fun _ => fun
  | [d1, d2, d3] => { results := [.lit (.bool false)], args := [d1, d2, d3] }
  | _ => none }
def DaysCheapWrongFalsely : Prop := daysCheapRow.holds Tryd.pinned (OpenSpec.ofChange daysCheapWrong)

/- THE SECOND FORM. 'bulk': how many values and letters a reading holds, each counted each time it is reached (what is shared counts as often as it is met; a slice's spare places count too). A statement '..UptoSaid' is the law's where the arguments, and the package variables that the reading takes, are together of bulk at most 1048576: NARROWER than '..Said'. Prove '..Said' where nothing that the law and all that it calls make is longer than what came in: it says more and counts as full. Else prove '..UptoSaid'. A law counts once. -/
mutual
def uptoBulk {H : Type} : DataW H → Nat
  | .lit (.string bytes) => bytes.length + 1
  | .lit _ => 1
  | .nil => 1
  | .ptr d => uptoBulk d + 1
  | .slice elems spare => uptoBulkAll elems + uptoBulkAll spare + 1
  | .agg parts => uptoBulkAll parts + 1
  | .iface _ d => uptoBulk d + 1
  | .map entries => uptoBulkEntries entries + 1
  | .held _ => 1
def uptoBulkAll {H : Type} : List (DataW H) → Nat
  | [] => 0
  | d :: r => uptoBulk d + uptoBulkAll r
def uptoBulkEntries {H : Type} : List (Lit × DataW H) → Nat
  | [] => 0
  | x :: r => uptoBulkEntry x + uptoBulkEntries r
def uptoBulkEntry {H : Type} : Lit × DataW H → Nat
  | (.string bytes, d) => bytes.length + uptoBulk d + 1
  | (_, d) => uptoBulk d + 1
 end
def uptoSmall : (H : Type) → List (DataW H) → Bool := fun _ ds => decide (uptoBulkAll ds ≤ 1048576)
def OpenSpec.upto (s : _root_.Go.ChangeSpec) : _root_.Go.OpenSpec := { _root_.Go.OpenSpec.ofChange s with cond := some uptoSmall }

/-- 'tranterlaw02.DaysSets', WHERE WHAT IT READS IS OF BULK AT MOST 1048576: true; the input reads as it did. -/
def daysSetsUptoRow : OpenClaim := { program := "ytmjogpbdgbgkhaadoor", sum := "524d5b351a8b6a70e68486a23e3be891ac3d64b8026889018b6b7dfb59d3e5c6", func := "tranter/tranterlaw02.DaysSets", spec := "daysSets", unfollowed := true, recurses := true, named := ["math/bits.deBruijn64tab"], apart := false, laid := [("math/bits.deBruijn64tab", laid_math_bits_deBruijn64tab)], narrowed := true }
def DaysSetsUptoSaid : Prop := daysSetsUptoRow.holds Tryd.pinned (OpenSpec.upto daysSetsSpec)

/-- 'tranterlaw02.DaysOf', WHERE WHAT IT READS IS OF BULK AT MOST 1048576: true; the input reads as it did. -/
def daysOfUptoRow : OpenClaim := { program := "ytmjogpbdgbgkhaadoor", sum := "524d5b351a8b6a70e68486a23e3be891ac3d64b8026889018b6b7dfb59d3e5c6", func := "tranter/tranterlaw02.DaysOf", spec := "daysOf", unfollowed := true, recurses := true, named := ["math/bits.deBruijn64tab"], apart := false, laid := [("math/bits.deBruijn64tab", laid_math_bits_deBruijn64tab)], narrowed := true }
def DaysOfUptoSaid : Prop := daysOfUptoRow.holds Tryd.pinned (OpenSpec.upto daysOfSpec)

/-- 'tranterlaw02.DaysTexts', WHERE WHAT IT READS IS OF BULK AT MOST 1048576: true; the input reads as it did. -/
def daysTextsUptoRow : OpenClaim := { program := "ytmjogpbdgbgkhaadoor", sum := "524d5b351a8b6a70e68486a23e3be891ac3d64b8026889018b6b7dfb59d3e5c6", func := "tranter/tranterlaw02.DaysTexts", spec := "daysTexts", unfollowed := true, recurses := true, named := ["math/bits.deBruijn64tab"], apart := false, laid := [("math/bits.deBruijn64tab", laid_math_bits_deBruijn64tab)], narrowed := true }
def DaysTextsUptoSaid : Prop := daysTextsUptoRow.holds Tryd.pinned (OpenSpec.upto daysTextsSpec)

/-- 'tranterlaw02.DaysParses', WHERE WHAT IT READS IS OF BULK AT MOST 1048576: true; the input reads as it did. -/
def daysParsesUptoRow : OpenClaim := { program := "ytmjogpbdgbgkhaadoor", sum := "524d5b351a8b6a70e68486a23e3be891ac3d64b8026889018b6b7dfb59d3e5c6", func := "tranter/tranterlaw02.DaysParses", spec := "daysParses", unfollowed := true, recurses := true, named := ["math/bits.deBruijn64tab"], apart := false, laid := [("math/bits.deBruijn64tab", laid_math_bits_deBruijn64tab)], narrowed := true }
def DaysParsesUptoSaid : Prop := daysParsesUptoRow.holds Tryd.pinned (OpenSpec.upto daysParsesSpec)

/-- 'tranterlaw02.DaysBest', WHERE WHAT IT READS IS OF BULK AT MOST 1048576: true; the input reads as it did. -/
def daysBestUptoRow : OpenClaim := { program := "ytmjogpbdgbgkhaadoor", sum := "524d5b351a8b6a70e68486a23e3be891ac3d64b8026889018b6b7dfb59d3e5c6", func := "tranter/tranterlaw02.DaysBest", spec := "daysBest", unfollowed := true, recurses := true, named := ["math/bits.deBruijn64tab"], apart := false, laid := [("math/bits.deBruijn64tab", laid_math_bits_deBruijn64tab)], narrowed := true }
def DaysBestUptoSaid : Prop := daysBestUptoRow.holds Tryd.pinned (OpenSpec.upto daysBestSpec)

/-- 'tranterlaw02.DaysNexts', WHERE WHAT IT READS IS OF BULK AT MOST 1048576: true; the input reads as it did. -/
def daysNextsUptoRow : OpenClaim := { program := "ytmjogpbdgbgkhaadoor", sum := "524d5b351a8b6a70e68486a23e3be891ac3d64b8026889018b6b7dfb59d3e5c6", func := "tranter/tranterlaw02.DaysNexts", spec := "daysNexts", unfollowed := true, recurses := true, named := ["math/bits.deBruijn64tab"], apart := false, laid := [("math/bits.deBruijn64tab", laid_math_bits_deBruijn64tab)], narrowed := true }
def DaysNextsUptoSaid : Prop := daysNextsUptoRow.holds Tryd.pinned (OpenSpec.upto daysNextsSpec)

/-- 'tranterlaw02.DaysTwice', WHERE WHAT IT READS IS OF BULK AT MOST 1048576: true; the input reads as it did. -/
def daysTwiceUptoRow : OpenClaim := { program := "ytmjogpbdgbgkhaadoor", sum := "524d5b351a8b6a70e68486a23e3be891ac3d64b8026889018b6b7dfb59d3e5c6", func := "tranter/tranterlaw02.DaysTwice", spec := "daysTwice", unfollowed := true, recurses := true, named := ["math/bits.deBruijn64tab"], apart := false, laid := [("math/bits.deBruijn64tab", laid_math_bits_deBruijn64tab)], narrowed := true }
def DaysTwiceUptoSaid : Prop := daysTwiceUptoRow.holds Tryd.pinned (OpenSpec.upto daysTwiceSpec)

/-- 'tranterlaw02.DaysCheap', WHERE WHAT IT READS IS OF BULK AT MOST 1048576: true; the input reads as it did. -/
def daysCheapUptoRow : OpenClaim := { program := "ytmjogpbdgbgkhaadoor", sum := "524d5b351a8b6a70e68486a23e3be891ac3d64b8026889018b6b7dfb59d3e5c6", func := "tranter/tranterlaw02.DaysCheap", spec := "daysCheap", unfollowed := true, recurses := true, named := ["math/bits.deBruijn64tab"], apart := false, laid := [("math/bits.deBruijn64tab", laid_math_bits_deBruijn64tab)], narrowed := true }
def DaysCheapUptoSaid : Prop := daysCheapUptoRow.holds Tryd.pinned (OpenSpec.upto daysCheapSpec)

end Rows
end Go.Proofs.YtmjogpbdgbgkhaaDoor
