/-
  NARROWER THAN 'FOR EVERY INPUT', by the rows' own cells (each row's printed sentence says how): InstMay: laid · InstWays: laid · InstCheap: laid · InstLeast: laid · InstSame: laid · InstParts: laid.
  DERIVED. THE GIVEN ROWS OF THIS SEAT. 6 by the template 'for every input the law returns true; each argument reads behind the call as it read before'; 0 by the template 'total and deterministic' (their statements: YtmfahjghfpckeaaDoorTotals.lean).
  GIVEN WITH THE SEED: the statements are not yours to turn. If you find one false, say at which input.
  Laid BY PROGRAM, IN A SANDBOX (cutbox-rows.mjs): the forced cells as the released guide's own fill.sh prints them over the translation 94a5628a61ba8aad… (all of the seat's roots in one cut). By AI agents, Wed Nov 11 2026. No macro, syntax, notation, axiom, sorry.
-/
import Derived.Test.YtmfahjghfpckeaaDoorChecked
import GoSem.Claim
import GoSem.ClaimJoined
import GoSem.ClaimMapViews
import Derived.JoinedTies
import Derived.KernelRfl
namespace Go.Proofs.YtmfahjghfpckeaaDoor
/- THE CELL 'sum', in the pinned program and in every row, IS THE sha256 OF THE DUMP (.gsa) THAT YtmfahjghfpckeaaDoorProg.lean LOADS. Nothing in Lean hashes anything: it is a label: what it is worth is what the hold of that sum in a sandbox is worth. -/
noncomputable def Tryd.pinned : Pinned := { name := "ytmfahjghfpckeaadoor", sum := "94a5628a61ba8aad9739a6f1f35d73ede1a9d8dca51c97cefc53044d48b76454", checked := Tryd.checked }
namespace Rows
def none {H : Type} : Left H := { results := [], args := [] }

/- WHAT THE LISTED PACKAGE-LEVEL VARIABLES READ AS WHEN THE CALL BEGINS. Each datum BY PROGRAM (the guide's laid-datum.mjs) off the statement by which the dump's own 'gosem.cut.vars' lays the variable. In a bare row this is a premise. The card (YtmfahjghfpckeaaDoorCards.lean) ties it to the program's text. -/
def laid_math_bits_deBruijn64tab {H : Type} : DataW H := .agg [.lit (.int .u8 0), .lit (.int .u8 1), .lit (.int .u8 56), .lit (.int .u8 2), .lit (.int .u8 57), .lit (.int .u8 49), .lit (.int .u8 28), .lit (.int .u8 3), .lit (.int .u8 61), .lit (.int .u8 58), .lit (.int .u8 42), .lit (.int .u8 50), .lit (.int .u8 38), .lit (.int .u8 29), .lit (.int .u8 17), .lit (.int .u8 4), .lit (.int .u8 62), .lit (.int .u8 47), .lit (.int .u8 59), .lit (.int .u8 36), .lit (.int .u8 45), .lit (.int .u8 43), .lit (.int .u8 51), .lit (.int .u8 22), .lit (.int .u8 53), .lit (.int .u8 39), .lit (.int .u8 33), .lit (.int .u8 30), .lit (.int .u8 24), .lit (.int .u8 18), .lit (.int .u8 12), .lit (.int .u8 5), .lit (.int .u8 63), .lit (.int .u8 55), .lit (.int .u8 48), .lit (.int .u8 27), .lit (.int .u8 60), .lit (.int .u8 41), .lit (.int .u8 37), .lit (.int .u8 16), .lit (.int .u8 46), .lit (.int .u8 35), .lit (.int .u8 44), .lit (.int .u8 21), .lit (.int .u8 52), .lit (.int .u8 32), .lit (.int .u8 23), .lit (.int .u8 11), .lit (.int .u8 54), .lit (.int .u8 26), .lit (.int .u8 40), .lit (.int .u8 15), .lit (.int .u8 34), .lit (.int .u8 20), .lit (.int .u8 31), .lit (.int .u8 10), .lit (.int .u8 25), .lit (.int .u8 14), .lit (.int .u8 19), .lit (.int .u8 9), .lit (.int .u8 13), .lit (.int .u8 8), .lit (.int .u8 7), .lit (.int .u8 6)]

/-- 'tranterlaw06.InstMay': WHATEVER THE INPUT: true; the input reads as it did. -/
def instMaySpec : ChangeSpec := { name := "instMay", fn := fun _ => fun
  | [d1, d2, d3] => { results := [.lit (.bool true)], args := [d1, d2, d3] }
  | _ => none }
def instMayRow : OpenClaim := { program := "ytmfahjghfpckeaadoor", sum := "94a5628a61ba8aad9739a6f1f35d73ede1a9d8dca51c97cefc53044d48b76454", func := "tranter/tranterlaw06.InstMay", spec := "instMay", unfollowed := true, recurses := true, named := ["math/bits.deBruijn64tab"], apart := false, laid := [("math/bits.deBruijn64tab", laid_math_bits_deBruijn64tab)] }
def InstMaySaid : Prop := instMayRow.holds Tryd.pinned (OpenSpec.ofChange instMaySpec)

/-- ITS FALSE NEIGHBOUR: 'it returns false'. Refute it at one input. -/
def instMayWrong : ChangeSpec := { name := "instMay", fn := fun _ => fun
  | [d1, d2, d3] => { results := [.lit (.bool false)], args := [d1, d2, d3] }
  | _ => none }
def InstMayWrongFalsely : Prop := instMayRow.holds Tryd.pinned (OpenSpec.ofChange instMayWrong)

/-- 'tranterlaw06.InstWays': WHATEVER THE INPUT: true; the input reads as it did. -/
def instWaysSpec : ChangeSpec := { name := "instWays", fn := fun _ => fun
  | [d1, d2, d3, d4] => { results := [.lit (.bool true)], args := [d1, d2, d3, d4] }
  | _ => none }
def instWaysRow : OpenClaim := { program := "ytmfahjghfpckeaadoor", sum := "94a5628a61ba8aad9739a6f1f35d73ede1a9d8dca51c97cefc53044d48b76454", func := "tranter/tranterlaw06.InstWays", spec := "instWays", unfollowed := true, recurses := true, named := ["math/bits.deBruijn64tab"], apart := false, laid := [("math/bits.deBruijn64tab", laid_math_bits_deBruijn64tab)] }
def InstWaysSaid : Prop := instWaysRow.holds Tryd.pinned (OpenSpec.ofChange instWaysSpec)

/-- ITS FALSE NEIGHBOUR: 'it returns false'. Refute it at one input. -/
def instWaysWrong : ChangeSpec := { name := "instWays", fn := fun _ => fun
  | [d1, d2, d3, d4] => { results := [.lit (.bool false)], args := [d1, d2, d3, d4] }
  | _ => none }
def InstWaysWrongFalsely : Prop := instWaysRow.holds Tryd.pinned (OpenSpec.ofChange instWaysWrong)

/-- 'tranterlaw06.InstCheap': WHATEVER THE INPUT: true; the input reads as it did. -/
def instCheapSpec : ChangeSpec := { name := "instCheap", fn := fun _ => fun
  | [d] => { results := [.lit (.bool true)], args := [d] }
  | _ => none }
def instCheapRow : OpenClaim := { program := "ytmfahjghfpckeaadoor", sum := "94a5628a61ba8aad9739a6f1f35d73ede1a9d8dca51c97cefc53044d48b76454", func := "tranter/tranterlaw06.InstCheap", spec := "instCheap", unfollowed := true, recurses := true, named := ["math/bits.deBruijn64tab"], apart := false, laid := [("math/bits.deBruijn64tab", laid_math_bits_deBruijn64tab)] }
def InstCheapSaid : Prop := instCheapRow.holds Tryd.pinned (OpenSpec.ofChange instCheapSpec)

/-- ITS FALSE NEIGHBOUR: 'it returns false'. Refute it at one input. -/
def instCheapWrong : ChangeSpec := { name := "instCheap", fn := fun _ => fun
  | [d] => { results := [.lit (.bool false)], args := [d] }
  | _ => none }
def InstCheapWrongFalsely : Prop := instCheapRow.holds Tryd.pinned (OpenSpec.ofChange instCheapWrong)

/-- 'tranterlaw06.InstLeast': WHATEVER THE INPUT: true; the input reads as it did. -/
def instLeastSpec : ChangeSpec := { name := "instLeast", fn := fun _ => fun
  | [d1, d2] => { results := [.lit (.bool true)], args := [d1, d2] }
  | _ => none }
def instLeastRow : OpenClaim := { program := "ytmfahjghfpckeaadoor", sum := "94a5628a61ba8aad9739a6f1f35d73ede1a9d8dca51c97cefc53044d48b76454", func := "tranter/tranterlaw06.InstLeast", spec := "instLeast", unfollowed := true, recurses := true, named := ["math/bits.deBruijn64tab"], apart := false, laid := [("math/bits.deBruijn64tab", laid_math_bits_deBruijn64tab)] }
def InstLeastSaid : Prop := instLeastRow.holds Tryd.pinned (OpenSpec.ofChange instLeastSpec)

/-- ITS FALSE NEIGHBOUR: 'it returns false'. Refute it at one input. -/
def instLeastWrong : ChangeSpec := { name := "instLeast", fn := fun _ => fun
  | [d1, d2] => { results := [.lit (.bool false)], args := [d1, d2] }
  | _ => none }
def InstLeastWrongFalsely : Prop := instLeastRow.holds Tryd.pinned (OpenSpec.ofChange instLeastWrong)

/-- 'tranterlaw06.InstSame': WHATEVER THE INPUT: true; the input reads as it did. -/
def instSameSpec : ChangeSpec := { name := "instSame", fn := fun _ => fun
  | [d1, d2] => { results := [.lit (.bool true)], args := [d1, d2] }
  | _ => none }
def instSameRow : OpenClaim := { program := "ytmfahjghfpckeaadoor", sum := "94a5628a61ba8aad9739a6f1f35d73ede1a9d8dca51c97cefc53044d48b76454", func := "tranter/tranterlaw06.InstSame", spec := "instSame", unfollowed := true, recurses := true, named := ["math/bits.deBruijn64tab"], apart := false, laid := [("math/bits.deBruijn64tab", laid_math_bits_deBruijn64tab)] }
def InstSameSaid : Prop := instSameRow.holds Tryd.pinned (OpenSpec.ofChange instSameSpec)

/-- ITS FALSE NEIGHBOUR: 'it returns false'. Refute it at one input. -/
def instSameWrong : ChangeSpec := { name := "instSame", fn := fun _ => fun
  | [d1, d2] => { results := [.lit (.bool false)], args := [d1, d2] }
  | _ => none }
def InstSameWrongFalsely : Prop := instSameRow.holds Tryd.pinned (OpenSpec.ofChange instSameWrong)

/-- 'tranterlaw06.InstParts': WHATEVER THE INPUT: true; the input reads as it did. -/
def instPartsSpec : ChangeSpec := { name := "instParts", fn := fun _ => fun
  | [d1, d2, d3] => { results := [.lit (.bool true)], args := [d1, d2, d3] }
  | _ => none }
def instPartsRow : OpenClaim := { program := "ytmfahjghfpckeaadoor", sum := "94a5628a61ba8aad9739a6f1f35d73ede1a9d8dca51c97cefc53044d48b76454", func := "tranter/tranterlaw06.InstParts", spec := "instParts", unfollowed := true, recurses := true, named := ["math/bits.deBruijn64tab"], apart := false, laid := [("math/bits.deBruijn64tab", laid_math_bits_deBruijn64tab)] }
def InstPartsSaid : Prop := instPartsRow.holds Tryd.pinned (OpenSpec.ofChange instPartsSpec)

/-- ITS FALSE NEIGHBOUR: 'it returns false'. Refute it at one input. -/
def instPartsWrong : ChangeSpec := { name := "instParts", fn := fun _ => fun
  | [d1, d2, d3] => { results := [.lit (.bool false)], args := [d1, d2, d3] }
  | _ => none }
def InstPartsWrongFalsely : Prop := instPartsRow.holds Tryd.pinned (OpenSpec.ofChange instPartsWrong)

/- THE SECOND FORM. 'bulk': how many values and letters a reading holds, each counted each time it is reached (what is shared counts as often as it is met; a slice's spare places count too). A statement '..UptoSaid' is the law's where the arguments, and the package variables that the reading takes, are together of bulk at most 1048576: NARROWER than '..Said'. Prove '..Said' where nothing that the law and all that it calls make is longer than what came in: it says more and counts as full. Else prove '..UptoSaid'. A law counts once. -/
mutual
def uptoBulk {H : Type} : DataW H → Nat
  | .lit (.string bytes) => bytes.length + 1
  | .lit _ => 1
  | .nil => 1
  | .ptr d => uptoBulk d + 1
  | .slice elems spare => uptoBulkAll elems + uptoBulkAll spare + 1
  | .agg parts => uptoBulkAll parts + 1
  | .iface _ d => uptoBulk d + 1
  | .map entries => uptoBulkEntries entries + 1
  | .held _ => 1
def uptoBulkAll {H : Type} : List (DataW H) → Nat
  | [] => 0
  | d :: r => uptoBulk d + uptoBulkAll r
def uptoBulkEntries {H : Type} : List (Lit × DataW H) → Nat
  | [] => 0
  | x :: r => uptoBulkEntry x + uptoBulkEntries r
def uptoBulkEntry {H : Type} : Lit × DataW H → Nat
  | (.string bytes, d) => bytes.length + uptoBulk d + 1
  | (_, d) => uptoBulk d + 1
 end
def uptoSmall : (H : Type) → List (DataW H) → Bool := fun _ ds => decide (uptoBulkAll ds ≤ 1048576)
def OpenSpec.upto (s : _root_.Go.ChangeSpec) : _root_.Go.OpenSpec := { _root_.Go.OpenSpec.ofChange s with cond := some uptoSmall }

/-- 'tranterlaw06.InstMay', WHERE WHAT IT READS IS OF BULK AT MOST 1048576: true; the input reads as it did. -/
def instMayUptoRow : OpenClaim := { program := "ytmfahjghfpckeaadoor", sum := "94a5628a61ba8aad9739a6f1f35d73ede1a9d8dca51c97cefc53044d48b76454", func := "tranter/tranterlaw06.InstMay", spec := "instMay", unfollowed := true, recurses := true, named := ["math/bits.deBruijn64tab"], apart := false, laid := [("math/bits.deBruijn64tab", laid_math_bits_deBruijn64tab)], narrowed := true }
def InstMayUptoSaid : Prop := instMayUptoRow.holds Tryd.pinned (OpenSpec.upto instMaySpec)

/-- 'tranterlaw06.InstWays', WHERE WHAT IT READS IS OF BULK AT MOST 1048576: true; the input reads as it did. -/
def instWaysUptoRow : OpenClaim := { program := "ytmfahjghfpckeaadoor", sum := "94a5628a61ba8aad9739a6f1f35d73ede1a9d8dca51c97cefc53044d48b76454", func := "tranter/tranterlaw06.InstWays", spec := "instWays", unfollowed := true, recurses := true, named := ["math/bits.deBruijn64tab"], apart := false, laid := [("math/bits.deBruijn64tab", laid_math_bits_deBruijn64tab)], narrowed := true }
def InstWaysUptoSaid : Prop := instWaysUptoRow.holds Tryd.pinned (OpenSpec.upto instWaysSpec)

/-- 'tranterlaw06.InstCheap', WHERE WHAT IT READS IS OF BULK AT MOST 1048576: true; the input reads as it did. -/
def instCheapUptoRow : OpenClaim := { program := "ytmfahjghfpckeaadoor", sum := "94a5628a61ba8aad9739a6f1f35d73ede1a9d8dca51c97cefc53044d48b76454", func := "tranter/tranterlaw06.InstCheap", spec := "instCheap", unfollowed := true, recurses := true, named := ["math/bits.deBruijn64tab"], apart := false, laid := [("math/bits.deBruijn64tab", laid_math_bits_deBruijn64tab)], narrowed := true }
def InstCheapUptoSaid : Prop := instCheapUptoRow.holds Tryd.pinned (OpenSpec.upto instCheapSpec)

/-- 'tranterlaw06.InstLeast', WHERE WHAT IT READS IS OF BULK AT MOST 1048576: true; the input reads as it did. -/
def instLeastUptoRow : OpenClaim := { program := "ytmfahjghfpckeaadoor", sum := "94a5628a61ba8aad9739a6f1f35d73ede1a9d8dca51c97cefc53044d48b76454", func := "tranter/tranterlaw06.InstLeast", spec := "instLeast", unfollowed := true, recurses := true, named := ["math/bits.deBruijn64tab"], apart := false, laid := [("math/bits.deBruijn64tab", laid_math_bits_deBruijn64tab)], narrowed := true }
def InstLeastUptoSaid : Prop := instLeastUptoRow.holds Tryd.pinned (OpenSpec.upto instLeastSpec)

/-- 'tranterlaw06.InstSame', WHERE WHAT IT READS IS OF BULK AT MOST 1048576: true; the input reads as it did. -/
def instSameUptoRow : OpenClaim := { program := "ytmfahjghfpckeaadoor", sum := "94a5628a61ba8aad9739a6f1f35d73ede1a9d8dca51c97cefc53044d48b76454", func := "tranter/tranterlaw06.InstSame", spec := "instSame", unfollowed := true, recurses := true, named := ["math/bits.deBruijn64tab"], apart := false, laid := [("math/bits.deBruijn64tab", laid_math_bits_deBruijn64tab)], narrowed := true }
def InstSameUptoSaid : Prop := instSameUptoRow.holds Tryd.pinned (OpenSpec.upto instSameSpec)

/-- 'tranterlaw06.InstParts', WHERE WHAT IT READS IS OF BULK AT MOST 1048576: true; the input reads as it did. -/
def instPartsUptoRow : OpenClaim := { program := "ytmfahjghfpckeaadoor", sum := "94a5628a61ba8aad9739a6f1f35d73ede1a9d8dca51c97cefc53044d48b76454", func := "tranter/tranterlaw06.InstParts", spec := "instParts", unfollowed := true, recurses := true, named := ["math/bits.deBruijn64tab"], apart := false, laid := [("math/bits.deBruijn64tab", laid_math_bits_deBruijn64tab)], narrowed := true }
def InstPartsUptoSaid : Prop := instPartsUptoRow.holds Tryd.pinned (OpenSpec.upto instPartsSpec)

end Rows
end Go.Proofs.YtmfahjghfpckeaaDoor
