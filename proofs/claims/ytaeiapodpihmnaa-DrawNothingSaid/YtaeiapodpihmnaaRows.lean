/-
  No cell of these rows narrows 'for every input' (looked for: loops, veiled, ifaces, maps, wideKeys, modest, calm, conditions, laid).
  DERIVED. THE GIVEN ROWS OF THIS SEAT. 5 by the template 'for every input the law returns true; each argument reads behind the call as it read before'; 0 by the template 'total and deterministic' (their statements: YtaeiapodpihmnaaTotals.lean).
  GIVEN WITH THE SEED: the statements are not yours to turn. If you find one false, say at which input.
  Laid BY PROGRAM, IN A SANDBOX (cutbox-rows.mjs): the forced cells as the released guide's own fill.sh prints them over the translation b2680854b2d5b642… (all of the seat's roots in one cut). By AI agents, Wed Nov 11 2026. No macro, syntax, notation, axiom, sorry.
-/
import Derived.Test.YtaeiapodpihmnaaChecked
import GoSem.Claim
import GoSem.ClaimJoined
import GoSem.ClaimMapViews
import Derived.JoinedTies
import Derived.KernelRfl
namespace Go.Proofs.Ytaeiapodpihmnaa
/- THE CELL 'sum', in the pinned program and in every row, IS THE sha256 OF THE DUMP (.gsa) THAT YtaeiapodpihmnaaProg.lean LOADS. Nothing in Lean hashes anything: it is a label: what it is worth is what the hold of that sum in a sandbox is worth. -/
noncomputable def Try.pinned : Pinned := { name := "ytaeiapodpihmnaa", sum := "b2680854b2d5b6428cf5bb3502ba97ea7adc2961349f05fec297ac71a55b559c", checked := Try.checked }
namespace Rows
def none {H : Type} : Left H := { results := [], args := [] }

/-- 'tranterlaw04.DrawRows': WHATEVER THE INPUT: true; the input reads as it did. -/
def drawRowsSpec : ChangeSpec := { name := "drawRows", fn := fun _ => fun
  | [d1, d2] => { results := [.lit (.bool true)], args := [d1, d2] }
  | _ => none }
def drawRowsRow : OpenClaim := { program := "ytaeiapodpihmnaa", sum := "b2680854b2d5b6428cf5bb3502ba97ea7adc2961349f05fec297ac71a55b559c", func := "tranter/tranterlaw04.DrawRows", spec := "drawRows", unfollowed := true, recurses := true, apart := false }
def DrawRowsSaid : Prop := drawRowsRow.holds Try.pinned (OpenSpec.ofChange drawRowsSpec)

/-- ITS FALSE NEIGHBOUR: 'it returns false'. Refute it at one input. -/
def drawRowsWrong : ChangeSpec := { name := "drawRows", fn := fun _ => fun
  | [d1, d2] => { results := [.lit (.bool false)], args := [d1, d2] }
  | _ => none }
def DrawRowsWrongFalsely : Prop := drawRowsRow.holds Try.pinned (OpenSpec.ofChange drawRowsWrong)

/-- 'tranterlaw04.DrawPicks': WHATEVER THE INPUT: true; the input reads as it did. -/
def drawPicksSpec : ChangeSpec := { name := "drawPicks", fn := fun _ => fun
  | [d1, d2] => { results := [.lit (.bool true)], args := [d1, d2] }
  | _ => none }
def drawPicksRow : OpenClaim := { program := "ytaeiapodpihmnaa", sum := "b2680854b2d5b6428cf5bb3502ba97ea7adc2961349f05fec297ac71a55b559c", func := "tranter/tranterlaw04.DrawPicks", spec := "drawPicks", apart := false }
def DrawPicksSaid : Prop := drawPicksRow.holds Try.pinned (OpenSpec.ofChange drawPicksSpec)

/-- ITS FALSE NEIGHBOUR: 'it returns false'. Refute it at one input. -/
def drawPicksWrong : ChangeSpec := { name := "drawPicks", fn := fun _ => fun
  | [d1, d2] => { results := [.lit (.bool false)], args := [d1, d2] }
  | _ => none }
def DrawPicksWrongFalsely : Prop := drawPicksRow.holds Try.pinned (OpenSpec.ofChange drawPicksWrong)

/-- 'tranterlaw04.DrawAgain': WHATEVER THE INPUT: true; the input reads as it did. -/
def drawAgainSpec : ChangeSpec := { name := "drawAgain", fn := fun _ => fun
  | [d1, d2] => { results := [.lit (.bool true)], args := [d1, d2] }
  | _ => none }
def drawAgainRow : OpenClaim := { program := "ytaeiapodpihmnaa", sum := "b2680854b2d5b6428cf5bb3502ba97ea7adc2961349f05fec297ac71a55b559c", func := "tranter/tranterlaw04.DrawAgain", spec := "drawAgain", apart := false }
def DrawAgainSaid : Prop := drawAgainRow.holds Try.pinned (OpenSpec.ofChange drawAgainSpec)

/-- ITS FALSE NEIGHBOUR: 'it returns false'. Refute it at one input. -/
def drawAgainWrong : ChangeSpec := { name := "drawAgain", fn := fun _ => fun
  | [d1, d2] => { results := [.lit (.bool false)], args := [d1, d2] }
  | _ => none }
def DrawAgainWrongFalsely : Prop := drawAgainRow.holds Try.pinned (OpenSpec.ofChange drawAgainWrong)

/-- 'tranterlaw04.DrawForks': WHATEVER THE INPUT: true; the input reads as it did. -/
def drawForksSpec : ChangeSpec := { name := "drawForks", fn := fun _ => fun
  | [d1, d2] => { results := [.lit (.bool true)], args := [d1, d2] }
  | _ => none }
def drawForksRow : OpenClaim := { program := "ytaeiapodpihmnaa", sum := "b2680854b2d5b6428cf5bb3502ba97ea7adc2961349f05fec297ac71a55b559c", func := "tranter/tranterlaw04.DrawForks", spec := "drawForks", apart := false }
def DrawForksSaid : Prop := drawForksRow.holds Try.pinned (OpenSpec.ofChange drawForksSpec)

/-- ITS FALSE NEIGHBOUR: 'it returns false'. Refute it at one input. -/
def drawForksWrong : ChangeSpec := { name := "drawForks", fn := fun _ => fun
  | [d1, d2] => { results := [.lit (.bool false)], args := [d1, d2] }
  | _ => none }
def DrawForksWrongFalsely : Prop := drawForksRow.holds Try.pinned (OpenSpec.ofChange drawForksWrong)

/-- 'tranterlaw04.DrawNothing': WHATEVER THE INPUT: true; the input reads as it did. -/
def drawNothingSpec : ChangeSpec := { name := "drawNothing", fn := fun _ => fun
  | [d1, d2, d3] => { results := [.lit (.bool true)], args := [d1, d2, d3] }
  | _ => none }
def drawNothingRow : OpenClaim := { program := "ytaeiapodpihmnaa", sum := "b2680854b2d5b6428cf5bb3502ba97ea7adc2961349f05fec297ac71a55b559c", func := "tranter/tranterlaw04.DrawNothing", spec := "drawNothing", unfollowed := true, recurses := true, apart := false }
def DrawNothingSaid : Prop := drawNothingRow.holds Try.pinned (OpenSpec.ofChange drawNothingSpec)

/-- ITS FALSE NEIGHBOUR: 'it returns false'. Refute it at one input. -/
def drawNothingWrong : ChangeSpec := { name := "drawNothing", fn := fun _ => fun
  | [d1, d2, d3] => { results := [.lit (.bool false)], args := [d1, d2, d3] }
  | _ => none }
def DrawNothingWrongFalsely : Prop := drawNothingRow.holds Try.pinned (OpenSpec.ofChange drawNothingWrong)

/- THE SECOND FORM. 'bulk': how many values and letters a reading holds, each counted each time it is reached (what is shared counts as often as it is met; a slice's spare places count too). A statement '..UptoSaid' is the law's where the arguments, and the package variables that the reading takes, are together of bulk at most 1048576: NARROWER than '..Said'. Prove '..Said' where nothing that the law and all that it calls make is longer than what came in: it says more and counts as full. Else prove '..UptoSaid'. A law counts once. -/
mutual
def uptoBulk {H : Type} : DataW H → Nat
  | .lit (.string bytes) => bytes.length + 1
  | .lit _ => 1
  | .nil => 1
  | .ptr d => uptoBulk d + 1
  | .slice elems spare => uptoBulkAll elems + uptoBulkAll spare + 1
  | .agg parts => uptoBulkAll parts + 1
  | .iface _ d => uptoBulk d + 1
  | .map entries => uptoBulkEntries entries + 1
  | .held _ => 1
def uptoBulkAll {H : Type} : List (DataW H) → Nat
  | [] => 0
  | d :: r => uptoBulk d + uptoBulkAll r
def uptoBulkEntries {H : Type} : List (Lit × DataW H) → Nat
  | [] => 0
  | x :: r => uptoBulkEntry x + uptoBulkEntries r
def uptoBulkEntry {H : Type} : Lit × DataW H → Nat
  | (.string bytes, d) => bytes.length + uptoBulk d + 1
  | (_, d) => uptoBulk d + 1
 end
def uptoSmall : (H : Type) → List (DataW H) → Bool := fun _ ds => decide (uptoBulkAll ds ≤ 1048576)
def OpenSpec.upto (s : _root_.Go.ChangeSpec) : _root_.Go.OpenSpec := { _root_.Go.OpenSpec.ofChange s with cond := some uptoSmall }

/-- 'tranterlaw04.DrawRows', WHERE WHAT IT READS IS OF BULK AT MOST 1048576: true; the input reads as it did. -/
def drawRowsUptoRow : OpenClaim := { program := "ytaeiapodpihmnaa", sum := "b2680854b2d5b6428cf5bb3502ba97ea7adc2961349f05fec297ac71a55b559c", func := "tranter/tranterlaw04.DrawRows", spec := "drawRows", unfollowed := true, recurses := true, apart := false, narrowed := true }
def DrawRowsUptoSaid : Prop := drawRowsUptoRow.holds Try.pinned (OpenSpec.upto drawRowsSpec)

/-- 'tranterlaw04.DrawPicks', WHERE WHAT IT READS IS OF BULK AT MOST 1048576: true; the input reads as it did. -/
def drawPicksUptoRow : OpenClaim := { program := "ytaeiapodpihmnaa", sum := "b2680854b2d5b6428cf5bb3502ba97ea7adc2961349f05fec297ac71a55b559c", func := "tranter/tranterlaw04.DrawPicks", spec := "drawPicks", apart := false, narrowed := true }
def DrawPicksUptoSaid : Prop := drawPicksUptoRow.holds Try.pinned (OpenSpec.upto drawPicksSpec)

/-- 'tranterlaw04.DrawAgain', WHERE WHAT IT READS IS OF BULK AT MOST 1048576: true; the input reads as it did. -/
def drawAgainUptoRow : OpenClaim := { program := "ytaeiapodpihmnaa", sum := "b2680854b2d5b6428cf5bb3502ba97ea7adc2961349f05fec297ac71a55b559c", func := "tranter/tranterlaw04.DrawAgain", spec := "drawAgain", apart := false, narrowed := true }
def DrawAgainUptoSaid : Prop := drawAgainUptoRow.holds Try.pinned (OpenSpec.upto drawAgainSpec)

/-- 'tranterlaw04.DrawForks', WHERE WHAT IT READS IS OF BULK AT MOST 1048576: true; the input reads as it did. -/
def drawForksUptoRow : OpenClaim := { program := "ytaeiapodpihmnaa", sum := "b2680854b2d5b6428cf5bb3502ba97ea7adc2961349f05fec297ac71a55b559c", func := "tranter/tranterlaw04.DrawForks", spec := "drawForks", apart := false, narrowed := true }
def DrawForksUptoSaid : Prop := drawForksUptoRow.holds Try.pinned (OpenSpec.upto drawForksSpec)

/-- 'tranterlaw04.DrawNothing', WHERE WHAT IT READS IS OF BULK AT MOST 1048576: true; the input reads as it did. -/
def drawNothingUptoRow : OpenClaim := { program := "ytaeiapodpihmnaa", sum := "b2680854b2d5b6428cf5bb3502ba97ea7adc2961349f05fec297ac71a55b559c", func := "tranter/tranterlaw04.DrawNothing", spec := "drawNothing", unfollowed := true, recurses := true, apart := false, narrowed := true }
def DrawNothingUptoSaid : Prop := drawNothingUptoRow.holds Try.pinned (OpenSpec.upto drawNothingSpec)

end Rows
end Go.Proofs.Ytaeiapodpihmnaa
