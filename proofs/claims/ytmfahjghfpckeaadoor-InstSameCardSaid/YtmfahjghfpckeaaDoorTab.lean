/- The library's table of trailing zeros, where the program bears it: what its variable holds when the call begins, and that it goes on holding that; nothing is said where the program bears none. -/
import Derived.Test.YtmfahjghfpckeaaDoorCore
import Derived.Lib.TrailingZeros
import Derived.Lib.LaidTab
import Derived.LaidMore
import Derived.Stop.Joined
namespace Go.Proofs.YtmfahjghfpckeaaDoor
open Go.RowKit
set_option linter.unusedVariables false

def Tab (w : World) : Prop := ∀ j, j < 64 → w.cell? ⟨0, j, none⟩ = some (.int .u8 (Go.Lib.deBruijn64tab.getD j 0 : Nat))
theorem Tab.keep {w w' : World} (h : Tab w) (hb : Below w.heap.size w w') : Tab w' := by
  intro j hj
  exact (hb.cell (World.block_lt_of_cell? w _ (h j hj))).trans (h j hj)
theorem tab_global : Tryd.prog.globalNamed "math/bits.deBruijn64tab" = some 0 := by kernel_rfl
theorem tab_type : (Tryd.prog.globals[0]?).map (·.type) = some 85 := by kernel_rfl
theorem tab_cells : Tryd.prog.cellsOf 85 = 64 := by kernel_rfl
theorem tab_cell : Tryd.prog.cellsOf 5 = 1 := by kernel_rfl
def tabList : List Int := Go.Lib.deBruijn64tab.map Int.ofNat
theorem tabList_len : tabList.length = 64 := rfl
/-- What the row's condition says of the variable. -/
theorem tab_of_laid {W : World} (h : laidMetH Tryd.prog [("math/bits.deBruijn64tab", Rows.laid_math_bits_deBruijn64tab)] W) : Tab W := by
  rw [MakeChecks.laidMetH_plain _ _ _ (by kernel_rfl)] at h
  have h2 : laidMet Tryd.prog [("math/bits.deBruijn64tab", Go.Lib.tabData .u8 tabList)] W := h
  have h3 := Go.Lib.tabIs_of_head tab_global tab_type Tryd.underlying85 Tryd.underlying5 tab_cell tab_cells h2
  intro j hj
  have h4 := h3.cell tab_global j (by rw [tabList_len]; exact hj)
  rw [h4]
  congr 2
  unfold tabList
  rw [List.getD_eq_getElem?_getD, List.getElem?_map, List.getD_eq_getElem?_getD]
  cases Go.Lib.deBruijn64tab[j]? <;> rfl
/-- The door's own heap meets the condition. -/
theorem door_met (os : Os) (args : Array Value) : laidMetH Tryd.prog [("math/bits.deBruijn64tab", Rows.laid_math_bits_deBruijn64tab)] ((World.doorLaid Tryd.prog 14 os).forCall (fun _ _ => 0) ⟨#[], args, []⟩).memory :=
  laidMetH_of_parts3 (fuel := 8) (laidMet_of_run' 8 (by kernel_rfl) (by kernel_rfl)) (by kernel_rfl) (by kernel_rfl)
end Go.Proofs.YtmfahjghfpckeaaDoor
