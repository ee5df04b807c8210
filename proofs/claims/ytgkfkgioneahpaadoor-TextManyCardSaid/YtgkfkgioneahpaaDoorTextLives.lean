/- What each law of package text asks at its end. -/
import Derived.Test.YtgkfkgioneahpaaDoorTextSame
import Derived.Test.YtgkfkgioneahpaaDoorTextNum
namespace Go.Proofs.YtgkfkgioneahpaaDoor
open Go.RowKit
set_option linter.unusedVariables false
set_option maxRecDepth 100000 in
set_option maxHeartbeats 4000000 in
theorem lives5_any (w : World) : Calls Tryd.prog 12 #[] w fun e W' => e = .returned (.bool true) ∧ Below w.heap.size w W' := by
  have CL := fun W => lines_yes [97, 32, 98, 10, 55, 10] (by decide) [[[97], [98]], [[55]]] (by decide) W
  rw [show strL [97, 32, 98, 10, 55, 10] = ⟨#[97, 32, 98, 10, 55, 10]⟩ from rfl] at CL
  have CN := fun W => number_no ⟨#[48, 48, 55]⟩ W (by decide) (by decide)
  go_enter Tryd.func12, Tryd.ntmps12
  go_wp2_with (first
    | (go_at_call 9; refine (CL _).mono ?_; rintro e w1 ⟨v, rfl, hL, hb⟩; obtain ⟨g, cap, A, c, rfl, c0, h0⟩ := hL.at (i := 0) (by decide); obtain ⟨b, rfl, c1⟩ := h0 1 (by decide); obtain ⟨g', cap', A', c', e', d0, h1⟩ := hL.at (i := 1) (by decide); injection e' with e1 _ _; injection e1 with e1; injection e1 with e1 _ _; subst e1; obtain ⟨b', rfl, d1⟩ := h1 0 (by decide); have hs0 : strL [98] = ⟨#[98]⟩ := rfl; have hs1 : strL [55] = ⟨#[55]⟩ := rfl; simp only [List.getElem_cons_zero, List.getElem_cons_succ, List.length_cons, List.length_nil, Nat.reduceAdd, hs0, hs1] at c0 c1 d0 d1; clear h0 h1 hL)
    | (go_at_call 16; refine (CN _).mono ?_; rintro e w2 ⟨rfl, rfl⟩))
  go_ret
  exact ⟨rfl, hb⟩
end Go.Proofs.YtgkfkgioneahpaaDoor
