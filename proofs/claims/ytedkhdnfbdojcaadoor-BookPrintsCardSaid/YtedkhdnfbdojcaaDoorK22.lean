import Derived.Test.YtedkhdnfbdojcaaDoorK13
import Derived.Test.YtedkhdnfbdojcaaDoorK21
section
/- How each law of plans begins: its argument is cut short, and lies in its box. -/
namespace Go.Proofs.YtedkhdnfbdojcaaDoor
open Go.RowKit
set_option linter.unusedVariables false
theorem cutP_few (p : PlanD) : FewB (cutP p) := by
  refine ⟨Nat.le_trans (cutP_n p) (by decide), fun d hd => ?_, fun d hd t ht => ?_⟩
  · obtain ⟨e, _, rfl⟩ := cutP_day hd
    exact Nat.le_trans (cutD_n e) (by decide)
  · obtain ⟨e, _, rfl⟩ := cutP_day hd
    obtain ⟨f, _, rfl⟩ := cutD_tour ht
    exact Nat.le_trans (cutT_n f) (by decide)
theorem cutP_tours {p : PlanD} {d : DayD} (h : d ∈ cutP p) : d.length ≤ 6 := by
  obtain ⟨e, _, rfl⟩ := cutP_day h
  exact cutD_n e
/-- A plan in lists of the call's own, in box g. -/
structure CutIn (w : World) (g base : Nat) (q : PlanD) (P : Option Addr) (k : Nat) (W : World) : Prop where
  box : Boxed W g 24 (.slice P q.length k)
  own : OwnDays base W (.slice P q.length k) q
  low : Below w.heap.size w W
theorem CutIn.of {w W0 w1 : World} {g : Nat} {x : Value} {q : PlanD} {P : Option Addr} {k : Nat} (hl : Below w.heap.size w W0) (hb : Boxed W0 g 24 x) (hg : w.heap.size ≤ g) (h1 : Below W0.heap.size W0 w1) (ho : OwnDays W0.heap.size w1 (.slice P q.length k) q) :
    CutIn w g W0.heap.size q P k (w1.setCell ⟨g, 0, none⟩ (.slice P q.length k)) :=
  ⟨(box_below hb h1).set _, ho.far (by show g < _; exact hb.lt) _, (hl.trans (h1.mono hl.size)).setCell (by show w.heap.size ≤ g; exact hg) _⟩
theorem CutIn.keep {w W W' : World} {g base : Nat} {q : PlanD} {P : Option Addr} {k : Nat} (h : CutIn w g base q P k W) (hb : Below W.heap.size W W') : CutIn w g base q P k W' :=
  ⟨box_below h.box hb, h.own.keep hb, h.low.trans (hb.mono h.low.size)⟩
end Go.Proofs.YtedkhdnfbdojcaaDoor
end
