/- The row's methods. -/
import Derived.Test.YtgpnpopmlommaaaHeapMem
import Derived.BigRegion
import Derived.StillTailTactics
import Derived.Deep.RegionHeld3
namespace Go.Proofs.Ytgpnpopmlommaaa
open Go.RowKit Go.Maps
set_option linter.unusedVariables false
/-- How worths are ordered. -/
def LtI (a b : Int) : Prop := a < b
instance : DecidableRel LtI := fun a b => inferInstanceAs (Decidable (a < b))
theorem order_I : Order LtI := ⟨fun a => by unfold LtI; omega, fun a b c => by unfold LtI; omega, fun a b => by unfold LtI; omega⟩
theorem before_I (x y : Thing Int) (w : World) : Calls Try.prog 72 #[.agg #[.int .i64 x.1, .int .i64 x.2], .agg #[.int .i64 y.1, .int .i64 y.2]] w fun e w' =>
    e = .returned (.bool (decide (Bef LtI x y))) ∧ Below w.heap.size w w' := by
  obtain ⟨a, b⟩ := x
  obtain ⟨c, d⟩ := y
  by_cases h : b = d
  · subst h
    have e1 : decide (Bef LtI (a, b) (c, b)) = decide (a < c) := by unfold Bef LtI; simp
    rw [e1]
    clear e1
    go_enter Try.func72, Try.ntmps72
    go_wp2
    go_ret
    exact ⟨rfl, ((Below.refl _ _).alloc (Nat.le_refl _) _).alloc (by simp) _⟩
  · have e1 : decide (Bef LtI (a, b) (c, d)) = decide (b < d) := by unfold Bef LtI; simp [h]
    rw [e1]
    clear e1
    have h' : (b == d) = false := by simpa using h
    go_enter Try.func72, Try.ntmps72
    go_wp2
    go_ret
    exact ⟨rfl, ((Below.refl _ _).alloc (Nat.le_refl _) _).alloc (by simp) _⟩
abbrev HI (w : World) (g : Nat) (F : List Nat) (q : Nat → Thing Int) (n : Nat) : Prop :=
  HeapIs (Value.int .i64) (fun x => (Lit.int .i64 x).wf = true) 54 77 w g F q n
theorem len_I {w : World} {g : Nat} {F : List Nat} {q : Nat → Thing Int} {n : Nat} (h : HI w g F q n) :
    Calls Try.prog 34 #[.pointer (some ⟨g, 0, none⟩)] w fun e w' => e = .returned (.int .i64 n) ∧ w = w' := by
  obtain ⟨s, m, G, f, hb, ht, hm, hp, rfl, hn, hw⟩ := h
  have c0 := hb.cellAt 0
  simp at c0
  rcases ht with ⟨rfl, rfl, rfl⟩ | ⟨a, c, rfl, rfl, hr⟩
  all_goals
    go_enter Try.func34, Try.ntmps34
    go_wp2
    go_ret
    exact ⟨rfl, rfl⟩
theorem less_I {w : World} {g : Nat} {F : List Nat} {q : Nat → Thing Int} {n : Nat} (h : HI w g F q n) {i j : Nat} (hi : i < n) (hj : j < n) :
    Calls Try.prog 68 #[.pointer (some ⟨g, 0, none⟩), .int .i64 i, .int .i64 j] w fun e w' => e = .returned (.bool (decide (Bef LtI (q i) (q j)))) ∧ Below w.heap.size w w' := by
  obtain ⟨s, m, G, f, hb, ht, hm, hp, rfl, hn, hw⟩ := h
  have c0 := hb.cellAt 0
  simp at c0
  rcases ht with ⟨rfl, rfl, rfl⟩ | ⟨a, c, rfl, rfl, hr⟩
  · omega
  obtain ⟨c1, c2⟩ := hr.cell hi
  obtain ⟨c3, c4⟩ := hr.cell hj
  have hi' : (i : Int) < (n : Int) := by omega
  have hj' : (j : Int) < (n : Int) := by omega
  obtain ⟨x, hx⟩ : ∃ x, x = q i := ⟨_, rfl⟩
  obtain ⟨y, hy⟩ : ∃ y, y = q j := ⟨_, rfl⟩
  rw [← hx] at c1 c2 ⊢
  rw [← hy] at c3 c4 ⊢
  clear hx hy hm hp hw hr
  go_enter Try.func68, Try.ntmps68
  go_wp2
  go_still_tail 14, (by kernel_rfl)
  change wpList _ _ _ _ _ w.drew
  go_wp2_with (go_at_call 72; refine (before_I x y _).mono ?_; rintro e w' ⟨rfl, hb'⟩)
  go_ret
  exact ⟨rfl, (below_drew w).trans hb'⟩
end Go.Proofs.Ytgpnpopmlommaaa
