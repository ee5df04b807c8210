/- A block of numbers, as a function of the place; nothing of the program but its types' numbers. -/
import Derived.Test.YtaeiapodpihmnaaOnly
import Derived.Laws.MakeOwn
namespace Go.Proofs.Ytaeiapodpihmnaa
open Go.RowKit
set_option linter.unusedVariables false
/-- Two places change what they hold. -/
def swp (d : Nat → Int) (i j : Nat) : Nat → Int := fun k => if k = i then d j else if k = j then d i else d k
theorem swp_left (d : Nat → Int) (i j : Nat) : swp d i j i = d j := if_pos rfl
theorem swp_right (d : Nat → Int) (i j : Nat) : swp d i j j = d i := by
  unfold swp
  by_cases h : j = i
  · rw [if_pos h, h]
  · rw [if_neg h, if_pos rfl]
theorem swp_other (d : Nat → Int) {i j k : Nat} (h : k ≠ i) (g : k ≠ j) : swp d i j k = d k := by unfold swp; rw [if_neg h, if_neg g]
/-- Block D holds the n numbers of d; there is room for C. -/
def DataIs (w : World) (D C n : Nat) (d : Nat → Int) : Prop := ∃ cur, w.heap[D]? = some (.cells cur 3 (0, 0)) ∧ n ≤ C ∧ cur.size = C ∧ ∀ k, k < n → cur[k]? = some (.int .i64 (d k))
theorem DataIs.cell {w : World} {D C n : Nat} {d : Nat → Int} (h : DataIs w D C n d) {k : Nat} (hk : k < n) : w.cell? ⟨D, k, none⟩ = some (.int .i64 (d k)) := by
  obtain ⟨cur, h1, _, _, h2⟩ := h
  simp [World.cell?, h1, h2 k hk]
theorem DataIs.free {w : World} {D C n : Nat} {d : Nat → Int} (h : DataIs w D C n d) (k : Nat) : w.frozen? ⟨D, k, none⟩ = false := by
  obtain ⟨cur, h1, _⟩ := h
  simp [World.frozen?, h1]
theorem DataIs.keep {w w' : World} {D C n : Nat} {d : Nat → Int} (h : DataIs w D C n d) (hb : w'.heap[D]? = w.heap[D]?) : DataIs w' D C n d := by
  obtain ⟨cur, h1, r⟩ := h
  exact ⟨cur, hb.trans h1, r⟩
theorem DataIs.lt {w : World} {D C n : Nat} {d : Nat → Int} (h : DataIs w D C n d) : D < w.heap.size := by
  obtain ⟨cur, h1, _⟩ := h
  exact (Array.getElem?_eq_some_iff.1 h1).1
theorem DataIs.swap {w : World} {D C n : Nat} {d : Nat → Int} (h : DataIs w D C n d) {i j : Nat} (hi : i < n) (hj : j < n) {x y : Int} (hx : x = d i) (hy : y = d j) : DataIs ((w.setCell ⟨D, i, none⟩ (.int .i64 y)).setCell ⟨D, j, none⟩ (.int .i64 x)) D C n (swp d i j) := by
  subst hx; subst hy
  obtain ⟨cur, h1, h2, h3, h4⟩ := h
  refine ⟨(cur.setIfInBounds i (.int .i64 (d j))).setIfInBounds j (.int .i64 (d i)), ?_, h2, by simpa using h3, fun k hk => ?_⟩
  · simp [World.setCell, Array.getElem?_modify, h1]
  · unfold swp
    by_cases e2 : k = j
    · subst e2
      rw [Array.getElem?_setIfInBounds_self_of_lt (by simp; omega)]
      by_cases e1 : k = i
      · subst e1; rw [if_pos rfl]
      · rw [if_neg e1, if_pos rfl]
    · rw [Array.getElem?_setIfInBounds_ne (by omega)]
      by_cases e1 : k = i
      · subst e1
        rw [if_pos rfl, Array.getElem?_setIfInBounds_self_of_lt (by omega)]
      · rw [if_neg e1, if_neg e2, Array.getElem?_setIfInBounds_ne (by omega)]; exact h4 k hk
theorem DataIs.below {w w' : World} {D C n : Nat} {d : Nat → Int} (h : DataIs w D C n d) (hb : Below w.heap.size w w') : DataIs w' D C n d := h.keep (hb.block D h.lt)
/-- The first k places hold themselves. -/
def filled (k : Nat) : Nat → Int := fun j => if j < k then (j : Int) else 0
theorem DataIs.put {w : World} {D C n k : Nat} (h : DataIs w D C n (filled k)) (hk : k < n) : DataIs (w.setCell ⟨D, k, none⟩ (.int .i64 (k : Int))) D C n (filled (k + 1)) := by
  obtain ⟨cur, h1, h2, h3, h4⟩ := h
  refine ⟨cur.setIfInBounds k (.int .i64 (k : Int)), ?_, h2, by simpa using h3, fun j hj => ?_⟩
  · simp [World.setCell, Array.getElem?_modify, h1]
  · by_cases e : j = k
    · subst e
      rw [Array.getElem?_setIfInBounds_self_of_lt (by omega)]
      unfold filled; rw [if_pos (by omega)]
    · rw [Array.getElem?_setIfInBounds_ne (by omega), h4 j hj]
      unfold filled
      by_cases c : j < k
      · rw [if_pos c, if_pos (by omega)]
      · rw [if_neg c, if_neg (by omega)]
theorem info_i : (Try.prog.info? 3).map (fun i => (i.zero, i.size, i.bytes)) = some (some (.int .i64 0), 1, 8) := by kernel_rfl
theorem madeCells_at {n k : Nat} (hk : k < n) : (madeCells #[Value.int .i64 0] n)[k]? = some (.int .i64 0) := by
  unfold madeCells
  simp [hk, Nat.mod_one]
/-- A row that has been made, and filled in no place. -/
theorem DataIs.made {w : World} {n : Nat} : DataIs (w.alloc (.cells (madeCells #[.int .i64 0] n) 3)) w.heap.size n n (filled 0) := by
  refine ⟨madeCells #[.int .i64 0] n, ?_, Nat.le_refl _, size_madeCells _ _, fun k hk => ?_⟩
  · exact BlkIs.fresh _ _ _
  · rw [madeCells_at hk]; rfl
end Go.Proofs.Ytaeiapodpihmnaa
