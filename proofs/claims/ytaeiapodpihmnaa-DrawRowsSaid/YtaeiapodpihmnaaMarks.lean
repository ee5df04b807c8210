/- A block of marks, one for each place. -/
import Derived.Test.YtaeiapodpihmnaaData
namespace Go.Proofs.Ytaeiapodpihmnaa
open Go.RowKit
set_option linter.unusedVariables false
/-- Block H tells which places have been met. -/
def MarksAre (w : World) (H n : Nat) (g : Nat → Bool) : Prop := ∃ cur, w.heap[H]? = some (.cells cur 4 (0, 0)) ∧ cur.size = n ∧ ∀ k, k < n → cur[k]? = some (.bool (g k))
theorem MarksAre.cell {w : World} {H n k : Nat} {g : Nat → Bool} (h : MarksAre w H n g) (hk : k < n) : w.cell? ⟨H, k, none⟩ = some (.bool (g k)) := by
  obtain ⟨cur, h1, _, h2⟩ := h
  simp [World.cell?, h1, h2 k hk]
theorem MarksAre.free {w : World} {H n : Nat} {g : Nat → Bool} (h : MarksAre w H n g) (k : Nat) : w.frozen? ⟨H, k, none⟩ = false := by
  obtain ⟨cur, h1, _⟩ := h
  simp [World.frozen?, h1]
theorem MarksAre.keep {w w' : World} {H n : Nat} {g : Nat → Bool} (h : MarksAre w H n g) (hb : w'.heap[H]? = w.heap[H]?) : MarksAre w' H n g := by
  obtain ⟨cur, h1, r⟩ := h
  exact ⟨cur, hb.trans h1, r⟩
theorem MarksAre.put {w : World} {H n k : Nat} {g : Nat → Bool} (h : MarksAre w H n g) (hk : k < n) : MarksAre (w.setCell ⟨H, k, none⟩ (.bool true)) H n (fun j => if j = k then true else g j) := by
  obtain ⟨cur, h1, h2, h3⟩ := h
  refine ⟨cur.setIfInBounds k (.bool true), ?_, by simpa using h2, fun j hj => ?_⟩
  · simp [World.setCell, Array.getElem?_modify, h1]
  · by_cases e : j = k
    · subst e
      rw [Array.getElem?_setIfInBounds_self_of_lt (by omega)]
      show _ = some (Value.bool (if j = j then true else g j))
      rw [if_pos rfl]
    · rw [Array.getElem?_setIfInBounds_ne (by omega), h3 j hj]
      show _ = some (Value.bool (if j = k then true else g j))
      rw [if_neg e]
theorem info_b : (Try.prog.info? 4).map (fun i => (i.zero, i.size, i.bytes)) = some (some (.bool false), 1, 1) := by kernel_rfl
theorem madeMarks_at {n k : Nat} (hk : k < n) : (madeCells #[Value.bool false] n)[k]? = some (.bool false) := by
  unfold madeCells
  simp [hk, Nat.mod_one]
/-- Is place k among the first i? -/
def metB (f : Nat → Int) (i k : Nat) : Bool := (List.range i).any fun j => f j == (k : Int)
theorem metB_none (f : Nat → Int) (k : Nat) : metB f 0 k = false := rfl
theorem metB_next {f : Nat → Int} {i p : Nat} (hp : f i = (p : Int)) (k : Nat) : metB f (i + 1) k = if k = p then true else metB f i k := by
  unfold metB
  rw [List.range_succ, List.any_append]
  simp only [List.any_cons, List.any_nil, Bool.or_false]
  by_cases e : k = p
  · subst e; rw [hp]; simp
  · have : (f i == (k : Int)) = false := by rw [hp]; simp; omega
    rw [this, if_neg e, Bool.or_false]
end Go.Proofs.Ytaeiapodpihmnaa
