/- Instances whose lists are the call's own: rows of customers with rows of patterns, rows of rows of numbers; that they stay so, and that they read as instances. -/
import Derived.Test.YtmfahjghfpckeaaDoorInstGoodB
import Derived.Test.YtmfahjghfpckeaaDoorEachMem
import Derived.Deep.AppendLies
namespace Go.Proofs.YtmfahjghfpckeaaDoor
open Go.RowKit
set_option linter.unusedVariables false
/-- A customer's eight cells. -/
def cell8 (c : Cust) (P : Option Addr) (k : Nat) : List Value := [.int .i64 c.kind, .int .i64 c.demand, .slice P c.pats.length k, .int .i64 c.rate, .int .i64 c.size, .int .i64 c.start, .int .i64 c.rule, .int .i64 c.hold]
/-- Customers, and where their patterns lie. -/
abbrev CRow := List (Cust × Option Addr × Nat)
def cellsC (l : CRow) : List Value := l.flatMap fun t => cell8 t.1 t.2.1 t.2.2
theorem cellsC_snoc (l : CRow) (t : Cust × Option Addr × Nat) : cellsC (l ++ [t]) = cellsC l ++ cell8 t.1 t.2.1 t.2.2 := by simp [cellsC]
theorem cellsC_at : ∀ {l : CRow} {i : Nat} (hi : i < l.length) (j : Nat), j < 8 → (cellsC l)[i * 8 + j]? = (cell8 (l[i]).1 (l[i]).2.1 (l[i]).2.2)[j]?
  | t :: r, 0, _, j, hj => by
    show (cell8 t.1 t.2.1 t.2.2 ++ cellsC r)[0 * 8 + j]? = _
    rw [Nat.zero_mul, Nat.zero_add, List.getElem?_append_left (by show j < 8; exact hj)]
    rfl
  | t :: r, i + 1, hi, j, hj => by
    have := cellsC_at (l := r) (i := i) (by simpa using hi) j hj
    show (cell8 t.1 t.2.1 t.2.2 ++ cellsC r)[(i + 1) * 8 + j]? = _
    rw [List.getElem?_append_right (by show 8 ≤ _; omega)]
    have e : (i + 1) * 8 + j - (cell8 t.1 t.2.1 t.2.2).length = i * 8 + j := by show (i + 1) * 8 + j - 8 = _; omega
    rw [e, this]
    rfl
structure OwnCusts (base : Nat) (W : World) (v : Value) (l : CRow) : Prop where
  row : W.ownsRow base 45 8 v l.length (cellsC l)
  pats : ∀ t ∈ l, OwnP W base (.slice t.2.1 t.1.pats.length t.2.2) t.1.pats
structure OwnDist (base : Nat) (W : World) (v : Value) (rows : List (List Int)) : Prop where
  row : ∃ us, W.ownsRow base 33 1 v rows.length us ∧ Fit (fun r u => W.ownsRow base 3 1 u r.length (r.map (Value.int .i64))) rows us
theorem OwnCusts.nil (base : Nat) (W : World) : OwnCusts base W (.slice none 0 0) [] := ⟨World.ownsRow_nil _ _ _ _, fun t ht => by simp at ht⟩
theorem OwnDist.nil (base : Nat) (W : World) : OwnDist base W (.slice none 0 0) [] := ⟨[], World.ownsRow_nil _ _ _ _, .nil⟩
section
variable {base : Nat} {W W' : World} {v u : Value} {l : CRow} {rows : List (List Int)}
theorem OwnCusts.keep (h : OwnCusts base W v l) (hb : Below W.heap.size W W') : OwnCusts base W' v l := ⟨own_keep h.row hb, fun t ht => own_keep (h.pats t ht) hb⟩
theorem OwnDist.keep (h : OwnDist base W v rows) (hb : Below W.heap.size W W') : OwnDist base W' v rows := by
  obtain ⟨us, h1, h2⟩ := h.row
  exact ⟨us, own_keep h1 hb, h2.mono fun r u hr => own_keep hr hb⟩
theorem OwnCusts.far (h : OwnCusts base W v l) {p : Addr} (hp : p.block < base) (x : Value) : OwnCusts base (W.setCell p x) v l := ⟨own_far h.row hp x, fun t ht => own_far (h.pats t ht) hp x⟩
theorem OwnDist.far (h : OwnDist base W v rows) {p : Addr} (hp : p.block < base) (x : Value) : OwnDist base (W.setCell p x) v rows := by
  obtain ⟨us, h1, h2⟩ := h.row
  exact ⟨us, own_far h1 hp x, h2.mono fun r u hr => own_far hr hp x⟩
theorem OwnCusts.down {base' : Nat} (h : OwnCusts base W v l) (hb : base' ≤ base) : OwnCusts base' W v l := ⟨own_down h.row hb, fun t ht => own_down (h.pats t ht) hb⟩
theorem OwnDist.down {base' : Nat} (h : OwnDist base W v rows) (hb : base' ≤ base) : OwnDist base' W v rows := by
  obtain ⟨us, h1, h2⟩ := h.row
  exact ⟨us, own_down h1 hb, h2.mono fun r u hr => own_down hr hb⟩
/-- Another row grows. -/
theorem OwnDist.grown_c (h : OwnDist base W u rows) (hv : W.ownsRow base 45 8 v l.length (cellsC l)) (hg : W.grownBy W' v.ownBlock) : OwnDist base W' u rows := by
  obtain ⟨us, h1, h2⟩ := h.row
  exact ⟨us, own_same h1 (.grown (Cs := []) hv (by decide) hg) (by simp), h2.mono fun r u hr => own_same hr (.grown (Cs := []) hv (by decide) hg) (by simp)⟩
theorem OwnCusts.pats_grown (h : OwnCusts base W v l) (hg : W.grownBy W' v.ownBlock) : ∀ t ∈ l, OwnP W' base (.slice t.2.1 t.1.pats.length t.2.2) t.1.pats := fun t ht => own_same (h.pats t ht) (.grown (Cs := []) h.row (by decide) hg) (by simp)
theorem OwnCusts.more (h : OwnCusts base W v l) (hg : W.grownBy W' v.ownBlock) {v' : Value} {t : Cust × Option Addr × Nat} (ht : OwnP W base (.slice t.2.1 t.1.pats.length t.2.2) t.1.pats)
    (hown : W'.ownsRow base 45 8 v' (l.length + 1) (cellsC l ++ cell8 t.1 t.2.1 t.2.2)) : OwnCusts base W' v' (l ++ [t]) := by
  refine ⟨?_, fun s hs => ?_⟩
  · rw [List.length_append, cellsC_snoc]; exact hown
  · rcases List.mem_append.1 hs with e | e
    · exact h.pats_grown hg s e
    · simp at e; subst e
      exact own_same ht (.grown (Cs := []) h.row (by decide) hg) (by simp)
theorem OwnCusts.grown_d (h : OwnCusts base W v l) {us : List Value} {n : Nat} (hv : W.ownsRow base 33 1 u n us) (hg : W.grownBy W' u.ownBlock) : OwnCusts base W' v l :=
  ⟨own_same h.row (.grown (Cs := []) hv (by decide) hg) (by simp), fun t ht => own_same (h.pats t ht) (.grown (Cs := []) hv (by decide) hg) (by simp)⟩
theorem own_alloc {w : World} {b n size : Nat} {e : TypeId} {x : Value} {xs : List Value} (h : w.ownsRow b e size x n xs) (o : Obj) : (w.alloc o).ownsRow b e size x n xs := own_keep h (below_alloc _ _)
/-- What an own row of patterns reads as. -/
theorem OwnP.nums {ps : List Int} {P : Option Addr} {n k : Nat} (h : OwnP W base (.slice P n k) ps) (hn : n = ps.length) : Nums .u64 W P ps.length ps := by
  subst hn
  exact Nums.of_own h
theorem OwnCusts.len (h : OwnCusts base W v l) : ∃ A k, v = .slice A l.length k ∧ l.length ≤ k := by
  rcases h.row.2 with ⟨rfl, h0⟩ | ⟨g, cap, cur, rfl, _, _, hc, _⟩
  · exact ⟨none, 0, by rw [h0], by rw [h0]; exact Nat.le_refl _⟩
  · exact ⟨_, _, rfl, hc⟩
theorem OwnDist.len (h : OwnDist base W v rows) : ∃ A k, v = .slice A rows.length k ∧ rows.length ≤ k := by
  obtain ⟨us, h1, _⟩ := h.row
  rcases h1.2 with ⟨rfl, h0⟩ | ⟨g, cap, cur, rfl, _, _, hc, _⟩
  · exact ⟨none, 0, by rw [h0], by rw [h0]; exact Nat.le_refl _⟩
  · exact ⟨_, _, rfl, hc⟩
end
end Go.Proofs.YtmfahjghfpckeaaDoor
