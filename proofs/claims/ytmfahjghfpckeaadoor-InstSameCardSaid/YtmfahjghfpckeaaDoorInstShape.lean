/- Stores of numbers where numbers lie: an instance of the call's own stays one, of the same lengths. -/
import Derived.Test.YtmfahjghfpckeaaDoorInstPartsL
namespace Go.Proofs.YtmfahjghfpckeaaDoor
open Go.RowKit
set_option linter.unusedVariables false
/-- The same, or a number of the same kind in place of a number. -/
def Like (o o' : Option Value) : Prop := o = o' ∨ ∃ k a b, o = some (.int k a) ∧ o' = some (.int k b) ∧ (Lit.int k b).wf = true
theorem Like.refl (o : Option Value) : Like o o := .inl rfl
theorem Like.trans {a b c : Option Value} (h : Like a b) (k : Like b c) : Like a c := by
  rcases h with rfl | ⟨k1, x, y, rfl, rfl, h3⟩
  · exact k
  · rcases k with rfl | ⟨k2, x2, y2, e, rfl, h4⟩
    · exact .inr ⟨k1, x, y, rfl, rfl, h3⟩
    · injection e with e
      injection e with e1 e2
      subst e1
      exact .inr ⟨k1, x, y2, rfl, rfl, h4⟩
/-- Like, for a number: a number of the same kind. -/
theorem Like.int {k : IntKind} {a : Int} {o : Option Value} (h : Like (some (.int k a)) o) (ha : (Lit.int k a).wf = true) : ∃ b, o = some (.int k b) ∧ (Lit.int k b).wf = true := by
  rcases h with rfl | ⟨k1, x, y, e, rfl, h3⟩
  · exact ⟨a, rfl, ha⟩
  · injection e with e
    injection e with e1 e2
    subst e1
    exact ⟨y, rfl, h3⟩
theorem Like.slice {A : Option Addr} {n c : Nat} {o : Option Value} (h : Like (some (.slice A n c)) o) : o = some (.slice A n c) := by
  rcases h with rfl | ⟨k1, x, y, e, rfl, h3⟩
  · rfl
  · simp at e
/-- Nothing but numbers has turned. -/
def Shape (w w' : World) : Prop := ∀ (g : Nat) (cur : Array Value) (t : TypeId), w.heap[g]? = some (Obj.cells cur t (0, 0)) → ∃ cur' : Array Value, w'.heap[g]? = some (Obj.cells cur' t (0, 0)) ∧ cur'.size = cur.size ∧ ∀ j : Nat, Like cur[j]? cur'[j]?
theorem Shape.refl (w : World) : Shape w w := fun g cur t h => ⟨cur, h, rfl, fun j => .refl _⟩
theorem Shape.trans {a b c : World} (h : Shape a b) (k : Shape b c) : Shape a c := fun g cur t hg => by
  obtain ⟨c1, h1, h2, h3⟩ := h g cur t hg
  obtain ⟨c2, k1, k2, k3⟩ := k g c1 t h1
  exact ⟨c2, k1, k2.trans h2, fun j => (h3 j).trans (k3 j)⟩
theorem Shape.of_below {w w' : World} (h : Below w.heap.size w w') : Shape w w' := fun g cur t hg => ⟨cur, (h.block g (Array.getElem?_eq_some_iff.1 hg).1).trans hg, rfl, fun j => .refl _⟩
theorem Shape.store {w : World} {g off : Nat} {k : IntKind} {a b : Int} (hc : w.cell? ⟨g, off, none⟩ = some (.int k a)) (hb : (Lit.int k b).wf = true) : Shape w (w.setCell ⟨g, off, none⟩ (.int k b)) := fun g' cur t hg => by
  by_cases e : g' = g
  · subst e
    refine ⟨_, heap_setCell_same w g' off cur t _ hg, by simp, fun j => ?_⟩
    rw [cell_of_row w g' off cur t (0, 0) hg] at hc
    rw [Array.getElem?_setIfInBounds]
    by_cases ej : off = j
    · subst ej
      rw [if_pos rfl, if_pos (Array.getElem?_eq_some_iff.1 hc).1]
      exact .inr ⟨k, a, b, hc, rfl, hb⟩
    · rw [if_neg ej]
      exact .refl _
  · exact ⟨cur, (heap_setCell_other w ⟨g, off, none⟩ g' _ e).trans hg, rfl, fun j => .refl _⟩
/-- A row of the call's own. -/
theorem Shape.row {w w' : World} (hs : Shape w w') {base : Nat} {e : TypeId} {size n : Nat} {v : Value} {xs : List Value} (h : w.ownsRow base e size v n xs) : ∃ xs', w'.ownsRow base e size v n xs' ∧ xs'.length = xs.length ∧ ∀ j : Nat, Like xs[j]? xs'[j]? := by
  rcases h.2 with ⟨rfl, rfl⟩ | ⟨g, cap, cur, hv, hb, hg, h1, h2, h3, h4⟩
  · exact ⟨xs, ⟨h.1, .inl ⟨rfl, rfl⟩⟩, rfl, fun j => .refl _⟩
  · obtain ⟨c', k1, k2, k3⟩ := hs g cur e hg
    have hl : (c'.toList.take (n * size)).length = n * size := by
      rw [List.length_take, Array.length_toList, k2, h3]
      exact Nat.min_eq_left (Nat.mul_le_mul_right _ h1)
    refine ⟨c'.toList.take (n * size), ⟨hl, .inr ⟨g, cap, c', hv, hb, k1, h1, h2, k2.trans h3, rfl⟩⟩, hl.trans h.1.symm, fun j => ?_⟩
    rw [← h4, List.getElem?_take, List.getElem?_take]
    split
    · have := k3 j
      simpa using this
    · exact .refl _
/-- A row of numbers of the call's own. -/
theorem Shape.nums {w w' : World} (hs : Shape w w') {base : Nat} {e : TypeId} {k : IntKind} {v : Value} {r : List Int} (h : w.ownsRow base e 1 v r.length (r.map (Value.int k))) (hw : ∀ z ∈ r, (Lit.int k z).wf = true) :
    ∃ r' : List Int, r'.length = r.length ∧ (∀ z ∈ r', (Lit.int k z).wf = true) ∧ w'.ownsRow base e 1 v r'.length (r'.map (Value.int k)) := by
  obtain ⟨xs', h1, h2, h3⟩ := hs.row h
  rw [List.length_map] at h2
  obtain ⟨r', e1, e2⟩ := list_of (n := r.length) (Q := fun (i : Nat) (z : Int) => xs'[i]? = some (.int k z) ∧ (Lit.int k z).wf = true) fun i hi => by
    have := h3 i
    rw [List.getElem?_map, List.getElem?_eq_getElem hi] at this
    exact Like.int this (hw _ (List.getElem_mem hi))
  have e3 : xs' = r'.map (Value.int k) := by
    refine List.ext_getElem? fun i => ?_
    by_cases hi : i < r'.length
    · rw [(e2 i hi).1, List.getElem?_map, List.getElem?_eq_getElem hi]
      rfl
    · rw [List.getElem?_eq_none (by omega), List.getElem?_eq_none (by rw [List.length_map]; omega)]
  refine ⟨r', e1, fun z hz => ?_, by rw [e1, ← e3]; exact h1⟩
  obtain ⟨i, hi, rfl⟩ := List.getElem_of_mem hz
  exact (e2 i hi).2
theorem fit_of {α : Type} {R : α → Value → Prop} : ∀ {xs : List α} {us : List Value}, xs.length = us.length → (∀ i (h1 : i < xs.length) (h2 : i < us.length), R xs[i] us[i]) → Fit R xs us
  | [], [], _, _ => trivial
  | _ :: _, _ :: _, h, hR => ⟨hR 0 (by simp) (by simp), fit_of (by simpa using h) fun i h1 h2 => hR (i + 1) (by simpa using h1) (by simpa using h2)⟩
  | [], _ :: _, h, _ => by simp at h
  | _ :: _, [], h, _ => by simp at h
theorem fit_len {α : Type} {R : α → Value → Prop} : ∀ {xs : List α} {us : List Value}, Fit R xs us → xs.length = us.length
  | [], [], _ => rfl
  | _ :: _, _ :: _, h => by simp [fit_len h.2]
theorem Shape.dist {w w' : World} (hs : Shape w w') {base : Nat} {v : Value} {rows : List (List Int)} (h : OwnDist base w v rows) (hw : ∀ r ∈ rows, ∀ z ∈ r, W64 z) :
    ∃ rows' : List (List Int), rows'.length = rows.length ∧ (∀ i (h1 : i < rows.length) (h2 : i < rows'.length), rows'[i].length = rows[i].length) ∧ (∀ r ∈ rows', ∀ z ∈ r, W64 z) ∧ OwnDist base w' v rows' := by
  obtain ⟨us, h1, h2⟩ := h
  obtain ⟨us', k1, k2, k3⟩ := hs.row h1
  have hul := fit_len h2
  have hue : us' = us := by
    refine List.ext_getElem? fun i => ?_
    have := k3 i
    by_cases hi : i < us.length
    · obtain ⟨_, hr⟩ := h2.at i (by omega)
      obtain ⟨P, c, e, _⟩ := own_form hr
      rw [List.getElem?_eq_getElem hi, e] at this
      rw [List.getElem?_eq_getElem hi, e]
      exact Like.slice this
    · rw [List.getElem?_eq_none (by omega), List.getElem?_eq_none (by omega)]
  subst hue
  obtain ⟨rows', e1, e2⟩ := list_of (n := rows.length) (Q := fun (i : Nat) (r : List Int) => ∃ (h1 : i < rows.length) (h2 : i < us'.length), r.length = rows[i].length ∧ (∀ z ∈ r, (Lit.int .i64 z).wf = true) ∧ w'.ownsRow base 3 1 us'[i] r.length (r.map (Value.int .i64))) fun i hi => by
    obtain ⟨hu, hr⟩ := h2.at i hi
    obtain ⟨r', a1, a2, a3⟩ := hs.nums hr (fun z hz => wf_iff.2 (hw _ (List.getElem_mem hi) z hz))
    exact ⟨r', hi, hu, a1, a2, a3⟩
  refine ⟨rows', e1, fun i h1 h2 => ?_, fun r hr z hz => ?_, us', by rw [e1]; exact k1, fit_of (by omega) fun i h1 h2 => ?_⟩
  · obtain ⟨_, _, a1, _⟩ := e2 i h2
    exact a1
  · obtain ⟨i, hi, rfl⟩ := List.getElem_of_mem hr
    obtain ⟨_, _, _, a2, _⟩ := e2 i hi
    exact wf_iff.1 (a2 z hz)
  · obtain ⟨_, _, _, _, a3⟩ := e2 i h1
    exact a3
theorem cellsC_len : ∀ l : CRow, (cellsC l).length = 8 * l.length
  | [] => rfl
  | t :: r => by
    show (cell8 t.1 t.2.1 t.2.2 ++ cellsC r).length = _
    rw [List.length_append, cellsC_len r, List.length_cons]
    show 8 + _ = _
    omega
theorem Shape.custs {w w' : World} (hs : Shape w w') {base : Nat} {v : Value} {l : CRow} (h : OwnCusts base w v l) (hw : ∀ t ∈ l, t.1.Wf) :
    ∃ l' : CRow, l'.length = l.length ∧ (∀ t ∈ l', t.1.Wf) ∧ OwnCusts base w' v l' := by
  obtain ⟨xs', k1, k2, k3⟩ := hs.row h.row
  have hn := cellsC_len l
  obtain ⟨l', e1, e2⟩ := list_of (n := l.length) (Q := fun (i : Nat) (t : Cust × Option Addr × Nat) => (∀ j, j < 8 → xs'[i * 8 + j]? = (cell8 t.1 t.2.1 t.2.2)[j]?) ∧ t.1.Wf ∧ OwnP w' base (.slice t.2.1 t.1.pats.length t.2.2) t.1.pats) fun i hi => by
    have hwf := hw _ (List.getElem_mem hi)
    have hL : ∀ j, j < 8 → Like (cell8 (l[i]).1 (l[i]).2.1 (l[i]).2.2)[j]? xs'[i * 8 + j]? := fun j hj => by
      have := k3 (i * 8 + j)
      rwa [cellsC_at hi j hj] at this
    obtain ⟨p', a1, a2, a3⟩ := hs.nums (h.pats _ (List.getElem_mem hi)) (fun z hz => wfu_iff.2 (hwf.pats z hz))
    obtain ⟨b0, f0, g0⟩ := Like.int (hL 0 (by omega)) (wf_iff.2 hwf.kind)
    obtain ⟨b1, f1, g1⟩ := Like.int (hL 1 (by omega)) (wf_iff.2 hwf.demand)
    have f2 := Like.slice (hL 2 (by omega))
    obtain ⟨b3, f3, g3⟩ := Like.int (hL 3 (by omega)) (wf_iff.2 hwf.rate)
    obtain ⟨b4, f4, g4⟩ := Like.int (hL 4 (by omega)) (wf_iff.2 hwf.size)
    obtain ⟨b5, f5, g5⟩ := Like.int (hL 5 (by omega)) (wf_iff.2 hwf.start)
    obtain ⟨b6, f6, g6⟩ := Like.int (hL 6 (by omega)) (wf_iff.2 hwf.rule)
    obtain ⟨b7, f7, g7⟩ := Like.int (hL 7 (by omega)) (wf_iff.2 hwf.hold)
    refine ⟨({ kind := b0, demand := b1, pats := p', rate := b3, size := b4, start := b5, rule := b6, hold := b7 }, l[i].2.1, l[i].2.2), fun j hj => ?_, ⟨wf_iff.1 g0, wf_iff.1 g1, wf_iff.1 g3, wf_iff.1 g4, wf_iff.1 g5, wf_iff.1 g6, wf_iff.1 g7, fun z hz => wfu_iff.1 (a2 z hz), by show p'.length ≤ _; rw [a1]; exact hwf.len⟩, ?_⟩
    · match j, hj with
      | 0, _ => exact f0
      | 1, _ => exact f1
      | 2, _ => rw [f2, ← a1]; rfl
      | 3, _ => exact f3
      | 4, _ => exact f4
      | 5, _ => exact f5
      | 6, _ => exact f6
      | 7, _ => exact f7
    · show OwnP w' base (.slice l[i].2.1 p'.length l[i].2.2) p'
      rw [a1]
      unfold OwnP
      exact a3
  have e3 : xs' = cellsC l' := by
    refine List.ext_getElem? fun q => ?_
    by_cases hq : q < 8 * l.length
    · have h1 := (e2 (q / 8) (by omega)).1 (q % 8) (by omega)
      have h2 := cellsC_at (l := l') (i := q / 8) (by omega) (q % 8) (by omega)
      rw [show q / 8 * 8 + q % 8 = q by omega] at h1 h2
      rw [h1, h2]
    · rw [List.getElem?_eq_none (by omega), List.getElem?_eq_none (by rw [cellsC_len]; omega)]
  refine ⟨l', e1, fun t ht => ?_, by rw [e1, ← e3]; exact k1, fun t ht => ?_⟩
  · obtain ⟨i, hi, rfl⟩ := List.getElem_of_mem ht
    exact (e2 i hi).2.1
  · obtain ⟨i, hi, rfl⟩ := List.getElem_of_mem ht
    exact (e2 i hi).2.2
/-- An instance of the call's own, after stores of numbers where numbers lie. -/
theorem Shape.inst {w w' : World} (hs : Shape w w') {base : Nat} {y : Inst} {A : Option Addr} {c : Nat} {B : Option Addr} {d : Nat} (h : OwnInst base w y A c B d) (hy : y.Wf) :
    ∃ (cs : List Cust) (ds : List (List Int)), cs.length = y.custs.length ∧ ds.length = y.dist.length ∧ (∀ i (h1 : i < y.dist.length) (h2 : i < ds.length), ds[i].length = y.dist[i].length) ∧ ∀ a b e f, W64 a → W64 b → W64 e → W64 f → ({ days := a, veh := b, cap := e, len := f, custs := cs, dist := ds } : Inst).Wf ∧ OwnInst base w' { days := a, veh := b, cap := e, len := f, custs := cs, dist := ds } A c B d := by
  obtain ⟨⟨l, h1, h2⟩, h3⟩ := h
  obtain ⟨l', a1, a2, a3⟩ := hs.custs h2 (fun t ht => hy.custs _ (by rw [← h1]; exact List.mem_map_of_mem ht))
  obtain ⟨ds, b1, b2, b3, b4⟩ := hs.dist h3 (fun r hr => (hy.dist r hr).2)
  have hl : l.length = y.custs.length := by rw [← h1, List.length_map]
  refine ⟨l'.map (·.1), ds, by rw [List.length_map, a1, hl], b1, b2, fun a b e f ha hb he hf => ⟨⟨ha, hb, he, hf, fun q hq => ?_, fun r hr => ⟨?_, b3 r hr⟩, ?_, ?_⟩, ⟨l', rfl, ?_⟩, ?_⟩⟩
  · obtain ⟨t, ht, rfl⟩ := List.mem_map.1 hq
    exact a2 t ht
  · obtain ⟨i, hi, rfl⟩ := List.getElem_of_mem (show r ∈ ds from hr)
    have hi' : i < y.dist.length := by omega
    rw [b2 i hi' hi]
    exact (hy.dist _ (List.getElem_mem hi')).1
  · show (l'.map (·.1)).length ≤ maxLen
    rw [List.length_map, a1, hl]; exact hy.n
  · show ds.length ≤ maxLen
    rw [b1]; exact hy.m
  · show OwnCusts base w' (.slice A (l'.map (·.1)).length c) l'
    rw [List.length_map, a1, hl]; exact a3
  · show OwnDist base w' (.slice B ds.length d) ds
    rw [b1]; exact b4
end Go.Proofs.YtmfahjghfpckeaaDoor
