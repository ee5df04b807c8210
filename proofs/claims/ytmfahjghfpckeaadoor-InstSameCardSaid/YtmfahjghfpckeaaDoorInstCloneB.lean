/- An instance with lists of its own: the code's Clone. -/
import Derived.Test.YtmfahjghfpckeaaDoorInstClone
import Derived.Deep.RegionWith
namespace Go.Proofs.YtmfahjghfpckeaaDoor
open Go.RowKit
set_option linter.unusedVariables false
theorem SameT.blk {t u : TypeId} {w : World} {g : Nat} {cs : Array Value} (K : BlkIs w g u cs) (hu : t ≠ u) (j : Nat) (v : Value) : SameT t [] w (w.setCell ⟨g, j, none⟩ v) := fun k cs' fz hn hk => by
  by_cases e : k = g
  · subst e
    rw [show w.heap[_]? = _ from K] at hk
    simp at hk
    exact absurd hk.2.1.symm hu
  · exact (heap_setCell_other w ⟨g, j, none⟩ k v e).trans hk
/-- Not much of anything. -/
structure Few (y : Inst) : Prop where
  n : y.custs.length ≤ 1000
  m : y.dist.length ≤ 1000
  p : ∀ c ∈ y.custs, c.pats.length ≤ 1000
  r : ∀ r ∈ y.dist, r.length ≤ 1000
theorem cellsC_set : ∀ (l : CRow) {k : Nat} (hk : k < l.length) (P : Option Addr) (c : Nat), cellsC (l.set k (l[k].1, P, c)) = (cellsC l).set (k * 8 + 2) (.slice P l[k].1.pats.length c)
  | t :: r, 0, _, P, c => rfl
  | t :: r, k + 1, hk, P, c => by
    have hk' : k < r.length := by simpa using hk
    have := cellsC_set r hk' P c
    show cell8 t.1 t.2.1 t.2.2 ++ cellsC (r.set k (r[k].1, P, c)) = (cell8 t.1 t.2.1 t.2.2 ++ cellsC r).set ((k + 1) * 8 + 2) _
    rw [this, List.set_append_right _ _ (by show 8 ≤ _; omega)]
    congr 2
    show k * 8 + 2 = (k + 1) * 8 + 2 - 8
    omega
/-- While the customers' patterns are copied. -/
structure C1At (w : World) (base : Nat) (y : Inst) (A2 : Option Addr) (cap : Nat) (B : Option Addr) (d : Nat) (k : Nat) (l : CRow) (wr : World) : Prop where
  box : BlkIs wr w.heap.size 25 #[.int .i64 y.days, .int .i64 y.veh, .int .i64 y.cap, .int .i64 y.len, .slice A2 y.custs.length cap, .slice B y.dist.length d]
  res : BlkIs wr (w.heap.size + 1) 25 #[.int .i64 0, .int .i64 0, .int .i64 0, .int .i64 0, .slice none 0 0, .slice none 0 0]
  row : wr.ownsRow (w.heap.size + 1 + 1) 45 8 (.slice A2 y.custs.length cap) y.custs.length (cellsC l)
  map : l.map (·.1) = y.custs
  done : ∀ i (hi : i < l.length), i < k → OwnP wr (w.heap.size + 1 + 1) (.slice l[i].2.1 l[i].1.pats.length l[i].2.2) l[i].1.pats
  rest : ∀ i (hi : i < l.length), k ≤ i → OwnP w base (.slice l[i].2.1 l[i].1.pats.length l[i].2.2) l[i].1.pats
  low : Below w.heap.size w wr
section
variable {w wr w2 : World} {base : Nat} {y : Inst} {A2 : Option Addr} {G cap : Nat} {B : Option Addr} {d k : Nat} {l : CRow}
theorem C1At.keep (h : C1At w base y A2 cap B d k l wr) (hb : Below wr.heap.size wr w2) : C1At w base y A2 cap B d k l w2 :=
  ⟨h.box.below hb h.box.lt, h.res.below hb h.res.lt, own_keep h.row hb, h.map, fun i hi hk => own_keep (h.done i hi hk) hb, h.rest, h.low.trans (hb.mono h.low.size)⟩
theorem C1At.len (h : C1At w base y A2 cap B d k l wr) : l.length = y.custs.length := by rw [← h.map, List.length_map]
theorem C1At.ge (h : C1At w base y (some ⟨G, 0, none⟩) cap B d k l wr) : w.heap.size + 1 + 1 ≤ G := (World.ownsRow.lt h.row G rfl).1
/-- The customer's cells. -/
theorem C1At.cells (h : C1At w base y (some ⟨G, 0, none⟩) cap B d k l wr) (hk : k < l.length) : CustAt wr G (k * 8) l[k].1 l[k].2.1 l[k].2.2 ∧ ∀ j, wr.frozen? ⟨G, j, none⟩ = false := by
  have hl := h.len
  have c : ∀ j, j < 8 → wr.cell? ⟨G, k * 8 + j, none⟩ = (cell8 l[k].1 l[k].2.1 l[k].2.2)[j]? := fun j hj => by
    rw [h.row.cellAt (k * 8 + j) (by omega), cellsC_at hk j hj]
  exact ⟨⟨c 0 (by omega), c 1 (by omega), c 2 (by omega), c 3 (by omega), c 4 (by omega), c 5 (by omega), c 6 (by omega), c 7 (by omega)⟩, h.row.frozenAt⟩
/-- The next customer's patterns are copied. -/
theorem C1At.put (h : C1At w base y (some ⟨G, 0, none⟩) cap B d k l wr) (hk : k < l.length) {P : Option Addr} {c : Nat} (hp : OwnP wr (w.heap.size + 1 + 1) (.slice P l[k].1.pats.length c) l[k].1.pats) :
    C1At w base y (some ⟨G, 0, none⟩) cap B d (k + 1) (l.set k (l[k].1, P, c)) (wr.setCell ⟨G, k * 8 + 2, none⟩ (.slice P l[k].1.pats.length c)) := by
  have hg := h.ge
  have st : SameT 46 [] wr (wr.setCell ⟨G, k * 8 + 2, none⟩ (.slice P l[k].1.pats.length c)) := by
    rcases h.row.2 with ⟨e, _⟩ | ⟨g, cap', cur, e, _, hh, _⟩
    · simp at e
    · injection e with e _ _
      injection e with e
      injection e with e
      subst e
      exact SameT.blk (cs := cur) hh (by decide) _ _
  refine ⟨h.box.far (p := ⟨G, k * 8 + 2, none⟩) (by show w.heap.size ≠ G; omega) _, h.res.far (p := ⟨G, k * 8 + 2, none⟩) (by show w.heap.size + 1 ≠ G; omega) _, ?_, ?_, fun i hi hik => ?_, fun i hi hik => ?_, h.low.setCell (p := ⟨G, k * 8 + 2, none⟩) (by show w.heap.size ≤ G; omega) _⟩
  · rw [cellsC_set l hk]
    exact (h.row.stored (k * 8 + 2) _).1
  · rw [List.map_set, h.map]
    have : l[k].1 = y.custs[k]'(by rw [← h.len]; exact hk) := by
      have e : (l.map (·.1))[k]'(by rw [List.length_map]; exact hk) = y.custs[k]'(by rw [← h.len]; exact hk) := by simp only [h.map]
      rw [← e, List.getElem_map]
    rw [this]
    exact List.set_getElem_self _
  · rw [List.length_set] at hi
    by_cases e : i = k
    · subst e
      rw [List.getElem_set_self]
      exact own_same hp st (by simp)
    · rw [List.getElem_set_ne (by omega)]
      exact own_same (h.done i hi (by omega)) st (by simp)
  · rw [List.length_set] at hi
    rw [List.getElem_set_ne (by omega)]
    exact h.rest i hi (by omega)
end
/-- While the rows are copied. -/
structure C2At (w : World) (base : Nat) (y : Inst) (A2 : Option Addr) (c2 : Nat) (D : Option Addr) (cap k : Nat) (us : List Value) (wr : World) : Prop where
  box : BlkIs wr w.heap.size 25 #[.int .i64 y.days, .int .i64 y.veh, .int .i64 y.cap, .int .i64 y.len, .slice A2 y.custs.length c2, .slice D y.dist.length cap]
  res : BlkIs wr (w.heap.size + 1) 25 #[.int .i64 0, .int .i64 0, .int .i64 0, .int .i64 0, .slice none 0 0, .slice none 0 0]
  custs : ∃ l : CRow, l.map (·.1) = y.custs ∧ OwnCusts (w.heap.size + 1 + 1) wr (.slice A2 y.custs.length c2) l
  row : wr.ownsRow (w.heap.size + 1 + 1) 33 1 (.slice D y.dist.length cap) y.dist.length us
  done : ∀ i (hi : i < us.length) (hi' : i < y.dist.length), i < k → wr.ownsRow (w.heap.size + 1 + 1) 3 1 us[i] y.dist[i].length (y.dist[i].map (Value.int .i64))
  rest : ∀ i (hi : i < us.length) (hi' : i < y.dist.length), k ≤ i → w.ownsRow base 3 1 us[i] y.dist[i].length (y.dist[i].map (Value.int .i64))
  low : Below w.heap.size w wr
section
variable {w wr w2 : World} {base : Nat} {y : Inst} {A2 : Option Addr} {c2 : Nat} {D : Option Addr} {G cap k : Nat} {us : List Value}
theorem C2At.keep (h : C2At w base y A2 c2 D cap k us wr) (hb : Below wr.heap.size wr w2) : C2At w base y A2 c2 D cap k us w2 := by
  obtain ⟨l, h1, h2⟩ := h.custs
  exact ⟨h.box.below hb h.box.lt, h.res.below hb h.res.lt, ⟨l, h1, h2.keep hb⟩, own_keep h.row hb, fun i hi hi' hk => own_keep (h.done i hi hi' hk) hb, h.rest, h.low.trans (hb.mono h.low.size)⟩
theorem C2At.len (h : C2At w base y A2 c2 D cap k us wr) : us.length = y.dist.length := by have := h.row.1; omega
theorem C2At.ge (h : C2At w base y A2 c2 (some ⟨G, 0, none⟩) cap k us wr) : w.heap.size + 1 + 1 ≤ G := (World.ownsRow.lt h.row G rfl).1
theorem C2At.put (h : C2At w base y A2 c2 (some ⟨G, 0, none⟩) cap k us wr) (hk : k < y.dist.length) {v : Value} (hp : wr.ownsRow (w.heap.size + 1 + 1) 3 1 v y.dist[k].length (y.dist[k].map (Value.int .i64))) :
    C2At w base y A2 c2 (some ⟨G, 0, none⟩) cap (k + 1) (us.set k v) (wr.setCell ⟨G, k, none⟩ v) := by
  have hg := h.ge
  have hl := h.len
  have st : ∀ t : TypeId, t ≠ 33 → SameT t [] wr (wr.setCell ⟨G, k, none⟩ v) := fun t ht => by
    rcases h.row.2 with ⟨e, _⟩ | ⟨g, cap', cur, e, _, hh, _⟩
    · simp at e
    · injection e with e _ _
      injection e with e
      injection e with e
      subst e
      exact SameT.blk (cs := cur) hh ht _ _
  obtain ⟨l, h1, h2⟩ := h.custs
  refine ⟨h.box.far (p := ⟨G, k, none⟩) (by show w.heap.size ≠ G; omega) _, h.res.far (p := ⟨G, k, none⟩) (by show w.heap.size + 1 ≠ G; omega) _, ⟨l, h1, own_same h2.row (st _ (by decide)) (by simp), fun t ht => own_same (h2.pats t ht) (st _ (by decide)) (by simp)⟩, (h.row.stored k v).1, fun i hi hi' hik => ?_, fun i hi hi' hik => ?_, h.low.setCell (p := ⟨G, k, none⟩) (by show w.heap.size ≤ G; omega) _⟩
  · rw [List.length_set] at hi
    by_cases e : i = k
    · subst e
      rw [List.getElem_set_self]
      exact own_same hp (st _ (by decide)) (by simp)
    · rw [List.getElem_set_ne (by omega)]
      exact own_same (h.done i hi hi' (by omega)) (st _ (by decide)) (by simp)
  · rw [List.length_set] at hi
    rw [List.getElem_set_ne (by omega)]
    exact h.rest i hi hi' (by omega)
/-- All of them are copied. -/
theorem C2At.own (h : C2At w base y A2 c2 D cap y.dist.length us wr) : OwnInst w.heap.size wr y A2 c2 D cap := by
  obtain ⟨l, h1, h2⟩ := h.custs
  have hl := h.len
  exact ⟨⟨l, h1, h2.down (by omega)⟩, us, own_down h.row (by omega), fit_of hl.symm fun i i1 i2 => own_down (h.done i i2 i1 i1) (by omega)⟩
end
end Go.Proofs.YtmfahjghfpckeaaDoor
