import Derived.Test.YtedkhdnfbdojcaaDoorK05
import Derived.Test.YtedkhdnfbdojcaaDoorK01
section
/- Rows of texts and of numbers in memory: of the call's own, and slices that read as them; nothing of the program. -/
namespace Go.Proofs.YtedkhdnfbdojcaaDoor
open Go.RowKit
set_option linter.unusedVariables false
/-- A row of texts of the call's own. -/
def RowS (W : World) (base : Nat) (u : Value) (fs : List (List UInt8)) : Prop := W.ownsRow base 9 1 u fs.length (fs.map fun f => Value.string (strL f))
theorem own_base {w : World} {b b' size n : Nat} {t : TypeId} {v : Value} {xs : List Value} (h : w.ownsRow b t size v n xs) (hb : b' ≤ b) : w.ownsRow b' t size v n xs := by
  refine ⟨h.1, ?_⟩
  rcases h.2 with h0 | ⟨g, cap, cur, hv, hg, r⟩
  · exact .inl h0
  · exact .inr ⟨g, cap, cur, hv, by omega, r⟩
theorem RowS.at {w : World} {base : Nat} {u : Value} {fs : List (List UInt8)} (h : RowS w base u fs) {j : Nat} (hj : j < fs.length) : ∃ b c, u = .slice (some ⟨b, 0, none⟩) fs.length c ∧ w.cell? ⟨b, j, none⟩ = some (.string (strL fs[j])) := by
  obtain ⟨g, cap, hv, _, _⟩ := World.ownsRow.form h (by omega)
  subst hv
  refine ⟨g, cap, rfl, ?_⟩
  rw [World.ownsRow.cellAt h j (by omega), List.getElem?_map, List.getElem?_eq_getElem hj]
  rfl
/-- A slice that reads as these texts. -/
def TextsIn (w : World) (A : Option Addr) (xs : List ByteArray) : Prop := 0 < xs.length → ∃ b off, A = some ⟨b, off, none⟩ ∧ ∀ (j : Nat) (hj : j < xs.length), w.cell? ⟨b, off + j, none⟩ = some (.string xs[j])
/-- A slice that reads as these numbers. -/
def NumsIn (w : World) (A : Option Addr) (xs : List Int) : Prop := 0 < xs.length → ∃ b off, A = some ⟨b, off, none⟩ ∧ ∀ (j : Nat) (hj : j < xs.length), w.cell? ⟨b, off + j, none⟩ = some (.int .i64 xs[j])
theorem TextsIn.keep {w w' : World} {A : Option Addr} {xs : List ByteArray} (h : TextsIn w A xs) (hb : Below w.heap.size w w') : TextsIn w' A xs := fun h0 => by
  obtain ⟨b, off, e, hc⟩ := h h0
  exact ⟨b, off, e, fun j hj => (hb.cell (p := ⟨b, off + j, none⟩) (World.block_lt_of_cell? w _ (hc j hj))).trans (hc j hj)⟩
theorem NumsIn.keep {w w' : World} {A : Option Addr} {xs : List Int} (h : NumsIn w A xs) (hb : Below w.heap.size w w') : NumsIn w' A xs := fun h0 => by
  obtain ⟨b, off, e, hc⟩ := h h0
  exact ⟨b, off, e, fun j hj => (hb.cell (p := ⟨b, off + j, none⟩) (World.block_lt_of_cell? w _ (hc j hj))).trans (hc j hj)⟩
/-- A slice that reads as these words. -/
def WordsIn (w : World) (A : Option Addr) (l : List (List UInt8)) : Prop := ∀ (j : Nat) (hj : j < l.length), ∃ b off, A = some ⟨b, off, none⟩ ∧ w.cell? ⟨b, off + j, none⟩ = some (.string (strL l[j]))
theorem WordsIn.keep {w w' : World} {A : Option Addr} {l : List (List UInt8)} (h : WordsIn w A l) (hb : Below w.heap.size w w') : WordsIn w' A l := fun j hj => by
  obtain ⟨b, off, e, hc⟩ := h j hj
  exact ⟨b, off, e, (hb.cell (World.block_lt_of_cell? w _ hc)).trans hc⟩
theorem WordsIn.at {w : World} {A : Option Addr} {l : List (List UInt8)} (h : WordsIn w A l) (h0 : 0 < l.length) : ∃ b off, A = some ⟨b, off, none⟩ ∧ ∀ (j : Nat) (hj : j < l.length), w.cell? ⟨b, off + j, none⟩ = some (.string (strL l[j])) ∧ b < w.heap.size := by
  obtain ⟨b, off, rfl, hc⟩ := h 0 h0
  refine ⟨b, off, rfl, fun j hj => ?_⟩
  obtain ⟨b', off', e, hc'⟩ := h j hj
  injection e with e
  injection e with e1 e2
  subst e1; subst e2
  exact ⟨hc', World.block_lt_of_cell? w _ hc'⟩
theorem WordsIn.texts {w : World} {A : Option Addr} {l : List (List UInt8)} (h : WordsIn w A l) : TextsIn w A (l.map strL) := fun h0 => by
  rw [List.length_map] at h0
  obtain ⟨b, off, e, hc⟩ := h.at h0
  exact ⟨b, off, e, fun j hj => by rw [List.getElem_map]; exact (hc j (by rw [List.length_map] at hj; exact hj)).1⟩
theorem RowS.words {w : World} {base : Nat} {A : Option Addr} {n c : Nat} {l : List (List UInt8)} (h : RowS w base (.slice A n c) l) : WordsIn w A l := fun j hj => by
  obtain ⟨b, c', e, hc⟩ := RowS.at h hj
  injection e with e _ _
  exact ⟨b, 0, e, by rw [Nat.zero_add]; exact hc⟩
theorem WordsIn.drop {w : World} {b off : Nat} {l : List (List UInt8)} (h : WordsIn w (some ⟨b, off, none⟩) l) (k : Nat) : WordsIn w (some ⟨b, off + k, none⟩) (l.drop k) := fun j hj => by
  rw [List.length_drop] at hj
  obtain ⟨b', off', e, hc⟩ := h (k + j) (by omega)
  injection e with e
  injection e with e1 e2
  subst e1; subst e2
  refine ⟨b, off + k, rfl, ?_⟩
  rw [List.getElem_drop, Nat.add_assoc]
  exact hc
/-- A row of words that has just been laid. -/
theorem words_lit (w : World) (t : TypeId) (ws : List (List UInt8)) : WordsIn (w.alloc (.cells (ws.map fun x => Value.string (strL x)).toArray t)) (some ⟨w.heap.size, 0, none⟩) ws := fun j hj => by
  refine ⟨_, _, rfl, ?_⟩
  rw [(BlkIs.fresh w t (ws.map fun x => Value.string (strL x)).toArray).cellAt, Nat.zero_add]
  simp [List.getElem?_eq_getElem hj]
theorem row_lit (w : World) {base n : Nat} (hb : base ≤ w.heap.size) (ws : List (List UInt8)) (hn : ws.length = n) (hm : n ≤ maxLen) : RowS (w.alloc (.cells (ws.map fun x => Value.string (strL x)).toArray 9)) base (.slice (some ⟨w.heap.size, 0, none⟩) n n) ws := by
  subst hn
  exact ⟨by simp, .inr ⟨w.heap.size, ws.length, _, rfl, hb, heap_alloc_new w _, Nat.le_refl _, hm, by simp, by simp [List.take_of_length_le]⟩⟩
theorem info_str : (Tryd.prog.info? 9).map (fun i => (i.zero, i.size, i.bytes)) = some (some (.string ByteArray.empty), 1, 16) := by kernel_rfl
end Go.Proofs.YtedkhdnfbdojcaaDoor
end
