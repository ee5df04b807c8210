import Derived.Test.YtedkhdnfbdojcaaK05
import Derived.Test.YtedkhdnfbdojcaaK06
section
/- A plan that comes in, opened: whatever it reads as is a plan in memory. -/
namespace Go.Proofs.Ytedkhdnfbdojcaa
open Go.RowKit Go.ChangeShapes Go.WideShapes
set_option linter.unusedVariables false
set_option maxRecDepth 20000
section
variable {H : Type} {enc : TypeId × Value → H} {w : World}
theorem stop_open {b o fuel : Nat} {cs : List Value} {x : DataW H × List MemPlace} (hl : cs.length = 2) (hc : ∀ j, j < 2 → w.cell? ⟨b, o + j, none⟩ = cs[j]?)
    (h : DataW.trod enc Try.prog w 0 (fun _ => true) true fuel 34 cs = some x) : ∃ s : StopD, StopAt w b o s ∧ W64 s.1 ∧ W64 s.2 := by
  obtain ⟨xs, n, _, _, _, hxl, hf⟩ := DataW.trod_struct Try.underlying34 h
  have F := fun i f h1 ho hc' hi => field_one (T := 34) hxl hf (i := i) (f := f) h1 ho hc' hi
  have I : ∀ i (hi : i < cs.length) f, (Try.prog.underlying f = some (.int .i64)) → (∃ x, DataW.trod enc Try.prog w 0 (fun _ => true) true n f [cs[i]] = some x) → ∃ z, cs[i] = .int .i64 z ∧ W64 z := fun i hi f hu ⟨x, hx⟩ => by
    obtain ⟨z, e1, _, e3⟩ := DataW.trod_int hu hx
    exact ⟨z, by simpa using e1, wf_iff.1 e3⟩
  obtain ⟨z0, e0, w0⟩ := I 0 (by omega) _ Try.underlying3 (F 0 _ rfl (by kernel_rfl) (by kernel_rfl) (by omega))
  obtain ⟨z1, e1, w1⟩ := I 1 (by omega) _ Try.underlying3 (F 1 _ rfl (by kernel_rfl) (by kernel_rfl) (by omega))
  have G : ∀ j (hj : j < cs.length), w.cell? ⟨b, o + j, none⟩ = some cs[j] := fun j hj => by rw [hc j (by omega), List.getElem?_eq_getElem hj]
  refine ⟨(z0, z1), ⟨?_, ?_⟩, w0, w1⟩
  · have := G 0 (by omega); rw [e0] at this; exact this
  · have := G 1 (by omega); rw [e1] at this; exact this
/-- A tour's stops are the machine's, its list no longer than any. -/
def WfT (t : TourD) : Prop := t.length ≤ maxLen ∧ ∀ s ∈ t, W64 s.1 ∧ W64 s.2
def WfD (d : DayD) : Prop := d.length ≤ maxLen ∧ ∀ t ∈ d, WfT t
theorem all_of {α : Type} {l : List α} {Q : α → Prop} (h : ∀ i (hi : i < l.length), Q l[i]) : ∀ a ∈ l, Q a := fun a ha => by
  obtain ⟨i, hi, rfl⟩ := List.getElem_of_mem ha
  exact h i hi
theorem tour_open {b o fuel : Nat} {cs : List Value} {x : DataW H × List MemPlace} (hl : cs.length = 1) (hc : ∀ j, j < 1 → w.cell? ⟨b, o + j, none⟩ = cs[j]?)
    (h : DataW.trod enc Try.prog w 0 (fun _ => true) true fuel 32 cs = some x) : ∃ t : TourD, TourAt w b o t ∧ WfT t := by
  obtain ⟨xs, n, _, _, _, hxl, hf⟩ := DataW.trod_struct Try.underlying32 h
  obtain ⟨x0, hx0⟩ := field_one (T := 32) hxl hf (i := 0) rfl (by kernel_rfl) (by kernel_rfl) (by omega)
  obtain ⟨A, c, l, e, h1, h2, h3⟩ := slice_open (α := StopD) 2 (fun b o s => StopAt w b o s ∧ W64 s.1 ∧ W64 s.2) Try.underlying30 (by kernel_rfl) (by decide) hx0 (fun b o fuel cs x hl hc h => stop_open hl hc h)
  have G := hc 0 (by omega)
  rw [List.getElem?_eq_getElem (by omega), e] at G
  exact ⟨l, ⟨A, c, G, fun i hi => by obtain ⟨b, off, e, r, _⟩ := h3 i hi; exact ⟨b, off, e, r⟩, h1⟩, Nat.le_trans h1 h2, all_of fun i hi => by obtain ⟨_, _, _, _, r⟩ := h3 i hi; exact r⟩
theorem day_open {b o fuel : Nat} {cs : List Value} {x : DataW H × List MemPlace} (hl : cs.length = 1) (hc : ∀ j, j < 1 → w.cell? ⟨b, o + j, none⟩ = cs[j]?)
    (h : DataW.trod enc Try.prog w 0 (fun _ => true) true fuel 29 cs = some x) : ∃ d : DayD, DayAt w b o d ∧ WfD d := by
  obtain ⟨xs, n, _, _, _, hxl, hf⟩ := DataW.trod_struct Try.underlying29 h
  obtain ⟨x0, hx0⟩ := field_one (T := 29) hxl hf (i := 0) rfl (by kernel_rfl) (by kernel_rfl) (by omega)
  obtain ⟨A, c, l, e, h1, h2, h3⟩ := slice_open (α := TourD) 1 (fun b o t => TourAt w b o t ∧ WfT t) Try.underlying27 (by kernel_rfl) (by decide) hx0 (fun b o fuel cs x hl hc h => tour_open hl hc h)
  have G := hc 0 (by omega)
  rw [List.getElem?_eq_getElem (by omega), e] at G
  exact ⟨l, ⟨A, c, G, fun i hi => by obtain ⟨b, off, e, r, _⟩ := h3 i hi; exact ⟨b, off, e, r⟩, h1⟩, Nat.le_trans h1 h2, all_of fun i hi => by obtain ⟨_, _, _, _, r⟩ := h3 i hi; exact r⟩
/-- Whatever a plan reads as. -/
theorem plan_open {base : Nat} {v : Value} {d : DataW H} {p : List MemPlace} (k : DataW.Trod enc Try.prog w 0 (fun _ => true) true 24 v d p) (o : Value.okWide Try.prog w .any base 24 v) :
    ∃ q A c, v = planV q A c ∧ PlanIs w A q ∧ WfP q ∧ q.length ≤ c := by
  obtain ⟨cs, rfl, hsz⟩ := okWide_struct Try.underlying24 o
  obtain ⟨fuel, h⟩ := k
  have hcl : cs.toList.length = 1 := by rw [Array.length_toList, hsz]; kernel_rfl
  have hcc : (Value.agg cs).cells.toList = cs.toList := rfl
  rw [hcc] at h
  obtain ⟨xs, n, _, _, _, hxl, hf⟩ := DataW.trod_struct Try.underlying24 h
  obtain ⟨x0, hx0⟩ := field_one (T := 24) hxl hf (i := 0) rfl (by kernel_rfl) (by kernel_rfl) (by omega)
  obtain ⟨A, c, l, e, h1, h2, h3⟩ := slice_open (α := DayD) 1 (fun b o d => DayAt w b o d ∧ WfD d) Try.underlying22 (by kernel_rfl) (by decide) hx0 (fun b o fuel cs x hl hc h => day_open hl hc h)
  have hw : ∀ d ∈ l, WfD d := all_of fun i hi => by obtain ⟨_, _, _, _, r⟩ := h3 i hi; exact r
  refine ⟨l, A, c, ?_, fun i hi => by obtain ⟨b, off, e, r, _⟩ := h3 i hi; exact ⟨b, off, e, r⟩, ⟨Nat.le_trans h1 h2, fun d hd => (hw d hd).1, fun d hd t ht => ((hw d hd).2 t ht).1, fun d hd t ht => ((hw d hd).2 t ht).2⟩, h1⟩
  unfold planV
  have : cs.toList = [.slice A l.length c] := List.ext_getElem (by simpa using hcl) fun i hi _ => by
    have : i = 0 := by omega
    subst this
    exact e
  rw [show cs = #[.slice A l.length c] from Array.toList_inj.1 this]
end
end Go.Proofs.Ytedkhdnfbdojcaa
end
section
/- Stores of numbers where numbers lie, and of nil where lists lie: a plan of the call's own keeps its shape. -/
namespace Go.Proofs.Ytedkhdnfbdojcaa
open Go.RowKit
set_option linter.unusedVariables false
/-- The same, or a number in place of a number, or nil in place of a list. -/
def LikeP (o o' : Option Value) : Prop := o = o' ∨ (∃ k a b, o = some (.int k a) ∧ o' = some (.int k b)) ∨ ∃ A n c, o = some (.slice A n c) ∧ o' = some (.slice none 0 0)
theorem LikeP.int {k : IntKind} {a : Int} {o : Option Value} (h : LikeP (some (.int k a)) o) : ∃ b, o = some (.int k b) := by
  rcases h with rfl | ⟨k1, x, y, e, rfl⟩ | ⟨A, n, c, e, _⟩
  · exact ⟨a, rfl⟩
  · injection e with e
    injection e with e1 e2
    subst e1
    exact ⟨y, rfl⟩
  · simp at e
theorem LikeP.slice {A : Option Addr} {n c : Nat} {o : Option Value} (h : LikeP (some (.slice A n c)) o) : o = some (.slice A n c) ∨ o = some (.slice none 0 0) := by
  rcases h with rfl | ⟨k1, x, y, e, rfl⟩ | ⟨A, n, c, e, rfl⟩
  · exact .inl rfl
  · simp at e
  · exact .inr rfl
def ShapeP (w w' : World) : Prop := ∀ (g : Nat) (cur : Array Value) (t : TypeId), w.heap[g]? = some (Obj.cells cur t (0, 0)) → ∃ cur' : Array Value, w'.heap[g]? = some (Obj.cells cur' t (0, 0)) ∧ cur'.size = cur.size ∧ ∀ j : Nat, LikeP cur[j]? cur'[j]?
theorem ShapeP.store {w : World} {g off : Nat} {x y : Value} (hc : w.cell? ⟨g, off, none⟩ = some x) (hb : LikeP (some x) (some y)) : ShapeP w (w.setCell ⟨g, off, none⟩ y) := fun g' cur t hg => by
  by_cases e : g' = g
  · subst e
    refine ⟨_, heap_setCell_same w g' off cur t _ hg, by simp, fun j => ?_⟩
    rw [cell_of_row w g' off cur t (0, 0) hg] at hc
    rw [Array.getElem?_setIfInBounds]
    by_cases ej : off = j
    · subst ej
      rw [if_pos rfl, if_pos (Array.getElem?_eq_some_iff.1 hc).1, hc]
      exact hb
    · rw [if_neg ej]
      exact .inl rfl
  · exact ⟨cur, (heap_setCell_other w ⟨g, off, none⟩ g' _ e).trans hg, rfl, fun j => .inl rfl⟩
/-- A row of the call's own. -/
theorem ShapeP.row {w w' : World} (hs : ShapeP w w') {base : Nat} {e : TypeId} {size n : Nat} {v : Value} {xs : List Value} (h : w.ownsRow base e size v n xs) : ∃ xs', w'.ownsRow base e size v n xs' ∧ xs'.length = xs.length ∧ ∀ j : Nat, LikeP xs[j]? xs'[j]? := by
  rcases h.2 with ⟨rfl, rfl⟩ | ⟨g, cap, cur, hv, hb, hg, h1, h2, h3, h4⟩
  · exact ⟨xs, ⟨h.1, .inl ⟨rfl, rfl⟩⟩, rfl, fun j => .inl rfl⟩
  · obtain ⟨c', k1, k2, k3⟩ := hs g cur e hg
    have hl : (c'.toList.take (n * size)).length = n * size := by
      rw [List.length_take, Array.length_toList, k2, h3]
      exact Nat.min_eq_left (Nat.mul_le_mul_right _ h1)
    refine ⟨c'.toList.take (n * size), ⟨hl, .inr ⟨g, cap, c', hv, hb, k1, h1, h2, k2.trans h3, rfl⟩⟩, hl.trans h.1.symm, fun j => ?_⟩
    rw [← h4, List.getElem?_take, List.getElem?_take]
    split
    · have := k3 j
      simpa using this
    · exact .inl rfl
section
variable {a b : Nat} {W W' : World} {u v : Value} {n m : Nat} {us vs : List Value}
/-- Lists of stops, of tours, of days, in blocks from a to b, whatever stands in them. -/
def KStops (a b : Nat) (W : World) (u : Value) (n : Nat) : Prop := ∃ t : TourD, t.length = n ∧ OwnStops a W u t ∧ ∀ k, u.ownBlock = some k → k < b
structure KToursAt (a b : Nat) (W : World) (u : Value) (n : Nat) (vs : List Value) : Prop where
  row : W.ownsRow a 32 1 u n vs
  lt : ∀ k, u.ownBlock = some k → k < b
  all : ∀ i (h : i < vs.length), ∃ m, KStops a b W vs[i] m
def KTours (a b : Nat) (W : World) (u : Value) (n : Nat) : Prop := ∃ vs, KToursAt a b W u n vs
structure KDaysAt (a b : Nat) (W : World) (u : Value) (n : Nat) (us : List Value) : Prop where
  row : W.ownsRow a 29 1 u n us
  lt : ∀ k, u.ownBlock = some k → k < b
  all : ∀ i (h : i < us.length), ∃ m, KTours a b W us[i] m
def KDays (a b : Nat) (W : World) (u : Value) (n : Nat) : Prop := ∃ us, KDaysAt a b W u n us
theorem KStops.nil (a b : Nat) (W : World) : KStops a b W (.slice none 0 0) 0 := ⟨[], rfl, OwnStops.nil _ _, by simp [Value.ownBlock]⟩
theorem KTours.nil (a b : Nat) (W : World) : KTours a b W (.slice none 0 0) 0 := ⟨[], World.ownsRow_nil _ _ _ _, by simp [Value.ownBlock], fun i h => by simp at h⟩
theorem KStops.form (h : KStops a b W u n) : ∃ A k, u = .slice A n k := by
  obtain ⟨t, rfl, h1, _⟩ := h
  obtain ⟨A, k, e, _⟩ := OwnStops.len h1
  exact ⟨A, k, e⟩
theorem KTours.form (h : KTours a b W u n) : ∃ A k, u = .slice A n k := by
  obtain ⟨vs, h1⟩ := h
  obtain ⟨A, k, e, _⟩ := own_form h1.row
  exact ⟨A, k, e⟩
theorem KStops.of {t : TourD} (h : OwnStops a W u t) (hb : W.heap.size ≤ b) : KStops a b W u t.length := ⟨t, rfl, h, fun k hk => by have := (World.ownsRow.lt h k hk).2; omega⟩
theorem KTours.of {d : DayD} (h : OwnTours a W u d) (hb : W.heap.size ≤ b) : KTours a b W u d.length := by
  obtain ⟨vs, h1, h2⟩ := h
  refine ⟨vs, h1, fun k hk => by have := (World.ownsRow.lt h1 k hk).2; omega, fun i hi => ?_⟩
  obtain ⟨_, hr⟩ := h2.at i (by have := fit_size h2; omega)
  exact ⟨_, KStops.of hr hb⟩
theorem KDays.of {p : PlanD} (h : OwnDays a W u p) (hb : W.heap.size ≤ b) : KDays a b W u p.length := by
  obtain ⟨vs, h1, h2⟩ := h
  refine ⟨vs, h1, fun k hk => by have := (World.ownsRow.lt h1 k hk).2; omega, fun i hi => ?_⟩
  obtain ⟨_, hr⟩ := h2.at i (by have := fit_size h2; omega)
  exact ⟨_, KTours.of hr hb⟩
theorem KStops.keep (h : KStops a b W u n) (hb : Below W.heap.size W W') : KStops a b W' u n := by
  obtain ⟨t, e, h1, h2⟩ := h
  exact ⟨t, e, h1.keep hb, h2⟩
theorem KTours.keep (h : KTours a b W u n) (hb : Below W.heap.size W W') : KTours a b W' u n := by
  obtain ⟨vs, h1⟩ := h
  exact ⟨vs, own_keep h1.row hb, h1.lt, fun i hi => by obtain ⟨m, hm⟩ := h1.all i hi; exact ⟨m, hm.keep hb⟩⟩
theorem KDays.keep (h : KDays a b W u n) (hb : Below W.heap.size W W') : KDays a b W' u n := by
  obtain ⟨vs, h1⟩ := h
  exact ⟨vs, own_keep h1.row hb, h1.lt, fun i hi => by obtain ⟨m, hm⟩ := h1.all i hi; exact ⟨m, hm.keep hb⟩⟩
theorem KStops.turn (h : KStops a b W u n) (hs : ShapeP W W') : KStops a b W' u n := by
  obtain ⟨t, rfl, h1, h2⟩ := h
  obtain ⟨xs', k1, k2, k3⟩ := hs.row h1
  have hcl := cellsS_len t
  obtain ⟨t', e1, e2⟩ := list_of (n := t.length) (Q := fun (i : Nat) (s : StopD) => xs'[i * 2]? = some (.int .i64 s.1) ∧ xs'[i * 2 + 1]? = some (.int .i64 s.2)) fun i hi => by
    have q1 := k3 (i * 2)
    have q2 := k3 (i * 2 + 1)
    rw [(cellsS_at hi).1] at q1
    rw [(cellsS_at hi).2] at q2
    obtain ⟨b1, f1⟩ := LikeP.int q1
    obtain ⟨b2, f2⟩ := LikeP.int q2
    exact ⟨(b1, b2), f1, f2⟩
  have hx : xs' = cellsS t' := by
    refine List.ext_getElem? fun j => ?_
    by_cases hj : j < t.length * 2
    · have hi : j / 2 < t'.length := by omega
      rcases Nat.mod_two_eq_zero_or_one j with hm | hm
      · have ej : j = j / 2 * 2 := by omega
        rw [ej, (e2 (j / 2) hi).1, (cellsS_at hi).1]
      · have ej : j = j / 2 * 2 + 1 := by omega
        rw [ej, (e2 (j / 2) hi).2, (cellsS_at hi).2]
    · rw [List.getElem?_eq_none (by omega), List.getElem?_eq_none (by rw [cellsS_len]; omega)]
  refine ⟨t', e1, ?_, h2⟩
  unfold OwnStops
  rw [e1, ← hx]
  exact k1
theorem KToursAt.same (h : KToursAt a b W u n vs) (hs : ShapeP W W') (ht : SameT 32 [] W W') : KToursAt a b W' u n vs :=
  ⟨own_same h.row ht (by simp), h.lt, fun i hi => by obtain ⟨m, hm⟩ := h.all i hi; exact ⟨m, hm.turn hs⟩⟩
theorem KTours.turn (h : KTours a b W u n) (hs : ShapeP W W') : KTours a b W' u n := by
  obtain ⟨vs, h1⟩ := h
  obtain ⟨vs', k1, k2, k3⟩ := hs.row h1.row
  refine ⟨vs', k1, h1.lt, fun i hi => ?_⟩
  obtain ⟨m, hm⟩ := h1.all i (by omega)
  obtain ⟨A, k, e⟩ := hm.form
  have := k3 i
  rw [List.getElem?_eq_getElem (by omega), e] at this
  rcases LikeP.slice this with e' | e' <;> rw [List.getElem?_eq_getElem hi] at e'
  · rw [Option.some.inj e', ← e]
    exact ⟨m, hm.turn hs⟩
  · rw [Option.some.inj e']
    exact ⟨0, .nil _ _ _⟩
theorem KDaysAt.same (h : KDaysAt a b W u n us) (hs : ShapeP W W') (ht : SameT 29 [] W W') : KDaysAt a b W' u n us :=
  ⟨own_same h.row ht (by simp), h.lt, fun i hi => by obtain ⟨m, hm⟩ := h.all i hi; exact ⟨m, hm.turn hs⟩⟩
theorem KDays.turn (h : KDays a b W u n) (hs : ShapeP W W') : KDays a b W' u n := by
  obtain ⟨vs, h1⟩ := h
  obtain ⟨vs', k1, k2, k3⟩ := hs.row h1.row
  refine ⟨vs', k1, h1.lt, fun i hi => ?_⟩
  obtain ⟨m, hm⟩ := h1.all i (by omega)
  obtain ⟨A, k, e⟩ := hm.form
  have := k3 i
  rw [List.getElem?_eq_getElem (by omega), e] at this
  rcases LikeP.slice this with e' | e' <;> rw [List.getElem?_eq_getElem hi] at e'
  · rw [Option.some.inj e', ← e]
    exact ⟨m, hm.turn hs⟩
  · rw [Option.some.inj e']
    exact ⟨0, .nil _ _ _⟩
/-- Where they lie. -/
theorem KDaysAt.at {P : Option Addr} {k : Nat} (h : KDaysAt a b W (.slice P n k) n us) {i : Nat} (hi : i < n) : ∃ g, P = some ⟨g, 0, none⟩ ∧ a ≤ g ∧ g < b ∧ ∃ hu : i < us.length, W.cell? ⟨g, i, none⟩ = some us[i] ∧ W.frozen? ⟨g, i, none⟩ = false := by
  obtain ⟨g, cap, hv, h1, _⟩ := World.ownsRow.form h.row (by omega)
  injection hv with hA hn hc
  subst hA
  have hu : i < us.length := by have := h.row.1; omega
  exact ⟨g, rfl, h1, h.lt g rfl, hu, by rw [h.row.cellAt i (by omega), List.getElem?_eq_getElem hu], h.row.frozenAt i⟩
theorem KToursAt.at {P : Option Addr} {k : Nat} (h : KToursAt a b W (.slice P n k) n vs) {i : Nat} (hi : i < n) : ∃ g, P = some ⟨g, 0, none⟩ ∧ a ≤ g ∧ g < b ∧ ∃ hu : i < vs.length, W.cell? ⟨g, i, none⟩ = some vs[i] ∧ W.frozen? ⟨g, i, none⟩ = false := by
  obtain ⟨g, cap, hv, h1, _⟩ := World.ownsRow.form h.row (by omega)
  injection hv with hA hn hc
  subst hA
  have hu : i < vs.length := by have := h.row.1; omega
  exact ⟨g, rfl, h1, h.lt g rfl, hu, by rw [h.row.cellAt i (by omega), List.getElem?_eq_getElem hu], h.row.frozenAt i⟩
theorem KStops.at {P : Option Addr} {k : Nat} (h : KStops a b W (.slice P n k) n) {i : Nat} (hi : i < n) : ∃ g, P = some ⟨g, 0, none⟩ ∧ a ≤ g ∧ g < b ∧ ∃ z, W.cell? ⟨g, i * 2 + 1, none⟩ = some (.int .i64 z) ∧ W.frozen? ⟨g, i * 2 + 1, none⟩ = false ∧
    ∀ y, SameT 29 [] W (W.setCell ⟨g, i * 2 + 1, none⟩ y) ∧ SameT 32 [] W (W.setCell ⟨g, i * 2 + 1, none⟩ y) ∧ SameT 24 [] W (W.setCell ⟨g, i * 2 + 1, none⟩ y) := by
  obtain ⟨t, rfl, h1, h2⟩ := h
  obtain ⟨g, cap, hv, h3, _⟩ := World.ownsRow.form h1 (by omega)
  injection hv with hA hn hc
  subst hA
  refine ⟨g, rfl, h3, h2 g rfl, t[i].2, ?_, World.ownsRow.frozenAt h1 (i * 2 + 1), fun y => ⟨same_store h1 (by decide) _ y, same_store h1 (by decide) _ y, same_store h1 (by decide) _ y⟩⟩
  rw [World.ownsRow.cellAt h1 (i * 2 + 1) (by omega), (cellsS_at hi).2]
/-- Nothing but blocks from a to b has turned. -/
structure Mid (a b : Nat) (w w' : World) : Prop where
  os : w'.os = w.os
  tape : w'.tape = w.tape
  output : w'.output = w.output
  size : w'.heap.size = w.heap.size
  block : ∀ k, k < w.heap.size → (k < a ∨ b ≤ k) → w'.heap[k]? = w.heap[k]?
theorem Mid.refl (a b : Nat) (w : World) : Mid a b w w := ⟨rfl, rfl, rfl, rfl, fun _ _ _ => rfl⟩
theorem Mid.store {w : World} {p : Addr} (h : Mid a b w W) (h1 : a ≤ p.block) (h2 : p.block < b) (y : Value) : Mid a b w (W.setCell p y) :=
  ⟨h.os, h.tape, h.output, by rw [← h.size]; simp [World.setCell], fun k hk hn => (Below.heap_setCell _ _ _ _ (fun e => by have e2 : k = p.block := e; omega)).trans (h.block k hk hn)⟩
theorem Mid.below {w : World} (h : Mid a b w W) : Below a w W := ⟨h.os, h.tape, h.output, by rw [h.size]; exact Nat.le_refl _, fun k hk => by
  rcases Nat.lt_or_ge k w.heap.size with hl | hl
  · exact h.block k hl (.inl hk)
  · rw [Array.getElem?_eq_none hl, Array.getElem?_eq_none (by rw [h.size]; exact hl)]⟩
/-- A plan in blocks from b on. -/
theorem own_above {w : World} {base size k : Nat} {t : TypeId} {x : Value} {xs : List Value} (h : w.ownsRow base t size x k xs) (hb : b ≤ base) (hm : Mid a b w W) : W.ownsRow base t size x k xs := by
  refine ⟨h.1, ?_⟩
  rcases h.2 with h0 | ⟨g, cap, cur, hv, hg, hh, r⟩
  · exact .inl h0
  · exact .inr ⟨g, cap, cur, hv, hg, (hm.block g (Array.getElem?_eq_some_iff.1 hh).1 (.inr (by omega))).trans hh, r⟩
theorem OwnDays.above {w : World} {base : Nat} {x : Value} {p : PlanD} (h : OwnDays base w x p) (hb : b ≤ base) (hm : Mid a b w W) : OwnDays base W x p := by
  obtain ⟨us, h1, h2⟩ := h
  refine ⟨us, own_above h1 hb hm, h2.mono fun d u hu => ?_⟩
  obtain ⟨vs, k1, k2⟩ := hu
  exact ⟨vs, own_above k1 hb hm, k2.mono fun t x hx => own_above hx hb hm⟩
theorem box_mid {w : World} {g : Nat} {t : TypeId} {x : Value} (h : Boxed w g t x) (hg : g < a ∨ b ≤ g) (hm : Mid a b w W) : Boxed W g t x := (hm.block g h.lt hg).trans h
end
end Go.Proofs.Ytedkhdnfbdojcaa
end
