import Derived.Test.YtedkhdnfbdojcaaDoorK05
import Derived.Test.YtedkhdnfbdojcaaDoorK07
section
/- A plan that comes in, opened: whatever it reads as is a plan in memory. -/
namespace Go.Proofs.YtedkhdnfbdojcaaDoor
open Go.RowKit Go.ChangeShapes Go.WideShapes
set_option linter.unusedVariables false
set_option maxRecDepth 20000
section
variable {H : Type} {enc : TypeId × Value → H} {w : World}
theorem stop_open {b o fuel : Nat} {cs : List Value} {x : DataW H × List MemPlace} (hl : cs.length = 2) (hc : ∀ j, j < 2 → w.cell? ⟨b, o + j, none⟩ = cs[j]?)
    (h : DataW.trod enc Tryd.prog w 0 (fun _ => true) true fuel 43 cs = some x) : ∃ s : StopD, StopAt w b o s ∧ W64 s.1 ∧ W64 s.2 := by
  obtain ⟨xs, n, _, _, _, hxl, hf⟩ := DataW.trod_struct Tryd.underlying43 h
  have F := fun i f h1 ho hc' hi => field_one (T := 43) hxl hf (i := i) (f := f) h1 ho hc' hi
  have I : ∀ i (hi : i < cs.length) f, (Tryd.prog.underlying f = some (.int .i64)) → (∃ x, DataW.trod enc Tryd.prog w 0 (fun _ => true) true n f [cs[i]] = some x) → ∃ z, cs[i] = .int .i64 z ∧ W64 z := fun i hi f hu ⟨x, hx⟩ => by
    obtain ⟨z, e1, _, e3⟩ := DataW.trod_int hu hx
    exact ⟨z, by simpa using e1, wf_iff.1 e3⟩
  obtain ⟨z0, e0, w0⟩ := I 0 (by omega) _ Tryd.underlying3 (F 0 _ rfl (by kernel_rfl) (by kernel_rfl) (by omega))
  obtain ⟨z1, e1, w1⟩ := I 1 (by omega) _ Tryd.underlying3 (F 1 _ rfl (by kernel_rfl) (by kernel_rfl) (by omega))
  have G : ∀ j (hj : j < cs.length), w.cell? ⟨b, o + j, none⟩ = some cs[j] := fun j hj => by rw [hc j (by omega), List.getElem?_eq_getElem hj]
  refine ⟨(z0, z1), ⟨?_, ?_⟩, w0, w1⟩
  · have := G 0 (by omega); rw [e0] at this; exact this
  · have := G 1 (by omega); rw [e1] at this; exact this
/-- A tour's stops are the machine's, its list no longer than any. -/
def WfT (t : TourD) : Prop := t.length ≤ maxLen ∧ ∀ s ∈ t, W64 s.1 ∧ W64 s.2
def WfD (d : DayD) : Prop := d.length ≤ maxLen ∧ ∀ t ∈ d, WfT t
theorem all_of {α : Type} {l : List α} {Q : α → Prop} (h : ∀ i (hi : i < l.length), Q l[i]) : ∀ a ∈ l, Q a := fun a ha => by
  obtain ⟨i, hi, rfl⟩ := List.getElem_of_mem ha
  exact h i hi
theorem tour_open {b o fuel : Nat} {cs : List Value} {x : DataW H × List MemPlace} (hl : cs.length = 1) (hc : ∀ j, j < 1 → w.cell? ⟨b, o + j, none⟩ = cs[j]?)
    (h : DataW.trod enc Tryd.prog w 0 (fun _ => true) true fuel 41 cs = some x) : ∃ t : TourD, TourAt w b o t ∧ WfT t := by
  obtain ⟨xs, n, _, _, _, hxl, hf⟩ := DataW.trod_struct Tryd.underlying41 h
  obtain ⟨x0, hx0⟩ := field_one (T := 41) hxl hf (i := 0) rfl (by kernel_rfl) (by kernel_rfl) (by omega)
  obtain ⟨A, c, l, e, h1, h2, h3⟩ := slice_open (α := StopD) 2 (fun b o s => StopAt w b o s ∧ W64 s.1 ∧ W64 s.2) Tryd.underlying39 (by kernel_rfl) (by decide) hx0 (fun b o fuel cs x hl hc h => stop_open hl hc h)
  have G := hc 0 (by omega)
  rw [List.getElem?_eq_getElem (by omega), e] at G
  exact ⟨l, ⟨A, c, G, fun i hi => by obtain ⟨b, off, e, r, _⟩ := h3 i hi; exact ⟨b, off, e, r⟩, h1⟩, Nat.le_trans h1 h2, all_of fun i hi => by obtain ⟨_, _, _, _, r⟩ := h3 i hi; exact r⟩
theorem day_open {b o fuel : Nat} {cs : List Value} {x : DataW H × List MemPlace} (hl : cs.length = 1) (hc : ∀ j, j < 1 → w.cell? ⟨b, o + j, none⟩ = cs[j]?)
    (h : DataW.trod enc Tryd.prog w 0 (fun _ => true) true fuel 38 cs = some x) : ∃ d : DayD, DayAt w b o d ∧ WfD d := by
  obtain ⟨xs, n, _, _, _, hxl, hf⟩ := DataW.trod_struct Tryd.underlying38 h
  obtain ⟨x0, hx0⟩ := field_one (T := 38) hxl hf (i := 0) rfl (by kernel_rfl) (by kernel_rfl) (by omega)
  obtain ⟨A, c, l, e, h1, h2, h3⟩ := slice_open (α := TourD) 1 (fun b o t => TourAt w b o t ∧ WfT t) Tryd.underlying36 (by kernel_rfl) (by decide) hx0 (fun b o fuel cs x hl hc h => tour_open hl hc h)
  have G := hc 0 (by omega)
  rw [List.getElem?_eq_getElem (by omega), e] at G
  exact ⟨l, ⟨A, c, G, fun i hi => by obtain ⟨b, off, e, r, _⟩ := h3 i hi; exact ⟨b, off, e, r⟩, h1⟩, Nat.le_trans h1 h2, all_of fun i hi => by obtain ⟨_, _, _, _, r⟩ := h3 i hi; exact r⟩
/-- Whatever a plan reads as. -/
theorem plan_open {base : Nat} {v : Value} {d : DataW H} {p : List MemPlace} (k : DataW.Trod enc Tryd.prog w 0 (fun _ => true) true 24 v d p) (o : Value.okWide Tryd.prog w .any base 24 v) :
    ∃ q A c, v = planV q A c ∧ PlanIs w A q ∧ WfP q ∧ q.length ≤ c := by
  obtain ⟨cs, rfl, hsz⟩ := okWide_struct Tryd.underlying24 o
  obtain ⟨fuel, h⟩ := k
  have hcl : cs.toList.length = 1 := by rw [Array.length_toList, hsz]; kernel_rfl
  have hcc : (Value.agg cs).cells.toList = cs.toList := rfl
  rw [hcc] at h
  obtain ⟨xs, n, _, _, _, hxl, hf⟩ := DataW.trod_struct Tryd.underlying24 h
  obtain ⟨x0, hx0⟩ := field_one (T := 24) hxl hf (i := 0) rfl (by kernel_rfl) (by kernel_rfl) (by omega)
  obtain ⟨A, c, l, e, h1, h2, h3⟩ := slice_open (α := DayD) 1 (fun b o d => DayAt w b o d ∧ WfD d) Tryd.underlying22 (by kernel_rfl) (by decide) hx0 (fun b o fuel cs x hl hc h => day_open hl hc h)
  have hw : ∀ d ∈ l, WfD d := all_of fun i hi => by obtain ⟨_, _, _, _, r⟩ := h3 i hi; exact r
  refine ⟨l, A, c, ?_, fun i hi => by obtain ⟨b, off, e, r, _⟩ := h3 i hi; exact ⟨b, off, e, r⟩, ⟨Nat.le_trans h1 h2, fun d hd => (hw d hd).1, fun d hd t ht => ((hw d hd).2 t ht).1, fun d hd t ht => ((hw d hd).2 t ht).2⟩, h1⟩
  unfold planV
  have : cs.toList = [.slice A l.length c] := List.ext_getElem (by simpa using hcl) fun i hi _ => by
    have : i = 0 := by omega
    subst this
    exact e
  rw [show cs = #[.slice A l.length c] from Array.toList_inj.1 this]
end
end Go.Proofs.YtedkhdnfbdojcaaDoor
end
