/- What InstSame's stores into a clone leave as it was. -/
import Derived.Test.YtmfahjghfpckeaaDoorInstCloneC
namespace Go.Proofs.YtmfahjghfpckeaaDoor
open Go.RowKit
set_option linter.unusedVariables false
/-- A block of cells, none of them frozen. -/
def Solid (W : World) (g : Nat) : Prop := ∃ (cur : Array Value) (t : TypeId), W.heap[g]? = some (Obj.cells cur t (0, 0))
theorem solid_row {W : World} {base g n cap size : Nat} {e : TypeId} {xs : List Value} (h : W.ownsRow base e size (.slice (some ⟨g, 0, none⟩) n cap) n xs) : Solid W g := by
  rcases h.2 with ⟨e, _⟩ | ⟨g', cap', cur, e, _, hh, _⟩
  · simp at e
  · injection e with e _ _
    injection e with e
    injection e with e
    subst e
    exact ⟨cur, _, hh⟩
theorem Shape.like {W W' : World} (hs : Shape W W') {g off : Nat} (hg : Solid W g) {v : Value} (hc : W.cell? ⟨g, off, none⟩ = some v) : Like (some v) (W'.cell? ⟨g, off, none⟩) ∧ W'.frozen? ⟨g, off, none⟩ = false := by
  obtain ⟨cur, t, hh⟩ := hg
  obtain ⟨c', h1, h2, h3⟩ := hs g cur t hh
  rw [cell_of_row W g off cur t (0, 0) hh] at hc
  refine ⟨?_, frozen_of_row W' g off c' t h1⟩
  rw [cell_of_row W' g off c' t (0, 0) h1, ← hc]
  exact h3 off
theorem Shape.kept {W W' : World} (hs : Shape W W') {g off : Nat} (hg : Solid W g) {A : Option Addr} {n c : Nat} (hc : W.cell? ⟨g, off, none⟩ = some (.slice A n c)) : W'.cell? ⟨g, off, none⟩ = some (.slice A n c) := Like.slice (hs.like hg hc).1
theorem Shape.num {W W' : World} (hs : Shape W W') {g off : Nat} (hg : Solid W g) {k : IntKind} {z : Int} (hc : W.cell? ⟨g, off, none⟩ = some (.int k z)) : ∃ z', W'.cell? ⟨g, off, none⟩ = some (.int k z') := by
  rcases (hs.like hg hc).1 with e | ⟨k1, x, y, e, e2, _⟩
  · exact ⟨z, e.symm⟩
  · injection e with e
    injection e with e1 _
    subst e1
    exact ⟨y, e2⟩
/-- Between two stores. -/
structure SAt (base : Nat) (W wr : World) : Prop where
  shape : Shape W wr
  low : Below base W wr
theorem SAt.refl (base : Nat) (W : World) : SAt base W W := ⟨.refl _, .refl _ _⟩
theorem SAt.store {base : Nat} {W wr : World} (h : SAt base W wr) {g off : Nat} {k : IntKind} {a b : Int} (hg : base ≤ g) (hc : wr.cell? ⟨g, off, none⟩ = some (.int k a)) (hb : (Lit.int k b).wf = true) : SAt base W (wr.setCell ⟨g, off, none⟩ (.int k b)) :=
  ⟨h.shape.trans (.store hc hb), h.low.setCell (p := ⟨g, off, none⟩) hg _⟩
theorem rowZ {base : Nat} {W : World} {y : Inst} {A : Option Addr} {c : Nat} {B : Option Addr} {d : Nat} (h : OwnInst base W y A c B d) (hs : Square y) {i : Nat} (hi : i < y.dist.length) :
    ∃ g b k, B = some ⟨g, 0, none⟩ ∧ Solid W g ∧ Solid W b ∧ base ≤ b ∧ W.cell? ⟨g, i, none⟩ = some (.slice (some ⟨b, 0, none⟩) (y.custs.length + 1) k) ∧ ∀ j, j < y.custs.length + 1 → ∃ z, W.cell? ⟨b, j, none⟩ = some (.int .i64 z) := by
  obtain ⟨_, us, h3, h4⟩ := h
  obtain ⟨hu, hr⟩ := h4.at i hi
  have hrl := hs.2 _ (List.getElem_mem hi)
  obtain ⟨g, cap, hv, hb, _⟩ := World.ownsRow.form h3 (by omega)
  injection hv with hB hm hc
  subst hc
  obtain ⟨b, cap2, hv2, hb2, _⟩ := World.ownsRow.form hr (by omega)
  rw [hB] at h3
  have hc := h3.cellAt i (by omega)
  rw [List.getElem?_eq_getElem hu, hv2, hrl] at hc
  rw [hv2] at hr
  refine ⟨g, b, cap2, hB, solid_row h3, solid_row hr, hb2, hc, fun j hj => ⟨(y.dist[i])[j]'(by omega), (hr.cellAt j (by omega)).trans ?_⟩⟩
  rw [List.getElem?_map, List.getElem?_eq_getElem (by omega)]
  rfl
theorem custZ {base : Nat} {W : World} {y : Inst} {A : Option Addr} {c : Nat} {B : Option Addr} {d : Nat} (h : OwnInst base W y A c B d) {i : Nat} (hi : i < y.custs.length) :
    ∃ G q P k, A = some ⟨G, 0, none⟩ ∧ q ∈ y.custs ∧ Solid W G ∧ base ≤ G ∧ CustAt W G (i * 8) q P k ∧ (0 < q.pats.length → ∃ b, P = some ⟨b, 0, none⟩ ∧ Solid W b ∧ base ≤ b ∧ ∀ j, j < q.pats.length → ∃ z, W.cell? ⟨b, j, none⟩ = some (.int .u64 z)) := by
  obtain ⟨⟨l, g1, g2⟩, _⟩ := h
  have hl : l.length = y.custs.length := by rw [← g1, List.length_map]
  have hil : i < l.length := by omega
  have hr := g2.row
  obtain ⟨G, cap, hv, hb, _⟩ := World.ownsRow.form hr (by omega)
  injection hv with hA hm hc
  subst hc
  rw [hA] at hr
  rw [hl] at hr
  have ce : ∀ j, j < 8 → W.cell? ⟨G, i * 8 + j, none⟩ = (cell8 l[i].1 l[i].2.1 l[i].2.2)[j]? := fun j hj => by
    rw [hr.cellAt (i * 8 + j) (by omega), cellsC_at hil j hj]
  refine ⟨G, l[i].1, l[i].2.1, l[i].2.2, hA, by rw [← g1]; exact List.mem_map_of_mem (List.getElem_mem hil), solid_row hr, hb, ⟨ce 0 (by omega), ce 1 (by omega), ce 2 (by omega), ce 3 (by omega), ce 4 (by omega), ce 5 (by omega), ce 6 (by omega), ce 7 (by omega)⟩, fun hp => ?_⟩
  have ho := g2.pats _ (List.getElem_mem hil)
  unfold OwnP at ho
  obtain ⟨b, cap2, hv2, hb2, _⟩ := World.ownsRow.form ho hp
  injection hv2 with e1 _ e2
  rw [e1] at ho
  refine ⟨b, e1, solid_row ho, hb2, fun j hj => ⟨l[i].1.pats[j], (ho.cellAt j (by omega)).trans ?_⟩⟩
  rw [List.getElem?_map, List.getElem?_eq_getElem hj]
  rfl
theorem goodC_few (c : Cust) (d : Int) : (goodC c d).pats.length ≤ 4 := by
  unfold goodC
  split
  · simp
  · show (if c.pats = [] then [1] else (c.pats.take 4).map (cutP d)).length ≤ 4
    split
    · simp
    · rw [List.length_map, List.length_take]; omega
theorem Made.few {x y : Inst} (h : Made x y) : Few y := by
  refine ⟨by have := h.n; omega, by have := h.n; have := h.m; omega, fun c hc => ?_, fun r hr => ?_⟩
  · rw [h.is] at hc
    obtain ⟨q, _, rfl⟩ := List.mem_map.1 (show c ∈ (x.custs.take 6).map _ from hc)
    have := goodC_few q (roundD x.days 1 7)
    omega
  · have := h.sq.2 r hr
    have := h.n
    omega
theorem SameC {x y : Inst} {A : Option Addr} {c : Nat} {B : Option Addr} {d : Nat} {C : Option Addr} {e : Nat} {D : Option Addr} {f : Nat} {r : Bool} (hr : decide (x = y) = r) (W : World) (hx : InstIs W x A B) (hy : InstIs W y C D) :
    Calls Tryd.prog 21 #[.agg #[.int .i64 x.days, .int .i64 x.veh, .int .i64 x.cap, .int .i64 x.len, .slice A x.custs.length c, .slice B x.dist.length d], .agg #[.int .i64 y.days, .int .i64 y.veh, .int .i64 y.cap, .int .i64 y.len, .slice C y.custs.length e, .slice D y.dist.length f]] W fun e w' => e = .returned (.bool r) ∧ Below W.heap.size W w' := by
  subst hr
  exact Same_code x y A c B d C e D f W hx hy
theorem SameR {x y : Inst} {A : Option Addr} {c : Nat} {B : Option Addr} {d : Nat} {C : Option Addr} {e : Nat} {D : Option Addr} {f : Nat} {r : Bool} (hr : decide (x = y) = r) (W : World) (hx : InstIs W x A B) (hy : InstIs W y C D) :
    Calls Tryd.prog 22 #[.agg #[.int .i64 x.days, .int .i64 x.veh, .int .i64 x.cap, .int .i64 x.len, .slice A x.custs.length c, .slice B x.dist.length d], .agg #[.int .i64 y.days, .int .i64 y.veh, .int .i64 y.cap, .int .i64 y.len, .slice C y.custs.length e, .slice D y.dist.length f]] W fun e w' => e = .returned (.bool r) ∧ Below W.heap.size W w' := by
  subst hr
  exact Same_ref x y A c B d C e D f W hx hy
end Go.Proofs.YtmfahjghfpckeaaDoor
