/- What a call leaves: nothing but the blocks of a list, and new ones, has turned; nothing of the program. -/
import Derived.Test.YtmfahjghfpckeaaDoorCore
namespace Go.Proofs.YtmfahjghfpckeaaDoor
open Go.RowKit
set_option linter.unusedVariables false
/-- Nothing but the blocks of F, and new ones, has turned. -/
structure Only (F : List Nat) (w w' : World) : Prop where
  os : w'.os = w.os
  tape : w'.tape = w.tape
  output : w'.output = w.output
  size : w.heap.size ≤ w'.heap.size
  block : ∀ k, k < w.heap.size → k ∉ F → w'.heap[k]? = w.heap[k]?
theorem Only.refl (F : List Nat) (w : World) : Only F w w := ⟨rfl, rfl, rfl, Nat.le_refl _, fun _ _ _ => rfl⟩
theorem Only.trans {F F' : List Nat} {a b c : World} (h : Only F a b) (k : Only F' b c) (hF : ∀ x ∈ F', x ∈ F ∨ a.heap.size ≤ x) : Only F a c :=
  ⟨k.os.trans h.os, k.tape.trans h.tape, k.output.trans h.output, Nat.le_trans h.size k.size, fun i hi hn => (k.block i (Nat.lt_of_lt_of_le hi h.size) (fun hm => by rcases hF i hm with e | e; exact hn e; omega)).trans (h.block i hi hn)⟩
theorem Only.trans' {F : List Nat} {a b c : World} (h : Only F a b) (k : Only F b c) : Only F a c := h.trans k fun x hx => .inl hx
theorem Only.of_below {F : List Nat} {w w' : World} (h : Below w.heap.size w w') : Only F w w' := ⟨h.os, h.tape, h.output, h.size, fun k hk _ => h.block k hk⟩
theorem Only.of_grown {F : List Nat} {w w' : World} {r : Nat} (h : w.grownBy w' (some r)) (hr : r ∈ F) : Only F w w' := ⟨h.os, h.tape, h.output, h.size, fun k hk hn => h.block k hk (fun e => hn (by cases e; exact hr))⟩
theorem Only.of_grown' {F : List Nat} {w w' : World} {r : Option Nat} (h : w.grownBy w' r) (hr : ∀ k, r = some k → k ∈ F) : Only F w w' := ⟨h.os, h.tape, h.output, h.size, fun k hk hn => h.block k hk (fun e => hn (hr k e.symm))⟩
theorem Only.setCell {F : List Nat} {a w : World} (h : Only F a w) {p : Addr} (hp : p.block ∈ F) (u : Value) : Only F a (w.setCell p u) :=
  h.trans' ⟨rfl, rfl, rfl, by simp [World.setCell], fun k hk hn => Below.heap_setCell _ _ _ _ (fun e => hn (e ▸ hp))⟩
theorem Only.alloc {F : List Nat} {a w : World} (h : Only F a w) (o : Obj) : Only F a (w.alloc o) := h.trans' (.of_below (below_alloc w o))
theorem Only.drew {F : List Nat} {a w : World} (h : Only F a w) : Only F a w.drew := ⟨h.os, h.tape, h.output, h.size, h.block⟩
theorem Only.below {F : List Nat} {a w w' : World} (h : Only F a w) (hb : Below w.heap.size w w') : Only F a w' := h.trans' (.of_below hb)
theorem Only.to_below {F : List Nat} {B : Nat} {w w' : World} (h : Only F w w') (hB : B ≤ w.heap.size) (hF : ∀ x ∈ F, B ≤ x) : Below B w w' :=
  ⟨h.os, h.tape, h.output, h.size, fun k hk => h.block k (by omega) (fun hm => by have := hF k hm; omega)⟩
theorem Only.over {F : List Nat} {w w1 w2 : World} (h : Only F w1 w2) (hb : Below w.heap.size w w1) (hF : ∀ b ∈ F, w.heap.size ≤ b) : Below w.heap.size w w2 := hb.trans (h.to_below hb.size hF)
theorem Only.more {F F' : List Nat} {w w' : World} (h : Only F w w') (hF : ∀ x ∈ F, x ∈ F') : Only F' w w' := ⟨h.os, h.tape, h.output, h.size, fun k hk hn => h.block k hk (fun hm => hn (hF k hm))⟩
section
variable {w w' : World} {g : Nat}
theorem BlkIs.only {F' : List Nat} {t : TypeId} {cs : Array Value} (h : BlkIs w g t cs) (ho : Only F' w w') (hd : g ∉ F') : BlkIs w' g t cs := (ho.block g h.lt hd).trans h
end
theorem only_drewN (F : List Nat) (w : World) (m : Nat) : Only F w (w.drewN m) := ⟨rfl, rfl, rfl, Nat.le_refl _, fun _ _ _ => rfl⟩
theorem two_only (w : World) (D i j : Nat) (u v : Value) : Only [D] w (((w.setCell ⟨D, i, none⟩ u).setCell ⟨D, j, none⟩ v).drew) :=
  (((Only.refl [D] w).setCell (p := ⟨D, i, none⟩) (by simp) _).setCell (p := ⟨D, j, none⟩) (by simp) _).drew
end Go.Proofs.YtmfahjghfpckeaaDoor
