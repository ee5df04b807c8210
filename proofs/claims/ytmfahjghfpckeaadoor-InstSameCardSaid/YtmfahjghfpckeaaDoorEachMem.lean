/- What a loop that collects keeps: blocks of cells of one type, rows of its own; nothing of the program. -/
import Derived.Test.YtmfahjghfpckeaaDoorSeq
import Derived.RangeFuncBox
namespace Go.Proofs.YtmfahjghfpckeaaDoor
open Go.RowKit
set_option linter.unusedVariables false
/-- Blocks of cells of type t lie as they lay, but for those of Cs. -/
def SameT (t : TypeId) (Cs : List Nat) (w w' : World) : Prop := ∀ (k : Nat) (cs : Array Value) (fz : Nat × Nat), k ∉ Cs → w.heap[k]? = some (.cells cs t fz) → w'.heap[k]? = some (.cells cs t fz)
theorem SameT.refl (t : TypeId) (Cs : List Nat) (w : World) : SameT t Cs w w := fun _ _ _ _ h => h
theorem SameT.trans {t : TypeId} {Cs : List Nat} {a b c : World} (h : SameT t Cs a b) (k : SameT t Cs b c) : SameT t Cs a c := fun i cs fz hn hi => k i cs fz hn (h i cs fz hn hi)
theorem SameT.of_rest {t : TypeId} {Cs : List Nat} {B : Nat} {w w' : World} (h : Rest Cs B w w') : SameT t Cs w w' := fun k cs fz hn hk => h.cells hk hn
theorem SameT.of_below {t : TypeId} {Cs : List Nat} {w w' : World} (h : Below w.heap.size w w') : SameT t Cs w w' := fun k cs fz hn hk => (h.block k (Array.getElem?_eq_some_iff.1 hk).1).trans hk
theorem SameT.alloc (t : TypeId) (Cs : List Nat) (w : World) (o : Obj) : SameT t Cs w (w.alloc o) := .of_below (below_alloc w o)
theorem SameT.box {t u : TypeId} {Cs : List Nat} {w : World} {B : Nat} {v : Value} (h : Boxed w B u v) (hu : t ≠ u) (v' : Value) : SameT t Cs w (w.setCell ⟨B, 0, none⟩ v') := fun k cs fz hn hk => by
  refine (Below.heap_setCell w _ v' k fun e => ?_).trans hk
  subst e
  rw [show w.heap[_]? = _ from h] at hk
  simp at hk
  exact hu hk.2.1.symm
theorem SameT.grown {t e : TypeId} {Cs : List Nat} {w w' : World} {v : Value} {b size n : Nat} {xs : List Value} (h : w.ownsRow b e size v n xs) (he : t ≠ e) (hg : w.grownBy w' v.ownBlock) : SameT t Cs w w' := fun k cs fz hn hk => by
  refine (hg.block k (Array.getElem?_eq_some_iff.1 hk).1 fun e' => ?_).trans hk
  rcases h.2 with ⟨rfl, _⟩ | ⟨g, cap, cur, rfl, _, hgb, _⟩
  · simp [Value.ownBlock] at e'
  · obtain rfl : k = g := by simpa [Value.ownBlock] using e'
    rw [hk] at hgb
    simp at hgb
    exact he hgb.2.1
theorem SameT.mono {t : TypeId} {Cs : List Nat} {w w' : World} (h : SameT t [] w w') : SameT t Cs w w' := fun k cs fz _ hk => h k cs fz (by simp) hk
/-- A row of the caller's own, wherever cells of its type lie as they lay. -/
theorem own_same {t : TypeId} {Cs : List Nat} {w w' : World} {b size n : Nat} {v : Value} {xs : List Value} (h : w.ownsRow b t size v n xs) (hs : SameT t Cs w w') (hC : ∀ c ∈ Cs, c < b) : w'.ownsRow b t size v n xs := by
  refine ⟨h.1, ?_⟩
  rcases h.2 with h0 | ⟨g, cap, cur, hv, hg, hh, r⟩
  · exact .inl h0
  · exact .inr ⟨g, cap, cur, hv, hg, hs g cur (0, 0) (fun hm => by have := hC _ hm; omega) hh, r⟩
theorem box_rest {w w' : World} {Cs : List Nat} {B B' : Nat} {t : TypeId} {v : Value} (h : Boxed w B t v) (hr : Rest Cs B' w w') (hn : B ∉ Cs) : Boxed w' B t v := hr.cells h hn
theorem box_below {w w' : World} {B : Nat} {t : TypeId} {v : Value} (h : Boxed w B t v) (hb : Below w.heap.size w w') : Boxed w' B t v := (hb.block B h.lt).trans h
theorem keeps_below {w w' : World} (h : Below w.heap.size w w') : KeepsOthers w w' := ⟨h.size, fun k o hk _ => (h.block k (Array.getElem?_eq_some_iff.1 hk).1).trans hk⟩
/-- Each of a list goes with the value at its place. -/
def Fit {α : Type} (R : α → Value → Prop) : List α → List Value → Prop
  | [], [] => True
  | x :: xs, u :: us => R x u ∧ Fit R xs us
  | _, _ => False
theorem Fit.nil {α : Type} {R : α → Value → Prop} : Fit R [] [] := trivial
theorem fit_snoc {α : Type} {R : α → Value → Prop} {x : α} {u : Value} (hx : R x u) : ∀ {xs : List α} {us : List Value}, Fit R xs us → Fit R (xs ++ [x]) (us ++ [u])
  | [], [], _ => ⟨hx, trivial⟩
  | _ :: _, _ :: _, h => ⟨h.1, fit_snoc hx h.2⟩
theorem Fit.snoc {α : Type} {R : α → Value → Prop} {xs : List α} {us : List Value} (h : Fit R xs us) {x : α} {u : Value} (hx : R x u) : Fit R (xs ++ [x]) (us ++ [u]) := fit_snoc hx h
theorem fit_mono {α : Type} {R R' : α → Value → Prop} (hR : ∀ x u, R x u → R' x u) : ∀ {xs : List α} {us : List Value}, Fit R xs us → Fit R' xs us
  | [], [], _ => trivial
  | _ :: _, _ :: _, h => ⟨hR _ _ h.1, fit_mono hR h.2⟩
theorem Fit.mono {α : Type} {R R' : α → Value → Prop} {xs : List α} {us : List Value} (h : Fit R xs us) (hR : ∀ x u, R x u → R' x u) : Fit R' xs us := fit_mono hR h
theorem fit_at {α : Type} {R : α → Value → Prop} : ∀ {xs : List α} {us : List Value}, Fit R xs us → ∀ (k : Nat) (hk : k < xs.length), ∃ hu : k < us.length, R xs[k] us[k]
  | [], [], _, k, hk => absurd hk (by simp)
  | _ :: _, _ :: _, h, 0, _ => ⟨by simp, h.1⟩
  | _ :: _, _ :: _, h, k + 1, hk => by
    obtain ⟨a, b⟩ := fit_at h.2 k (by simpa using hk)
    exact ⟨by simpa using a, b⟩
theorem Fit.at {α : Type} {R : α → Value → Prop} {xs : List α} {us : List Value} (h : Fit R xs us) (k : Nat) (hk : k < xs.length) : ∃ hu : k < us.length, R xs[k] us[k] := fit_at h k hk
theorem Fit.map {α β : Type} {R : β → Value → Prop} {g : α → β} : ∀ {xs : List α} {us : List Value}, Fit (fun x u => R (g x) u) xs us → Fit R (xs.map g) us
  | [], [], _ => trivial
  | _ :: _, _ :: _, h => ⟨h.1, Fit.map h.2⟩
/-- Where each is one value, the values are known. -/
theorem Fit.fn {α : Type} {f : α → Value} : ∀ {xs : List α} {us : List Value}, Fit (fun x u => u = f x) xs us → us = xs.map f
  | [], [], _ => rfl
  | _ :: _, _ :: _, h => by rw [h.1, Fit.fn h.2]; rfl

/-- Between two rounds of a loop that collects: its boxes, its row, and that nothing else has turned. -/
structure EachI {α : Type} (tM tL tO tB : TypeId) (fm : Value) (Cs : List Nat) (ok : α → Bool) (R : World → α → Value → Prop) (w : World) (pre : List α) (W : World) : Prop where
  mb : Boxed W w.heap.size tM fm
  r1 : Boxed W (w.heap.size + 1) tL (.slice none 0 0)
  r2 : Boxed W (w.heap.size + 1 + 1) tO (.bool false)
  row : ∃ v us, Boxed W (w.heap.size + 1 + 1 + 1) tL v ∧ W.ownsRow w.heap.size tB 1 v pre.length us ∧ Fit (R W) pre us
  good : ∀ x ∈ pre, ok x = true
  only : Only Cs w W
/-- A round has found one that is none. -/
structure EachX {α : Type} (tL tO : TypeId) (Cs : List Nat) (ok : α → Bool) (w : World) (c : Code) (pre : List α) (W : World) : Prop where
  ret : c = .ret
  r1 : Boxed W (w.heap.size + 1) tL (.slice none 0 0)
  r2 : Boxed W (w.heap.size + 1 + 1) tO (.bool false)
  bad : ∃ x ∈ pre, ok x = false
  only : Only Cs w W
section
variable {α : Type} {tM tL tO tB : TypeId} {fm : Value} {Cs : List Nat} {ok : α → Bool} {R : World → α → Value → Prop} {w : World} {B : Nat}
theorem EachI.stays {tR : TypeId} (hC : ∀ c ∈ Cs, c < w.heap.size) (hB : w.heap.size ≤ B) (hR : ∀ W W' x u, R W x u → SameT tR Cs W W' → R W' x u) : Stays Cs B (EachI tM tL tO tB fm Cs ok R w) := fun pre A A' h hr => by
  have no : ∀ k, w.heap.size ≤ k → k ∉ Cs := fun k hk hm => by have := hC _ hm; omega
  obtain ⟨v, us, hv, hrow, hf⟩ := h.row
  exact ⟨box_rest h.mb hr (no _ (by omega)), box_rest h.r1 hr (no _ (by omega)), box_rest h.r2 hr (no _ (by omega)), ⟨v, us, box_rest hv hr (no _ (by omega)), own_same hrow (.of_rest hr) hC, hf.mono fun x u hx => hR _ _ _ _ hx (.of_rest hr)⟩, h.good,
    h.only.rest hr (fun c hc => .inl hc) hB⟩
theorem EachX.stays (hC : ∀ c ∈ Cs, c < w.heap.size) (hB : w.heap.size ≤ B) (c : Code) : Stays Cs B (EachX tL tO Cs ok w c) := fun pre A A' h hr => by
  have no : ∀ k, w.heap.size ≤ k → k ∉ Cs := fun k hk hm => by have := hC _ hm; omega
  exact ⟨h.ret, box_rest h.r1 hr (no _ (by omega)), box_rest h.r2 hr (no _ (by omega)), h.bad, h.only.rest hr (fun c hc => .inl hc) hB⟩
/-- The four boxes as they are laid. -/
theorem EachI.start (hC : ∀ c ∈ Cs, c < w.heap.size) : EachI tM tL tO tB fm Cs ok R w [] ((((w.alloc (.cells #[fm] tM)).alloc (.cells #[.slice none 0 0] tL)).alloc (.cells #[.bool false] tO)).alloc (.cells #[.slice none 0 0] tL)) := by
  have a1 := Boxed.new (w.alloc (.cells #[fm] tM)) tL (.slice none 0 0)
  rw [World.size_alloc] at a1
  have a2 := Boxed.new ((w.alloc (.cells #[fm] tM)).alloc (.cells #[.slice none 0 0] tL)) tO (.bool false)
  rw [World.size_alloc, World.size_alloc] at a2
  have a3 := Boxed.new (((w.alloc (.cells #[fm] tM)).alloc (.cells #[.slice none 0 0] tL)).alloc (.cells #[.bool false] tO)) tL (.slice none 0 0)
  rw [World.size_alloc, World.size_alloc, World.size_alloc] at a3
  exact ⟨(((Boxed.new w tM fm).alloc _).alloc _).alloc _, (a1.alloc _).alloc _, a2.alloc _, ⟨_, [], a3, World.ownsRow_nil _ _ _ _, .nil⟩, fun x hx => by simp at hx, (((Only.refl Cs w).alloc _).alloc _).alloc _ |>.alloc _⟩
theorem EachI.below {tR : TypeId} {pre : List α} {W W' : World} (h : EachI tM tL tO tB fm Cs ok R w pre W) (hb : Below W.heap.size W W') (hR : ∀ W W' x u, R W x u → SameT tR Cs W W' → R W' x u) : EachI tM tL tO tB fm Cs ok R w pre W' := by
  obtain ⟨v, us, hv, hrow, hf⟩ := h.row
  exact ⟨box_below h.mb hb, box_below h.r1 hb, box_below h.r2 hb, ⟨v, us, box_below hv hb, own_keep hrow hb, hf.mono fun x u hx => hR _ _ _ _ hx (.of_below hb)⟩, h.good, h.only.below hb⟩
/-- One more is collected. -/
theorem EachI.more {tR : TypeId} {pre : List α} {W w1 : World} {x : α} {u v v' : Value} {us : List Value} {tmp : Obj} (h : EachI tM tL tO tB fm Cs ok R w pre W)
    (hR : ∀ W W' x u, R W x u → SameT tR Cs W W' → R W' x u) (t2 : tR ≠ tL) (t4 : tR ≠ tB) (e1 : tL ≠ tB) (e2 : tM ≠ tB) (e3 : tO ≠ tB) (hx : R W x u) (hok : ok x = true)
    (hv : Boxed W (w.heap.size + 1 + 1 + 1) tL v) (hrow : W.ownsRow w.heap.size tB 1 v pre.length us) (hf : Fit (R W) pre us)
    (hown : w1.ownsRow w.heap.size tB 1 v' (pre.length + 1) (us ++ [u])) (hgrow : (W.alloc tmp).grownBy w1 v.ownBlock) :
    Boxed w1 (w.heap.size + 1 + 1 + 1) tL v ∧ KeepsOthers W (w1.setCell ⟨w.heap.size + 1 + 1 + 1, 0, none⟩ v') ∧ Below w.heap.size W (w1.setCell ⟨w.heap.size + 1 + 1 + 1, 0, none⟩ v') ∧
      EachI tM tL tO tB fm Cs ok R w (pre ++ [x]) (w1.setCell ⟨w.heap.size + 1 + 1 + 1, 0, none⟩ v') := by
  have hle : w.heap.size ≤ W.heap.size := h.only.size
  obtain ⟨hv1, hv2, hr2, hk2, hb2⟩ := hv.appended e1 hrow hle (by omega) hown hgrow
  have ra := hrow.alloc tmp
  have st : SameT tR Cs W (w1.setCell ⟨w.heap.size + 1 + 1 + 1, 0, none⟩ v') := ((SameT.alloc tR Cs W tmp).trans (.grown ra t4 hgrow)).trans (.box hv1 t2 v')
  have other : ∀ {k : Nat} {t : TypeId} {z : Value}, Boxed W k t z → t ≠ tB → k ≠ w.heap.size + 1 + 1 + 1 → Boxed (w1.setCell ⟨w.heap.size + 1 + 1 + 1, 0, none⟩ v') k t z := fun hz ht hk => (((hz.alloc tmp).kept hgrow ((hz.alloc tmp).not_row ht ra)).other hk v')
  have on : Only Cs w (w1.setCell ⟨w.heap.size + 1 + 1 + 1, 0, none⟩ v') :=
    ⟨hb2.os.trans h.only.os, hb2.tape.trans h.only.tape, hb2.output.trans h.only.output, Nat.le_trans h.only.size hb2.size, fun k hk hn => (hb2.block k hk).trans (h.only.block k hk hn)⟩
  exact ⟨hv1, hk2, hb2, other h.mb e2 (by omega), other h.r1 e1 (by omega), other h.r2 e3 (by omega), ⟨v', us ++ [u], hv2, by rw [List.length_append]; exact hr2, (hf.mono fun y z hy => hR _ _ _ _ hy st).snoc (hR _ _ _ _ hx st)⟩,
    fun y hy => (List.mem_append.1 hy).elim (h.good y) (fun e => by simp at e; subst e; exact hok), on⟩
/-- One that is none: the results are stored. -/
theorem EachI.bad {pre : List α} {W : World} {x : α} (h : EachI tM tL tO tB fm Cs ok R w pre W) (hok : ok x = false) :
    KeepsOthers W ((W.setCell ⟨w.heap.size + 1, 0, none⟩ (.slice none 0 0)).setCell ⟨w.heap.size + 1 + 1, 0, none⟩ (.bool false)) ∧
      EachX tL tO Cs ok w .ret (pre ++ [x]) ((W.setCell ⟨w.heap.size + 1, 0, none⟩ (.slice none 0 0)).setCell ⟨w.heap.size + 1 + 1, 0, none⟩ (.bool false)) := by
  refine ⟨(KeepsOthers.setCell _ _ _).trans (KeepsOthers.setCell _ _ _), rfl, (h.r1.set _).other (by omega) _, (h.r2.other (by omega) _).set _, ⟨x, by simp, hok⟩, ?_⟩
  have hb : Below w.heap.size W ((W.setCell ⟨w.heap.size + 1, 0, none⟩ (.slice none 0 0)).setCell ⟨w.heap.size + 1 + 1, 0, none⟩ (.bool false)) := ((Below.refl _ _).setCell (p := ⟨w.heap.size + 1, 0, none⟩) (by simp) _).setCell (p := ⟨w.heap.size + 1 + 1, 0, none⟩) (by simp; omega) _
  exact ⟨hb.os.trans h.only.os, hb.tape.trans h.only.tape, hb.output.trans h.only.output, Nat.le_trans h.only.size hb.size, fun k hk hn => (hb.block k hk).trans (h.only.block k hk hn)⟩
end
end Go.Proofs.YtmfahjghfpckeaaDoor
