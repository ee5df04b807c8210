/- A heap in memory, further: what an append to its things, and a cut, leave; nothing of the program but its types' numbers. -/
import Derived.Test.YtgpnpopmlommaaaHeapMem
namespace Go.Proofs.Ytgpnpopmlommaaa
open Go.RowKit Go.Maps
set_option linter.unusedVariables false
section
variable {α : Type} {V : α → Value} {eh e : TypeId} {w w2 w3 : World} {g m n c : Nat} {A : Option Addr} {G : List Nat} {q : Nat → Thing α} {f : Int → Option Int} {xs : List Value} {v : Value} {x : Thing α}
theorem push_end {w2' : World} (hb : BlkIs w2 g eh #[.slice A n c, .map (some m)]) (ht : Things V e w2 (.slice A n c) q n G) {N : Nat} (hm : MapIs w2 m N f) (hbe : Below w2.heap.size w2 w2') (hg : w2'.grownBy w3 (Value.slice A n c).ownBlock)
    (hown : w3.ownsRow 0 e 2 v (n + 1) (xs ++ [.int .i64 x.1, V x.2])) (hxs : CellsAre V q n xs) (hl : xs.length = n * 2) {k0 : Nat} (hk0 : w2.heap.size ≤ k0) (hloc : v.ownBlock = (Value.slice A n c).ownBlock ∨ v.ownBlock = some k0) (hne : eh ≠ e) :
    ∃ a' c', v = .slice (some ⟨a', 0, none⟩) (n + 1) c' ∧ w3.cell? ⟨g, 0, none⟩ = some (.slice A n c) ∧ w3.frozen? ⟨g, 0, none⟩ = false ∧ BlkIs (w3.setCell ⟨g, 0, none⟩ v) g eh #[v, .map (some m)] ∧
      Things V e (w3.setCell ⟨g, 0, none⟩ v) v (upd q n x) (n + 1) [a'] ∧ MapIs (w3.setCell ⟨g, 0, none⟩ v) m N f ∧ Only (g :: m :: G) w2 (w3.setCell ⟨g, 0, none⟩ v) ∧ (a' ∈ G ∨ w2.heap.size ≤ a') := by
  obtain ⟨ap1, ap2, ap3⟩ := ht.apart hb hm hne
  have hG : ∀ k, (Value.slice A n c).ownBlock = some k → G = [k] := by
    intro k hk
    rcases ht with ⟨h1, _, rfl⟩ | ⟨a, c2, h1, rfl, _⟩
    · rw [h1] at hk; cases hk
    · rw [h1] at hk; simp [Value.ownBlock] at hk; rw [hk]
  obtain ⟨a', c', rfl, hob, T3⟩ := Things.of_own hown (hxs.push hl x) (by omega)
  have O3 : Only (g :: m :: G) w2 w3 := (Only.of_below hbe).trans' (.of_grown' hg (by intro k hk; rw [hG k hk]; simp))
  have O3' : Only G w2 w3 := (Only.of_below hbe).trans' (.of_grown' hg (by intro k hk; rw [hG k hk]; simp))
  have B3 := hb.only O3' ap1
  have M3 := hm.only O3' ap2
  obtain ⟨ap4, ap5, _⟩ := T3.apart B3 M3 hne
  have d0 := B3.cellAt 0
  simp at d0
  have o4 : Only [g] w3 (w3.setCell ⟨g, 0, none⟩ (.slice (some ⟨a', 0, none⟩) (n + 1) c')) := (Only.refl _ _).setCell (by simp) _
  refine ⟨a', c', rfl, d0, B3.free 0, B3.put 0 _, T3.only o4 (by simpa using fun e => ap4 (by simp [e])), M3.only o4 (by simpa using fun e => ap3 e.symm), O3.trans' (o4.more (by simp)), ?_⟩
  rcases hloc with h | h
  · rw [hob] at h
    exact .inl (by rw [hG a' h.symm]; simp)
  · rw [hob] at h
    injection h with h
    exact .inr (by omega)
theorem RowIs.cut {a c : Nat} {y : Thing α} (h : RowIs V e w a c (upd q n y) (n + 1)) : RowIs V e w a c q n := by
  obtain ⟨cur, h1, h2, h3, h4, h5⟩ := h
  refine ⟨cur, h1, by omega, h3, h4, fun k hk => ?_⟩
  have := h5 k (by omega)
  unfold upd at this
  rw [if_neg (by omega)] at this
  exact this
theorem RowIs.put2 {a c k : Nat} (h : RowIs V e w a c q n) (hk : k < n) (y : α) : RowIs V e (w.setCell ⟨a, k * 2 + 1, none⟩ (V y)) a c (upd q k ((q k).1, y)) n := by
  obtain ⟨cur, h1, h2, h3, h4, h5⟩ := h
  refine ⟨cur.setIfInBounds (k * 2 + 1) (V y), ?_, h2, h3, by simpa using h4, fun j hj => ?_⟩
  · simp [World.setCell, Array.getElem?_modify, h1]
  · obtain ⟨g1, g2⟩ := h5 j hj
    unfold upd
    by_cases e : j = k
    · subst e
      rw [if_pos rfl]
      constructor
      · rw [Array.getElem?_setIfInBounds_ne (by omega)]; exact g1
      · rw [Array.getElem?_setIfInBounds_self_of_lt (by omega)]
    · rw [if_neg e, Array.getElem?_setIfInBounds_ne (by omega), Array.getElem?_setIfInBounds_ne (by omega)]
      exact ⟨g1, g2⟩
end
/-- What a call may have turned. -/
def Turned (F F' : List Nat) (w w' : World) : Prop := Only F w w' ∧ ∀ b ∈ F', b ∈ F ∨ w.heap.size ≤ b
theorem Turned.refl (F : List Nat) (w : World) : Turned F F w w := ⟨Only.refl _ _, fun _ h => .inl h⟩
theorem Turned.of_below {F : List Nat} {w w' : World} (h : Below w.heap.size w w') : Turned F F w w' := ⟨.of_below h, fun _ h => .inl h⟩
theorem Turned.of_only {F : List Nat} {w w' : World} (h : Only F w w') : Turned F F w w' := ⟨h, fun _ h => .inl h⟩
theorem Turned.trans {F F' F'' : List Nat} {a b c : World} (h : Turned F F' a b) (k : Turned F' F'' b c) : Turned F F'' a c :=
  ⟨h.1.trans k.1 h.2, fun x hx => by
    rcases k.2 x hx with e | e
    · exact h.2 x e
    · exact .inr (Nat.le_trans h.1.size e)⟩
theorem OffAt.congr {α : Type} {lt : α → α → Prop} {q r : Nat → Thing α} {n i : Nat} (h : OffAt lt q n i) (e : ∀ k, k < n → r k = q k) : OffAt lt r n i := by
  constructor
  · intro k k0 kn e1 e2
    rw [e k kn, e (par k) (by unfold par; omega)]
    exact h.1 k k0 kn e1 e2
  · intro k k0 kn e1 i0
    have : par i < n := by unfold par at *; omega
    rw [e k kn, e (par i) this]
    exact h.2 k k0 kn e1 i0
theorem Heaped.congr {α : Type} {lt : α → α → Prop} {q r : Nat → Thing α} {n : Nat} (h : Heaped lt q n) (e : ∀ k, k < n → r k = q k) : Heaped lt r n := by
  intro k k0 kn
  rw [e k kn, e (par k) (by unfold par; omega)]
  exact h k k0 kn
end Go.Proofs.Ytgpnpopmlommaaa
