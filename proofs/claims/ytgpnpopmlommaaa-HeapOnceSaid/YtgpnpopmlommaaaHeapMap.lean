/- A map of numbers by numbers, told as a function: stores, deletions, looks; nothing of the program but its types' numbers. -/
import Derived.Test.YtgpnpopmlommaaaCore
import Derived.Maps.OwnSet
namespace Go.Proofs.Ytgpnpopmlommaaa
open Go.RowKit Go.Maps
set_option linter.unusedVariables false

theorem key_int : Keyed Try.prog 3 := int_keyed Try.underlying3
theorem zero_int (w : World) : (zeroValue 3).run Try.prog w = .ok (.int .i64 0) w := by kernel_rfl
/-- The map in block m has n entries, and at each number what f says. -/
def MapIs (w : World) (m n : Nat) (f : Int → Option Int) : Prop :=
  ∃ D : DataW Unit, w.ownsMap Try.prog 3 (plainElem Try.prog 3) m n D ∧ Maps.size D = n ∧
    ∀ id, (Lit.int .i64 id).wf = true → Maps.has D (.int .i64 id) = (f id).isSome ∧ ∀ x, f id = some x → D.atKey (.int .i64 id) (.lit (.int .i64 0)) = .lit (.int .i64 x)
def updF (f : Int → Option Int) (id : Int) (x : Option Int) : Int → Option Int := fun k => if k = id then x else f k
theorem owns_size {w : World} {m n : Nat} {D : DataW Unit} (h : w.ownsMap Try.prog 3 (plainElem Try.prog 3) m n D) : w.ownsMap Try.prog 3 (plainElem Try.prog 3) m (Maps.size D) D := by
  obtain ⟨es, clock, hb, F, hs, rfl⟩ := h
  refine ⟨es, clock, hb, F, ?_, rfl⟩
  simp [Maps.size, length_sorted]
theorem MapIs.keep {w w' : World} {m n : Nat} {f : Int → Option Int} (h : MapIs w m n f) (hb : w'.heap[m]? = w.heap[m]?) : MapIs w' m n f := by
  obtain ⟨D, ⟨es, clock, hm, r⟩, h2⟩ := h
  exact ⟨D, ⟨es, clock, hb.trans hm, r⟩, h2⟩
theorem MapIs.congr {w : World} {m n : Nat} {f g : Int → Option Int} (h : MapIs w m n f) (e : ∀ id, (Lit.int .i64 id).wf = true → g id = f id) : MapIs w m n g := by
  obtain ⟨D, h1, h2, h3⟩ := h
  exact ⟨D, h1, h2, fun id hid => by rw [e id hid]; exact h3 id hid⟩
theorem MapIs.lt {w : World} {m n : Nat} {f : Int → Option Int} (h : MapIs w m n f) : m < w.heap.size := by
  obtain ⟨D, h1, _⟩ := h
  exact h1.lt
theorem MapIs.block {w : World} {m n : Nat} {f : Int → Option Int} (h : MapIs w m n f) : ∃ es clock, w.heap[m]? = some (.map es clock) := by
  obtain ⟨D, ⟨es, clock, hm, r⟩, h2⟩ := h
  exact ⟨es, clock, hm⟩
theorem MapIs.fresh (w : World) : MapIs (w.alloc (.map #[] 0)) w.heap.size 0 (fun _ => none) :=
  ⟨.map [], World.ownsMap_made _ _ _ _, rfl, fun id _ => ⟨rfl, fun x h => by cases h⟩⟩
theorem lit_ne {a b : Int} (h : a ≠ b) : (Lit.int .i64 a) ≠ .int .i64 b := fun e => by injection e with _ e; exact h e
theorem MapIs.store {w : World} {m n : Nat} {f : Int → Option Int} (h : MapIs w m n f) (hn : n < maxLen) {id x : Int} (hid : (Lit.int .i64 id).wf = true) (hx : (Lit.int .i64 x).wf = true) :
    ∃ w', (Instr.mapUpdate 49 (.map (some m)) (.int .i64 id) (.int .i64 x)).run Try.prog w = .ok () w' ∧ MapIs w' m (if (f id).isSome then n else n + 1) (updF f id (some x)) ∧ w.mapTurned w' m := by
  obtain ⟨D, h1, h2, h3⟩ := h
  obtain ⟨w', e, g1, g2⟩ := h1.store key_int Try.underlying49 hn (keyOf_int_mk Try.underlying3 hid) (plainElem_int (H := Unit) Try.underlying3 hx)
  refine ⟨w', e, ⟨D.put (.int .i64 id) (.lit (.int .i64 x)), ?_, ?_, ?_⟩, g2⟩
  · have := owns_size g1
    rw [size_put (h1.tidy key_int), h2, (h3 id hid).1] at this
    exact this
  · rw [size_put (h1.tidy key_int), h2, (h3 id hid).1]
  · intro k hk
    unfold updF
    by_cases e2 : k = id
    · subst e2
      rw [if_pos rfl]
      refine ⟨has_put_same (k := .int .i64 k) h1.isMap (by trivial) _, fun y hy => ?_⟩
      cases hy
      exact atKey_put_same (k := .int .i64 k) h1.isMap (by trivial) _ _
    · rw [if_neg e2]
      refine ⟨by rw [has_put_other (lit_ne e2)]; exact (h3 k hk).1, fun y hy => ?_⟩
      rw [atKey_put_other (lit_ne e2)]
      exact (h3 k hk).2 y hy
theorem MapIs.drop {w : World} {m n : Nat} {f : Int → Option Int} (h : MapIs w m n f) {id : Int} (hid : (Lit.int .i64 id).wf = true) (ty : TypeId) :
    ∃ w', (Builtin.delete_ #[49, 3] ty #[.map (some m), .int .i64 id]).run Try.prog w = .ok (.tuple #[]) w' ∧ MapIs w' m (if (f id).isSome then n - 1 else n) (updF f id none) ∧ w.mapTurned w' m := by
  obtain ⟨D, h1, h2, h3⟩ := h
  obtain ⟨w', e, g1, g2⟩ := h1.drop key_int Try.underlying49 (keyOf_int_mk Try.underlying3 hid) ty
  have hs := size_del (k := .int .i64 id) (h1.tidy key_int)
  rw [h2, (h3 id hid).1] at hs
  have hs2 : Maps.size (D.del (.int .i64 id)) = if (f id).isSome then n - 1 else n := by
    split
    · rename_i h; rw [if_pos h] at hs; omega
    · rename_i h; rw [if_neg h] at hs; omega
  refine ⟨w', e, ⟨D.del (.int .i64 id), ?_, ?_, ?_⟩, g2⟩
  · have := owns_size g1
    rw [hs2] at this
    exact this
  · exact hs2
  · intro k hk
    unfold updF
    by_cases e2 : k = id
    · subst e2
      rw [if_pos rfl]
      exact ⟨has_del_same, fun y hy => by cases hy⟩
    · rw [if_neg e2]
      refine ⟨by rw [has_del_other (lit_ne e2)]; exact (h3 k hk).1, fun y hy => ?_⟩
      rw [atKey_del_other (lit_ne e2)]
      exact (h3 k hk).2 y hy
theorem MapIs.look {w : World} {m n : Nat} {f : Int → Option Int} (h : MapIs w m n f) {id : Int} (hid : (Lit.int .i64 id).wf = true) :
    (Instr.lookup 49 (.map (some m)) (.int .i64 id) true).run Try.prog w = .ok (.tuple #[.int .i64 ((f id).getD 0), .bool (f id).isSome]) w := by
  obtain ⟨D, h1, h2, h3⟩ := h
  obtain ⟨v, ps, e, hv⟩ := h1.look_ok key_int Try.underlying49 (zero_int w) (plainElem_int (H := Unit) Try.underlying3 (by decide)) (keyOf_int_mk Try.underlying3 hid)
  obtain ⟨c, rfl, hc, _⟩ := plainElem_int_inv Try.underlying3 hv
  rw [e, (h3 id hid).1]
  have hc1 := congrArg Prod.fst hc
  simp only at hc1
  cases hf : f id with
  | none =>
    have h0 : Maps.has D (.int .i64 id) = false := by rw [(h3 id hid).1, hf]; rfl
    rw [atKey_of_not_has h0] at hc1
    injection hc1 with hc1; injection hc1 with _ hc1
    rw [← hc1]; rfl
  | some x =>
    rw [(h3 id hid).2 x hf] at hc1
    injection hc1 with hc1; injection hc1 with _ hc1
    rw [← hc1]; rfl
end Go.Proofs.Ytgpnpopmlommaaa
