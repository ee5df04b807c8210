/- The document's list of things in memory, and its functions Put, Drop, Change and Worth. -/
import Derived.Test.YtgpnpopmlommaaaHeapLives
import Derived.Maps.AppendAt
namespace Go.Proofs.Ytgpnpopmlommaaa
open Go.RowKit Go.Maps
set_option linter.unusedVariables false
/-- A slice that reads as these things, none of whose cells lie in F. -/
def Items (w : World) (A : Option Addr) (n c : Nat) (l : List (Thing Int)) (F : List Nat) : Prop :=
  l.length = n ∧ n ≤ c ∧ c ≤ maxLen ∧ (∀ x ∈ l, (Lit.int .i64 x.1).wf = true ∧ (Lit.int .i64 x.2).wf = true) ∧
    (0 < n → ∃ b off, A = some ⟨b, off, none⟩ ∧ b ∉ F ∧ b < w.heap.size ∧ ∀ k x, l[k]? = some x → w.cell? ⟨b, off + k * 2, none⟩ = some (.int .i64 x.1) ∧ w.cell? ⟨b, off + k * 2 + 1, none⟩ = some (.int .i64 x.2))
theorem Items.only {w w' : World} {A : Option Addr} {n c : Nat} {l : List (Thing Int)} {F F' : List Nat} (h : Items w A n c l F) (ho : Only F w w') (hF : ∀ b ∈ F', b ∈ F ∨ w.heap.size ≤ b) : Items w' A n c l F' := by
  obtain ⟨h1, h2, h3, h4, h5⟩ := h
  refine ⟨h1, h2, h3, h4, fun hn => ?_⟩
  obtain ⟨b, off, e, hb, hlt, hc⟩ := h5 hn
  refine ⟨b, off, e, fun hm => ?_, Nat.lt_of_lt_of_le hlt ho.size, fun k x hx => ?_⟩
  · rcases hF b hm with a | a
    · exact hb a
    · omega
  · obtain ⟨g1, g2⟩ := hc k x hx
    have hbb := ho.block b hlt hb
    exact ⟨(World.cell?_of_block (w := w) (a := ⟨b, off + k * 2, none⟩) hbb).trans g1, (World.cell?_of_block (w := w) (a := ⟨b, off + k * 2 + 1, none⟩) hbb).trans g2⟩
theorem Items.below {w w' : World} {A : Option Addr} {n c : Nat} {l : List (Thing Int)} {F : List Nat} (h : Items w A n c l F) (hb : Below w.heap.size w w') : Items w' A n c l F := h.only (.of_below hb) fun b h => .inl h
theorem Items.nil (w : World) (F : List Nat) : Items w none 0 0 [] F := ⟨rfl, Nat.le_refl _, Nat.zero_le _, (fun x hx => absurd hx (by simp)), fun h => absurd h (by omega)⟩
theorem Items.head {w : World} {A : Option Addr} {n c : Nat} {x : Thing Int} {l : List (Thing Int)} {F : List Nat} (h : Items w A n c (x :: l) F) : ∃ b off m, A = some ⟨b, off, none⟩ ∧ n = m + 1 ∧ w.cell? ⟨b, off, none⟩ = some (.int .i64 x.1) ∧ w.cell? ⟨b, off + 1, none⟩ = some (.int .i64 x.2) ∧ m + 1 ≤ c := by
  obtain ⟨h1, h2, h3, h4, h5⟩ := h
  simp at h1
  obtain ⟨b, off, e, hb, _, hc⟩ := h5 (by omega)
  obtain ⟨g1, g2⟩ := hc 0 x rfl
  simp at g1 g2
  exact ⟨b, off, l.length, e, h1.symm, g1, g2, by omega⟩
/-- The cells of a list. -/
def cellsL (m : List (Thing Int)) : List Value := m.flatMap fun x => [.int .i64 x.1, .int .i64 x.2]
theorem cellsL_snoc (m : List (Thing Int)) (x : Thing Int) : cellsL (m ++ [x]) = cellsL m ++ [.int .i64 x.1, .int .i64 x.2] := by simp [cellsL]
theorem cellsL_at : ∀ {m : List (Thing Int)} {k : Nat} {x : Thing Int}, m[k]? = some x → (cellsL m)[k * 2]? = some (.int .i64 x.1) ∧ (cellsL m)[k * 2 + 1]? = some (.int .i64 x.2)
  | [], _, _, h => by simp at h
  | y :: r, 0, x, h => by
    simp at h; subst h
    exact ⟨rfl, rfl⟩
  | y :: r, k + 1, x, h => by
    have := cellsL_at (m := r) (k := k) (x := x) (by simpa using h)
    show (Value.int .i64 y.1 :: Value.int .i64 y.2 :: cellsL r)[(k + 1) * 2]? = _ ∧ (Value.int .i64 y.1 :: Value.int .i64 y.2 :: cellsL r)[(k + 1) * 2 + 1]? = _
    have e1 : (k + 1) * 2 = k * 2 + 1 + 1 := by omega
    rw [e1]
    simpa using this
/-- A list of the call's own. -/
def OwnL (B : Nat) (w : World) (v : Value) (m : List (Thing Int)) : Prop := w.ownsRow B 59 2 v m.length (cellsL m)
theorem OwnL.nil (B : Nat) (w : World) : OwnL B w (.slice none 0 0) [] := World.ownsRow_nil _ _ _ _
theorem OwnL.items {B : Nat} {w : World} {v : Value} {m : List (Thing Int)} {F : List Nat} (h : OwnL B w v m) (hF : ∀ b ∈ F, b < B) (hw : ∀ x ∈ m, (Lit.int .i64 x.1).wf = true ∧ (Lit.int .i64 x.2).wf = true) : ∃ A c, v = .slice A m.length c ∧ Items w A m.length c m F := by
  rcases h.2 with ⟨rfl, h0⟩ | ⟨g, c, cur, rfl, hg, hh, h1, h2, h3, h4⟩
  · obtain rfl := List.eq_nil_of_length_eq_zero h0
    exact ⟨none, 0, rfl, Items.nil _ _⟩
  · refine ⟨_, c, rfl, rfl, h1, h2, hw, fun _ => ⟨g, 0, rfl, fun hm => by have := hF g hm; omega, (Array.getElem?_eq_some_iff.1 hh).1, fun k x hx => ?_⟩⟩
    obtain ⟨g1, g2⟩ := cellsL_at hx
    have hk : k < m.length := by
      rcases Nat.lt_or_ge k m.length with a | a
      · exact a
      · rw [List.getElem?_eq_none a] at hx; cases hx
    rw [← h4, List.getElem?_take_of_lt (by omega), Array.getElem?_toList] at g1 g2
    rw [Nat.zero_add]
    exact ⟨by simp [World.cell?, hh, g1], by simp [World.cell?, hh, g2]⟩
theorem info_item : (Try.prog.info? 59).map (fun i => (i.zero, i.size, i.bytes)) = some (some (.agg #[.int .i64 0, .int .i64 0]), 2, 16) := by kernel_rfl
theorem item_new (w : World) (x y : Value) (t : TypeId) : ∀ j u, [x, y][j]? = some u → (w.alloc (.cells #[x, y] t)).cell? ((⟨w.heap.size, 0, none⟩ : Addr).add j) = some u := by
  intro j u hj
  match j, hj with
  | 0, hj => simp at hj; subst hj; simp [Addr.add]
  | 1, hj => simp at hj; subst hj; simp [Addr.add]
/-- append of one thing. -/
theorem wpList_app_item {ops : Array Oper} {rest : List Oper} {o : Oper} {a : Act} {Q : Exit → Act → World → Prop} {W0 : World} {B : Nat} {m : List (Thing Int)} {v : Value} {y : Thing Int} (hown : OwnL B W0 v m) (hB : B ≤ W0.heap.size) (hm : m.length < 1048576) (hgd : o.guard = none) (s x : Operand)
    (ho : o.op = .call { callee := .builtin .append, args := #[s, x], argTypes := #[25, 25] }) (hs : a.eval s = v) (hx : a.eval x = .slice (some ⟨W0.heap.size, 0, none⟩) 1 1)
    (h : ∀ v' w', OwnL B w' v' (m ++ [y]) → Below B W0 w' → wpList Try.prog ops Q rest (a.put o.dst v') w') :
    wpList Try.prog ops Q (o :: rest) a (W0.alloc (.cells #[.int .i64 y.1, .int .i64 y.2] 59)) := by
  obtain ⟨i0, hi, hz0, hz1, hz2⟩ := info_parts info_item
  refine wpList_append_own _ hgd s x 25 ho B 59 i0 (.agg #[.int .i64 0, .int .i64 0]) 2 16 Try.underlying25 hi hz0 hz1 hz2 rfl (by decide) v m.length (cellsL m) hs (hown.alloc _) ⟨W0.heap.size, 0, none⟩ 1 1 [.int .i64 y.1, .int .i64 y.2] hx rfl (item_new _ _ _ _) (by intro u hu; simp at hu; rcases hu with rfl | rfl <;> rfl) (by unfold maxLen; omega) (by omega) (by simp; omega) ?_
  intro v' w' h1 h2 _
  refine h v' w' ?_ ?_
  · unfold OwnL
    rw [cellsL_snoc, List.length_append]
    exact h1
  · exact (((Below.refl B W0).alloc hB _).grown h2 (by simp; omega) (fun k hk => (hown.lt k hk).1))
def RefPost (w : World) (l' : List (Thing Int)) (b : Bool) (F : List Nat) (e : Ending) (w' : World) : Prop := ∃ A n c, e = .returned (.tuple #[.slice A n c, .bool b]) ∧ Items w' A n c l' F ∧ Below w.heap.size w w'

/-! ### Put -/
/-- How far Put has come. -/
def PutMid (x : Thing Int) (l : List (Thing Int)) (k : Nat) (d : Bool) (m : List (Thing Int)) : Prop :=
  (d = false → m = l.take k ∧ ∀ z ∈ l.take k, ¬ Bef LtI x z) ∧ (d = true → m = ins LtI x (l.take k) ∧ ∃ z ∈ l.take k, Bef LtI x z)
theorem take_one {α : Type} {l : List α} {k : Nat} {z : α} (h : l[k]? = some z) : l.take (k + 1) = l.take k ++ [z] := by
  rw [List.take_add_one, h]; rfl
theorem PutMid.here {x z : Thing Int} {l m : List (Thing Int)} {k : Nat} (h : PutMid x l k false m) (hz : l[k]? = some z) (hb : Bef LtI x z) : PutMid x l (k + 1) true (m ++ [x] ++ [z]) := by
  obtain ⟨h1, h2⟩ := h.1 rfl
  refine ⟨(fun e => by cases e), fun _ => ?_⟩
  rw [take_one hz]
  refine ⟨?_, z, by simp, hb⟩
  rw [ins_here h2 hb, h1]; simp
theorem PutMid.pass {x z : Thing Int} {l m : List (Thing Int)} {k : Nat} (h : PutMid x l k false m) (hz : l[k]? = some z) (hb : ¬ Bef LtI x z) : PutMid x l (k + 1) false (m ++ [z]) := by
  obtain ⟨h1, h2⟩ := h.1 rfl
  refine ⟨fun _ => ?_, (fun e => by cases e)⟩
  rw [take_one hz]
  refine ⟨by rw [h1], fun y hy => ?_⟩
  rcases List.mem_append.1 hy with e | e
  · exact h2 y e
  · simp at e; subst e; exact hb
theorem PutMid.done {x z : Thing Int} {l m : List (Thing Int)} {k : Nat} (h : PutMid x l k true m) (hz : l[k]? = some z) : PutMid x l (k + 1) true (m ++ [z]) := by
  obtain ⟨h1, y, h2, h3⟩ := h.2 rfl
  refine ⟨(fun e => by cases e), fun _ => ?_⟩
  rw [take_one hz]
  exact ⟨by rw [h1, ins_some _ ⟨y, h2, h3⟩], y, by simp [h2], h3⟩
theorem PutMid.len {x : Thing Int} {l m : List (Thing Int)} {k : Nat} {d : Bool} (h : PutMid x l k d m) : m.length ≤ l.length + 1 := by
  cases d with
  | false => obtain ⟨h1, _⟩ := h.1 rfl; rw [h1]; have := List.length_take_le k l; have := List.length_take_le' k l; omega
  | true => obtain ⟨h1, _⟩ := h.2 rfl; rw [h1, ins_len]; have := List.length_take_le' k l; omega
theorem PutMid.end_no {x : Thing Int} {l m : List (Thing Int)} {k : Nat} (h : PutMid x l k false m) (hk : l.length ≤ k) : m ++ [x] = ins LtI x l := by
  obtain ⟨h1, h2⟩ := h.1 rfl
  rw [List.take_of_length_le hk] at h1 h2
  rw [ins_none h2, h1]
theorem PutMid.end_yes {x : Thing Int} {l m : List (Thing Int)} {k : Nat} (h : PutMid x l k true m) (hk : l.length ≤ k) : m = ins LtI x l := by
  obtain ⟨h1, _⟩ := h.2 rfl
  rw [List.take_of_length_le hk] at h1
  exact h1
def PutRel (w : World) (x : Thing Int) (l : List (Thing Int)) (out done i : Value) (wr : World) : Prop :=
  ∃ (k : Nat) (d : Bool) (m : List (Thing Int)), i = .int .i64 k ∧ k ≤ l.length ∧ done = .bool d ∧ OwnL w.heap.size wr out m ∧ Below w.heap.size w wr ∧ PutMid x l k d m
end Go.Proofs.Ytgpnpopmlommaaa
