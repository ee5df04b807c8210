/- Plain facts on rows of things in their order: one more, one less, another worth, all of them one behind the other; nothing of the program. -/
import Derived.Test.YtgpnpopmlommaaaHeapPure
namespace Go.Proofs.Ytgpnpopmlommaaa
set_option linter.unusedVariables false
section
variable {α : Type} {lt : α → α → Prop}
/-- Is the number there? -/
def isIn (l : List (Thing α)) (id : Int) : Bool := l.any fun y => y.1 == id
theorem isIn_iff {l : List (Thing α)} {id : Int} : isIn l id = true ↔ id ∈ l.map (·.1) := by
  unfold isIn
  rw [List.any_eq_true, List.mem_map]
  constructor
  · rintro ⟨y, hy, e⟩; exact ⟨y, hy, by simpa using e⟩
  · rintro ⟨y, hy, e⟩; exact ⟨y, hy, by simpa using e⟩
theorem isIn_false {l : List (Thing α)} {id : Int} : isIn l id = false ↔ ∀ y ∈ l, y.1 ≠ id := by
  unfold isIn
  rw [List.any_eq_false]
  constructor
  · intro h y hy; simpa using h y hy
  · intro h y hy; simpa using h y hy
/-- One thing less. -/
def del (l : List (Thing α)) (id : Int) : List (Thing α) := l.filter fun y => y.1 != id
/-- A thing's worth. -/
def worthOf (d : α) (l : List (Thing α)) (id : Int) : α × Bool := match l.find? fun y => y.1 == id with | some y => (y.2, true) | none => (d, false)
theorem del_none {l : List (Thing α)} {id : Int} (h : isIn l id = false) : del l id = l := by
  unfold del
  rw [List.filter_eq_self]
  intro y hy
  simpa using isIn_false.1 h y hy
theorem del_isIn (l : List (Thing α)) (id : Int) : isIn (del l id) id = false := by
  rw [isIn_false]
  intro y hy
  have := (List.mem_filter.1 hy).2
  simpa using this
theorem Has.del {l : List (Thing α)} (h : Has lt l) (id : Int) : Has lt (del l id) :=
  ⟨h.1.filter _, (List.filter_sublist.map _).nodup h.2⟩
theorem Has.tail {x : Thing α} {l : List (Thing α)} (h : Has lt (x :: l)) : Has lt l := ⟨(List.pairwise_cons.1 h.1).2, (List.nodup_cons.1 (by simpa using h.2)).2⟩
theorem Has.del_head {x : Thing α} {l : List (Thing α)} (h : Has lt (x :: l)) : Go.Proofs.Ytgpnpopmlommaaa.del (x :: l) x.1 = l := by
  unfold Go.Proofs.Ytgpnpopmlommaaa.del
  rw [List.filter_cons_of_neg (by simp)]
  rw [List.filter_eq_self]
  intro y hy
  have hn := List.nodup_cons.1 (show (x.1 :: l.map (·.1)).Nodup by simpa using h.2)
  have : y.1 ≠ x.1 := fun e => hn.1 (List.mem_map.2 ⟨y, hy, e⟩)
  simpa using this
/-- A row without one thing, and that thing. -/
theorem del_perm {l : List (Thing α)} (hn : (l.map (·.1)).Nodup) {x : Thing α} (hx : x ∈ l) : l.Perm (x :: del l x.1) := by
  induction l with
  | nil => cases hx
  | cons y r ih =>
    have hn2 := List.nodup_cons.1 (show (y.1 :: r.map (·.1)).Nodup by simpa using hn)
    rcases List.mem_cons.1 hx with e | e
    · subst e
      have : del (x :: r) x.1 = r := by
        unfold del
        rw [List.filter_cons_of_neg (by simp), List.filter_eq_self]
        intro y hy
        have : y.1 ≠ x.1 := fun e => hn2.1 (List.mem_map.2 ⟨y, hy, e⟩)
        simpa using this
      rw [this]
    · have hne : y.1 ≠ x.1 := fun e2 => hn2.1 (List.mem_map.2 ⟨x, e, e2.symm⟩)
      have : del (y :: r) x.1 = y :: del r x.1 := by
        unfold del
        rw [List.filter_cons_of_pos (by simpa using hne)]
      rw [this]
      exact ((ih hn2.2 e).cons y).trans (List.Perm.swap x y _)
end
section
variable {α : Type} {lt : α → α → Prop} [DecidableRel lt] [DecidableEq α]

theorem ins_none {x : Thing α} : ∀ {l : List (Thing α)}, (∀ z ∈ l, ¬ Bef lt x z) → ins lt x l = l ++ [x]
  | [], _ => rfl
  | y :: r, h => by
    unfold ins
    rw [if_neg (h y List.mem_cons_self), ins_none fun z hz => h z (List.mem_cons_of_mem _ hz)]; rfl
theorem ins_some {x : Thing α} (m : List (Thing α)) : ∀ {l : List (Thing α)}, (∃ z ∈ l, Bef lt x z) → ins lt x (l ++ m) = ins lt x l ++ m
  | [], ⟨z, hz, _⟩ => by cases hz
  | y :: r, ⟨z, hz, hb⟩ => by
    show (if Bef lt x y then x :: y :: (r ++ m) else y :: ins lt x (r ++ m)) = (if Bef lt x y then x :: y :: r else y :: ins lt x r) ++ m
    by_cases h : Bef lt x y
    · rw [if_pos h, if_pos h]; rfl
    · rw [if_neg h, if_neg h]
      rcases List.mem_cons.1 hz with e | e
      · subst e; exact absurd hb h
      · rw [ins_some m ⟨z, e, hb⟩]; rfl
theorem ins_here {x y : Thing α} {l : List (Thing α)} (h : ∀ z ∈ l, ¬ Bef lt x z) (hb : Bef lt x y) : ins lt x (l ++ [y]) = l ++ [x, y] := by
  induction l with
  | nil => show (if Bef lt x y then [x, y] else _) = _; rw [if_pos hb]; rfl
  | cons z r ih =>
    show (if Bef lt x z then _ else z :: ins lt x (r ++ [y])) = _
    rw [if_neg (h z List.mem_cons_self), ih fun u hu => h u (List.mem_cons_of_mem _ hu)]; rfl
theorem ins_len (x : Thing α) (l : List (Thing α)) : (ins lt x l).length = l.length + 1 := by rw [(ins_perm x l).length_eq]; rfl
theorem Has.ins {l : List (Thing α)} (O : Order lt) (h : Has lt l) {x : Thing α} (hx : isIn l x.1 = false) : Has lt (ins lt x l) := by
  have hne := isIn_false.1 hx
  refine ⟨ins_sorted O h.1 fun y hy e => hne y hy (congrArg Prod.fst e), ?_⟩
  have hp := (ins_perm (lt := lt) x l).map (·.1)
  refine hp.symm.nodup ?_
  rw [List.map_cons, List.nodup_cons]
  refine ⟨fun hm => ?_, h.2⟩
  obtain ⟨y, hy, e⟩ := List.mem_map.1 hm
  exact hne y hy e
/-- All worths, one behind the other, each at its place. -/
def allW (ws : List α) : Nat → List (Thing α)
  | 0 => []
  | k + 1 => match ws[k]? with | some w => ins lt ((k : Int), w) (allW ws k) | none => allW ws k
end
end Go.Proofs.Ytgpnpopmlommaaa
