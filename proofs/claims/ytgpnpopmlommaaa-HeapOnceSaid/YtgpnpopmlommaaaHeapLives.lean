/- A heap of the call's own, from world to world; the document's example. -/
import Derived.Test.YtgpnpopmlommaaaHeapApiI
namespace Go.Proofs.Ytgpnpopmlommaaa
open Go.RowKit Go.Maps
set_option linter.unusedVariables false
theorem Only.over {F : List Nat} {w w1 w2 : World} (h : Only F w1 w2) (hb : Below w.heap.size w w1) (hF : ∀ b ∈ F, w.heap.size ≤ b) : Below w.heap.size w w2 := hb.trans (h.to_below hb.size hF)
/-- A heap of the call's own: what it has in w1; w: where the call began. -/
def OwnI (w : World) (g : Nat) (l : List (Thing Int)) (w1 : World) : Prop := ∃ F, HoldsI w1 g F l ∧ Below w.heap.size w w1 ∧ ∀ b ∈ F, w.heap.size ≤ b
theorem OwnI.turned {w w1 w2 : World} {g : Nat} {l l' : List (Thing Int)} {F F' : List Nat} (hb : Below w.heap.size w w1) (hF : ∀ b ∈ F, w.heap.size ≤ b) (h : HoldsI w2 g F' l') (ht : Turned F F' w1 w2) : OwnI w g l' w2 :=
  ⟨F', h, ht.1.over hb hF, fun b hm => by rcases ht.2 b hm with e | e; exact hF b e; have := hb.size; omega⟩
theorem put_own {w w1 : World} {g : Nat} {l : List (Thing Int)} (h : OwnI w g l w1) {id x : Int} (hid : (Lit.int .i64 id).wf = true) (hx : (Lit.int .i64 x).wf = true) (hroom : l.length < 1048576) {l' : List (Thing Int)} (hl : (if isIn l id = true then l else ins LtI (id, x) l) = l') :
    Calls Try.prog 22 #[.pointer (some ⟨g, 0, none⟩), .int .i64 id, .int .i64 x] w1 fun e w' => e = .returned (.bool (!isIn l id)) ∧ OwnI w g l' w' := by
  obtain ⟨F, h1, h2, h3⟩ := h
  subst hl
  refine (put_I h1 hid hx hroom).mono ?_
  rintro e w' ⟨rfl, F', g1, g2⟩
  exact ⟨rfl, .turned (l := l) h2 h3 g1 g2⟩
theorem take_own {w w1 : World} {g : Nat} {x : Thing Int} {l : List (Thing Int)} (h : OwnI w g (x :: l) w1) :
    Calls Try.prog 17 #[.pointer (some ⟨g, 0, none⟩)] w1 fun e w' => e = .returned (.tuple #[.int .i64 x.1, .int .i64 x.2, .bool true]) ∧ OwnI w g l w' := by
  obtain ⟨F, h1, h2, h3⟩ := h
  refine (take_some_I h1).mono ?_
  rintro e w' ⟨rfl, g1, g2⟩
  exact ⟨rfl, .turned (l := x :: l) h2 h3 g1 (.of_only g2)⟩
theorem take_own_none {w w1 : World} {g : Nat} (h : OwnI w g [] w1) :
    Calls Try.prog 17 #[.pointer (some ⟨g, 0, none⟩)] w1 fun e w' => e = .returned (.tuple #[.int .i64 0, .int .i64 0, .bool false]) ∧ OwnI w g [] w' := by
  have h' := h
  obtain ⟨F, h1, h2, h3⟩ := h
  refine (take_none_I h1).mono ?_
  rintro e w' ⟨rfl, rfl⟩
  exact ⟨rfl, h'⟩
theorem len_own {w w1 : World} {g : Nat} {l : List (Thing Int)} (h : OwnI w g l w1) :
    Calls Try.prog 16 #[.pointer (some ⟨g, 0, none⟩)] w1 fun e w' => e = .returned (.int .i64 l.length) ∧ w1 = w' := by
  obtain ⟨F, h1, h2, h3⟩ := h
  exact hlen_I h1
def NewOwn (w : World) (e : Ending) (w' : World) : Prop := ∃ g, e = .returned (.pointer (some ⟨g, 0, none⟩)) ∧ OwnI w g [] w'
theorem new_own (w : World) : Calls Try.prog 9 #[] w (NewOwn w) := by
  refine (new_I w).mono ?_
  rintro e w' ⟨g, F, rfl, h1, h2, h3⟩
  exact ⟨g, rfl, F, h1, h2, h3⟩
theorem lives_any (w : World) : Calls Try.prog 12 #[] w fun e w' => e = .returned (.bool true) ∧ Below w.heap.size w w' := by
  have H0 := Lib.hid (new_own w)
  have P1 : Hid (∀ g w1, OwnI w g [] w1 → Calls Try.prog 22 #[.pointer (some ⟨g, 0, none⟩), .int .i64 7, .int .i64 3] w1 fun e w' => e = .returned (.bool true) ∧ OwnI w g [(7, 3)] w') :=
    Lib.hid fun g w1 h => put_own h (by decide) (by decide) (by decide) (by decide)
  have P2 : Hid (∀ g w1, OwnI w g [(7, 3)] w1 → Calls Try.prog 22 #[.pointer (some ⟨g, 0, none⟩), .int .i64 2, .int .i64 3] w1 fun e w' => e = .returned (.bool true) ∧ OwnI w g [(2, 3), (7, 3)] w') :=
    Lib.hid fun g w1 h => put_own h (by decide) (by decide) (by decide) (by decide)
  have P3 : Hid (∀ g w1, OwnI w g [(2, 3), (7, 3)] w1 → Calls Try.prog 22 #[.pointer (some ⟨g, 0, none⟩), .int .i64 5, .int .i64 1] w1 fun e w' => e = .returned (.bool true) ∧ OwnI w g [(5, 1), (2, 3), (7, 3)] w') :=
    Lib.hid fun g w1 h => put_own h (by decide) (by decide) (by decide) (by decide)
  have T1 : Hid (∀ g w1, OwnI w g [(5, 1), (2, 3), (7, 3)] w1 → Calls Try.prog 17 #[.pointer (some ⟨g, 0, none⟩)] w1 fun e w' => e = .returned (.tuple #[.int .i64 5, .int .i64 1, .bool true]) ∧ OwnI w g [(2, 3), (7, 3)] w') := Lib.hid fun g w1 h => take_own h
  have T2 : Hid (∀ g w1, OwnI w g [(2, 3), (7, 3)] w1 → Calls Try.prog 17 #[.pointer (some ⟨g, 0, none⟩)] w1 fun e w' => e = .returned (.tuple #[.int .i64 2, .int .i64 3, .bool true]) ∧ OwnI w g [(7, 3)] w') := Lib.hid fun g w1 h => take_own h
  have T3 : Hid (∀ g w1, OwnI w g [(7, 3)] w1 → Calls Try.prog 17 #[.pointer (some ⟨g, 0, none⟩)] w1 fun e w' => e = .returned (.tuple #[.int .i64 7, .int .i64 3, .bool true]) ∧ OwnI w g [] w') := Lib.hid fun g w1 h => take_own h
  have L0 : Hid (∀ g w1, OwnI w g [] w1 → Calls Try.prog 16 #[.pointer (some ⟨g, 0, none⟩)] w1 fun e w' => e = .returned (.int .i64 0) ∧ w1 = w') := Lib.hid fun g w1 h => len_own h
  have HE : Hid (∀ g w1, OwnI w g [] w1 → Below w.heap.size w w1) := Lib.hid fun g w1 ⟨F, _, h, _⟩ => h
  go_enter Try.func12, Try.ntmps12
  go_wp2_with (first
    | (go_at_call 9; refine H0.out.mono ?_; rintro e w1 ⟨g, rfl, h0⟩)
    | (go_at_call 22; with_reducible refine (P1.out _ _ h0).mono ?_; rintro e w2 ⟨rfl, h1⟩)
    | (go_at_call 22; with_reducible refine (P2.out _ _ h1).mono ?_; rintro e w3 ⟨rfl, h2⟩)
    | (go_at_call 22; with_reducible refine (P3.out _ _ h2).mono ?_; rintro e w4 ⟨rfl, h3⟩)
    | (go_at_call 17; with_reducible refine (T1.out _ _ h3).mono ?_; rintro e w5 ⟨rfl, h4⟩; clear h3)
    | (go_at_call 17; with_reducible refine (T2.out _ _ h4).mono ?_; rintro e w6 ⟨rfl, h5⟩; clear h4)
    | (go_at_call 17; with_reducible refine (T3.out _ _ h5).mono ?_; rintro e w7 ⟨rfl, h6⟩; clear h5)
    | (go_at_call 16; with_reducible refine (L0.out _ _ h6).mono ?_; rintro e w8 ⟨rfl, rfl⟩))
  go_ret
  exact ⟨rfl, HE.out _ _ h6⟩
end Go.Proofs.Ytgpnpopmlommaaa
