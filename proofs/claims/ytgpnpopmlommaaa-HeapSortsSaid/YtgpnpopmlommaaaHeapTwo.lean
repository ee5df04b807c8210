/- Two heaps of the call's own. -/
import Derived.Test.YtgpnpopmlommaaaHeapLives
namespace Go.Proofs.Ytgpnpopmlommaaa
open Go.RowKit Go.Maps
set_option linter.unusedVariables false
theorem HoldsI.blocks {w : World} {g : Nat} {F : List Nat} {l : List (Thing Int)} (h : HoldsI w g F l) : ∀ b ∈ F, b < w.heap.size := by
  obtain ⟨q, n, h1, _⟩ := h
  exact h1.blocks
theorem HoldsI.only {w w' : World} {g : Nat} {F F' : List Nat} {l : List (Thing Int)} (h : HoldsI w g F l) (ho : Only F' w w') (hd : ∀ b ∈ F, b ∉ F') : HoldsI w' g F l := by
  obtain ⟨q, n, h1, h2, h3, h4⟩ := h
  exact ⟨q, n, HeapIs.only h1 ho hd, h2, h3, h4⟩
theorem HoldsI.below {w w' : World} {g : Nat} {F : List Nat} {l : List (Thing Int)} (h : HoldsI w g F l) (ho : Below w.heap.size w w') : HoldsI w' g F l := h.only (F' := []) (Only.of_below ho) (fun _ _ => by simp)
theorem HoldsI.has {w : World} {g : Nat} {F : List Nat} {l : List (Thing Int)} (h : HoldsI w g F l) : Has LtI l := by
  obtain ⟨q, n, h1, h2, h3, h4⟩ := h
  exact h4
/-- Two heaps, apart. -/
def TwoI (w : World) (ga gb : Nat) (la lb : List (Thing Int)) (w1 : World) : Prop :=
  ∃ Fa Fb, HoldsI w1 ga Fa la ∧ HoldsI w1 gb Fb lb ∧ Below w.heap.size w w1 ∧ (∀ b ∈ Fa, w.heap.size ≤ b) ∧ (∀ b ∈ Fb, w.heap.size ≤ b) ∧ ∀ b ∈ Fa, b ∉ Fb
theorem TwoI.sym {w w1 : World} {ga gb : Nat} {la lb : List (Thing Int)} (h : TwoI w ga gb la lb w1) : TwoI w gb ga lb la w1 := by
  obtain ⟨Fa, Fb, h1, h2, h3, h4, h5, h6⟩ := h
  exact ⟨Fb, Fa, h2, h1, h3, h5, h4, fun b hb hf => h6 b hf hb⟩
theorem two_turn {w w1 w2 : World} {ga gb : Nat} {la' lb : List (Thing Int)} {Fa Fb F' : List Nat} (h2 : HoldsI w1 gb Fb lb) (h3 : Below w.heap.size w w1) (h4 : ∀ b ∈ Fa, w.heap.size ≤ b) (h5 : ∀ b ∈ Fb, w.heap.size ≤ b) (h6 : ∀ b ∈ Fa, b ∉ Fb)
    (h : HoldsI w2 ga F' la') (ht : Turned Fa F' w1 w2) : TwoI w ga gb la' lb w2 := by
  refine ⟨F', Fb, h, h2.only ht.1 (fun b hb hf => h6 b hf hb), ht.1.over h3 h4, fun b hb => ?_, h5, fun b hb hf => ?_⟩
  · rcases ht.2 b hb with e | e
    · exact h4 b e
    · have := h3.size; omega
  · rcases ht.2 b hb with e | e
    · exact h6 b e hf
    · have := h2.blocks b hf; omega
theorem put_two {w w1 : World} {ga gb : Nat} {la lb : List (Thing Int)} (h : TwoI w ga gb la lb w1) {id x : Int} (hid : (Lit.int .i64 id).wf = true) (hx : (Lit.int .i64 x).wf = true) (hroom : la.length < 1048576) (hin : isIn la id = false) :
    Calls Try.prog 22 #[.pointer (some ⟨ga, 0, none⟩), .int .i64 id, .int .i64 x] w1 fun e w' => e = .returned (.bool true) ∧ TwoI w ga gb (ins LtI (id, x) la) lb w' := by
  obtain ⟨Fa, Fb, h1, h2, h3, h4, h5, h6⟩ := h
  refine (put_I h1 hid hx hroom).mono ?_
  rintro e w' ⟨rfl, F', g1, g2⟩
  rw [hin] at g1 ⊢
  exact ⟨rfl, two_turn h2 h3 h4 h5 h6 g1 g2⟩
theorem change_two {w w1 : World} {ga gb : Nat} {la lb : List (Thing Int)} (h : TwoI w ga gb la lb w1) {id x : Int} (hid : (Lit.int .i64 id).wf = true) (hx : (Lit.int .i64 x).wf = true) (hin : isIn la id = true) :
    Calls Try.prog 23 #[.pointer (some ⟨ga, 0, none⟩), .int .i64 id, .int .i64 x] w1 fun e w' => e = .returned (.bool true) ∧ TwoI w ga gb (ins LtI (id, x) (del la id)) lb w' := by
  obtain ⟨Fa, Fb, h1, h2, h3, h4, h5, h6⟩ := h
  refine (change_I h1 hid hx).mono ?_
  rintro e w' ⟨rfl, F', g1, g2⟩
  rw [hin] at g1 ⊢
  exact ⟨rfl, two_turn h2 h3 h4 h5 h6 g1 g2⟩
theorem take_two {w w1 : World} {ga gb : Nat} {x : Thing Int} {la lb : List (Thing Int)} (h : TwoI w ga gb (x :: la) lb w1) :
    Calls Try.prog 17 #[.pointer (some ⟨ga, 0, none⟩)] w1 fun e w' => e = .returned (.tuple #[.int .i64 x.1, .int .i64 x.2, .bool true]) ∧ TwoI w ga gb la lb w' := by
  obtain ⟨Fa, Fb, h1, h2, h3, h4, h5, h6⟩ := h
  refine (take_some_I h1).mono ?_
  rintro e w' ⟨rfl, g1, g2⟩
  exact ⟨rfl, two_turn h2 h3 h4 h5 h6 g1 (.of_only g2)⟩
theorem take_two_none {w w1 : World} {ga gb : Nat} {lb : List (Thing Int)} (h : TwoI w ga gb [] lb w1) :
    Calls Try.prog 17 #[.pointer (some ⟨ga, 0, none⟩)] w1 fun e w' => e = .returned (.tuple #[.int .i64 0, .int .i64 0, .bool false]) ∧ TwoI w ga gb [] lb w' := by
  have h' := h
  obtain ⟨Fa, Fb, h1, h2, h3, h4, h5, h6⟩ := h
  refine (take_none_I h1).mono ?_
  rintro e w' ⟨rfl, rfl⟩
  exact ⟨rfl, h'⟩
def NewTwo (w : World) (ga : Nat) (e : Ending) (w' : World) : Prop := ∃ gb, e = .returned (.pointer (some ⟨gb, 0, none⟩)) ∧ TwoI w ga gb [] [] w'
theorem new_two {w w1 : World} {ga : Nat} (h : OwnI w ga [] w1) : Calls Try.prog 9 #[] w1 (NewTwo w ga) := by
  obtain ⟨Fa, h1, h2, h3⟩ := h
  refine (new_I w1).mono ?_
  rintro e w' ⟨g, F, rfl, g1, g2, g3⟩
  refine ⟨g, rfl, Fa, F, h1.below g2, g1, h2.trans (g2.mono h2.size), h3, fun b hb => by have := g3 b hb; have := h2.size; omega, fun b hb hf => ?_⟩
  have a1 := h1.blocks b hb
  have a2 := g3 b hf
  omega

/-! ### The rows of HeapSame -/
def upQ (xs : List Int) (i : Nat) : Thing Int := ((i : Int), xs.getD i 0)
def downQ (xs : List Int) (n i : Nat) : Thing Int := (((n - 1 - i : Nat) : Int), xs.getD (n - 1 - i) 0)
theorem down_up (xs : List Int) (n : Nat) : (row (downQ xs n) n).Perm (row (upQ xs) n) := by
  have e : row (downQ xs n) n = (row (upQ xs) n).reverse := by
    apply List.ext_getElem
    · simp [rowq_len]
    · intro i h1 h2
      rw [List.getElem_reverse]
      simp [row, upQ, downQ]
  rw [e]
  exact List.reverse_perm _
/-- How far the two heaps are filled. -/
def Filled (la lb : List (Thing Int)) (xs : List Int) (n k : Nat) : Prop := Has LtI la ∧ Has LtI lb ∧ la.Perm (row (upQ xs) k) ∧ lb.Perm (row (downQ xs n) k)
theorem Filled.len {la lb : List (Thing Int)} {xs : List Int} {n k : Nat} (h : Filled la lb xs n k) : la.length = k ∧ lb.length = k := by
  obtain ⟨_, _, h1, h2⟩ := h
  rw [h1.length_eq, h2.length_eq, rowq_len, rowq_len]; exact ⟨rfl, rfl⟩
theorem Filled.outA {la lb : List (Thing Int)} {xs : List Int} {n k : Nat} (h : Filled la lb xs n k) : isIn la (k : Int) = false := by
  refine isIn_false.2 fun y hy e => ?_
  obtain ⟨i, hi, rfl⟩ := mem_row.1 (h.2.2.1.subset hy)
  simp [upQ] at e; omega
theorem Filled.outB {la lb : List (Thing Int)} {xs : List Int} {n k : Nat} (h : Filled la lb xs n k) (hk : k < n) : isIn lb ((n - 1 - k : Nat) : Int) = false := by
  refine isIn_false.2 fun y hy e => ?_
  obtain ⟨i, hi, rfl⟩ := mem_row.1 (h.2.2.2.subset hy)
  simp only [downQ] at e; omega
theorem del_ins {x : Thing Int} {l : List (Thing Int)} (hl : Has LtI l) (hin : isIn l x.1 = false) : (del (ins LtI x l) x.1).Perm l := by
  have h1 := hl.ins order_I hin
  have h2 := del_perm h1.2 ((ins_perm x l).symm.subset (List.mem_cons_self (a := x) (l := l)))
  exact List.Perm.cons_inv (h2.symm.trans (ins_perm x l))
theorem Filled.next {la lb : List (Thing Int)} {xs : List Int} {n k : Nat} (h : Filled la lb xs n k) (hk : k < n) :
    Filled (ins LtI ((k : Int), xs.getD k 0) la) (ins LtI (((n - 1 - k : Nat) : Int), xs.getD (n - 1 - k) 0) (del (ins LtI (((n - 1 - k : Nat) : Int), 0) lb) ((n - 1 - k : Nat) : Int))) xs n (k + 1) := by
  have o1 := h.outA
  have o2 := h.outB hk
  obtain ⟨h1, h2, h3, h4⟩ := h
  have p := del_ins (x := (((n - 1 - k : Nat) : Int), 0)) h2 o2
  refine ⟨h1.ins order_I o1, ((h2.ins order_I (x := (((n - 1 - k : Nat) : Int), 0)) o2).del _).ins order_I (del_isIn _ _), ?_, ?_⟩
  · rw [row_succ]
    exact ((ins_perm _ _).trans (h3.cons _)).trans (List.perm_append_singleton _ _).symm
  · rw [row_succ]
    exact ((ins_perm _ _).trans ((p.trans h4).cons _)).trans (List.perm_append_singleton _ _).symm
theorem Filled.same {la lb : List (Thing Int)} {xs : List Int} {n : Nat} (h : Filled la lb xs n n) : la = lb := by
  obtain ⟨h1, h2, h3, h4⟩ := h
  exact sorted_unique order_I h1.1 h2.1 (h3.trans ((down_up xs n).symm.trans h4.symm))
theorem isIn_ins {x : Thing Int} {l : List (Thing Int)} : isIn (ins LtI x l) x.1 = true :=
  isIn_iff.2 (List.mem_map.2 ⟨x, (ins_perm x l).symm.subset List.mem_cons_self, rfl⟩)
end Go.Proofs.Ytgpnpopmlommaaa
