/- What text.Lines answers, off its code. -/
import Derived.Test.YtgkfkgioneahpaaDoorTextCodeB
namespace Go.Proofs.YtgkfkgioneahpaaDoor
open Go.RowKit Go.Shelf
set_option linter.unusedVariables false

/-- A value that reads as these lines. -/
def LinesOf (W : World) (v : Value) (ls : List (List (List UInt8))) : Prop :=
  ∃ us, W.ownsRow 0 29 1 v ls.length us ∧ Fit (fun l u => RowS W 0 u l) ls us
theorem LinesOf.keep {w w' : World} {v : Value} {ls : List (List (List UInt8))} (h : LinesOf w v ls) (hb : Below w.heap.size w w') : LinesOf w' v ls := by
  obtain ⟨us, h1, h2⟩ := h
  exact ⟨us, own_keep h1 hb, h2.mono fun x u hx => own_keep hx hb⟩
set_option maxHeartbeats 2000000 in
theorem lines_each (t : List UInt8) (ht : t.length ≤ 1000) (w : World) :
    Calls Tryd.prog 22 #[.func (.func 33) #[] #[.pointer (some ⟨w.heap.size, 0, none⟩)], .func (.func 24) #[] #[]]
      (w.alloc (.cells #[.string (strL t)] 9)) fun e W' =>
      ∃ v, e = .returned (.tuple #[v, .bool ((chunks t).all lineB)]) ∧ ((chunks t).all lineB = true → LinesOf W' v ((chunks t).map fun c => fields c.dropLast)) ∧ Below w.heap.size w W' := by
  obtain ⟨w1, hw1⟩ : ∃ w1, w1 = w.alloc (.cells #[.string (strL t)] 9) := ⟨_, rfl⟩
  have bC : Boxed w1 w.heap.size 9 (.string (strL t)) := by rw [hw1]; exact Boxed.new w _ _
  have hsz : w1.heap.size = w.heap.size + 1 := by rw [hw1]; simp
  have hb : Below w.heap.size w w1 := by rw [hw1]; exact below_alloc w _
  rw [← hw1]
  have hcl := chunks_len t
  refine (eachL 33 _ [w.heap.size] (chunks t) lineB (fun W x u => RowS W w1.heap.size u (fields x.dropLast)) 9 w1 (by omega) (enters_of Tryd.func33 (by kernel_rfl) rfl)
    (lines_seq 8 (by omega) w.heap.size w1.heap.size t w1 ht (by omega) bC) (by simp; omega)
    (fun x hx W hW => (words_any x (by have := chunks_le t x hx; omega) W).mono fun e W' ⟨u, h1, h2, h3⟩ => ⟨u, h1, fun h => own_base (h2 h) hW, h3⟩)
    (fun W x u h => by obtain ⟨A, c, e, _⟩ := own_form h; exact ⟨A, _, c, e⟩) (fun W W' x u h hs => own_same h hs (by simp; omega)) (by decide) (by decide) (by decide) (by decide)).mono ?_
  rintro e W' ⟨v, rfl, hy, _, ho⟩
  refine ⟨v, rfl, fun h => ?_, ho.over hb (by simp)⟩
  obtain ⟨us, hrow, hf⟩ := hy h
  refine ⟨us, by rw [List.length_map]; exact own_base hrow (by omega), Fit.map (hf.mono fun x u hx => own_base hx (by omega))⟩
set_option maxHeartbeats 2000000 in
theorem lines_yes (t : List UInt8) (ht : t.length ≤ 1000) (ls : List (List (List UInt8))) (h : linesD t = some ls) (w : World) :
    Calls Tryd.prog 9 #[.string (strL t)] w fun e W' => ∃ v, e = .returned (.tuple #[v, .int .i64 0]) ∧ LinesOf W' v ls ∧ Below w.heap.size w W' := by
  obtain ⟨h1, rfl⟩ := linesD_some h
  have CE := lines_each t ht w
  have CM := fun W => lines_make (strL t) W
  rw [h1] at CE
  clear h h1
  generalize ((chunks t).map fun c => fields c.dropLast) = ls at *
  go_enter Tryd.func9, Tryd.ntmps9
  go_wp2_with (first
    | (go_at_call 23; refine (CM _).mono ?_; rintro e w' ⟨rfl, rfl⟩)
    | (go_at_call 22; refine CE.mono ?_; rintro e w4 ⟨v, rfl, hy, hb⟩))
  go_ret2
  exact ⟨v, rfl, hy trivial, hb⟩
set_option maxHeartbeats 2000000 in
theorem lines_no (t : List UInt8) (ht : t.length ≤ 1000) (h : linesD t = none) (w : World) :
    Calls Tryd.prog 9 #[.string (strL t)] w fun e W' => e = .returned (.tuple #[.slice none 0 0, .int .i64 2]) ∧ Below w.heap.size w W' := by
  have h1 := linesD_none h
  have CE := lines_each t ht w
  have CM := fun W => lines_make (strL t) W
  rw [h1] at CE
  clear h h1
  go_enter Tryd.func9, Tryd.ntmps9
  go_wp2_with (first
    | (go_at_call 23; refine (CM _).mono ?_; rintro e w' ⟨rfl, rfl⟩)
    | (go_at_call 22; refine CE.mono ?_; rintro e w4 ⟨v, rfl, hy, hb⟩))
  go_ret2
  exact ⟨rfl, hb⟩
end Go.Proofs.YtgkfkgioneahpaaDoor
