/- What the functions of package text answer, off their code: words, Lines. -/
import Derived.Test.YtgkfkgioneahpaaDoorTextCode
namespace Go.Proofs.YtgkfkgioneahpaaDoor
open Go.RowKit Go.Shelf
set_option linter.unusedVariables false

theorem fields_le (l : List UInt8) : ∀ c ∈ fields l, c.length ≤ l.length := by
  induction l with
  | nil => simp [fields]
  | cons b r ih =>
    rw [fields]
    split
    · intro c hc
      rcases List.mem_cons.1 hc with rfl | hc
      · simp
      · have := ih c hc; simp; omega
    · split
      · intro c hc; simp at hc; subst hc; simp
      · rename_i d ds h
        rw [h] at ih
        intro c hc
        rcases List.mem_cons.1 hc with rfl | hc
        · have := ih d (by simp); simp; omega
        · have := ih c (by simp [hc]); simp; omega
/-- A row of texts of the call's own. -/
def RowS (W : World) (base : Nat) (u : Value) (fs : List (List UInt8)) : Prop := W.ownsRow base 9 1 u fs.length (fs.map fun f => Value.string (strL f))
theorem own_base {w : World} {b b' size n : Nat} {t : TypeId} {v : Value} {xs : List Value} (h : w.ownsRow b t size v n xs) (hb : b' ≤ b) : w.ownsRow b' t size v n xs := by
  refine ⟨h.1, ?_⟩
  rcases h.2 with h0 | ⟨g, cap, cur, hv, hg, r⟩
  · exact .inl h0
  · exact .inr ⟨g, cap, cur, hv, by omega, r⟩
theorem word_any (f : List UInt8) (hf : f.length ≤ 2000) (W : World) :
    Calls Tryd.prog 38 #[.string (strL f)] W fun e W' => ∃ u, e = .returned (.tuple #[u, .bool (wordB f)]) ∧ (wordB f = true → u = .string (strL f)) ∧ Below W.heap.size W W' := by
  have hs : (strL f).size ≤ maxLen := by rw [strL_size]; unfold maxLen; omega
  cases h : wordB f
  · refine (word_no (strL f) W hs (by rw [strL_list]; exact h)).mono ?_
    rintro e W' ⟨rfl, rfl⟩
    exact ⟨_, rfl, (fun h => by cases h), Below.refl _ _⟩
  · refine (word_yes (strL f) W hs (by rw [strL_list]; exact h)).mono ?_
    rintro e W' ⟨rfl, rfl⟩
    exact ⟨_, rfl, fun _ => rfl, Below.refl _ _⟩
set_option maxHeartbeats 2000000 in
/-- The pieces of a line between blanks. -/
theorem split_each (s : List UInt8) (hs : s.length ≤ 1000) (w : World) :
    Calls Tryd.prog 36 #[.func (.func 51) #[] #[.pointer (some ⟨w.heap.size + 1, 0, none⟩), .pointer (some ⟨w.heap.size, 0, none⟩), .pointer (some ⟨w.heap.size + 2, 0, none⟩)], .func (.func 38) #[] #[]]
      (((w.alloc (.cells #[.string (strL s)] 9)).alloc (.cells #[.string ⟨#[32]⟩] 9)).alloc (.cells #[.int .i64 0] 3)) fun e W' =>
      ∃ v, e = .returned (.tuple #[v, .bool ((fields s).all wordB)]) ∧ ((fields s).all wordB = true → RowS W' w.heap.size v (fields s)) ∧ Below w.heap.size w W' := by
  obtain ⟨w3, hw3⟩ : ∃ w3, w3 = (((w.alloc (.cells #[.string (strL s)] 9)).alloc (.cells #[.string ⟨#[32]⟩] 9)).alloc (.cells #[.int .i64 0] 3)) := ⟨_, rfl⟩
  have bC : Boxed w3 w.heap.size 9 (.string (strL s)) := by rw [hw3]; exact ((Boxed.new w _ _).alloc _).alloc _
  have bD : Boxed w3 (w.heap.size + 1) 9 (.string ⟨#[32]⟩) := by
    have a1 := Boxed.new (w.alloc (.cells #[.string (strL s)] 9)) 9 (.string ⟨#[32]⟩)
    rw [World.size_alloc] at a1
    rw [hw3]; exact a1.alloc _
  have bE : Boxed w3 (w.heap.size + 2) 3 (.int .i64 0) := by
    have a2 := Boxed.new ((w.alloc (.cells #[.string (strL s)] 9)).alloc (.cells #[.string ⟨#[32]⟩] 9)) 3 (.int .i64 0)
    rw [World.size_alloc, World.size_alloc] at a2
    rw [hw3]; exact a2
  have hsz : w3.heap.size = w.heap.size + 3 := by rw [hw3]; simp
  have hb : Below w.heap.size w w3 := by rw [hw3]; exact below3 w _ _ _
  rw [← hw3]
  have hfl := fields_len s
  refine (eachW 51 _ [w.heap.size] (fields s) wordB (fun _ f u => u = .string (strL f)) 1 w3 (by omega) (enters_of Tryd.func51 (by kernel_rfl) rfl)
    (split_seq 8 (by omega) w.heap.size (w.heap.size + 1) (w.heap.size + 2) w3.heap.size s w3 hs (by omega) (by omega) (by omega) (by omega) (by omega) bC bD bE) (by simp; omega)
    (fun f hf W _ => word_any f (by have := fields_le s f hf; omega) W) (fun _ x u h => ⟨_, h⟩) (fun _ _ _ _ h _ => h) (by decide) (by decide) (by decide) (by decide)).mono ?_
  rintro e W' ⟨v, rfl, hy, _, ho⟩
  refine ⟨v, rfl, fun h => ?_, ho.over hb (by simp)⟩
  obtain ⟨us, hrow, hf⟩ := hy h
  rw [Fit.fn hf] at hrow
  exact own_base hrow (by omega)
set_option maxHeartbeats 2000000 in
theorem words_any (x : List UInt8) (hx : x.length ≤ 1000) (w : World) :
    Calls Tryd.prog 24 #[.string (strL x)] w fun e W' => ∃ u, e = .returned (.tuple #[u, .bool (lineB x)]) ∧ (lineB x = true → RowS W' w.heap.size u (fields x.dropLast)) ∧ Below w.heap.size w W' := by
  have hcut : ∀ W, Calls Tryd.prog 35 #[.string (strL x), .string ⟨#[10]⟩] W fun e w' => e = .returned (.tuple #[.string (strL (Lib.trimSuffix x [10])), .bool (Lib.hasSuffix x [10])]) ∧ w' = W := fun W => by
    have := Tryd.strings_CutSuffix (strL x) ⟨#[10]⟩ W (by rw [strL_size]; omega)
    rw [strL_list] at this
    exact this
  cases hsuf : Lib.hasSuffix x [10]
  · have hl : lineB x = false := by unfold lineB; rw [hsuf]; rfl
    rw [hl]
    rw [hsuf] at hcut
    clear hsuf
    go_enter Tryd.func24, Tryd.ntmps24
    go_wp2_with (go_at_call 35; refine (hcut _).mono ?_; rintro e w' ⟨rfl, rfl⟩)
    go_ret2
    exact ⟨_, rfl, (fun h => by cases h), Below.refl _ _⟩
  · have hl : lineB x = (fields x.dropLast).all wordB := by unfold lineB; rw [hsuf]; rfl
    rw [hl]
    rw [hsuf, trim_ten hsuf] at hcut
    have hd : x.dropLast.length ≤ 1000 := by rw [List.length_dropLast]; omega
    clear hsuf hl
    generalize x.dropLast = s at *
    have CE := split_each s hd w
    have CM := fun W => split_make (strL s) ⟨#[32]⟩ W
    go_enter Tryd.func24, Tryd.ntmps24
    go_wp2_with (first
      | (go_at_call 35; refine (hcut _).mono ?_; rintro e w' ⟨rfl, rfl⟩)
      | (go_at_call 37; refine (CM _).mono ?_; rintro e w' ⟨rfl, rfl⟩)
      | (go_at_call 36; refine CE.mono ?_; rintro e w4 ⟨v, rfl, hy, hb⟩))
    go_ret2
    exact ⟨v, rfl, hy, hb⟩
end Go.Proofs.YtgkfkgioneahpaaDoor
