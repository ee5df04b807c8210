/- TextLines, off its code. -/
import Derived.Test.YtgkfkgioneahpaaDoorTextLives
import Derived.ChangeMaps5
namespace Go.Proofs.YtgkfkgioneahpaaDoor
open Go.RowKit Go.ChangeShapes Go.WideShapes
open Go.ChangeMaps (open_string shut_string)
set_option linter.unusedVariables false
theorem linesD_bd {t : List UInt8} {ls : List (List (List UInt8))} (h : linesD t = some ls) : ls.length ≤ t.length ∧ ∀ l ∈ ls, l.length ≤ t.length + 1 := by
  obtain ⟨_, rfl⟩ := linesD_some h
  refine ⟨by rw [List.length_map]; exact chunks_len t, fun l hl => ?_⟩
  obtain ⟨c, hc, rfl⟩ := List.mem_map.1 hl
  have h1 := fields_len c.dropLast
  have h2 := chunks_le t c hc
  rw [List.length_dropLast] at h1
  omega
theorem lines_ref_yes (X : ByteArray) (hX : X.size ≤ 1000) (ls : List (List (List UInt8))) (h : linesD X.data.toList = some ls) (w : World) :
    Calls Tryd.prog 10 #[.string X] w fun e W' => ∃ v, e = .returned (.tuple #[v, .int .i64 0]) ∧ LinesOf W' v ls ∧ Below w.heap.size w W' :=
  (lines_ref X hX w _ h).mono fun e W' h => by
    rcases h with ⟨ls', v, e1, e2, e3, e4⟩ | ⟨e1, _⟩
    · cases e1; exact ⟨v, e2, e3, e4⟩
    · cases e1
theorem lines_ref_no (X : ByteArray) (hX : X.size ≤ 1000) (h : linesD X.data.toList = none) (w : World) :
    Calls Tryd.prog 10 #[.string X] w fun e W' => e = .returned (.tuple #[.slice none 0 0, .int .i64 2]) ∧ Below w.heap.size w W' :=
  (lines_ref X hX w _ h).mono fun e W' h => by
    rcases h with ⟨ls', v, e1, _⟩ | ⟨_, e2, e3⟩
    · cases e1
    · exact ⟨e2, e3⟩
theorem LinesOf.none (W : World) : LinesOf W (.slice none 0 0) [] := ⟨[], World.ownsRow_nil _ _ _ _, .nil⟩
theorem lines_code_yes (X : ByteArray) (hX : X.size ≤ 1000) (ls : List (List (List UInt8))) (h : linesD X.data.toList = some ls) (w : World) :
    Calls Tryd.prog 9 #[.string X] w fun e W' => ∃ v, e = .returned (.tuple #[v, .int .i64 0]) ∧ LinesOf W' v ls ∧ Below w.heap.size w W' := by
  have := lines_yes X.data.toList (by rw [← strL_size, strL_of]; exact hX) ls h w
  rwa [strL_of] at this
theorem lines_code_no (X : ByteArray) (hX : X.size ≤ 1000) (h : linesD X.data.toList = none) (w : World) :
    Calls Tryd.prog 9 #[.string X] w fun e W' => e = .returned (.tuple #[.slice none 0 0, .int .i64 2]) ∧ Below w.heap.size w W' := by
  have := lines_no X.data.toList (by rw [← strL_size, strL_of]; exact hX) h w
  rwa [strL_of] at this
theorem cut_cases (s : ByteArray) (n : Nat) : ∃ X : ByteArray, X.size ≤ n ∧ ((n < s.size ∧ s.extract 0 n = X) ∨ (¬ n < s.size ∧ s = X)) := by
  by_cases h : n < s.size
  · exact ⟨_, by simp; omega, .inl ⟨h, rfl⟩⟩
  · exact ⟨s, by omega, .inr ⟨h, rfl⟩⟩
theorem list_len (X : ByteArray) : X.data.toList.length = X.size := Array.length_toList
set_option maxRecDepth 100000 in
set_option maxHeartbeats 8000000 in
theorem lines_law (s : ByteArray) (hs : s.size ≤ maxLen) (w : World) :
    Calls Tryd.prog 3 #[.string s] w fun e W' => e = .returned (.bool true) ∧ Below w.heap.size w W' := by
  have CL := fun W => lives5_any W
  obtain ⟨X, hXs, hcut⟩ := cut_cases s 200
  unfold maxLen at hs
  cases hD : linesD X.data.toList with
  | none =>
    have C1 := fun W => lines_code_no X (by omega) hD W
    have C2 := fun W => lines_ref_no X (by omega) hD W
    have C3 := fun W => same_yes (.slice none 0 0) (.slice none 0 0) [] W (.none W) (.none W) (by simp) (by simp)
    clear hD
    rcases hcut with ⟨hlong, hX⟩ | ⟨hlong, rfl⟩
    all_goals
      go_enter Tryd.func3, Tryd.ntmps3
      go_wp2_with (first
        | (go_at_call 9; refine (C1 _).mono ?_; rintro e w1 ⟨rfl, hb1⟩)
        | (go_at_call 10; refine (C2 _).mono ?_; rintro e w2 ⟨rfl, hb2⟩)
        | (go_at_call 11; refine (C3 _).mono ?_; rintro e w3 ⟨rfl, hb3⟩)
        | (go_at_call 12; refine (CL _).mono ?_; rintro e w4 ⟨rfl, hb4⟩))
      go_ret
      exact ⟨rfl, ((hb1.trans (hb2.mono hb1.size)).trans (hb3.mono (by have := hb1.size; have := hb2.size; omega))).trans (hb4.mono (by have := hb1.size; have := hb2.size; have := hb3.size; omega))⟩
  | some ls =>
    have C1 := fun W => lines_code_yes X (by omega) ls hD W
    have C2 := fun W => lines_ref_yes X (by omega) ls hD W
    obtain ⟨b1, b2⟩ := linesD_bd hD
    rw [list_len] at b1
    have C3 := fun a b W (ha : LinesOf W a ls) (hb : LinesOf W b ls) => same_yes a b ls W ha hb (by omega) (fun l hl => by have := b2 l hl; rw [list_len] at this; omega)
    clear hD b1 b2
    rcases hcut with ⟨hlong, hX⟩ | ⟨hlong, rfl⟩
    all_goals
      go_enter Tryd.func3, Tryd.ntmps3
      go_wp2_with (first
        | (go_at_call 9; refine (C1 _).mono ?_; rintro e w1 ⟨v1, rfl, hL1, hb1⟩)
        | (go_at_call 10; refine (C2 _).mono ?_; rintro e w2 ⟨v2, rfl, hL2, hb2⟩)
        | (go_at_call 11; refine (C3 _ _ _ (hL1.keep hb2) hL2).mono ?_; rintro e w3 ⟨rfl, hb3⟩)
        | (go_at_call 12; refine (CL _).mono ?_; rintro e w4 ⟨rfl, hb4⟩))
      go_ret
      exact ⟨rfl, ((hb1.trans (hb2.mono hb1.size)).trans (hb3.mono (by have := hb1.size; have := hb2.size; omega))).trans (hb4.mono (by have := hb1.size; have := hb2.size; have := hb3.size; omega))⟩
section
variable {H : Type} {enc : TypeId × Value → H} {base : Nat}
theorem lines_frame (W : World) {v0 : Value} {d0 : DataW H} {p0 : List MemPlace} (k0 : DataW.Trod enc Tryd.prog W 0 (fun _ => true) true 9 v0 d0 p0) (o0 : Value.okWide Tryd.prog W .any base 9 v0) :
    Calls Tryd.prog 3 #[v0] W fun e w' => e = .returned (.bool true) ∧ Below W.heap.size W w' := by
  obtain ⟨s, rfl, _, _, hs⟩ := open_string Tryd.underlying9 o0 k0
  exact lines_law s hs W
end
end Go.Proofs.YtgkfkgioneahpaaDoor
