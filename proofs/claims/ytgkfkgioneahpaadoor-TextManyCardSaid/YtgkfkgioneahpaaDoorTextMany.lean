/- What text.Numbers and text.Words answer, off their code. -/
import Derived.Test.YtgkfkgioneahpaaDoorTextIter
import Derived.Test.YtgkfkgioneahpaaDoorEachN
import Derived.Test.YtgkfkgioneahpaaDoorEachD
import Derived.Test.YtgkfkgioneahpaaDoorTextCodeB
import Derived.Test.YtgkfkgioneahpaaDoorTextNumRef
import Derived.Test.YtgkfkgioneahpaaDoorTextDec
namespace Go.Proofs.YtgkfkgioneahpaaDoor
open Go.RowKit Go.Shelf
set_option linter.unusedVariables false
/-- A slice that reads as these texts. -/
def TextsIn (w : World) (A : Option Addr) (xs : List ByteArray) : Prop := 0 < xs.length → ∃ b off, A = some ⟨b, off, none⟩ ∧ ∀ (j : Nat) (hj : j < xs.length), w.cell? ⟨b, off + j, none⟩ = some (.string xs[j])
/-- A slice that reads as these numbers. -/
def NumsIn (w : World) (A : Option Addr) (xs : List Int) : Prop := 0 < xs.length → ∃ b off, A = some ⟨b, off, none⟩ ∧ ∀ (j : Nat) (hj : j < xs.length), w.cell? ⟨b, off + j, none⟩ = some (.int .i64 xs[j])
theorem TextsIn.keep {w w' : World} {A : Option Addr} {xs : List ByteArray} (h : TextsIn w A xs) (hb : Below w.heap.size w w') : TextsIn w' A xs := fun h0 => by
  obtain ⟨b, off, e, hc⟩ := h h0
  exact ⟨b, off, e, fun j hj => (hb.cell (p := ⟨b, off + j, none⟩) (World.block_lt_of_cell? w _ (hc j hj))).trans (hc j hj)⟩
theorem NumsIn.keep {w w' : World} {A : Option Addr} {xs : List Int} (h : NumsIn w A xs) (hb : Below w.heap.size w w') : NumsIn w' A xs := fun h0 => by
  obtain ⟨b, off, e, hc⟩ := h h0
  exact ⟨b, off, e, fun j hj => (hb.cell (p := ⟨b, off + j, none⟩) (World.block_lt_of_cell? w _ (hc j hj))).trans (hc j hj)⟩
set_option maxHeartbeats 2000000 in
theorem numbers_each (A : Option Addr) (xs : List ByteArray) (c : Nat) (w : World) (hA : TextsIn w A xs) (hn : xs.length ≤ 1000) (hz : ∀ x ∈ xs, x.size ≤ maxLen) :
    Calls Tryd.prog 28 #[.func (.func 42) #[] #[.pointer (some ⟨w.heap.size, 0, none⟩)], .func (.func 16) #[] #[]] (w.alloc (.cells #[.slice A xs.length c] 29)) fun e W' =>
      ∃ v, e = .returned (.tuple #[v, .bool (xs.all fun x => decB x.data.toList)]) ∧ ((xs.all fun x => decB x.data.toList) = true → W'.ownsRow w.heap.size 3 1 v xs.length (xs.map fun x => Value.int .i64 (numV x.data.toList))) ∧ ((xs.all fun x => decB x.data.toList) = false → v = .slice none 0 0) ∧ Below w.heap.size w W' := by
  obtain ⟨w1, hw1⟩ : ∃ w1, w1 = w.alloc (.cells #[.slice A xs.length c] 29) := ⟨_, rfl⟩
  have bC : Boxed w1 w.heap.size 29 (.slice A xs.length c) := by rw [hw1]; exact Boxed.new w _ _
  have hsz : w1.heap.size = w.heap.size + 1 := by rw [hw1]; simp
  have hb : Below w.heap.size w w1 := by rw [hw1]; exact below_alloc w _
  rw [← hw1]
  have hA1 := hA.keep hb
  refine (eachN 42 _ [] xs (fun x => decB x.data.toList) (fun _ x u => u = .int .i64 (numV x.data.toList)) 1 w1 (by omega) (enters_of Tryd.func42 (by kernel_rfl) rfl)
    (valsS_seq 8 (by omega) w.heap.size w1.heap.size A c xs w1 hn (by omega) bC.cell (fun h0 => by
      obtain ⟨b, off, e, hc⟩ := hA1 h0
      exact ⟨b, off, e, World.block_lt_of_cell? w1 _ (hc 0 h0), hc⟩)) (by simp)
    (fun x hx W _ => (number_any x W (hz x hx)).mono fun e W' ⟨h1, h2⟩ => ⟨_, h1, fun _ => rfl, by rw [h2]; exact Below.refl _ _⟩)
    (fun _ x u h => ⟨_, h⟩) (fun _ _ _ _ h _ => h) (by decide) (by decide) (by decide) (by decide)).mono ?_
  rintro e W' ⟨v, rfl, hy, hno, ho⟩
  refine ⟨v, rfl, fun h => ?_, hno, ho.over hb (by simp)⟩
  obtain ⟨us, hrow, hf⟩ := hy h
  rw [Fit.fn hf] at hrow
  exact own_base hrow (by omega)
set_option maxHeartbeats 2000000 in
theorem numbers_code (A : Option Addr) (xs : List ByteArray) (c : Nat) (w : World) (hA : TextsIn w A xs) (hn : xs.length ≤ 1000) (hz : ∀ x ∈ xs, x.size ≤ maxLen) :
    Calls Tryd.prog 20 #[.slice A xs.length c] w fun e W' =>
      ∃ v, e = .returned (.tuple #[v, .bool (xs.all fun x => decB x.data.toList)]) ∧ ((xs.all fun x => decB x.data.toList) = true → W'.ownsRow w.heap.size 3 1 v xs.length (xs.map fun x => Value.int .i64 (numV x.data.toList))) ∧ ((xs.all fun x => decB x.data.toList) = false → v = .slice none 0 0) ∧ Below w.heap.size w W' := by
  have CE := numbers_each A xs c w hA hn hz
  have CM := fun W => valsS_make A xs.length c W
  clear hA hn hz
  generalize (xs.all fun x => decB x.data.toList) = ok at *
  generalize (xs.map fun x => Value.int .i64 (numV x.data.toList)) = us at *
  generalize xs.length = n at *
  go_enter Tryd.func20, Tryd.ntmps20
  go_wp2_with (first
    | (go_at_call 29; refine (CM _).mono ?_; rintro e w' ⟨rfl, rfl⟩)
    | (go_at_call 28; refine CE.mono ?_; rintro e w4 ⟨v, rfl, hy, hno, hb⟩))
  go_ret2
  exact ⟨v, rfl, hy, hno, hb⟩
set_option maxHeartbeats 2000000 in
theorem words_each (A : Option Addr) (xs : List Int) (c : Nat) (w : World) (hA : NumsIn w A xs) (hn : xs.length ≤ 1000) (hz : ∀ x ∈ xs, -9223372036854775808 ≤ x ∧ x ≤ 9223372036854775807) :
    Calls Tryd.prog 30 #[.func (.func 43) #[] #[.pointer (some ⟨w.heap.size, 0, none⟩)], .func (.func 32) #[] #[]] (w.alloc (.cells #[.slice A xs.length c] 38)) fun e W' =>
      ∃ v, e = .returned (.tuple #[v, .bool true]) ∧ RowS W' w.heap.size v (xs.map decI) ∧ Below w.heap.size w W' := by
  obtain ⟨w1, hw1⟩ : ∃ w1, w1 = w.alloc (.cells #[.slice A xs.length c] 38) := ⟨_, rfl⟩
  have bC : Boxed w1 w.heap.size 38 (.slice A xs.length c) := by rw [hw1]; exact Boxed.new w _ _
  have hsz : w1.heap.size = w.heap.size + 1 := by rw [hw1]; simp
  have hb : Below w.heap.size w w1 := by rw [hw1]; exact below_alloc w _
  rw [← hw1]
  have hA1 := hA.keep hb
  have hall : xs.all (fun _ => true) = true := by simp
  refine (eachD 43 _ [] xs (fun _ => true) (fun _ x u => u = .string (strL (decI x))) 1 w1 (by omega) (enters_of Tryd.func43 (by kernel_rfl) rfl)
    (valsI_seq 8 (by omega) w.heap.size w1.heap.size A c xs w1 hn (by omega) bC.cell (fun h0 => by
      obtain ⟨b, off, e, hc⟩ := hA1 h0
      exact ⟨b, off, e, World.block_lt_of_cell? w1 _ (hc 0 h0), hc⟩)) (by simp)
    (fun x hx W _ => (decimal_made x (hz x hx) W).mono fun e W' ⟨h1, h2⟩ => ⟨_, h1, fun _ => rfl, h2⟩)
    (fun _ x u h => ⟨_, h⟩) (fun _ _ _ _ h _ => h) (by decide) (by decide) (by decide) (by decide)).mono ?_
  rintro e W' ⟨v, rfl, hy, _, ho⟩
  rw [hall] at hy ⊢
  refine ⟨v, rfl, ?_, ho.over hb (by simp)⟩
  obtain ⟨us, hrow, hf⟩ := hy rfl
  rw [Fit.fn hf] at hrow
  unfold RowS
  rw [List.length_map, List.map_map]
  exact own_base hrow (by omega)
set_option maxHeartbeats 2000000 in
theorem words_code (A : Option Addr) (xs : List Int) (c : Nat) (w : World) (hA : NumsIn w A xs) (hn : xs.length ≤ 1000) (hz : ∀ x ∈ xs, -9223372036854775808 ≤ x ∧ x ≤ 9223372036854775807) :
    Calls Tryd.prog 21 #[.slice A xs.length c] w fun e W' => ∃ v, e = .returned v ∧ RowS W' w.heap.size v (xs.map decI) ∧ Below w.heap.size w W' := by
  have CE := words_each A xs c w hA hn hz
  have CM := fun W => valsI_make A xs.length c W
  clear hA hn hz
  generalize xs.map decI = ds at *
  generalize xs.length = n at *
  go_enter Tryd.func21, Tryd.ntmps21
  go_wp2_with (first
    | (go_at_call 31; refine (CM _).mono ?_; rintro e w' ⟨rfl, rfl⟩)
    | (go_at_call 30; refine CE.mono ?_; rintro e w4 ⟨v, rfl, hy, hb⟩))
  go_ret
  exact ⟨v, rfl, hy, hb⟩
end Go.Proofs.YtgkfkgioneahpaaDoor
