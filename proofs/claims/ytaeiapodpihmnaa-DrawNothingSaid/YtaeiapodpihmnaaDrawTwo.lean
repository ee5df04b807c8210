/- Two streams of one state, and their forks. -/
import Derived.Test.YtaeiapodpihmnaaDraw
namespace Go.Proofs.Ytaeiapodpihmnaa
open Go.RowKit
set_option linter.unusedVariables false
/-- Two streams of the call's own, apart, of one state. -/
def Pair (w : World) (a b : Nat) (s : Int) (wr : World) : Prop := StIs wr a s ∧ StIs wr b s ∧ a ≠ b ∧ w.heap.size ≤ a ∧ w.heap.size ≤ b ∧ Below w.heap.size w wr
/-- The second one is one word behind. -/
def Half (w : World) (a b : Nat) (s : Int) (wr : World) : Prop := StIs wr a (nxtS s) ∧ StIs wr b s ∧ a ≠ b ∧ w.heap.size ≤ a ∧ w.heap.size ≤ b ∧ Below w.heap.size w wr
theorem Pair.word {w w1 : World} {a b : Nat} {s : Int} (h : Pair w a b s w1) :
    Calls Try.prog 13 #[.pointer (some ⟨a, 0, none⟩)] w1 fun e w' => e = .returned (.int .u64 (drawS s)) ∧ Half w a b s w' := by
  obtain ⟨h1, h2, h3, h4, h5, h6⟩ := h
  refine (word_any h1).mono ?_
  rintro e w' ⟨rfl, g1, g2⟩
  exact ⟨rfl, g1, h2.only g2 (by simpa using Ne.symm h3), h3, h4, h5, g2.over h6 (by simpa using h4)⟩
theorem Half.word {w w1 : World} {a b : Nat} {s : Int} (h : Half w a b s w1) :
    Calls Try.prog 13 #[.pointer (some ⟨b, 0, none⟩)] w1 fun e w' => e = .returned (.int .u64 (drawS s)) ∧ Pair w a b (nxtS s) w' := by
  obtain ⟨h1, h2, h3, h4, h5, h6⟩ := h
  refine (word_any h2).mono ?_
  rintro e w' ⟨rfl, g1, g2⟩
  exact ⟨rfl, h1.only g2 (by simpa using h3), g1, h3, h4, h5, g2.over h6 (by simpa using h5)⟩
/-- A second stream of the same seed. -/
theorem pair_new {w w1 : World} {a : Nat} {x : Int} (ha : w.heap.size ≤ a) (h1 : StIs w1 a (seedS x)) (hb : Below w.heap.size w w1) :
    Calls Try.prog 8 #[.int .i64 x] w1 fun e w' => ∃ b, e = .returned (.pointer (some ⟨b, 0, none⟩)) ∧ Pair w a b (seedS x) w' := by
  refine (new_any x w1).mono ?_
  rintro e w' ⟨b, rfl, g1, g2, g3⟩
  have := h1.lt
  exact ⟨b, rfl, h1.below g3, g2, by omega, ha, Nat.le_trans hb.size g1, hb.trans (g3.mono hb.size)⟩
/-- Two streams, and the forks of theirs. -/
def Fork1 (w : World) (a b f : Nat) (s : Int) (wr : World) : Prop := Half w a b s wr ∧ StIs wr f (drawS s) ∧ f ≠ a ∧ f ≠ b ∧ w.heap.size ≤ f
def Fork2 (w : World) (a b f g : Nat) (s t : Int) (wr : World) : Prop := Pair w a b s wr ∧ Pair w f g t wr ∧ f ≠ a ∧ f ≠ b ∧ g ≠ a ∧ g ≠ b
def Fork2h (w : World) (a b f g : Nat) (s t : Int) (wr : World) : Prop := Pair w a b s wr ∧ Half w f g t wr ∧ f ≠ a ∧ f ≠ b ∧ g ≠ a ∧ g ≠ b
theorem Pair.fork {w w1 : World} {a b : Nat} {s : Int} (h : Pair w a b s w1) :
    Calls Try.prog 14 #[.pointer (some ⟨a, 0, none⟩)] w1 fun e w' => ∃ f, e = .returned (.pointer (some ⟨f, 0, none⟩)) ∧ Fork1 w a b f s w' := by
  obtain ⟨h1, h2, h3, h4, h5, h6⟩ := h
  refine (fork_any h1).mono ?_
  rintro e w' ⟨f, rfl, g1, g2, g3, g4⟩
  have := h1.lt
  have := h2.lt
  exact ⟨f, rfl, ⟨g3, h2.only g4 (by simpa using Ne.symm h3), h3, h4, h5, g4.over h6 (by simpa using h4)⟩, g2, by omega, by omega, Nat.le_trans h6.size g1⟩
theorem Fork1.fork {w w1 : World} {a b f : Nat} {s : Int} (h : Fork1 w a b f s w1) :
    Calls Try.prog 14 #[.pointer (some ⟨b, 0, none⟩)] w1 fun e w' => ∃ g, e = .returned (.pointer (some ⟨g, 0, none⟩)) ∧ Fork2 w a b f g (nxtS s) (drawS s) w' := by
  obtain ⟨⟨h1, h2, h3, h4, h5, h6⟩, k1, k2, k3, k4⟩ := h
  refine (fork_any h2).mono ?_
  rintro e w' ⟨g, rfl, g1, g2, g3, g4⟩
  have l1 := h1.lt
  have l2 := h2.lt
  have l3 := k1.lt
  have b6 := g4.over h6 (by simpa using h5)
  exact ⟨g, rfl, ⟨h1.only g4 (by simpa using h3), g3, h3, h4, h5, b6⟩, ⟨k1.only g4 (by simpa using k3), g2, by omega, k4, Nat.le_trans h6.size g1, b6⟩, k2, k3, by omega, by omega⟩
theorem Half.only {w w1 w2 : World} {a b : Nat} {s : Int} {F : List Nat} (h : Half w a b s w1) (ho : Only F w1 w2) (ha : a ∉ F) (hb : b ∉ F) (hF : ∀ x ∈ F, w.heap.size ≤ x) : Half w a b s w2 :=
  ⟨h.1.only ho ha, h.2.1.only ho hb, h.2.2.1, h.2.2.2.1, h.2.2.2.2.1, ho.over h.2.2.2.2.2 hF⟩
theorem Pair.only {w w1 w2 : World} {a b : Nat} {s : Int} {F : List Nat} (h : Pair w a b s w1) (ho : Only F w1 w2) (ha : a ∉ F) (hb : b ∉ F) (hF : ∀ x ∈ F, w.heap.size ≤ x) : Pair w a b s w2 :=
  ⟨h.1.only ho ha, h.2.1.only ho hb, h.2.2.1, h.2.2.2.1, h.2.2.2.2.1, ho.over h.2.2.2.2.2 hF⟩
theorem Fork2.word1 {w w1 : World} {a b f g : Nat} {s t : Int} (h : Fork2 w a b f g s t w1) :
    Calls Try.prog 13 #[.pointer (some ⟨f, 0, none⟩)] w1 fun e w' => e = .returned (.int .u64 (drawS t)) ∧ Fork2h w a b f g s t w' := by
  obtain ⟨h1, h2, k1, k2, k3, k4⟩ := h
  refine (word_any h2.1).mono ?_
  rintro e w' ⟨rfl, g1, g2⟩
  obtain ⟨j1, j2, j3, j4, j5, j6⟩ := h2
  exact ⟨rfl, h1.only g2 (by simpa using Ne.symm k1) (by simpa using Ne.symm k2) (by simpa using j4), ⟨g1, j2.only g2 (by simpa using Ne.symm j3), j3, j4, j5, g2.over j6 (by simpa using j4)⟩, k1, k2, k3, k4⟩
theorem Fork2h.word2 {w w1 : World} {a b f g : Nat} {s t : Int} (h : Fork2h w a b f g s t w1) :
    Calls Try.prog 13 #[.pointer (some ⟨g, 0, none⟩)] w1 fun e w' => e = .returned (.int .u64 (drawS t)) ∧ Fork2 w a b f g s (nxtS t) w' := by
  obtain ⟨h1, h2, k1, k2, k3, k4⟩ := h
  refine (word_any h2.2.1).mono ?_
  rintro e w' ⟨rfl, g1, g2⟩
  obtain ⟨j1, j2, j3, j4, j5, j6⟩ := h2
  exact ⟨rfl, h1.only g2 (by simpa using Ne.symm k3) (by simpa using Ne.symm k4) (by simpa using j5), ⟨j1.only g2 (by simpa using j3), g1, j3, j4, j5, g2.over j6 (by simpa using j5)⟩, k1, k2, k3, k4⟩
end Go.Proofs.Ytaeiapodpihmnaa
