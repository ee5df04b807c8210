/- Plain facts on symmetric merging: what its cut, its turn and its two halves leave; nothing of the program. -/
import Derived.Test.YtgpnpopmlommaaaSortPure
namespace Go.Proofs.Ytgpnpopmlommaaa
set_option linter.unusedVariables false
def MergeIn (K : Int → Int) (d : Nat → Int) (a m b : Nat) : Prop := SortedOn K d a m ∧ SortedOn K d m b ∧ LessOn d a m b
def TLe (K : Int → Int) (x y : Int) : Prop := x = y ∨ T K x y
theorem SortedOn.le {K : Int → Int} {d : Nat → Int} {a b i j : Nat} (h : SortedOn K d a b) (h1 : a ≤ i) (h2 : i ≤ j) (h3 : j < b) : TLe K (d i) (d j) := by
  rcases Nat.lt_or_ge i j with c | c
  · exact .inr (h i j h1 c h3)
  · have : i = j := by omega
    subst this; exact .inl rfl
theorem TLe.t {K : Int → Int} {x y z : Int} (h : TLe K x y) (g : T K y z) : T K x z := by
  rcases h with rfl | h
  · exact g
  · exact h.trans g
theorem T.le {K : Int → Int} {x y z : Int} (h : T K x y) (g : TLe K y z) : T K x z := by
  rcases g with rfl | g
  · exact h
  · exact h.trans g
theorem sorted_join {K : Int → Int} {d : Nat → Int} {a m b : Nat} (h1 : SortedOn K d a m) (h2 : SortedOn K d m b) (h3 : ∀ i j, a ≤ i → i < m → m ≤ j → j < b → T K (d i) (d j)) : SortedOn K d a b := by
  intro i j g1 g2 g3
  by_cases c : j < m
  · exact h1 i j g1 g2 c
  · by_cases c2 : i < m
    · exact h3 i j g1 c2 (by omega) g3
    · exact h2 i j (by omega) g2 g3
theorem rot_at1 {d : Nat → Int} {l m r k : Nat} (h1 : l ≤ k) (h2 : k < l + (r - m)) : rot d l m r k = d (k - l + m) := by unfold rot; rw [if_pos ⟨h1, h2⟩]
theorem rot_at2 {d : Nat → Int} {l m r k : Nat} (h1 : l + (r - m) ≤ k) (h2 : k < r) : rot d l m r k = d (k - (r - m)) := by unfold rot; rw [if_neg (by omega), if_pos ⟨h1, h2⟩]
theorem rot_at3 {d : Nat → Int} {l m r k : Nat} (hm : l ≤ m) (hr : m ≤ r) (h : k < l ∨ r ≤ k) : rot d l m r k = d k := by unfold rot; rw [if_neg (by omega), if_neg (by omega)]

/-! ### the turn -/
section
variable {K : Int → Int} {d : Nat → Int} {a m b mid s en : Nat}
theorem sym_cross (hM : MergeIn K d a m b) (hs : a ≤ s) (hsm : s ≤ m) (hme : m ≤ en) (heb : en ≤ b) (hmid : s + (en - m) = mid)
    (hlo : a < s → en < b → ¬ K (d en) < K (d (s - 1))) (hhi : s < m → m < en → K (d (en - 1)) < K (d s)) :
    ∀ i j, a ≤ i → i < mid → mid ≤ j → j < b → T K (rot d s m en i) (rot d s m en j) := by
  obtain ⟨h1, h2, h3⟩ := hM
  intro i j i1 i2 j1 j2
  by_cases ci : i < s
  · rw [rot_at3 hsm hme (.inl ci)]
    by_cases cj : j < en
    · rw [rot_at2 (by omega) cj]
      exact h1 i _ i1 (by omega) (by omega)
    · rw [rot_at3 hsm hme (.inr (by omega))]
      have g1 := h1.le (i := i) (j := s - 1) i1 (by omega) (by omega)
      have g3 := h2.le (i := en) (j := j) (by omega) (by omega) j2
      have g4 := hlo (by omega) (by omega)
      have g5 := h3 (s - 1) en (by omega) (by omega) hme (by omega)
      exact (g1.t (by unfold T; omega)).le g3
  · rw [rot_at1 (by omega) (by omega)]
    by_cases cj : j < en
    · rw [rot_at2 (by omega) cj]
      have g1 := h2.le (i := i - s + m) (j := en - 1) (by omega) (by omega) (by omega)
      have g2 := hhi (by omega) (by omega)
      have g3 := h1.le (i := s) (j := j - (en - m)) (by omega) (by omega) (by omega)
      exact (g1.t (.inl g2)).le g3
    · rw [rot_at3 hsm hme (.inr (by omega))]
      exact h2 _ _ (by omega) (by omega) j2
theorem sym_left (hM : MergeIn K d a m b) (hs : a ≤ s) (hsm : s ≤ m) (hme : m ≤ en) (heb : en ≤ b) (hmid : s + (en - m) = mid) : MergeIn K (rot d s m en) a s mid := by
  obtain ⟨h1, h2, h3⟩ := hM
  refine ⟨fun i j i1 i2 i3 => ?_, fun i j i1 i2 i3 => ?_, fun i j i1 i2 i3 i4 => ?_⟩
  · rw [rot_at3 hsm hme (.inl (by omega)), rot_at3 hsm hme (.inl i3)]; exact h1 i j i1 i2 (by omega)
  · rw [rot_at1 i1 (by omega), rot_at1 (by omega) (by omega)]; exact h2 _ _ (by omega) (by omega) (by omega)
  · rw [rot_at3 hsm hme (.inl i2), rot_at1 i3 (by omega)]; exact h3 _ _ i1 (by omega) (by omega) (by omega)
theorem sym_right (hM : MergeIn K d a m b) (hs : a ≤ s) (hsm : s ≤ m) (hme : m ≤ en) (heb : en ≤ b) (hmid : s + (en - m) = mid) : MergeIn K (rot d s m en) mid en b := by
  obtain ⟨h1, h2, h3⟩ := hM
  refine ⟨fun i j i1 i2 i3 => ?_, fun i j i1 i2 i3 => ?_, fun i j i1 i2 i3 i4 => ?_⟩
  · rw [rot_at2 (by omega) (by omega), rot_at2 (by omega) i3]; exact h1 _ _ (by omega) (by omega) (by omega)
  · rw [rot_at3 hsm hme (.inr i1), rot_at3 hsm hme (.inr (by omega))]; exact h2 i j (by omega) i2 i3
  · rw [rot_at2 (by omega) i2, rot_at3 hsm hme (.inr i3)]; exact h3 _ _ (by omega) (by omega) (by omega) i4
/-- What the two halves make, once each is in order. -/
theorem sym_end {e e1 f : Nat → Int} (hc : ∀ i j, a ≤ i → i < mid → mid ≤ j → j < b → T K (e i) (e j)) (h1 : Moved a mid e e1) (h2 : Moved mid b e1 f) (s1 : SortedOn K e1 a mid) (s2 : SortedOn K f mid b) (ham : a ≤ mid) (hmb : mid ≤ b) : SortedOn K f a b := by
  refine sorted_join (h2.sorted_out (.inl (Nat.le_refl _)) s1) s2 fun i j i1 i2 i3 i4 => ?_
  rw [h2.out i (.inl i2)]
  have g1 : ∀ k, mid ≤ k → k < b → T K (e1 i) (e1 k) := by
    intro k k1 k2
    rw [h1.out k (.inr k1)]
    exact h1.all (P := fun x => T K x (e k)) (Nat.le_refl _) (Nat.le_refl _) (fun p p1 p2 => hc p k p1 p2 k1 k2) i i1 i2
  exact h2.all (P := fun x => T K (e1 i) x) (Nat.le_refl _) (Nat.le_refl _) g1 j i3 i4
/-! ### one against many -/
theorem rot1_start (d : Nat → Int) (a : Nat) : rot d a (a + 1) (a + 1) = d := rot_none (by omega) (by omega) (.inr rfl)
theorem rot1_step (d : Nat → Int) {a k : Nat} (h : a ≤ k) : swp (rot d a (a + 1) (k + 1)) k (k + 1) = rot d a (a + 1) (k + 2) := by
  obtain ⟨e, rfl⟩ : ∃ e, k = a + e := ⟨k - a, by omega⟩
  have e1 : a + e + 1 - (a + 1) = e := by omega
  have e2 : a + e + 2 - (a + 1) = e + 1 := by omega
  funext j
  unfold swp rot
  rw [e1, e2]
  repeat' split
  all_goals first | (exfalso; omega) | rfl | (congr 1; omega)
theorem rotm_start (d : Nat → Int) (m : Nat) : rot d m m (m + 1) = d := rot_none (by omega) (by omega) (.inl rfl)
theorem rotm_step (d : Nat → Int) {m k : Nat} (h : k + 1 ≤ m) : swp (rot d (k + 1) m (m + 1)) (k + 1) k = rot d k m (m + 1) := by
  obtain ⟨e, rfl⟩ : ∃ e, m = k + 1 + e := ⟨m - k - 1, by omega⟩
  have e1 : k + 1 + e + 1 - (k + 1 + e) = 1 := by omega
  funext j
  unfold swp rot
  rw [e1]
  repeat' split
  all_goals first | (exfalso; omega) | rfl | (congr 1; omega)
theorem one_left {i : Nat} (hM : MergeIn K d a (a + 1) b) (h1 : a + 1 ≤ i) (h2 : i ≤ b) (hlo : i = a + 1 ∨ K (d (i - 1)) < K (d a)) (hhi : i = b ∨ ¬ K (d i) < K (d a)) : SortedOn K (rot d a (a + 1) i) a b := by
  obtain ⟨g1, g2, g3⟩ := hM
  have lo : ∀ q, a + 1 ≤ q → q < i → T K (d q) (d a) := by
    intro q q1 q2
    rcases hlo with e | hlo
    · omega
    · exact (g2.le (i := q) (j := i - 1) q1 (by omega) (by omega)).t (.inl hlo)
  have hi : ∀ q, i ≤ q → q < b → T K (d a) (d q) := by
    intro q q1 q2
    rcases hhi with e | hhi
    · omega
    · have := g3 a i (Nat.le_refl _) (by omega) h1 (by omega)
      exact T.le (by unfold T; omega) (g2.le (i := i) (j := q) h1 q1 q2)
  intro p q p1 p2 p3
  by_cases c1 : p < i - 1
  · rw [rot_at1 p1 (by omega)]
    by_cases c2 : q < i - 1
    · rw [rot_at1 (by omega) (by omega)]; exact g2 _ _ (by omega) (by omega) (by omega)
    · by_cases c3 : q < i
      · rw [rot_at2 (by omega) c3]
        have : q - (i - (a + 1)) = a := by omega
        rw [this]; exact lo _ (by omega) (by omega)
      · rw [rot_at3 (by omega) (by omega) (.inr (by omega))]; exact g2 _ _ (by omega) (by omega) p3
  · by_cases c3 : p < i
    · rw [rot_at2 (by omega) c3, rot_at3 (by omega) (by omega) (.inr (by omega))]
      have : p - (i - (a + 1)) = a := by omega
      rw [this]; exact hi _ (by omega) p3
    · rw [rot_at3 (by omega) (by omega) (.inr (by omega)), rot_at3 (by omega) (by omega) (.inr (by omega))]
      exact g2 p q (by omega) p2 p3
theorem one_right {i : Nat} (hM : MergeIn K d a m (m + 1)) (h1 : a ≤ i) (h2 : i ≤ m) (hlo : i = a ∨ ¬ K (d m) < K (d (i - 1))) (hhi : i = m ∨ K (d m) < K (d i)) : SortedOn K (rot d i m (m + 1)) a (m + 1) := by
  obtain ⟨g1, g2, g3⟩ := hM
  have lo : ∀ q, a ≤ q → q < i → T K (d q) (d m) := by
    intro q q1 q2
    rcases hlo with e | hlo
    · omega
    · have := g3 (i - 1) m (by omega) (by omega) (Nat.le_refl _) (by omega)
      exact (g1.le (i := q) (j := i - 1) q1 (by omega) (by omega)).t (by unfold T; omega)
  have hi : ∀ q, i ≤ q → q < m → T K (d m) (d q) := by
    intro q q1 q2
    rcases hhi with e | hhi
    · omega
    · exact T.le (.inl hhi) (g1.le (i := i) (j := q) h1 q1 q2)
  intro p q p1 p2 p3
  by_cases c1 : p < i
  · rw [rot_at3 (by omega) (by omega) (.inl c1)]
    by_cases c2 : q < i
    · rw [rot_at3 (by omega) (by omega) (.inl c2)]; exact g1 _ _ p1 p2 (by omega)
    · by_cases c3 : q < i + 1
      · rw [rot_at1 (by omega) (by omega)]
        have : q - i + m = m := by omega
        rw [this]; exact lo _ p1 c1
      · rw [rot_at2 (by omega) p3]; exact g1 _ _ p1 (by omega) (by omega)
  · by_cases c3 : p < i + 1
    · rw [rot_at1 (by omega) (by omega), rot_at2 (by omega) p3]
      have : p - i + m = m := by omega
      rw [this]; exact hi _ (by omega) (by omega)
    · rw [rot_at2 (by omega) (by omega), rot_at2 (by omega) p3]
      exact g1 _ _ (by omega) (by omega) (by omega)
end
end Go.Proofs.Ytgpnpopmlommaaa
