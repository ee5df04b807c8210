/- Plain facts on a stable sort by insertion and by symmetric merging: what each step leaves; nothing of the program. -/
namespace Go.Proofs.Ytgpnpopmlommaaa
set_option linter.unusedVariables false
/-- Which of two places comes first: by its key, then by itself. -/
def T (K : Int → Int) (x y : Int) : Prop := K x < K y ∨ (K x = K y ∧ x < y)
theorem T.trans {K : Int → Int} {x y z : Int} (h : T K x y) (g : T K y z) : T K x z := by unfold T at *; omega
theorem T.irrefl {K : Int → Int} {x : Int} (h : T K x x) : False := by unfold T at h; omega
theorem T.asymm {K : Int → Int} {x y : Int} (h : T K x y) (g : T K y x) : False := by unfold T at *; omega
def SortedOn (K : Int → Int) (d : Nat → Int) (a b : Nat) : Prop := ∀ i j, a ≤ i → i < j → j < b → T K (d i) (d j)
/-- All of the first part are lesser places than all of the second one. -/
def LessOn (d : Nat → Int) (a m b : Nat) : Prop := ∀ i j, a ≤ i → i < m → m ≤ j → j < b → d i < d j
/-- Only the places from a to b have changed, and hold what they held, in some row. -/
structure Moved (a b : Nat) (d e : Nat → Int) : Prop where
  out : ∀ k, k < a ∨ b ≤ k → e k = d k
  to : ∀ k, a ≤ k → k < b → ∃ j, a ≤ j ∧ j < b ∧ e j = d k
  back : ∀ k, a ≤ k → k < b → ∃ j, a ≤ j ∧ j < b ∧ d j = e k
theorem Moved.refl (a b : Nat) (d : Nat → Int) : Moved a b d d := ⟨fun _ _ => rfl, fun k h g => ⟨k, h, g, rfl⟩, fun k h g => ⟨k, h, g, rfl⟩⟩
theorem Moved.trans {a b : Nat} {d e f : Nat → Int} (h : Moved a b d e) (g : Moved a b e f) : Moved a b d f := by
  refine ⟨fun k hk => (g.out k hk).trans (h.out k hk), fun k h1 h2 => ?_, fun k h1 h2 => ?_⟩
  · obtain ⟨j, j1, j2, e1⟩ := h.to k h1 h2
    obtain ⟨i, i1, i2, e2⟩ := g.to j j1 j2
    exact ⟨i, i1, i2, e2.trans e1⟩
  · obtain ⟨j, j1, j2, e1⟩ := g.back k h1 h2
    obtain ⟨i, i1, i2, e2⟩ := h.back j j1 j2
    exact ⟨i, i1, i2, e2.trans e1⟩
theorem Moved.wide {a b a' b' : Nat} {d e : Nat → Int} (h : Moved a b d e) (ha : a' ≤ a) (hb : b ≤ b') : Moved a' b' d e := by
  refine ⟨fun k hk => h.out k (by omega), fun k h1 h2 => ?_, fun k h1 h2 => ?_⟩
  · by_cases c : a ≤ k ∧ k < b
    · obtain ⟨j, j1, j2, e1⟩ := h.to k c.1 c.2
      exact ⟨j, by omega, by omega, e1⟩
    · exact ⟨k, h1, h2, h.out k (by omega)⟩
  · by_cases c : a ≤ k ∧ k < b
    · obtain ⟨j, j1, j2, e1⟩ := h.back k c.1 c.2
      exact ⟨j, by omega, by omega, e1⟩
    · exact ⟨k, h1, h2, (h.out k (by omega)).symm⟩
/-- What holds of all that is there holds of all that is there later. -/
theorem Moved.all {a b : Nat} {d e : Nat → Int} (h : Moved a b d e) {P : Int → Prop} {l r : Nat} (hl : l ≤ a) (hr : b ≤ r) (hp : ∀ k, l ≤ k → k < r → P (d k)) : ∀ k, l ≤ k → k < r → P (e k) := by
  intro k h1 h2
  obtain ⟨j, j1, j2, e1⟩ := (h.wide hl hr).back k h1 h2
  rw [← e1]; exact hp j j1 j2
theorem Moved.sorted_out {K : Int → Int} {a b l r : Nat} {d e : Nat → Int} (h : Moved a b d e) (hd : r ≤ a ∨ b ≤ l) (hs : SortedOn K d l r) : SortedOn K e l r := by
  intro i j h1 h2 h3
  rw [h.out i (by omega), h.out j (by omega)]
  exact hs i j h1 h2 h3

/-! ### exchanges -/
/-- Two places change what they hold. -/
def swp (d : Nat → Int) (i j : Nat) : Nat → Int := fun k => if k = i then d j else if k = j then d i else d k
theorem swp_left (d : Nat → Int) (i j : Nat) : swp d i j i = d j := if_pos rfl
theorem swp_right (d : Nat → Int) (i j : Nat) : swp d i j j = d i := by
  unfold swp
  by_cases h : j = i
  · rw [if_pos h, h]
  · rw [if_neg h, if_pos rfl]
theorem swp_other (d : Nat → Int) {i j k : Nat} (h : k ≠ i) (g : k ≠ j) : swp d i j k = d k := by unfold swp; rw [if_neg h, if_neg g]
theorem Moved.swp {a b i j : Nat} (d : Nat → Int) (h1 : a ≤ i) (h2 : i < b) (h3 : a ≤ j) (h4 : j < b) : Moved a b d (swp d i j) := by
  refine ⟨fun k hk => swp_other d (by omega) (by omega), fun k g1 g2 => ?_, fun k g1 g2 => ?_⟩
  · by_cases e : k = i
    · subst e; exact ⟨j, h3, h4, swp_right d k j⟩
    · by_cases e2 : k = j
      · subst e2; exact ⟨i, h1, h2, swp_left d i k⟩
      · exact ⟨k, g1, g2, swp_other d e e2⟩
  · by_cases e : k = i
    · subst e; exact ⟨j, h3, h4, (swp_left d k j).symm⟩
    · by_cases e2 : k = j
      · subst e2; exact ⟨i, h1, h2, (swp_right d i k).symm⟩
      · exact ⟨k, g1, g2, (swp_other d e e2).symm⟩
/-- n places from a on and n from b on change what they hold. -/
def swR (d : Nat → Int) (a b n : Nat) : Nat → Int := fun k => if a ≤ k ∧ k < a + n then d (k - a + b) else if b ≤ k ∧ k < b + n then d (k - b + a) else d k
theorem swR_zero (d : Nat → Int) (a b : Nat) : swR d a b 0 = d := by
  funext k; unfold swR; rw [if_neg (by omega), if_neg (by omega)]
theorem swR_succ (d : Nat → Int) {a b n : Nat} (h : a + n < b) : swp (swR d a b n) (a + n) (b + n) = swR d a b (n + 1) := by
  funext k
  unfold swp
  by_cases e1 : k = a + n
  · subst e1
    rw [if_pos rfl]; unfold swR
    rw [if_neg (by omega), if_neg (by omega), if_pos (by omega)]; congr 1; omega
  · rw [if_neg e1]
    by_cases e2 : k = b + n
    · subst e2
      rw [if_pos rfl]; unfold swR
      rw [if_neg (by omega), if_neg (by omega), if_neg (by omega), if_pos (by omega)]; congr 1; omega
    · rw [if_neg e2]; unfold swR
      by_cases c1 : a ≤ k ∧ k < a + n
      · rw [if_pos c1, if_pos (by omega)]
      · rw [if_neg c1]
        by_cases c2 : b ≤ k ∧ k < b + n
        · rw [if_pos c2, if_neg (by omega), if_pos (by omega)]
        · rw [if_neg c2, if_neg (by omega), if_neg (by omega)]
/-- The parts from l to m and from m to r change places. -/
def rot (d : Nat → Int) (l m r : Nat) : Nat → Int := fun k => if l ≤ k ∧ k < l + (r - m) then d (k - l + m) else if l + (r - m) ≤ k ∧ k < r then d (k - (r - m)) else d k
theorem rot_left {d : Nat → Int} {m i j : Nat} (hi : i ≤ m) (hij : j < i) (hj : 0 < j) : rot (swR d (m - i) m j) (m - (i - j)) m (m + j) = rot d (m - i) m (m + j) := by
  obtain ⟨l, rfl⟩ : ∃ l, m = l + i := ⟨m - i, by omega⟩
  obtain ⟨e, rfl⟩ : ∃ e, i = j + e := ⟨i - j, by omega⟩
  have e1 : l + (j + e) - (j + e) = l := by omega
  have e2 : l + (j + e) - (j + e - j) = l + j := by omega
  have e3 : l + (j + e) + j - (l + (j + e)) = j := by omega
  rw [e1, e2]
  funext k
  unfold rot swR
  rw [e3]
  repeat' split
  all_goals first | (exfalso; omega) | rfl | (congr 1; omega)
theorem rot_right {d : Nat → Int} {m i j : Nat} (hi : i ≤ m) (hij : i < j) (h0 : 0 < i) : rot (swR d (m - i) (m + j - i) i) (m - i) m (m + (j - i)) = rot d (m - i) m (m + j) := by
  obtain ⟨l, rfl⟩ : ∃ l, m = l + i := ⟨m - i, by omega⟩
  obtain ⟨e, rfl⟩ : ∃ e, j = i + e := ⟨j - i, by omega⟩
  have e1 : l + i - i = l := by omega
  have e2 : l + i + (i + e) - i = l + i + e := by omega
  have e3 : i + e - i = e := by omega
  have e4 : l + i + e - (l + i) = e := by omega
  have e5 : l + i + (i + e) - (l + i) = i + e := by omega
  rw [e1, e2, e3]
  funext k
  unfold rot swR
  rw [e4, e5]
  repeat' split
  all_goals first | (exfalso; omega) | rfl | (congr 1; omega)
theorem rot_same {d : Nat → Int} {m i : Nat} (hi : i ≤ m) : swR d (m - i) m i = rot d (m - i) m (m + i) := by
  obtain ⟨l, rfl⟩ : ∃ l, m = l + i := ⟨m - i, by omega⟩
  have e1 : l + i - i = l := by omega
  have e2 : l + i + i - (l + i) = i := by omega
  rw [e1]
  funext k
  unfold rot swR
  rw [e2]
  repeat' split
  all_goals first | (exfalso; omega) | rfl | (congr 1; omega)
theorem rot_moved {d : Nat → Int} {l m r : Nat} (h1 : l ≤ m) (h2 : m ≤ r) : Moved l r d (rot d l m r) := by
  refine ⟨fun k hk => ?_, fun k g1 g2 => ?_, fun k g1 g2 => ?_⟩
  · unfold rot; rw [if_neg (by omega), if_neg (by omega)]
  · by_cases c : k < m
    · refine ⟨k + (r - m), by omega, by omega, ?_⟩
      unfold rot; rw [if_neg (by omega), if_pos (by omega)]; congr 1; omega
    · refine ⟨k - m + l, by omega, by omega, ?_⟩
      unfold rot; rw [if_pos (by omega)]; congr 1; omega
  · by_cases c : k < l + (r - m)
    · refine ⟨k - l + m, by omega, by omega, ?_⟩
      unfold rot; rw [if_pos (by omega)]
    · refine ⟨k - (r - m), by omega, by omega, ?_⟩
      unfold rot; rw [if_neg (by omega), if_pos (by omega)]
theorem rot_none {d : Nat → Int} {l m r : Nat} (h1 : l ≤ m) (h2 : m ≤ r) (h : l = m ∨ m = r) : rot d l m r = d := by
  funext k
  unfold rot
  rcases h with rfl | rfl
  · by_cases c : l ≤ k ∧ k < l + (r - l)
    · rw [if_pos c]; congr 1; omega
    · rw [if_neg c, if_neg (by omega)]
  · by_cases c : l + (m - m) ≤ k ∧ k < m
    · rw [if_neg (by omega), if_pos c]; congr 1; omega
    · rw [if_neg (by omega), if_neg c]

/-! ### insertion -/
/-- The places from a to i are in order but for that at j, which is ahead of those behind it, and a greater place than all others. -/
def InsAt (K : Int → Int) (d : Nat → Int) (a i j : Nat) : Prop :=
  (∀ p q, a ≤ p → p < q → q ≤ i → p ≠ j → q ≠ j → T K (d p) (d q)) ∧ (∀ q, j < q → q ≤ i → T K (d j) (d q)) ∧ (∀ p, a ≤ p → p ≤ i → p ≠ j → d p < d j)
theorem InsAt.start {K : Int → Int} {d : Nat → Int} {a i b : Nat} (hi : i < b) (h : SortedOn K d a i) (hl : LessOn d a i b) : InsAt K d a i i := by
  refine ⟨fun p q h1 h2 h3 _ h5 => h p q h1 h2 (by omega), fun q h1 h2 => by omega, fun p h1 h2 h3 => hl p i h1 (by omega) (by omega) hi⟩
theorem InsAt.step {K : Int → Int} {d : Nat → Int} {a i j : Nat} (h : InsAt K d a i j) (hj : a < j) (hji : j ≤ i) (hc : K (d j) < K (d (j - 1))) : InsAt K (swp d j (j - 1)) a i (j - 1) := by
  obtain ⟨h1, h2, h3⟩ := h
  have hjj : j - 1 ≠ j := by omega
  refine ⟨fun p q p1 p2 p3 p4 p5 => ?_, fun q q1 q2 => ?_, fun p p1 p2 p3 => ?_⟩
  · by_cases e1 : p = j
    · subst e1
      rw [swp_left, swp_other d (by omega) p5]
      exact h1 _ _ (by omega) (by omega) p3 hjj (by omega)
    · by_cases e2 : q = j
      · subst e2
        rw [swp_left, swp_other d e1 p4]
        exact h1 _ _ p1 (by omega) (by omega) e1 hjj
      · rw [swp_other d e1 p4, swp_other d e2 p5]
        exact h1 _ _ p1 p2 p3 e1 e2
  · rw [swp_right]
    by_cases e : q = j
    · subst e; rw [swp_left]; exact .inl hc
    · rw [swp_other d e (by omega)]; exact h2 q (by omega) q2
  · rw [swp_right]
    by_cases e : p = j
    · subst e; rw [swp_left]; exact h3 _ (by omega) (by omega) hjj
    · rw [swp_other d e p3]; exact h3 p p1 p2 e
theorem InsAt.done {K : Int → Int} {d : Nat → Int} {a i j : Nat} (h : InsAt K d a i j) (hj : a ≤ j) (hji : j ≤ i) (hc : j = a ∨ ¬ K (d j) < K (d (j - 1))) : SortedOn K d a (i + 1) := by
  obtain ⟨h1, h2, h3⟩ := h
  have hb : ∀ p, a ≤ p → p < j → T K (d p) (d j) := by
    intro p p1 p2
    rcases hc with e | hc
    · omega
    · have hk : K (d (j - 1)) ≤ K (d j) := by omega
      by_cases e : p = j - 1
      · subst e
        have := h3 (j - 1) (by omega) (by omega) (by omega)
        unfold T; omega
      · have g1 := h1 p (j - 1) p1 (by omega) (by omega) (by omega) (by omega)
        have g2 := h3 p p1 (by omega) (by omega)
        unfold T at *; omega
  intro p q p1 p2 p3
  by_cases e1 : p = j
  · subst e1; exact h2 q p2 (by omega)
  · by_cases e2 : q = j
    · subst e2; exact hb p p1 p2
    · exact h1 p q p1 p2 (by omega) e1 e2
end Go.Proofs.Ytgpnpopmlommaaa
