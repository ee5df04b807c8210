/- Plain facts on heaps: which orders of places are heaps, what up and down leave of them, what is first; nothing of the program. -/
namespace Go.Proofs.Ytgpnpopmlommaaa
set_option linter.unusedVariables false

/-- A thing: its number and its worth. -/
abbrev Thing (α : Type) := Int × α
/-- An order of worths in which any two that are neither before the other are the same. -/
structure Order {α : Type} (lt : α → α → Prop) : Prop where
  irrefl : ∀ a, ¬ lt a a
  trans : ∀ a b c, lt a b → lt b c → lt a c
  total : ∀ a b, lt a b ∨ a = b ∨ lt b a
section
variable {α : Type} {lt : α → α → Prop}
/-- Which thing comes first. -/
def Bef (lt : α → α → Prop) (x y : Thing α) : Prop := lt x.2 y.2 ∨ (x.2 = y.2 ∧ x.1 < y.1)
theorem Bef.irrefl (O : Order lt) (x : Thing α) : ¬ Bef lt x x := by
  rintro (h | ⟨_, h⟩)
  · exact O.irrefl _ h
  · omega
theorem Bef.trans (O : Order lt) {x y z : Thing α} (h : Bef lt x y) (g : Bef lt y z) : Bef lt x z := by
  rcases h with h | ⟨h1, h2⟩
  · rcases g with g | ⟨g1, g2⟩
    · exact .inl (O.trans _ _ _ h g)
    · exact .inl (g1 ▸ h)
  · rcases g with g | ⟨g1, g2⟩
    · exact .inl (h1 ▸ g)
    · exact .inr ⟨h1.trans g1, by omega⟩
theorem Bef.total (O : Order lt) (x y : Thing α) : Bef lt x y ∨ x = y ∨ Bef lt y x := by
  rcases O.total x.2 y.2 with h | h | h
  · exact .inl (.inl h)
  · rcases Int.lt_trichotomy x.1 y.1 with g | g | g
    · exact .inl (.inr ⟨h, g⟩)
    · exact .inr (.inl (Prod.ext g h))
    · exact .inr (.inr (.inr ⟨h.symm, g⟩))
  · exact .inr (.inr (.inl h))
theorem Bef.asymm (O : Order lt) {x y : Thing α} (h : Bef lt x y) : ¬ Bef lt y x := fun g => Bef.irrefl O x (h.trans O g)
theorem Bef.not_trans (O : Order lt) {x y z : Thing α} (h : ¬ Bef lt y x) (g : ¬ Bef lt z y) : ¬ Bef lt z x := by
  intro k
  rcases Bef.total O x y with a | a | a
  · rcases Bef.total O y z with b | b | b
    · exact Bef.asymm O (a.trans O b) k
    · subst b; exact h k
    · exact g b
  · subst a; exact g k
  · exact h a

/-! ### Places -/
/-- The place above. -/
def par (k : Nat) : Nat := (k - 1) / 2
/-- The things at the first n places are a heap. -/
def Heaped (lt : α → α → Prop) (q : Nat → Thing α) (n : Nat) : Prop := ∀ k, 0 < k → k < n → ¬ Bef lt (q k) (q (par k))
/-- Two places change their things. -/
def sw (q : Nat → Thing α) (i j : Nat) : Nat → Thing α := fun k => if k = i then q j else if k = j then q i else q k
theorem sw_left (q : Nat → Thing α) (i j : Nat) : sw q i j i = q j := if_pos rfl
theorem sw_right (q : Nat → Thing α) (i j : Nat) : sw q i j j = q i := by
  unfold sw
  by_cases h : j = i
  · rw [if_pos h, h]
  · rw [if_neg h, if_pos rfl]
theorem sw_other (q : Nat → Thing α) {i j k : Nat} (h : k ≠ i) (g : k ≠ j) : sw q i j k = q k := by unfold sw; rw [if_neg h, if_neg g]
theorem sw_comm (q : Nat → Thing α) (i j : Nat) : sw q i j = sw q j i := by
  funext k
  unfold sw
  by_cases h : k = i
  · subst h
    rw [if_pos rfl]
    by_cases g : k = j
    · rw [if_pos g, g]
    · rw [if_neg g, if_pos rfl]
  · rw [if_neg h]
    by_cases g : k = j
    · rw [if_pos g, if_pos g]
    · rw [if_neg g, if_neg g, if_neg h]
/-- The things at the first n places. -/
def row (q : Nat → Thing α) (n : Nat) : List (Thing α) := (List.range n).map q
theorem rowq_len (q : Nat → Thing α) (n : Nat) : (row q n).length = n := by simp [row]
theorem row_congr {q r : Nat → Thing α} {n : Nat} (h : ∀ k, k < n → q k = r k) : row q n = row r n := by
  unfold row
  apply List.map_congr_left
  intro k hk
  exact h k (List.mem_range.1 hk)
theorem row_succ (q : Nat → Thing α) (n : Nat) : row q (n + 1) = row q n ++ [q n] := by unfold row; rw [List.range_succ, List.map_append]; rfl
theorem mem_row {q : Nat → Thing α} {n : Nat} {x : Thing α} : x ∈ row q n ↔ ∃ k, k < n ∧ q k = x := by
  unfold row
  rw [List.mem_map]
  exact ⟨fun ⟨k, hk, e⟩ => ⟨k, List.mem_range.1 hk, e⟩, fun ⟨k, hk, e⟩ => ⟨k, List.mem_range.2 hk, e⟩⟩
theorem row_sw (q : Nat → Thing α) {n i j : Nat} (hi : i < n) (hj : j < n) : (row (sw q i j) n).Perm (row q n) := by
  have e : sw q i j = fun k => q (if k = i then j else if k = j then i else k) := by
    funext k
    unfold sw
    split
    · rfl
    · split <;> rfl
  unfold row
  rw [e]
  have e2 : ((List.range n).map fun k => q (if k = i then j else if k = j then i else k)) = ((List.range n).map fun k => if k = i then j else if k = j then i else k).map q := by rw [List.map_map]; rfl
  rw [e2]
  refine List.Perm.map q ?_
  have hinv : ∀ k, (if (if k = i then j else if k = j then i else k) = i then j else if (if k = i then j else if k = j then i else k) = j then i else (if k = i then j else if k = j then i else k)) = k := by
    intro k
    by_cases h : k = i
    · subst h
      by_cases g : j = k
      · subst g; simp
      · simp [g]
    · by_cases g : k = j
      · subst g; simp [h]
      · simp [h, g]
  refine (List.perm_ext_iff_of_nodup ?_ List.nodup_range).2 ?_
  · rw [List.nodup_iff_pairwise_ne, List.pairwise_map]
    refine List.Pairwise.imp ?_ (List.nodup_iff_pairwise_ne.1 (List.nodup_range (n := n)))
    intro a b hab h
    apply hab
    rw [← hinv a, ← hinv b, h]
  · intro x
    rw [List.mem_map]
    constructor
    · rintro ⟨k, hk, rfl⟩
      have := List.mem_range.1 hk
      refine List.mem_range.2 ?_
      split
      · exact hj
      · split
        · exact hi
        · exact this
    · intro hx
      have := List.mem_range.1 hx
      refine ⟨if x = i then j else if x = j then i else x, List.mem_range.2 ?_, hinv x⟩
      split
      · exact hj
      · split
        · exact hi
        · exact this

/-! ### Up -/
/-- A heap but for the place j and the one above it. -/
def UpAt (lt : α → α → Prop) (q : Nat → Thing α) (n j : Nat) : Prop :=
  (∀ k, 0 < k → k < n → k ≠ j → ¬ Bef lt (q k) (q (par k))) ∧ (∀ k, 0 < k → k < n → par k = j → 0 < j → ¬ Bef lt (q k) (q (par j)))
theorem UpAt.done {q : Nat → Thing α} {n j : Nat} (h : UpAt lt q n j) (hj : j = 0 ∨ ¬ Bef lt (q j) (q (par j))) : Heaped lt q n := by
  intro k hk hn
  by_cases e : k = j
  · subst e
    rcases hj with hj | hj
    · omega
    · exact hj
  · exact h.1 k hk hn e
theorem UpAt.step (O : Order lt) {q : Nat → Thing α} {n j : Nat} (h : UpAt lt q n j) (hj : 0 < j) (hn : j < n) (hb : Bef lt (q j) (q (par j))) : UpAt lt (sw q (par j) j) n (par j) := by
  have hp : par j < j := by unfold par; omega
  constructor
  · intro k hk hkn hkp
    by_cases e : k = j
    · subst e
      rw [sw_right, sw_left]
      exact Bef.asymm O hb
    · rw [sw_other q hkp e]
      by_cases e2 : par k = par j
      · rw [e2, sw_left]
        have h1 := h.1 k hk hkn e
        rw [e2] at h1
        exact Bef.not_trans O (Bef.asymm O hb) h1
      · by_cases e3 : par k = j
        · rw [e3, sw_right]
          exact h.2 k hk hkn e3 hj
        · rw [sw_other q e2 e3]
          exact h.1 k hk hkn e
  · intro k hk hkn hkp h0
    have hpp : par (par j) < par j := by unfold par at *; omega
    have e1 : par (par j) ≠ par j := by omega
    have e2 : par (par j) ≠ j := by omega
    rw [sw_other q e1 e2]
    have h1 := h.1 (par j) h0 (by omega) (by omega)
    by_cases e : k = j
    · subst e
      rw [sw_right]
      exact h1
    · have hkp2 : k ≠ par j := by
        intro e3
        rw [e3] at hkp
        omega
      rw [sw_other q hkp2 e]
      have h2 := h.1 k hk hkn e
      rw [hkp] at h2
      exact Bef.not_trans O h1 h2
theorem Heaped.upAt {q : Nat → Thing α} {n : Nat} (h : Heaped lt q n) : UpAt lt q (n + 1) n := by
  constructor
  · intro k hk hn e
    exact h k hk (by omega)
  · intro k hk hn e _
    unfold par at e
    omega

/-! ### Down -/
/-- A heap but for the place i, the one above it and those below it. -/
def OffAt (lt : α → α → Prop) (q : Nat → Thing α) (n i : Nat) : Prop :=
  (∀ k, 0 < k → k < n → k ≠ i → par k ≠ i → ¬ Bef lt (q k) (q (par k))) ∧ (∀ k, 0 < k → k < n → par k = i → 0 < i → ¬ Bef lt (q k) (q (par i)))
/-- On the way down from a to i: all is well but for the places below i, and, so long as nothing moved, the one above. -/
def DownAt2 (lt : α → α → Prop) (q : Nat → Thing α) (n a i : Nat) : Prop :=
  OffAt lt q n i ∧ a ≤ i ∧ (a < i → 0 < i ∧ ¬ Bef lt (q i) (q (par i)))
theorem OffAt.down {q : Nat → Thing α} {n i : Nat} (h : OffAt lt q n i) : DownAt2 lt q n i i := ⟨h, Nat.le_refl _, fun h => absurd h (Nat.lt_irrefl _)⟩
/-- The lesser one of the two places below i, where there are any. -/
def Kid (lt : α → α → Prop) (q : Nat → Thing α) (n i j : Nat) : Prop :=
  (j = 2 * i + 1 ∨ j = 2 * i + 2) ∧ j < n ∧ ∀ k, 0 < k → k < n → par k = i → ¬ Bef lt (q k) (q j)
theorem par_kids {k i : Nat} (hk : 0 < k) : par k = i ↔ k = 2 * i + 1 ∨ k = 2 * i + 2 := by unfold par; omega
theorem DownAt2.step (O : Order lt) {q : Nat → Thing α} {n a i j : Nat} (h : DownAt2 lt q n a i) (hj : Kid lt q n i j) (hb : Bef lt (q j) (q i)) : DownAt2 lt (sw q i j) n a j := by
  obtain ⟨⟨h1, h2⟩, h3, h4⟩ := h
  obtain ⟨j1, j2, j3⟩ := hj
  have hpj : par j = i := (par_kids (by omega)).2 j1
  have hij : i < j := by omega
  refine ⟨⟨?_, ?_⟩, by omega, fun _ => ⟨by omega, ?_⟩⟩
  · intro k hk hkn e1 e2
    by_cases e : k = i
    · subst e
      rw [sw_left]
      have e3 : par k ≠ k := by unfold par; omega
      have e4 : par k ≠ j := e2
      rw [sw_other q e3 e4]
      exact h2 j (by omega) j2 hpj hk
    · rw [sw_other q e e1]
      by_cases e3 : par k = i
      · rw [e3, sw_left]
        exact j3 k hk hkn e3
      · rw [sw_other q e3 e2]
        exact h1 k hk hkn e e3
  · intro k hk hkn e1 _
    rw [hpj, sw_left]
    have e2 : k ≠ i := by
      intro e; subst e
      unfold par at *; omega
    have e3 : k ≠ j := by
      intro e; subst e
      unfold par at *; omega
    rw [sw_other q e2 e3]
    have := h1 k hk hkn e2 (by rw [e1]; omega)
    rw [e1] at this
    exact this
  · rw [sw_right, hpj, sw_left]
    exact Bef.asymm O hb
/-- Where the way down ends. -/
theorem DownAt2.done {q : Nat → Thing α} {n a i : Nat} (h : DownAt2 lt q n a i) (hk : ∀ k, 0 < k → k < n → par k = i → ¬ Bef lt (q k) (q i)) :
    UpAt lt q n i ∧ (a < i ∨ i = 0 → Heaped lt q n) := by
  obtain ⟨⟨h1, h2⟩, h3, h4⟩ := h
  have hu : UpAt lt q n i := by
    refine ⟨fun k k0 kn e => ?_, h2⟩
    by_cases e2 : par k = i
    · rw [e2]; exact hk k k0 kn e2
    · exact h1 k k0 kn e e2
  refine ⟨hu, fun h => ?_⟩
  rcases h with h | h
  · exact hu.done (.inr (h4 h).2)
  · exact hu.done (.inl h)
theorem Kid.of_done {q : Nat → Thing α} (O : Order lt) {n i j : Nat} (hj : Kid lt q n i j) (hb : ¬ Bef lt (q j) (q i)) : ∀ k, 0 < k → k < n → par k = i → ¬ Bef lt (q k) (q i) :=
  fun k k0 kn e => Bef.not_trans O hb (hj.2.2 k k0 kn e)
theorem Heaped.offAt {q r : Nat → Thing α} {n i : Nat} (h : Heaped lt q n) (O : Order lt) (hr : ∀ k, k ≠ i → r k = q k) : OffAt lt r n i := by
  constructor
  · intro k k0 kn e1 e2
    rw [hr k e1, hr _ e2]
    exact h k k0 kn
  · intro k k0 kn e h0
    have e1 : k ≠ i := by intro e3; subst e3; unfold par at e; omega
    have e2 : par i ≠ i := by unfold par; omega
    rw [hr k e1, hr _ e2]
    have g1 := h k k0 kn
    rw [e] at g1
    have g2 := h i h0 (by unfold par at e; omega)
    exact Bef.not_trans O g2 g1
theorem Heaped.less {q : Nat → Thing α} {n m : Nat} (h : Heaped lt q n) (hm : m ≤ n) : Heaped lt q m := fun k k0 km => h k k0 (by omega)
/-- The first place has the first thing. -/
theorem Heaped.first (O : Order lt) {q : Nat → Thing α} {n : Nat} (h : Heaped lt q n) : ∀ k, k < n → ¬ Bef lt (q k) (q 0) := by
  intro k
  induction k using Nat.strongRecOn with
  | _ k ih =>
    intro hk
    rcases Nat.eq_zero_or_pos k with e | e
    · subst e; exact Bef.irrefl O _
    · have h1 := ih (par k) (by unfold par; omega) (by unfold par; omega)
      exact Bef.not_trans O h1 (h k e hk)

/-! ### Rows in order -/
instance [DecidableRel lt] [DecidableEq α] (x y : Thing α) : Decidable (Bef lt x y) := by unfold Bef; exact inferInstance
/-- One thing more, at its place. -/
def ins (lt : α → α → Prop) [DecidableRel lt] [DecidableEq α] (x : Thing α) : List (Thing α) → List (Thing α)
  | [] => [x]
  | y :: r => if Bef lt x y then x :: y :: r else y :: ins lt x r
theorem sorted_unique (O : Order lt) : ∀ {l m : List (Thing α)}, l.Pairwise (Bef lt) → m.Pairwise (Bef lt) → l.Perm m → l = m
  | [], m, _, _, p => (List.nil_perm.1 p).symm
  | x :: l, [], _, _, p => by have := p.length_eq; simp at this
  | x :: l, y :: m, hl, hm, p => by
    have e : x = y := by
      have h1 : x ∈ y :: m := p.subset List.mem_cons_self
      have h2 : y ∈ x :: l := p.symm.subset List.mem_cons_self
      rcases List.mem_cons.1 h1 with h1 | h1
      · exact h1
      · rcases List.mem_cons.1 h2 with h2 | h2
        · exact h2.symm
        · exact absurd ((List.pairwise_cons.1 hl).1 y h2) (Bef.asymm O ((List.pairwise_cons.1 hm).1 x h1))
    subst e
    rw [sorted_unique O (List.pairwise_cons.1 hl).2 (List.pairwise_cons.1 hm).2 (List.Perm.cons_inv p)]
section
variable [DecidableRel lt] [DecidableEq α]
theorem ins_perm (x : Thing α) : ∀ l : List (Thing α), (ins lt x l).Perm (x :: l)
  | [] => List.Perm.refl _
  | y :: r => by
    unfold ins
    split
    · exact List.Perm.refl _
    · exact ((ins_perm x r).cons y).trans (List.Perm.swap x y r)
theorem ins_sorted (O : Order lt) {x : Thing α} : ∀ {l : List (Thing α)}, l.Pairwise (Bef lt) → (∀ y ∈ l, y ≠ x) → (ins lt x l).Pairwise (Bef lt)
  | [], _, _ => List.pairwise_cons.2 ⟨fun _ h => (by cases h), List.Pairwise.nil⟩
  | y :: r, h, hx => by
    obtain ⟨h1, h2⟩ := List.pairwise_cons.1 h
    unfold ins
    split
    · rename_i hb
      refine List.pairwise_cons.2 ⟨fun z hz => ?_, h⟩
      rcases List.mem_cons.1 hz with e | e
      · subst e; exact hb
      · exact hb.trans O (h1 z e)
    · rename_i hb
      have hyx : Bef lt y x := by
        rcases Bef.total O x y with a | a | a
        · exact absurd a hb
        · exact absurd a.symm (hx y List.mem_cons_self)
        · exact a
      refine List.pairwise_cons.2 ⟨fun z hz => ?_, ins_sorted O h2 fun z hz => hx z (List.mem_cons_of_mem _ hz)⟩
      rcases List.mem_cons.1 ((ins_perm x r).subset hz) with e | e
      · subst e; exact hyx
      · exact h1 z e
end
/-- What a heap has: the things, in their order; each number once. -/
def Has (lt : α → α → Prop) (l : List (Thing α)) : Prop := l.Pairwise (Bef lt) ∧ (l.map (·.1)).Nodup
theorem Has.nil : Has lt ([] : List (Thing α)) := ⟨List.Pairwise.nil, List.nodup_nil⟩
/-- A heap's first place has the first of its things. -/
theorem first_is (O : Order lt) {q : Nat → Thing α} {n : Nat} {x : Thing α} {r : List (Thing α)} (h : Heaped lt q n) (hs : (x :: r).Pairwise (Bef lt)) (hp : (x :: r).Perm (row q n)) : q 0 = x ∧ n = r.length + 1 := by
  have hl := hp.length_eq
  rw [rowq_len] at hl
  have hn : n = r.length + 1 := by simpa using hl.symm
  refine ⟨?_, hn⟩
  have h0 : q 0 ∈ x :: r := hp.symm.subset (mem_row.2 ⟨0, by omega, rfl⟩)
  rcases List.mem_cons.1 h0 with e | e
  · exact e
  · obtain ⟨k, hk, ek⟩ := mem_row.1 (hp.subset (List.mem_cons_self (a := x) (l := r)))
    have := h.first O k hk
    rw [ek] at this
    exact absurd ((List.pairwise_cons.1 hs).1 _ e) this
end
end Go.Proofs.Ytgpnpopmlommaaa
