/- Plain facts on sets of days: put in, taken out, one behind the other, and their texts; nothing of the program. -/
import Derived.Test.YtmjogpbdgbgkhaaDoorDaysRefE
namespace Go.Proofs.YtmjogpbdgbgkhaaDoor
open Go.RowKit
set_option linter.unusedVariables false

theorem putN_out {s : Nat} {d b : Int} (hd : ¬ (0 ≤ d ∧ d ≤ 63)) : putN s d b = s := by unfold putN; rw [if_neg hd]
theorem putN_putN {s : Nat} (hs : s < 2 ^ 64) (d b b' : Int) : putN (putN s d b) d b' = putN s d b' := by
  by_cases hd : 0 ≤ d ∧ d ≤ 63
  · refine eq_bits (putN_lt (putN_lt hs _ _) _ _) (putN_lt hs _ _) fun j hj => ?_
    rw [putN_bit hj hd, putN_bit hj hd, putN_bit hj hd]
    split <;> rfl
  · rw [putN_out hd, putN_out hd, putN_out hd]
theorem hasB_put0 (s : Nat) (d : Int) : hasB (putN s d 0) d = false := by
  unfold hasB
  by_cases hd : 0 ≤ d ∧ d ≤ 63
  · rw [putN_bit (by omega) hd, if_pos (by omega)]; simp
  · rw [decide_eq_false hd]; rfl
theorem hasB_put1 (s : Nat) {d : Int} (hd : 0 ≤ d ∧ d ≤ 63) : hasB (putN s d 1) d = true := by
  unfold hasB
  rw [decide_eq_true hd, putN_bit (by omega) hd, if_pos (by omega)]; rfl
theorem upTo_put (s : Nat) {k : Nat} (hk : k < 64) (n : Nat) (hn : n ≤ 64) : (upTo (putN s k 1) n).length = (upTo (putN s k 0) n).length + if k < n then 1 else 0 := by
  induction n with
  | zero => simp [upTo]
  | succ n ih =>
    have h := ih (by omega)
    have hd : 0 ≤ (k : Int) ∧ (k : Int) ≤ 63 := by omega
    rw [upTo_succ, upTo_succ, List.length_append, List.length_append, h, putN_bit (by omega) hd, putN_bit (by omega) hd]
    by_cases e : n = k
    · subst e
      rw [if_pos rfl, if_pos rfl, if_neg (Nat.lt_irrefl n), if_pos (Nat.lt_succ_self n)]; simp
    · have e' : ¬ (n : Int) = (k : Int) := by omega
      rw [if_neg e', if_neg e']
      by_cases h2 : k < n
      · rw [if_pos h2, if_pos (Nat.lt_succ_of_lt h2)]; cases s.testBit n <;> simp
      · rw [if_neg h2, if_neg (show ¬ k < n + 1 by omega)]; omega
theorem len_put (s : Nat) {d : Int} (hd : 0 ≤ d ∧ d ≤ 63) : (allI (putN s d 1)).length = (allI (putN s d 0)).length + 1 := by
  obtain ⟨k, rfl⟩ : ∃ k : Nat, d = (k : Int) := ⟨d.toNat, by omega⟩
  have := upTo_put s (k := k) (by omega) 64 (Nat.le_refl _)
  rwa [if_pos (by omega)] at this

/-- Next, by the place in the row of all days. -/
theorem nextI_at {s : Nat} {d : Int} {k : Nat} (h1 : ∀ j, j < k → j < (allI s).length → (allI s).getD j 0 < d) (h2 : k < (allI s).length → d ≤ (allI s).getD k 0) :
    nextI s d = (allI s).getD k (-1) := by
  unfold nextI
  have hn : ((allI s).take k).find? (fun x => decide (d ≤ x)) = none := by
    rw [List.find?_eq_none]
    intro x hx
    obtain ⟨j, hj, rfl⟩ := List.mem_iff_getElem.1 hx
    have hjk : j < k ∧ j < (allI s).length := by rw [List.length_take] at hj; omega
    have := h1 j hjk.1 hjk.2
    rw [List.getD_eq_getElem?_getD, List.getElem?_eq_getElem hjk.2] at this
    rw [List.getElem_take]
    simp only [Option.getD_some] at this
    simpa using this
  rcases Nat.lt_or_ge k (allI s).length with hk | hk
  · have := find_some_at (p := fun x => decide (d ≤ x)) hk hn (by simpa using h2 hk)
    rw [this, List.getD_eq_getElem?_getD, List.getD_eq_getElem?_getD, List.getElem?_eq_getElem hk]; rfl
  · rw [List.take_of_length_le hk] at hn
    rw [hn, List.getD_eq_getElem?_getD, List.getElem?_eq_none hk]
theorem allI_lt {s : Nat} {i j : Nat} (hij : i < j) (hj : j < (allI s).length) : (allI s).getD i 0 < (allI s).getD j 0 := by
  have := List.pairwise_iff_getElem.1 (upTo_sorted s 64) i j (Nat.lt_trans hij hj) hj hij
  rw [List.getD_eq_getElem?_getD, List.getD_eq_getElem?_getD, List.getElem?_eq_getElem (Nat.lt_trans hij hj), List.getElem?_eq_getElem hj]
  exact this
theorem allI_mem {s : Nat} {k : Nat} (hk : k < (allI s).length) : 0 ≤ (allI s).getD k 0 ∧ (allI s).getD k 0 < 64 ∧ hasB s ((allI s).getD k 0) = true := by
  have hm : (allI s).getD k 0 ∈ allI s := by
    rw [List.getD_eq_getElem?_getD, List.getElem?_eq_getElem hk]; exact List.getElem_mem _
  obtain ⟨h1, h2, h3⟩ := mem_upTo.1 hm
  have h4 : (allI s).getD k 0 < 64 := h2
  refine ⟨h1, h4, ?_⟩
  unfold hasB
  rw [decide_eq_true ⟨h1, by omega⟩, h3]; rfl
theorem next_first (s : Nat) : nextI s 0 = (allI s).getD 0 (-1) := nextI_at (fun j hj => by omega) (fun h => (allI_mem h).1)
theorem next_next {s k : Nat} (hk : k < (allI s).length) : nextI s ((allI s).getD k 0 + 1) = (allI s).getD (k + 1) (-1) := by
  refine nextI_at (fun j hj hl => ?_) (fun h => ?_)
  · by_cases e : j = k
    · subst e; omega
    · have := allI_lt (s := s) (i := j) (j := k) (by omega) hk; omega
  · have := allI_lt (s := s) (i := k) (j := k + 1) (by omega) h; omega
theorem getD_neg {xs : List Int} {k : Nat} (h0 : ∀ j, j < xs.length → 0 ≤ xs.getD j 0) : (xs.getD k (-1) < 0 ↔ xs.length ≤ k) ∧ (k < xs.length → xs.getD k (-1) = xs.getD k 0) := by
  rw [List.getD_eq_getElem?_getD, List.getD_eq_getElem?_getD]
  rcases Nat.lt_or_ge k xs.length with h | h
  · rw [List.getElem?_eq_getElem h]
    have := h0 k h
    rw [List.getD_eq_getElem?_getD, List.getElem?_eq_getElem h] at this
    simp only [Option.getD_some] at this ⊢
    refine ⟨by omega, ?_⟩
    first | trivial | (intro _; rfl) | (intro _; trivial)
  · rw [List.getElem?_eq_none h]
    simp
    omega

/-! ### A set's text is read from it -/
theorem textB_list {s m : Nat} (h : 1 ≤ m) (h' : m ≤ 64) : (textB s (m : Int)).data.toList = (textI s m).map fun n => UInt8.ofNat n.toNat := by
  unfold textB
  rw [if_pos ⟨by omega, by omega⟩, Int.toNat_natCast]; rfl
theorem textB_none {s : Nat} {n : Int} (h : ¬ (1 ≤ n ∧ n ≤ 64)) : textB s n = ByteArray.empty := by unfold textB; rw [if_neg h]
theorem textB_ok {s m : Nat} (h : 1 ≤ m) (h' : m ≤ 64) : okB (textB s (m : Int)).data.toList = true := by
  rw [textB_list h h', okB, List.all_eq_true]
  intro c hc
  obtain ⟨n, hn, rfl⟩ := List.mem_map.1 hc
  obtain ⟨d, _, rfl⟩ := List.mem_map.1 hn
  cases s.testBit d <;> rfl
theorem textB_bits {s m : Nat} (h : 1 ≤ m) (h' : m ≤ 64) : bitsT (textB s (m : Int)).data.toList = (List.range m).map fun d => if s.testBit d then 1 else 0 := by
  rw [textB_list h h', bitsT, textI, List.map_map, List.map_map]
  apply List.map_congr_left
  intro d _
  show ((UInt8.ofNat (if s.testBit d = true then (49 : Int) else 48).toNat).toNat : Int) - 48 = _
  cases s.testBit d <;> rfl
theorem parse_text {s m : Nat} (h : 1 ≤ m) (h' : m ≤ 64) : ∃ x : Nat, parseV (textB s (m : Int)).data.toList = (x, 0) ∧ x < 2 ^ 64 ∧ ∀ d : Nat, d < 64 → hasB x (d : Int) = (decide ((d : Int) < (m : Int)) && hasB s (d : Int)) := by
  have hl : (textB s (m : Int)).data.toList.length = m := by rw [textB_list h h', List.length_map, textI_len]
  refine ⟨num2 (bitsT (textB s (m : Int)).data.toList), ?_, ?_, ?_⟩
  · unfold parseV
    rw [if_neg (not_or.2 ⟨fun e => by rw [e] at hl; simp at hl; omega, by rw [textB_ok h h']; decide⟩), if_neg (by omega)]
  · have := num2_lt (bitsT (textB s (m : Int)).data.toList)
    rw [bitsT_len, hl] at this
    exact Nat.lt_of_lt_of_le this (Nat.pow_le_pow_right (by decide) h')
  · intro d hd
    unfold hasB
    rw [num2_bit, textB_bits h h', Int.toNat_natCast, decide_eq_true (show 0 ≤ (d : Int) ∧ (d : Int) ≤ 63 by omega), Bool.true_and, Bool.true_and, List.getD_eq_getElem?_getD]
    by_cases hdm : d < m
    · rw [List.getElem?_map, List.getElem?_range hdm, decide_eq_true (show (d : Int) < (m : Int) by omega)]
      show decide ((if s.testBit d = true then (1 : Int) else 0) = 1) = (true && s.testBit d)
      cases s.testBit d <;> rfl
    · rw [List.getElem?_eq_none (by simp; omega), decide_eq_false (show ¬ (d : Int) < (m : Int) by omega)]; rfl

/-- The set of these days. -/
def ofN (xs : List Int) : Nat := xs.foldl (fun s d => putN s d 1) 0
theorem ofN_lt (xs : List Int) : ofN xs < 2 ^ 64 := by
  unfold ofN
  suffices h : ∀ (xs : List Int) (s : Nat), s < 2 ^ 64 → xs.foldl (fun s d => putN s d 1) s < 2 ^ 64 from h xs 0 (by decide)
  intro xs
  induction xs with
  | nil => intro s h; exact h
  | cons x r ih => intro s h; exact ih _ (putN_lt h _ _)
theorem ofN_succ {xs : List Int} {k : Nat} (hk : k < xs.length) : ofN (xs.take (k + 1)) = putN (ofN (xs.take k)) (xs.getD k 0) 1 := by
  unfold ofN
  rw [List.take_succ_eq_append_getElem hk, List.foldl_append, List.getD_eq_getElem?_getD, List.getElem?_eq_getElem hk]; rfl
theorem ofN_bit (xs : List Int) {j : Nat} (hj : j < 64) : (ofN xs).testBit j = decide ((j : Int) ∈ xs) := by
  suffices h : ∀ (xs : List Int) (s : Nat), (xs.foldl (fun s d => putN s d 1) s).testBit j = (s.testBit j || decide ((j : Int) ∈ xs)) by
    have := h xs 0
    unfold ofN
    rw [this]; simp
  intro xs
  induction xs with
  | nil => intro s; simp
  | cons x r ih =>
    intro s
    rw [List.foldl_cons, ih]
    by_cases hx : 0 ≤ x ∧ x ≤ 63
    · rw [putN_bit hj hx]
      by_cases e : (j : Int) = x
      · rw [if_pos e]; simp [e]
      · rw [if_neg e]; simp [e]
    · rw [putN_out hx]
      have : (j : Int) ≠ x := by omega
      simp [this]
theorem ofN_all {s : Nat} (hs : s < 2 ^ 64) : ofN (allI s) = s := by
  refine eq_bits (ofN_lt _) hs fun j hj => ?_
  rw [ofN_bit _ hj, Bool.eq_iff_iff, decide_eq_true_iff]
  constructor
  · intro h; have := (mem_upTo.1 h).2.2; rwa [Int.toNat_natCast] at this
  · intro h; exact mem_upTo.2 ⟨by omega, by omega, by rwa [Int.toNat_natCast]⟩
end Go.Proofs.YtmjogpbdgbgkhaaDoor
