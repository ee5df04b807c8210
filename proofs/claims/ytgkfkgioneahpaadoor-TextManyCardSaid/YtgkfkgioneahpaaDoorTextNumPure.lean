/- Decimals, as lists of bytes; nothing of the program. -/
import Derived.Test.YtgkfkgioneahpaaDoorTextPure
namespace Go.Proofs.YtgkfkgioneahpaaDoor
open Go.RowKit
set_option linter.unusedVariables false

def digC (c : UInt8) : Bool := decide (48 ≤ c.toNat) && decide (c.toNat ≤ 57)
/-- Digits, and no nought ahead, but of 0. -/
def decB (l : List UInt8) : Bool := !l.isEmpty && (decide (l.head? ≠ some 48) || decide (l.length = 1)) && l.all digC
/-- What digits make. -/
def valD (l : List UInt8) : Nat := l.foldl (fun n c => 10 * n + (c.toNat - 48)) 0
def numV (l : List UInt8) : Int := if decB l = true then (min (valD l) 1000000000000000000 : Nat) else 0
/-- A number's digits. -/
def decN (n : Nat) : List UInt8 := if n < 10 then [UInt8.ofNat (48 + n)] else decN (n / 10) ++ [UInt8.ofNat (48 + n % 10)]
termination_by n
decreasing_by omega
def decI (n : Int) : List UInt8 := if n < 0 then 45 :: decN n.natAbs else decN n.natAbs

theorem snoc_ind {p : List UInt8 → Prop} (h0 : p []) (h1 : ∀ l c, p l → p (l ++ [c])) (l : List UInt8) : p l := by
  have h : ∀ r : List UInt8, p r.reverse := by
    intro r
    induction r with
    | nil => exact h0
    | cons c r ih => rw [List.reverse_cons]; exact h1 _ _ ih
  have := h l.reverse
  rwa [List.reverse_reverse] at this
theorem head_app {l m : List UInt8} (h : l ≠ []) : (l ++ m).head? = l.head? := by
  cases l with
  | nil => exact absurd rfl h
  | cons _ _ => rfl
theorem valD_snoc (l : List UInt8) (c : UInt8) : valD (l ++ [c]) = 10 * valD l + (c.toNat - 48) := by simp [valD]
theorem valD_take {l : List UInt8} {k : Nat} (hk : k < l.length) : valD (l.take (k + 1)) = 10 * valD (l.take k) + (l[k].toNat - 48) := by rw [List.take_succ_eq_append_getElem hk, valD_snoc]
theorem digC_iff {c : UInt8} : digC c = true ↔ 48 ≤ c.toNat ∧ c.toNat ≤ 57 := by unfold digC; simp
theorem valD_lt {l : List UInt8} (h : l.all digC = true) : valD l < 10 ^ l.length := by
  revert h
  refine snoc_ind (p := fun l => l.all digC = true → valD l < 10 ^ l.length) (fun _ => by simp [valD]) (fun l c ih h => ?_) l
  · rw [List.all_append, Bool.and_eq_true] at h
    have h1 := ih h.1
    have h2 : digC c = true := by simpa using h.2
    rw [digC_iff] at h2
    rw [valD_snoc, List.length_append, List.length_singleton, Nat.pow_succ]
    omega
theorem valD_ge {l : List UInt8} (h : l.all digC = true) (hl : l ≠ []) (h0 : l.head? ≠ some 48) : 10 ^ (l.length - 1) ≤ valD l := by
  revert h hl h0
  refine snoc_ind (p := fun l => l.all digC = true → l ≠ [] → l.head? ≠ some 48 → 10 ^ (l.length - 1) ≤ valD l) (fun _ h _ => absurd rfl h) (fun l c ih h _ h0 => ?_) l
  · rw [List.all_append, Bool.and_eq_true] at h
    have h2 : digC c = true := by simpa using h.2
    rw [digC_iff] at h2
    rw [valD_snoc, List.length_append, List.length_singleton, Nat.add_sub_cancel]
    by_cases he : l = []
    · subst he
      have : c.toNat ≠ 48 := fun e => h0 (by simp; exact UInt8.toNat_inj.1 e)
      simp [valD]
      omega
    · have h3 := ih h.1 he (by rw [head_app he] at h0; exact h0)
      obtain ⟨m, hm⟩ : ∃ m, l.length = m + 1 := ⟨l.length - 1, by have : l.length ≠ 0 := fun e => he (List.length_eq_zero_iff.1 e); omega⟩
      rw [hm] at h3 ⊢
      rw [Nat.add_sub_cancel] at h3
      rw [Nat.pow_succ]
      omega
theorem dig_toNat {d : Nat} (h : d < 10) : (UInt8.ofNat (48 + d)).toNat = 48 + d := by
  rw [UInt8.toNat_ofNat']
  omega
theorem decN_small {n : Nat} (h : n < 10) : decN n = [UInt8.ofNat (48 + n)] := by rw [decN, if_pos h]
theorem decN_big {n : Nat} (h : ¬ n < 10) : decN n = decN (n / 10) ++ [UInt8.ofNat (48 + n % 10)] := by rw [decN, if_neg h]
theorem decN_ne (n : Nat) : decN n ≠ [] := by
  by_cases h : n < 10
  · rw [decN_small h]; simp
  · rw [decN_big h]; simp
theorem decN_val (n : Nat) : valD (decN n) = n := by
  induction n using Nat.strongRecOn with
  | _ n ih =>
    by_cases h : n < 10
    · rw [decN_small h]
      simp only [valD, List.foldl_cons, List.foldl_nil]
      rw [dig_toNat h]; omega
    · rw [decN_big h, valD_snoc, ih _ (by omega), dig_toNat (Nat.mod_lt _ (by decide))]
      omega
theorem decN_dig (n : Nat) : (decN n).all digC = true := by
  induction n using Nat.strongRecOn with
  | _ n ih =>
    by_cases h : n < 10
    · rw [decN_small h]
      simp only [List.all_cons, List.all_nil, Bool.and_true]
      rw [digC_iff, dig_toNat h]; omega
    · rw [decN_big h, List.all_append, ih _ (by omega)]
      simp only [List.all_cons, List.all_nil, Bool.and_true, Bool.true_and]
      rw [digC_iff, dig_toNat (Nat.mod_lt _ (by decide))]
      have := Nat.mod_lt n (show 0 < 10 by decide)
      omega
theorem decN_head (n : Nat) : (decN n).head? ≠ some 48 ∨ (decN n).length = 1 := by
  induction n using Nat.strongRecOn with
  | _ n ih =>
    by_cases h : n < 10
    · right; rw [decN_small h]; rfl
    · left
      rw [decN_big h, head_app (decN_ne _)]
      rcases ih (n / 10) (by omega) with h1 | h1
      · exact h1
      · intro e
        obtain ⟨x, hx⟩ := List.length_eq_one_iff.1 h1
        have hv := decN_val (n / 10)
        rw [hx] at e hv
        simp at e
        subst e
        simp [valD] at hv
        omega
theorem decN_ok (n : Nat) : decB (decN n) = true := by
  unfold decB
  rw [decN_dig]
  have h : (decN n).isEmpty = false := by cases h : decN n with | nil => exact absurd h (decN_ne n) | cons _ _ => rfl
  rw [h]
  simp only [Bool.not_false, Bool.true_and, Bool.and_true, Bool.or_eq_true, decide_eq_true_iff]
  exact decN_head n
theorem decN_len_lt {n k : Nat} (h : n < 10 ^ (k + 1)) : (decN n).length ≤ k + 1 := by
  induction k generalizing n with
  | zero => rw [decN_small (by omega)]; simp
  | succ k ih =>
    by_cases h1 : n < 10
    · rw [decN_small h1]; simp
    · rw [decN_big h1, List.length_append, List.length_singleton]
      have := ih (n := n / 10) (by rw [Nat.pow_succ] at h; omega)
      omega
theorem decN_mono {a b : Nat} (h : a ≤ b) : (decN a).length ≤ (decN b).length := by
  induction b using Nat.strongRecOn generalizing a with
  | _ b ih =>
    by_cases h1 : a < 10
    · rw [decN_small h1]
      have : (decN b).length ≠ 0 := fun e => decN_ne b (List.length_eq_zero_iff.1 e)
      simp; omega
    · rw [decN_big h1, decN_big (show ¬ b < 10 by omega), List.length_append, List.length_append]
      have := ih (b / 10) (by omega) (a := a / 10) (Nat.div_le_div_right h)
      simpa using this
theorem decN_inj {a b : Nat} (h : decN a = decN b) : a = b := by rw [← decN_val a, h, decN_val]
theorem decI_nat (n : Nat) : decI (n : Int) = decN n := by unfold decI; rw [if_neg (by omega)]; rfl
theorem decI_neg {n : Int} (h : n < 0) : decI n = 45 :: decN n.natAbs := by unfold decI; rw [if_pos h]
theorem decI_no {n : Int} (h : n < 0) : decB (decI n) = false := by
  rw [decI_neg h]
  unfold decB
  simp [digC]
theorem decI_inj {a b : Int} (h : decI a = decI b) : a = b := by
  by_cases ha : a < 0
  · by_cases hb : b < 0
    · rw [decI_neg ha, decI_neg hb] at h
      injection h with _ h
      have := decN_inj h
      omega
    · have h1 := decI_no ha
      obtain ⟨m, rfl⟩ : ∃ m : Nat, b = (m : Int) := ⟨b.toNat, by omega⟩
      rw [h, decI_nat, decN_ok] at h1
      cases h1
  · obtain ⟨m, rfl⟩ : ∃ m : Nat, a = (m : Int) := ⟨a.toNat, by omega⟩
    by_cases hb : b < 0
    · have h1 := decI_no hb
      rw [← h, decI_nat, decN_ok] at h1
      cases h1
    · obtain ⟨k, rfl⟩ : ∃ k : Nat, b = (k : Int) := ⟨b.toNat, by omega⟩
      rw [decI_nat, decI_nat] at h
      rw [decN_inj h]
theorem numV_no {l : List UInt8} (h : decB l = false) : numV l = 0 := by unfold numV; rw [if_neg (by rw [h]; decide)]
theorem numV_yes {l : List UInt8} (h : decB l = true) : numV l = (min (valD l) 1000000000000000000 : Nat) := by unfold numV; rw [if_pos h]
theorem decB_parts {l : List UInt8} (h : decB l = true) : l ≠ [] ∧ (l.head? ≠ some 48 ∨ l.length = 1) ∧ l.all digC = true := by
  unfold decB at h
  simp only [Bool.and_eq_true, Bool.not_eq_true', Bool.or_eq_true, decide_eq_true_iff] at h
  exact ⟨fun e => by rw [e] at h; simp at h, h.1.2, h.2⟩
/-- More than 18 digits: 10^18 and more. -/
theorem numV_long {l : List UInt8} (h : decB l = true) (hl : 18 < l.length) : numV l = 1000000000000000000 := by
  obtain ⟨h0, h1, h2⟩ := decB_parts h
  have h3 := valD_ge h2 h0 (h1.resolve_right (by omega))
  have h4 : 10 ^ 18 ≤ 10 ^ (l.length - 1) := Nat.pow_le_pow_right (by decide) (by omega)
  rw [numV_yes h, Nat.min_eq_right (by omega)]
  rfl
theorem numV_short {l : List UInt8} (h : decB l = true) (hl : l.length ≤ 18) : numV l = (valD l : Int) := by
  have h3 := valD_lt (decB_parts h).2.2
  have h4 : 10 ^ l.length ≤ 10 ^ 18 := Nat.pow_le_pow_right (by decide) hl
  rw [numV_yes h, Nat.min_eq_left (by omega)]
end Go.Proofs.YtgkfkgioneahpaaDoor
