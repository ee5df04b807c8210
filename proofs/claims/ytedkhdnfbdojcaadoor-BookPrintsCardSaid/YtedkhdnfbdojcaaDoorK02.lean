import Derived.Test.YtedkhdnfbdojcaaDoorK01
import Derived.Lib.Join
section
/- Texts of lines, one behind the other, and lines that are made of words; nothing of the program. -/
namespace Go.Proofs.YtedkhdnfbdojcaaDoor
open Go.RowKit
set_option linter.unusedVariables false
theorem contD_app {x y : List UInt8} : ∀ {cur : List UInt8} {line : List (List UInt8)} {out r : List (List (List UInt8))}, contD cur line out x = some r → contD cur line out (x ++ y) = contD [] [] r y := by
  induction x with
  | nil =>
    intro cur line out r h
    rw [contD] at h
    split at h
    · rename_i h1
      injection h with h
      rw [h1.1, h1.2, h]
      rfl
    · cases h
  | cons c x ih =>
    intro cur line out r h
    rw [List.cons_append, contD]
    rw [contD] at h
    by_cases h32 : c = 32
    · rw [if_pos h32] at h ⊢
      by_cases h0 : cur = []
      · rw [if_pos h0] at h; cases h
      · rw [if_neg h0] at h ⊢; exact ih h
    · rw [if_neg h32] at h ⊢
      by_cases h10 : c = 10
      · rw [if_pos h10] at h ⊢
        by_cases h0 : cur = []
        · rw [if_pos h0] at h; cases h
        · rw [if_neg h0] at h ⊢; exact ih h
      · rw [if_neg h10] at h ⊢
        by_cases hg : goodC c = true
        · rw [if_pos hg] at h ⊢; exact ih h
        · rw [if_neg hg] at h; cases h
theorem linesD_app {x y : List UInt8} {lx ly : List (List (List UInt8))} (hx : linesD x = some lx) (hy : linesD y = some ly) : linesD (x ++ y) = some (lx ++ ly) := by
  rw [← contD_lines] at hx hy ⊢
  rw [contD_app hx, contD_is _ _ _ _ rfl]
  rw [contD_is _ _ _ _ rfl] at hy
  cases h : linesW [] [] y with
  | none => rw [h] at hy; cases hy
  | some l =>
    rw [h] at hy
    injection hy with hy
    rw [← hy]
    simp
theorem linesD_nil : linesD [] = some [] := rfl
/-- A word is gone through. -/
theorem contD_word {w r : List UInt8} (hw : w.all goodC = true) : ∀ {cur : List UInt8} {line : List (List UInt8)} {out : List (List (List UInt8))}, contD cur line out (w ++ r) = contD (cur ++ w) line out r := by
  induction w with
  | nil => intro cur line out; simp
  | cons c w ih =>
    intro cur line out
    rw [List.all_cons, Bool.and_eq_true] at hw
    have h32 : c ≠ 32 := fun e => by rw [e] at hw; exact absurd hw.1 (by decide)
    have h10 : c ≠ 10 := fun e => by rw [e] at hw; exact absurd hw.1 (by decide)
    rw [List.cons_append, contD, if_neg h32, if_neg h10, if_pos hw.1, ih hw.2]
    simp
/-- The line of these words. -/
def lineT (ws : List (List UInt8)) : List UInt8 := Lib.join ws [32] ++ [10]
theorem joinTail_cons (y : List UInt8) (r : List (List UInt8)) : Lib.joinTail [32] (y :: r) = 32 :: (y ++ Lib.joinTail [32] r) := by simp [Lib.joinTail]
theorem joinTail_snoc (r : List (List UInt8)) (x : List UInt8) : Lib.joinTail [32] (r ++ [x]) = Lib.joinTail [32] r ++ 32 :: x := by simp [Lib.joinTail]
theorem join_snoc {xs : List (List UInt8)} (h : xs ≠ []) (x : List UInt8) : Lib.join (xs ++ [x]) [32] = Lib.join xs [32] ++ 32 :: x := by
  cases xs with
  | nil => exact absurd rfl h
  | cons y r => rw [List.cons_append, Lib.join_cons, Lib.join_cons, joinTail_snoc, List.append_assoc]
theorem contD_line {r : List (List UInt8)} (hr : ∀ x ∈ r, wordB x = true) : ∀ {w : List UInt8} {line : List (List UInt8)} {out : List (List (List UInt8))}, wordB w = true →
    contD [] line out (w ++ (Lib.joinTail [32] r ++ [10])) = some (out ++ [line ++ w :: r]) := by
  have good : ∀ x, wordB x = true → x.all goodC = true ∧ x ≠ [] := fun x hx => by
    unfold wordB at hx
    simp only [Bool.and_eq_true, Bool.not_eq_true'] at hx
    exact ⟨hx.2, fun e => by rw [e] at hx; simp at hx⟩
  induction r with
  | nil =>
    intro w line out hw
    obtain ⟨h1, h2⟩ := good w hw
    rw [contD_word h1, List.nil_append, show Lib.joinTail [32] [] = [] from rfl, List.nil_append, contD, if_neg (by decide), if_pos rfl, if_neg h2, contD, if_pos ⟨rfl, rfl⟩]
  | cons y r ih =>
    intro w line out hw
    obtain ⟨h1, h2⟩ := good w hw
    rw [contD_word h1, List.nil_append, joinTail_cons, List.cons_append, contD, if_pos rfl, if_neg h2, List.append_assoc, ih (fun x hx => hr x (List.mem_cons_of_mem _ hx)) (hr y (by simp))]
    simp
theorem linesD_line {ws : List (List UInt8)} (h0 : ws ≠ []) (hw : ∀ x ∈ ws, wordB x = true) : linesD (lineT ws) = some [ws] := by
  cases ws with
  | nil => exact absurd rfl h0
  | cons w r =>
    rw [← contD_lines]
    unfold lineT
    rw [Lib.join_cons, List.append_assoc, contD_line (fun x hx => hw x (List.mem_cons_of_mem _ hx)) (hw w (by simp))]
    rfl
theorem joinTail_bd {r : List (List UInt8)} (h : ∀ x ∈ r, x.length ≤ 12) : (Lib.joinTail [32] r).length ≤ 13 * r.length := by
  induction r with
  | nil => simp [Lib.joinTail]
  | cons y r ih =>
    rw [joinTail_cons]
    have h1 := ih fun x hx => h x (List.mem_cons_of_mem _ hx)
    have h2 := h y (by simp)
    simp only [List.length_cons, List.length_append]
    omega
theorem lineT_bd {ws : List (List UInt8)} (h0 : ws ≠ []) (h : ∀ x ∈ ws, x.length ≤ 12) : (lineT ws).length ≤ 13 * ws.length := by
  cases ws with
  | nil => exact absurd rfl h0
  | cons w r =>
    unfold lineT
    rw [Lib.join_cons, List.length_append, List.length_append, List.length_singleton, List.length_cons]
    have h1 := joinTail_bd fun x hx => h x (List.mem_cons_of_mem _ hx)
    have h2 := h w (by simp)
    omega
end Go.Proofs.YtedkhdnfbdojcaaDoor
end
section
/- Texts of lines one behind the other, longer lines, and how long decimals are; nothing of the program. -/
namespace Go.Proofs.YtedkhdnfbdojcaaDoor
open Go.RowKit
set_option linter.unusedVariables false
theorem joinTail_bdK {K : Nat} {r : List (List UInt8)} (h : ∀ x ∈ r, x.length ≤ K) : (Lib.joinTail [32] r).length ≤ (K + 1) * r.length := by
  induction r with
  | nil => simp [Lib.joinTail]
  | cons y r ih =>
    rw [joinTail_cons]
    have h1 := ih fun x hx => h x (List.mem_cons_of_mem _ hx)
    have h2 := h y (by simp)
    have h3 : (K + 1) * (r.length + 1) = (K + 1) * r.length + (K + 1) := by rw [Nat.mul_succ]
    simp only [List.length_cons, List.length_append]
    omega
theorem lineT_bdK {K : Nat} {ws : List (List UInt8)} (h0 : ws ≠ []) (h : ∀ x ∈ ws, x.length ≤ K) : (lineT ws).length ≤ (K + 1) * ws.length := by
  cases ws with
  | nil => exact absurd rfl h0
  | cons w r =>
    unfold lineT
    rw [Lib.join_cons, List.length_append, List.length_append, List.length_singleton, List.length_cons]
    have h1 := joinTail_bdK fun x hx => h x (List.mem_cons_of_mem _ hx)
    have h2 := h w (by simp)
    have h3 : (K + 1) * (r.length + 1) = (K + 1) * r.length + (K + 1) := by rw [Nat.mul_succ]
    omega
/-- Lines, one behind the other. -/
def linesT (ls : List (List (List UInt8))) : List UInt8 := (ls.map lineT).flatten
theorem linesT_cons (l : List (List UInt8)) (ls : List (List (List UInt8))) : linesT (l :: ls) = lineT l ++ linesT ls := rfl
theorem linesT_app (a b : List (List (List UInt8))) : linesT (a ++ b) = linesT a ++ linesT b := by simp [linesT]
theorem linesT_nil : linesT [] = [] := rfl
theorem linesT_bd {K : Nat} {ls : List (List (List UInt8))} (h : ∀ l ∈ ls, (lineT l).length ≤ K) : (linesT ls).length ≤ K * ls.length := by
  induction ls with
  | nil => simp [linesT]
  | cons l r ih =>
    rw [linesT_cons, List.length_append, List.length_cons, Nat.mul_succ]
    have h1 := h l (by simp)
    have h2 := ih fun x hx => h x (by simp [hx])
    omega
theorem linesT_snoc (a : List (List (List UInt8))) (l : List (List UInt8)) : linesT (a ++ [l]) = linesT a ++ lineT l := by rw [linesT_app, linesT_cons, linesT_nil, List.append_nil]
theorem strL_cat (a b : List UInt8) : strL a ++ strL b = strL (a ++ b) := by
  have h : (strL a ++ strL b).data.toList = a ++ b := by simp [strL]
  rw [← strL_of (strL a ++ strL b), h]
theorem more_text (L : List UInt8) (ws : List (List UInt8)) (h : ws ≠ []) (p : List UInt8) : (strL (L ++ Lib.join ws [32]) ++ ⟨#[32]⟩) ++ strL p = strL (L ++ Lib.join (ws ++ [p]) [32]) := by
  show (strL (L ++ Lib.join ws [32]) ++ strL [32]) ++ strL p = _
  rw [strL_cat, strL_cat, join_snoc h]
  refine congrArg strL ?_
  simp
theorem end_text (L : List UInt8) (ws : List (List UInt8)) : strL (L ++ Lib.join ws [32]) ++ ⟨#[10]⟩ = strL (L ++ lineT ws) := by
  show strL (L ++ Lib.join ws [32]) ++ strL [10] = _
  rw [strL_cat]
  unfold lineT
  rw [List.append_assoc]
theorem linesT_len : ∀ ls : List (List (List UInt8)), ls.length ≤ (linesT ls).length
  | [] => Nat.zero_le _
  | l :: r => by
    rw [linesT_cons, List.length_append, List.length_cons]
    have h1 := linesT_len r
    have h2 : 1 ≤ (lineT l).length := by unfold lineT; simp
    omega
theorem flat_bd {α : Type} {K : Nat} {f : α → List UInt8} {l : List α} (h : ∀ x ∈ l, (f x).length ≤ K) : (l.flatMap f).length ≤ K * l.length := by
  induction l with
  | nil => simp
  | cons a r ih =>
    rw [List.flatMap_cons, List.length_append, List.length_cons, Nat.mul_succ]
    have h1 := h a (by simp)
    have h2 := ih fun x hx => h x (by simp [hx])
    omega
theorem decI_bd {n : Int} (h : -9223372036854775808 ≤ n ∧ n ≤ 9223372036854775807) : (decI n).length ≤ 20 := by
  have k : (decN n.natAbs).length ≤ 18 + 1 := decN_len_lt (by omega)
  unfold decI
  split
  · rw [List.length_cons]; omega
  · omega
end Go.Proofs.YtedkhdnfbdojcaaDoor
end
section
/- Decimals and lines that are written are read as they were; nothing of the program. -/
namespace Go.Proofs.YtedkhdnfbdojcaaDoor
open Go.RowKit
set_option linter.unusedVariables false
theorem dec_num {n : Int} (h : 0 ≤ n) (h' : n ≤ 1000000000000000000) : decB (decI n) = true ∧ numV (decI n) = n := by
  obtain ⟨m, rfl⟩ : ∃ m : Nat, n = (m : Int) := ⟨n.toNat, by omega⟩
  rw [decI_nat]
  refine ⟨decN_ok m, ?_⟩
  rw [numV_yes (decN_ok m), decN_val]
  omega
theorem dig_good {c : UInt8} (h : digC c = true) : goodC c = true := by
  rw [digC_iff] at h
  unfold goodC
  simp
  omega
theorem all_good {l : List UInt8} (h : l.all digC = true) : l.all goodC = true := List.all_eq_true.2 fun c hc => dig_good (List.all_eq_true.1 h c hc)
theorem word_of {l : List UInt8} (h : l ≠ []) (hg : l.all goodC = true) : wordB l = true := by
  unfold wordB
  rw [hg]
  cases l with
  | nil => exact absurd rfl h
  | cons _ _ => rfl
theorem dec_word {n : Int} (h : 0 ≤ n) : wordB (decI n) = true := by
  obtain ⟨m, rfl⟩ : ∃ m : Nat, n = (m : Int) := ⟨n.toNat, by omega⟩
  rw [decI_nat]
  exact word_of (decN_ne m) (all_good (decN_dig m))
theorem lines_made {ls : List (List (List UInt8))} (h : ∀ l ∈ ls, l ≠ [] ∧ ∀ x ∈ l, wordB x = true) : linesD (linesT ls) = some ls := by
  induction ls with
  | nil => rfl
  | cons l r ih =>
    obtain ⟨h1, h2⟩ := h l (by simp)
    rw [linesT_cons]
    exact linesD_app (linesD_line h1 h2) (ih fun x hx => h x (by simp [hx]))
end Go.Proofs.YtedkhdnfbdojcaaDoor
end
