import Derived.Test.YtliomhkgkabbbaaGreatDoorK01
import Derived.Lib.Join
section
/- Texts of lines, one behind the other, and lines that are made of words; nothing of the program. -/
namespace Go.Proofs.YtliomhkgkabbbaaGreatDoor
open Go.RowKit
set_option linter.unusedVariables false
theorem contD_app {x y : List UInt8} : ∀ {cur : List UInt8} {line : List (List UInt8)} {out r : List (List (List UInt8))}, contD cur line out x = some r → contD cur line out (x ++ y) = contD [] [] r y := by
  induction x with
  | nil =>
    intro cur line out r h
    rw [contD] at h
    split at h
    · rename_i h1
      injection h with h
      rw [h1.1, h1.2, h]
      rfl
    · cases h
  | cons c x ih =>
    intro cur line out r h
    rw [List.cons_append, contD]
    rw [contD] at h
    by_cases h32 : c = 32
    · rw [if_pos h32] at h ⊢
      by_cases h0 : cur = []
      · rw [if_pos h0] at h; cases h
      · rw [if_neg h0] at h ⊢; exact ih h
    · rw [if_neg h32] at h ⊢
      by_cases h10 : c = 10
      · rw [if_pos h10] at h ⊢
        by_cases h0 : cur = []
        · rw [if_pos h0] at h; cases h
        · rw [if_neg h0] at h ⊢; exact ih h
      · rw [if_neg h10] at h ⊢
        by_cases hg : goodC c = true
        · rw [if_pos hg] at h ⊢; exact ih h
        · rw [if_neg hg] at h; cases h
theorem linesD_app {x y : List UInt8} {lx ly : List (List (List UInt8))} (hx : linesD x = some lx) (hy : linesD y = some ly) : linesD (x ++ y) = some (lx ++ ly) := by
  rw [← contD_lines] at hx hy ⊢
  rw [contD_app hx, contD_is _ _ _ _ rfl]
  rw [contD_is _ _ _ _ rfl] at hy
  cases h : linesW [] [] y with
  | none => rw [h] at hy; cases hy
  | some l =>
    rw [h] at hy
    injection hy with hy
    rw [← hy]
    simp
theorem linesD_nil : linesD [] = some [] := rfl
/-- A word is gone through. -/
theorem contD_word {w r : List UInt8} (hw : w.all goodC = true) : ∀ {cur : List UInt8} {line : List (List UInt8)} {out : List (List (List UInt8))}, contD cur line out (w ++ r) = contD (cur ++ w) line out r := by
  induction w with
  | nil => intro cur line out; simp
  | cons c w ih =>
    intro cur line out
    rw [List.all_cons, Bool.and_eq_true] at hw
    have h32 : c ≠ 32 := fun e => by rw [e] at hw; exact absurd hw.1 (by decide)
    have h10 : c ≠ 10 := fun e => by rw [e] at hw; exact absurd hw.1 (by decide)
    rw [List.cons_append, contD, if_neg h32, if_neg h10, if_pos hw.1, ih hw.2]
    simp
/-- The line of these words. -/
def lineT (ws : List (List UInt8)) : List UInt8 := Lib.join ws [32] ++ [10]
theorem joinTail_cons (y : List UInt8) (r : List (List UInt8)) : Lib.joinTail [32] (y :: r) = 32 :: (y ++ Lib.joinTail [32] r) := by simp [Lib.joinTail]
theorem joinTail_snoc (r : List (List UInt8)) (x : List UInt8) : Lib.joinTail [32] (r ++ [x]) = Lib.joinTail [32] r ++ 32 :: x := by simp [Lib.joinTail]
theorem join_snoc {xs : List (List UInt8)} (h : xs ≠ []) (x : List UInt8) : Lib.join (xs ++ [x]) [32] = Lib.join xs [32] ++ 32 :: x := by
  cases xs with
  | nil => exact absurd rfl h
  | cons y r => rw [List.cons_append, Lib.join_cons, Lib.join_cons, joinTail_snoc, List.append_assoc]
theorem contD_line {r : List (List UInt8)} (hr : ∀ x ∈ r, wordB x = true) : ∀ {w : List UInt8} {line : List (List UInt8)} {out : List (List (List UInt8))}, wordB w = true →
    contD [] line out (w ++ (Lib.joinTail [32] r ++ [10])) = some (out ++ [line ++ w :: r]) := by
  have good : ∀ x, wordB x = true → x.all goodC = true ∧ x ≠ [] := fun x hx => by
    unfold wordB at hx
    simp only [Bool.and_eq_true, Bool.not_eq_true'] at hx
    exact ⟨hx.2, fun e => by rw [e] at hx; simp at hx⟩
  induction r with
  | nil =>
    intro w line out hw
    obtain ⟨h1, h2⟩ := good w hw
    rw [contD_word h1, List.nil_append, show Lib.joinTail [32] [] = [] from rfl, List.nil_append, contD, if_neg (by decide), if_pos rfl, if_neg h2, contD, if_pos ⟨rfl, rfl⟩]
  | cons y r ih =>
    intro w line out hw
    obtain ⟨h1, h2⟩ := good w hw
    rw [contD_word h1, List.nil_append, joinTail_cons, List.cons_append, contD, if_pos rfl, if_neg h2, List.append_assoc, ih (fun x hx => hr x (List.mem_cons_of_mem _ hx)) (hr y (by simp))]
    simp
theorem linesD_line {ws : List (List UInt8)} (h0 : ws ≠ []) (hw : ∀ x ∈ ws, wordB x = true) : linesD (lineT ws) = some [ws] := by
  cases ws with
  | nil => exact absurd rfl h0
  | cons w r =>
    rw [← contD_lines]
    unfold lineT
    rw [Lib.join_cons, List.append_assoc, contD_line (fun x hx => hw x (List.mem_cons_of_mem _ hx)) (hw w (by simp))]
    rfl
theorem joinTail_bd {r : List (List UInt8)} (h : ∀ x ∈ r, x.length ≤ 12) : (Lib.joinTail [32] r).length ≤ 13 * r.length := by
  induction r with
  | nil => simp [Lib.joinTail]
  | cons y r ih =>
    rw [joinTail_cons]
    have h1 := ih fun x hx => h x (List.mem_cons_of_mem _ hx)
    have h2 := h y (by simp)
    simp only [List.length_cons, List.length_append]
    omega
theorem lineT_bd {ws : List (List UInt8)} (h0 : ws ≠ []) (h : ∀ x ∈ ws, x.length ≤ 12) : (lineT ws).length ≤ 13 * ws.length := by
  cases ws with
  | nil => exact absurd rfl h0
  | cons w r =>
    unfold lineT
    rw [Lib.join_cons, List.length_append, List.length_append, List.length_singleton, List.length_cons]
    have h1 := joinTail_bd fun x hx => h x (List.mem_cons_of_mem _ hx)
    have h2 := h w (by simp)
    omega
end Go.Proofs.YtliomhkgkabbbaaGreatDoor
end
