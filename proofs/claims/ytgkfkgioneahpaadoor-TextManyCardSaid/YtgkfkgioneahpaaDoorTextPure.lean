/- Texts of lines, as lists of bytes: pieces of a text, pieces of a line, and what a text of lines is; nothing of the program. -/
import Derived.Lib.Bytealg
import Derived.WalkKit
namespace Go.Proofs.YtgkfkgioneahpaaDoor
open Go.RowKit
set_option linter.unusedVariables false

/-- A text's bytes as a text. -/
def strL (l : List UInt8) : ByteArray := ⟨l.toArray⟩
theorem strL_list (l : List UInt8) : (strL l).data.toList = l := by simp [strL]
theorem strL_size (l : List UInt8) : (strL l).size = l.length := by show l.toArray.size = _; simp
theorem strL_of (s : ByteArray) : strL s.data.toList = s := by cases s; rfl
theorem strL_inj {a b : List UInt8} (h : strL a = strL b) : a = b := by have := congrArg (fun s : ByteArray => s.data.toList) h; simpa [strL] using this

/-- What lies behind the first n places, in each of two: the text cut. -/
theorem ext_head (l : List UInt8) (n : Nat) : (strL l).extract 0 n = strL (l.take n) := by
  rw [Lib.extract_eq]
  simp [strL]
theorem ext_tail (l : List UInt8) (n : Nat) : (strL l).extract n l.length = strL (l.drop n) := by
  rw [Lib.extract_eq]
  simp only [strL]
  show (ByteArray.mk _) = _
  congr 1
  apply Array.ext'
  simp [List.take_of_length_le]

/-- A text's pieces: each ends behind the first byte 10. -/
def chunks : List UInt8 → List (List UInt8)
  | [] => []
  | b :: r => if b = 10 then [b] :: chunks r else match chunks r with
    | [] => [[b]]
    | c :: cs => (b :: c) :: cs
/-- A line's pieces: what lies between blanks. -/
def fields : List UInt8 → List (List UInt8)
  | [] => [[]]
  | b :: r => if b = 32 then [] :: fields r else match fields r with
    | [] => [[b]]
    | f :: fs => (b :: f) :: fs

theorem idx_pos {l : List UInt8} {c : UInt8} (h : Lib.indexByte l c ≠ -1) : 0 ≤ Lib.indexByte l c := by have := Lib.indexByte_ge l c; omega
theorem idx_cons {b c : UInt8} {r : List UInt8} (h : b ≠ c) : Lib.indexByte (b :: r) c = if Lib.indexByte r c = -1 then -1 else Lib.indexByte r c + 1 := by
  rw [Lib.indexByte]
  have hb : (b == c) = false := by simpa using h
  rw [hb]
  by_cases h1 : Lib.indexByte r c = -1
  · simp [h1]
  · simp [h1]
theorem idx_hit {b : UInt8} {r : List UInt8} : Lib.indexByte (b :: r) b = 0 := by rw [Lib.indexByte]; simp
theorem idx_lt {l : List UInt8} {c : UInt8} : Lib.indexByte l c < l.length := by
  induction l with
  | nil => rw [Lib.indexByte]; simp
  | cons b r ih =>
    by_cases h : b = c
    · subst h; rw [idx_hit]; simp only [List.length_cons]; omega
    · rw [idx_cons h]
      split
      · simp; omega
      · simp; omega
theorem chunks_hit {l : List UInt8} {i : Nat} (h : Lib.indexByte l 10 = (i : Int)) : chunks l = l.take (i + 1) :: chunks (l.drop (i + 1)) := by
  induction l generalizing i with
  | nil => rw [Lib.indexByte] at h; omega
  | cons b r ih =>
    by_cases hb : b = 10
    · subst hb
      rw [idx_hit] at h
      obtain rfl : i = 0 := by omega
      simp [chunks]
    · rw [idx_cons hb] at h
      by_cases h1 : Lib.indexByte r 10 = -1
      · rw [if_pos h1] at h; omega
      · rw [if_neg h1] at h
        obtain ⟨j, rfl⟩ : ∃ j, i = j + 1 := ⟨i - 1, by have := idx_pos h1; omega⟩
        have := ih (i := j) (by omega)
        rw [chunks, if_neg hb, this]
        rfl
theorem chunks_miss {l : List UInt8} (h : Lib.indexByte l 10 = -1) (hl : l ≠ []) : chunks l = [l] := by
  induction l with
  | nil => exact absurd rfl hl
  | cons b r ih =>
    by_cases hb : b = 10
    · subst hb; rw [idx_hit] at h; omega
    · rw [idx_cons hb] at h
      have h1 : Lib.indexByte r 10 = -1 := by
        by_cases h1 : Lib.indexByte r 10 = -1
        · exact h1
        · rw [if_neg h1] at h
          have := idx_pos h1
          omega
      rw [chunks, if_neg hb]
      by_cases hr : r = []
      · subst hr; rfl
      · rw [ih h1 hr]
theorem fields_hit {l : List UInt8} {i : Nat} (h : Lib.indexByte l 32 = (i : Int)) : fields l = l.take i :: fields (l.drop (i + 1)) := by
  induction l generalizing i with
  | nil => rw [Lib.indexByte] at h; omega
  | cons b r ih =>
    by_cases hb : b = 32
    · subst hb
      rw [idx_hit] at h
      obtain rfl : i = 0 := by omega
      simp [fields]
    · rw [idx_cons hb] at h
      by_cases h1 : Lib.indexByte r 32 = -1
      · rw [if_pos h1] at h; omega
      · rw [if_neg h1] at h
        obtain ⟨j, rfl⟩ : ∃ j, i = j + 1 := ⟨i - 1, by have := idx_pos h1; omega⟩
        have := ih (i := j) (by omega)
        rw [fields, if_neg hb, this]
        rfl
theorem fields_miss {l : List UInt8} (h : Lib.indexByte l 32 = -1) : fields l = [l] := by
  induction l with
  | nil => rfl
  | cons b r ih =>
    by_cases hb : b = 32
    · subst hb; rw [idx_hit] at h; omega
    · rw [idx_cons hb] at h
      have h1 : Lib.indexByte r 32 = -1 := by
        by_cases h1 : Lib.indexByte r 32 = -1
        · exact h1
        · rw [if_neg h1] at h
          have := idx_pos h1
          omega
      rw [fields, if_neg hb, ih h1]
theorem fields_ne (l : List UInt8) : fields l ≠ [] := by
  cases l with
  | nil => simp [fields]
  | cons b r =>
    rw [fields]
    split
    · simp
    · split <;> simp

/-! ### Words, lines, texts of lines -/
def goodC (c : UInt8) : Bool := decide (33 ≤ c.toNat) && decide (c.toNat ≤ 126)
def wordB (l : List UInt8) : Bool := !l.isEmpty && l.all goodC
/-- A piece that ends with a byte 10, whose pieces between blanks are words. -/
def lineB (l : List UInt8) : Bool := Lib.hasSuffix l [10] && (fields l.dropLast).all wordB
/-- The lines of a text, if it is one of lines. -/
def linesD (t : List UInt8) : Option (List (List (List UInt8))) := if (chunks t).all lineB then some ((chunks t).map fun c => fields c.dropLast) else none
theorem empty_size (t : ByteArray) : t.toList.isEmpty = decide (t.size = 0) := by
  rw [ByteArray.toList_eq]
  have e : t.data.toList.length = t.size := Array.length_toList
  cases h : t.data.toList with
  | nil => rw [h] at e; rw [decide_eq_true (show t.size = 0 from e.symm)]; rfl
  | cons a r =>
    rw [h] at e
    rw [decide_eq_false (show ¬ t.size = 0 by rw [← e]; simp)]; rfl
theorem trim_ten {l : List UInt8} (h : Lib.hasSuffix l [10] = true) : Lib.trimSuffix l [10] = l.dropLast := by
  rw [Lib.trimSuffix, if_pos h, List.dropLast_eq_take]
  rfl
theorem wordB_pos {l : List UInt8} (h : wordB l = true) : l ≠ [] ∧ ∀ (k : Nat) (hk : k < l.length), goodC l[k] = true := by
  unfold wordB at h
  simp only [Bool.and_eq_true, Bool.not_eq_true', List.all_eq_true] at h
  exact ⟨fun e => by rw [e] at h; simp at h, fun k hk => h.2 _ (List.getElem_mem hk)⟩
theorem wordB_neg {l : List UInt8} (h : wordB l = false) (hl : l ≠ []) : ∃ (k : Nat) (hk : k < l.length), goodC l[k] = false := by
  unfold wordB at h
  have h0 : l.isEmpty = false := by cases l with | nil => exact absurd rfl hl | cons _ _ => rfl
  rw [h0] at h
  have h1 : l.all goodC = false := by simpa using h
  obtain ⟨c, hc, hg⟩ := List.all_eq_false.1 h1
  obtain ⟨k, hk, e⟩ := List.getElem_of_mem hc
  exact ⟨k, hk, by rw [e]; simpa using hg⟩
theorem chunks_len (l : List UInt8) : (chunks l).length ≤ l.length := by
  induction l with
  | nil => simp [chunks]
  | cons b r ih =>
    rw [chunks]
    split
    · simp; omega
    · split
      · simp
      · rename_i c cs h
        rw [h] at ih
        simp at ih ⊢
        omega
theorem fields_len (l : List UInt8) : (fields l).length ≤ l.length + 1 := by
  induction l with
  | nil => simp [fields]
  | cons b r ih =>
    rw [fields]
    split
    · simp; omega
    · split
      · simp
      · rename_i c cs h
        rw [h] at ih
        simp at ih ⊢
        omega
theorem chunks_le (l : List UInt8) : ∀ c ∈ chunks l, c.length ≤ l.length := by
  induction l with
  | nil => simp [chunks]
  | cons b r ih =>
    rw [chunks]
    split
    · intro c hc
      rcases List.mem_cons.1 hc with rfl | hc
      · simp
      · have := ih c hc; simp; omega
    · split
      · intro c hc; simp at hc; subst hc; simp
      · rename_i d ds h
        rw [h] at ih
        intro c hc
        rcases List.mem_cons.1 hc with rfl | hc
        · have := ih d (by simp); simp; omega
        · have := ih c (by simp [hc]); simp; omega
theorem linesD_some {t : List UInt8} {ls : List (List (List UInt8))} (h : linesD t = some ls) : (chunks t).all lineB = true ∧ ls = (chunks t).map fun c => fields c.dropLast := by
  unfold linesD at h
  split at h
  · rename_i h1
    injection h with h
    exact ⟨h1, h.symm⟩
  · cases h
theorem linesD_none {t : List UInt8} (h : linesD t = none) : (chunks t).all lineB = false := by
  unfold linesD at h
  split at h
  · cases h
  · rename_i h1; simpa using h1
end Go.Proofs.YtgkfkgioneahpaaDoor
