import Derived.Lib.Bytealg
import Derived.WalkKit
section
/- Texts of lines, as lists of bytes: pieces of a text, pieces of a line, and what a text of lines is; nothing of the program. -/
namespace Go.Proofs.YtedkhdnfbdojcaaDoor
open Go.RowKit
set_option linter.unusedVariables false

/-- A text's bytes as a text. -/
def strL (l : List UInt8) : ByteArray := ⟨l.toArray⟩
theorem strL_list (l : List UInt8) : (strL l).data.toList = l := by simp [strL]
theorem strL_size (l : List UInt8) : (strL l).size = l.length := by show l.toArray.size = _; simp
theorem strL_of (s : ByteArray) : strL s.data.toList = s := by cases s; rfl
theorem strL_inj {a b : List UInt8} (h : strL a = strL b) : a = b := by have := congrArg (fun s : ByteArray => s.data.toList) h; simpa [strL] using this

/-- What lies behind the first n places, in each of two: the text cut. -/
theorem ext_head (l : List UInt8) (n : Nat) : (strL l).extract 0 n = strL (l.take n) := by
  rw [Lib.extract_eq]
  simp [strL]
theorem ext_tail (l : List UInt8) (n : Nat) : (strL l).extract n l.length = strL (l.drop n) := by
  rw [Lib.extract_eq]
  simp only [strL]
  show (ByteArray.mk _) = _
  congr 1
  apply Array.ext'
  simp [List.take_of_length_le]

/-- A text's pieces: each ends behind the first byte 10. -/
def chunks : List UInt8 → List (List UInt8)
  | [] => []
  | b :: r => if b = 10 then [b] :: chunks r else match chunks r with
    | [] => [[b]]
    | c :: cs => (b :: c) :: cs
/-- A line's pieces: what lies between blanks. -/
def fields : List UInt8 → List (List UInt8)
  | [] => [[]]
  | b :: r => if b = 32 then [] :: fields r else match fields r with
    | [] => [[b]]
    | f :: fs => (b :: f) :: fs

theorem idx_pos {l : List UInt8} {c : UInt8} (h : Lib.indexByte l c ≠ -1) : 0 ≤ Lib.indexByte l c := by have := Lib.indexByte_ge l c; omega
theorem idx_cons {b c : UInt8} {r : List UInt8} (h : b ≠ c) : Lib.indexByte (b :: r) c = if Lib.indexByte r c = -1 then -1 else Lib.indexByte r c + 1 := by
  rw [Lib.indexByte]
  have hb : (b == c) = false := by simpa using h
  rw [hb]
  by_cases h1 : Lib.indexByte r c = -1
  · simp [h1]
  · simp [h1]
theorem idx_hit {b : UInt8} {r : List UInt8} : Lib.indexByte (b :: r) b = 0 := by rw [Lib.indexByte]; simp
theorem idx_lt {l : List UInt8} {c : UInt8} : Lib.indexByte l c < l.length := by
  induction l with
  | nil => rw [Lib.indexByte]; simp
  | cons b r ih =>
    by_cases h : b = c
    · subst h; rw [idx_hit]; simp only [List.length_cons]; omega
    · rw [idx_cons h]
      split
      · simp; omega
      · simp; omega
theorem chunks_hit {l : List UInt8} {i : Nat} (h : Lib.indexByte l 10 = (i : Int)) : chunks l = l.take (i + 1) :: chunks (l.drop (i + 1)) := by
  induction l generalizing i with
  | nil => rw [Lib.indexByte] at h; omega
  | cons b r ih =>
    by_cases hb : b = 10
    · subst hb
      rw [idx_hit] at h
      obtain rfl : i = 0 := by omega
      simp [chunks]
    · rw [idx_cons hb] at h
      by_cases h1 : Lib.indexByte r 10 = -1
      · rw [if_pos h1] at h; omega
      · rw [if_neg h1] at h
        obtain ⟨j, rfl⟩ : ∃ j, i = j + 1 := ⟨i - 1, by have := idx_pos h1; omega⟩
        have := ih (i := j) (by omega)
        rw [chunks, if_neg hb, this]
        rfl
theorem chunks_miss {l : List UInt8} (h : Lib.indexByte l 10 = -1) (hl : l ≠ []) : chunks l = [l] := by
  induction l with
  | nil => exact absurd rfl hl
  | cons b r ih =>
    by_cases hb : b = 10
    · subst hb; rw [idx_hit] at h; omega
    · rw [idx_cons hb] at h
      have h1 : Lib.indexByte r 10 = -1 := by
        by_cases h1 : Lib.indexByte r 10 = -1
        · exact h1
        · rw [if_neg h1] at h
          have := idx_pos h1
          omega
      rw [chunks, if_neg hb]
      by_cases hr : r = []
      · subst hr; rfl
      · rw [ih h1 hr]
theorem fields_hit {l : List UInt8} {i : Nat} (h : Lib.indexByte l 32 = (i : Int)) : fields l = l.take i :: fields (l.drop (i + 1)) := by
  induction l generalizing i with
  | nil => rw [Lib.indexByte] at h; omega
  | cons b r ih =>
    by_cases hb : b = 32
    · subst hb
      rw [idx_hit] at h
      obtain rfl : i = 0 := by omega
      simp [fields]
    · rw [idx_cons hb] at h
      by_cases h1 : Lib.indexByte r 32 = -1
      · rw [if_pos h1] at h; omega
      · rw [if_neg h1] at h
        obtain ⟨j, rfl⟩ : ∃ j, i = j + 1 := ⟨i - 1, by have := idx_pos h1; omega⟩
        have := ih (i := j) (by omega)
        rw [fields, if_neg hb, this]
        rfl
theorem fields_miss {l : List UInt8} (h : Lib.indexByte l 32 = -1) : fields l = [l] := by
  induction l with
  | nil => rfl
  | cons b r ih =>
    by_cases hb : b = 32
    · subst hb; rw [idx_hit] at h; omega
    · rw [idx_cons hb] at h
      have h1 : Lib.indexByte r 32 = -1 := by
        by_cases h1 : Lib.indexByte r 32 = -1
        · exact h1
        · rw [if_neg h1] at h
          have := idx_pos h1
          omega
      rw [fields, if_neg hb, ih h1]
theorem fields_ne (l : List UInt8) : fields l ≠ [] := by
  cases l with
  | nil => simp [fields]
  | cons b r =>
    rw [fields]
    split
    · simp
    · split <;> simp

/-! ### Words, lines, texts of lines -/
def goodC (c : UInt8) : Bool := decide (33 ≤ c.toNat) && decide (c.toNat ≤ 126)
def wordB (l : List UInt8) : Bool := !l.isEmpty && l.all goodC
/-- A piece that ends with a byte 10, whose pieces between blanks are words. -/
def lineB (l : List UInt8) : Bool := Lib.hasSuffix l [10] && (fields l.dropLast).all wordB
/-- The lines of a text, if it is one of lines. -/
def linesD (t : List UInt8) : Option (List (List (List UInt8))) := if (chunks t).all lineB then some ((chunks t).map fun c => fields c.dropLast) else none
theorem empty_size (t : ByteArray) : t.toList.isEmpty = decide (t.size = 0) := by
  rw [ByteArray.toList_eq]
  have e : t.data.toList.length = t.size := Array.length_toList
  cases h : t.data.toList with
  | nil => rw [h] at e; rw [decide_eq_true (show t.size = 0 from e.symm)]; rfl
  | cons a r =>
    rw [h] at e
    rw [decide_eq_false (show ¬ t.size = 0 by rw [← e]; simp)]; rfl
theorem trim_ten {l : List UInt8} (h : Lib.hasSuffix l [10] = true) : Lib.trimSuffix l [10] = l.dropLast := by
  rw [Lib.trimSuffix, if_pos h, List.dropLast_eq_take]
  rfl
theorem wordB_pos {l : List UInt8} (h : wordB l = true) : l ≠ [] ∧ ∀ (k : Nat) (hk : k < l.length), goodC l[k] = true := by
  unfold wordB at h
  simp only [Bool.and_eq_true, Bool.not_eq_true', List.all_eq_true] at h
  exact ⟨fun e => by rw [e] at h; simp at h, fun k hk => h.2 _ (List.getElem_mem hk)⟩
theorem wordB_neg {l : List UInt8} (h : wordB l = false) (hl : l ≠ []) : ∃ (k : Nat) (hk : k < l.length), goodC l[k] = false := by
  unfold wordB at h
  have h0 : l.isEmpty = false := by cases l with | nil => exact absurd rfl hl | cons _ _ => rfl
  rw [h0] at h
  have h1 : l.all goodC = false := by simpa using h
  obtain ⟨c, hc, hg⟩ := List.all_eq_false.1 h1
  obtain ⟨k, hk, e⟩ := List.getElem_of_mem hc
  exact ⟨k, hk, by rw [e]; simpa using hg⟩
theorem chunks_len (l : List UInt8) : (chunks l).length ≤ l.length := by
  induction l with
  | nil => simp [chunks]
  | cons b r ih =>
    rw [chunks]
    split
    · simp; omega
    · split
      · simp
      · rename_i c cs h
        rw [h] at ih
        simp at ih ⊢
        omega
theorem fields_len (l : List UInt8) : (fields l).length ≤ l.length + 1 := by
  induction l with
  | nil => simp [fields]
  | cons b r ih =>
    rw [fields]
    split
    · simp; omega
    · split
      · simp
      · rename_i c cs h
        rw [h] at ih
        simp at ih ⊢
        omega
theorem chunks_le (l : List UInt8) : ∀ c ∈ chunks l, c.length ≤ l.length := by
  induction l with
  | nil => simp [chunks]
  | cons b r ih =>
    rw [chunks]
    split
    · intro c hc
      rcases List.mem_cons.1 hc with rfl | hc
      · simp
      · have := ih c hc; simp; omega
    · split
      · intro c hc; simp at hc; subst hc; simp
      · rename_i d ds h
        rw [h] at ih
        intro c hc
        rcases List.mem_cons.1 hc with rfl | hc
        · have := ih d (by simp); simp; omega
        · have := ih c (by simp [hc]); simp; omega
theorem linesD_some {t : List UInt8} {ls : List (List (List UInt8))} (h : linesD t = some ls) : (chunks t).all lineB = true ∧ ls = (chunks t).map fun c => fields c.dropLast := by
  unfold linesD at h
  split at h
  · rename_i h1
    injection h with h
    exact ⟨h1, h.symm⟩
  · cases h
theorem linesD_none {t : List UInt8} (h : linesD t = none) : (chunks t).all lineB = false := by
  unfold linesD at h
  split at h
  · cases h
  · rename_i h1; simpa using h1
end Go.Proofs.YtedkhdnfbdojcaaDoor
end
section
/- Texts of lines, byte by byte, as the document goes through them; nothing of the program. -/
namespace Go.Proofs.YtedkhdnfbdojcaaDoor
open Go.RowKit
set_option linter.unusedVariables false

/-- Byte by byte: cur is the word that is under way, line the words before it, out the lines before these. -/
def contD (cur : List UInt8) (line : List (List UInt8)) (out : List (List (List UInt8))) : List UInt8 → Option (List (List (List UInt8)))
  | [] => if cur = [] ∧ line = [] then some out else none
  | c :: r => if c = 32 then (if cur = [] then none else contD [] (line ++ [cur]) out r)
    else if c = 10 then (if cur = [] then none else contD [] [] (out ++ [line ++ [cur]]) r)
    else if goodC c = true then contD (cur ++ [c]) line out r else none
/-- A word under way ahead of a line's first piece. -/
def fw (cur : List UInt8) (d : List UInt8) : List (List UInt8) := match fields d with
  | [] => []
  | f :: fs => (cur ++ f) :: fs
def lastT (l : List UInt8) : Bool := match l.getLast? with | some c => c == 10 | none => false
theorem suffix_last (l : List UInt8) : Lib.hasSuffix l [10] = lastT l := by
  rcases List.eq_nil_or_concat l with rfl | ⟨p, c, rfl⟩
  · rfl
  · unfold Lib.hasSuffix lastT
    rw [List.isSuffixOf]
    simp [List.isPrefixOf]
    rw [Bool.eq_iff_iff]
    simp
    exact eq_comm
theorem lastT_cons {b : UInt8} {c : List UInt8} (h : c ≠ []) : lastT (b :: c) = lastT c := by
  unfold lastT
  cases c with
  | nil => exact absurd rfl h
  | cons x y => rw [List.getLast?_cons_cons]
theorem fw_nil (d : List UInt8) : fw [] d = fields d := by
  unfold fw
  cases h : fields d with
  | nil => rfl
  | cons f fs => simp
theorem chunks_nil {r : List UInt8} (h : chunks r = []) : r = [] := by
  cases r with
  | nil => rfl
  | cons b r =>
    rw [chunks] at h
    split at h
    · cases h
    · split at h <;> cases h
theorem chunks_mem {r c : List UInt8} {cs : List (List UInt8)} (h : chunks r = c :: cs) : c ≠ [] := by
  cases r with
  | nil => simp [chunks] at h
  | cons b r =>
    rw [chunks] at h
    split at h
    · injection h with h _; rw [← h]; simp
    · split at h
      · injection h with h _; rw [← h]; simp
      · injection h with h _; rw [← h]; simp
/-- What the pieces of a text make behind a word and a line that are under way. -/
def linesW (cur : List UInt8) (line : List (List UInt8)) (t : List UInt8) : Option (List (List (List UInt8))) := match chunks t with
  | [] => if cur = [] ∧ line = [] then some [] else none
  | c :: cs => if lastT c = true ∧ (fw cur c.dropLast).all wordB = true ∧ cs.all lineB = true then some ((line ++ fw cur c.dropLast) :: cs.map fun c => fields c.dropLast) else none
theorem wordB_good {cur : List UInt8} (h : cur.all goodC = true) : wordB cur = true ↔ cur ≠ [] := by
  unfold wordB
  rw [h]
  cases cur <;> simp
theorem wordB_bad {cur f : List UInt8} {b : UInt8} (h : goodC b = false) : wordB (cur ++ b :: f) = false := by
  unfold wordB
  have : (cur ++ b :: f).all goodC = false := List.all_eq_false.2 ⟨b, by simp, by rw [h]; decide⟩
  rw [this, Bool.and_false]
theorem good_32 : goodC 32 = false := by decide
theorem good_10 : goodC 10 = false := by decide
theorem contD_is (t : List UInt8) : ∀ (cur : List UInt8) (line : List (List UInt8)) (out : List (List (List UInt8))), cur.all goodC = true → contD cur line out t = (linesW cur line t).map (out ++ ·) := by
  induction t with
  | nil =>
    intro cur line out hc
    unfold contD linesW
    simp only [chunks]
    split <;> simp
  | cons b r ih =>
    intro cur line out hc
    by_cases h10 : b = 10
    · subst h10
      have e1 : linesW cur line (10 :: r) = if lastT [10] = true ∧ (fw cur []).all wordB = true ∧ (chunks r).all lineB = true then some ((line ++ fw cur []) :: (chunks r).map fun c => fields c.dropLast) else none := by
        unfold linesW
        rw [chunks, if_pos rfl]
        rfl
      rw [e1, contD, if_neg (by decide), if_pos rfl]
      have e2 : fw cur [] = [cur] := by simp [fw, fields]
      rw [e2]
      have e3 : ([cur].all wordB = true) ↔ cur ≠ [] := by simp only [List.all_cons, List.all_nil, Bool.and_true]; exact wordB_good hc
      by_cases h0 : cur = []
      · rw [if_pos h0, if_neg (fun h => (e3.1 h.2.1) h0)]
        rfl
      · rw [if_neg h0, ih [] [] _ rfl]
        by_cases h1 : (chunks r).all lineB = true
        · rw [if_pos ⟨rfl, e3.2 h0, h1⟩]
          have e4 : linesW [] [] r = some ((chunks r).map fun c => fields c.dropLast) := by
            unfold linesW
            cases h2 : chunks r with
            | nil => simp
            | cons c cs =>
              rw [h2] at h1
              simp only [List.all_cons, Bool.and_eq_true] at h1
              have h3 := h1.1
              unfold lineB at h3
              rw [Bool.and_eq_true, suffix_last] at h3
              simp only [fw_nil, h3.1, h3.2, h1.2, and_self, if_true, List.nil_append, List.map_cons]
          rw [e4]
          simp
        · rw [if_neg (fun h => h1 h.2.2)]
          have e4 : linesW [] [] r = none := by
            unfold linesW
            cases h2 : chunks r with
            | nil => rw [h2] at h1; simp at h1
            | cons c cs =>
              rw [h2] at h1
              simp only
              rw [if_neg]
              rintro ⟨g1, g2, g3⟩
              rw [fw_nil] at g2
              refine h1 ?_
              simp only [List.all_cons, Bool.and_eq_true]
              refine ⟨?_, g3⟩
              unfold lineB
              rw [suffix_last, g1, g2]
              rfl
          rw [e4]
          rfl
    · -- the byte is none that ends a line
      by_cases hr : chunks r = []
      · have hr' := chunks_nil hr
        subst hr'
        have e1 : linesW cur line [b] = none := by
          unfold linesW
          simp only [chunks, if_neg h10]
          rw [if_neg]
          rintro ⟨g1, _, _⟩
          simp [lastT] at g1
          exact h10 g1
        rw [e1, contD]
        by_cases h32 : b = 32
        · rw [if_pos h32]
          split
          · rfl
          · rw [contD, if_neg (by simp)]; rfl
        · rw [if_neg h32, if_neg h10]
          split
          · rw [contD, if_neg (by simp)]; rfl
          · rfl
      · obtain ⟨c, cs, hcs⟩ : ∃ c cs, chunks r = c :: cs := by
          cases h : chunks r with
          | nil => exact absurd h hr
          | cons c cs => exact ⟨c, cs, rfl⟩
        have hcn := chunks_mem hcs
        have hdl : (b :: c).dropLast = b :: c.dropLast := List.dropLast_cons_of_ne_nil hcn
        have e1 : linesW cur line (b :: r) = if lastT c = true ∧ (fw cur (b :: c.dropLast)).all wordB = true ∧ cs.all lineB = true then some ((line ++ fw cur (b :: c.dropLast)) :: cs.map fun c => fields c.dropLast) else none := by
          unfold linesW
          rw [chunks, if_neg h10, hcs]
          simp only [hdl, lastT_cons hcn]
        have e2 : ∀ cur' line', linesW cur' line' r = if lastT c = true ∧ (fw cur' c.dropLast).all wordB = true ∧ cs.all lineB = true then some ((line' ++ fw cur' c.dropLast) :: cs.map fun c => fields c.dropLast) else none := by
          intro cur' line'
          unfold linesW
          rw [hcs]
        obtain ⟨f, fs, hf⟩ : ∃ f fs, fields c.dropLast = f :: fs := by
          cases h : fields c.dropLast with
          | nil => exact absurd h (fields_ne _)
          | cons f fs => exact ⟨f, fs, rfl⟩
        rw [e1, contD]
        by_cases h32 : b = 32
        · subst h32
          have e3 : fw cur (32 :: c.dropLast) = cur :: fw [] c.dropLast := by
            unfold fw
            rw [fields, if_pos rfl, hf]
            simp
          rw [if_pos rfl, e3]
          by_cases h0 : cur = []
          · rw [if_pos h0, if_neg]
            · rfl
            · rintro ⟨_, g, _⟩
              simp only [List.all_cons, Bool.and_eq_true] at g
              exact ((wordB_good hc).1 g.1) h0
          · rw [if_neg h0, ih [] _ _ rfl, e2]
            have e4 : wordB cur = true := (wordB_good hc).2 h0
            simp only [List.all_cons, e4, Bool.true_and, List.append_assoc, List.singleton_append]
        · rw [if_neg h32, if_neg h10]
          have e3 : fw cur (b :: c.dropLast) = (cur ++ b :: f) :: fs := by
            unfold fw
            rw [fields, if_neg h32, hf]
          by_cases hg : goodC b = true
          · rw [if_pos hg, ih _ _ _ (by simp [hc, hg]), e2]
            have e4 : fw (cur ++ [b]) c.dropLast = (cur ++ b :: f) :: fs := by
              unfold fw
              rw [hf]
              simp
            rw [e3, e4]
          · rw [if_neg hg, e3, if_neg]
            · rfl
            · rintro ⟨_, g, _⟩
              simp only [List.all_cons, Bool.and_eq_true] at g
              rw [wordB_bad (by simpa using hg)] at g
              cases g.1
theorem contD_lines (t : List UInt8) : contD [] [] [] t = linesD t := by
  rw [contD_is t [] [] [] rfl]
  unfold linesW linesD
  cases h : chunks t with
  | nil => simp
  | cons c cs =>
    simp only [fw_nil, List.nil_append]
    have e : ((c :: cs).all lineB = true) ↔ (lastT c = true ∧ (fields c.dropLast).all wordB = true ∧ cs.all lineB = true) := by
      simp only [List.all_cons, Bool.and_eq_true]
      unfold lineB
      rw [suffix_last, Bool.and_eq_true, and_assoc]
    by_cases g : (c :: cs).all lineB = true
    · rw [if_pos g, if_pos (e.1 g)]; simp
    · rw [if_neg g, if_neg (fun h => g (e.2 h))]; rfl
/-- A text's piece between two places. -/
def midT (l : List UInt8) (f k : Nat) : List UInt8 := (l.drop f).take (k - f)
theorem ext_mid (t : ByteArray) (f k : Nat) : t.extract f k = strL (midT t.data.toList f k) := by
  rw [Lib.extract_eq]
  rfl
theorem midT_self (l : List UInt8) (k : Nat) : midT l k k = [] := by simp [midT]
theorem midT_more {l : List UInt8} {f k : Nat} (hf : f ≤ k) (hk : k < l.length) : midT l f (k + 1) = midT l f k ++ [l[k]] := by
  unfold midT
  have h : k - f < (l.drop f).length := by rw [List.length_drop]; omega
  rw [show k + 1 - f = (k - f) + 1 by omega, List.take_succ_eq_append_getElem h, List.getElem_drop]
  congr 3
  omega
theorem midT_ne {l : List UInt8} {f k : Nat} (hf : f < k) (hk : k ≤ l.length) : midT l f k ≠ [] := by
  intro h
  have := congrArg List.length h
  simp [midT] at this
  omega
theorem midT_len (l : List UInt8) (f k : Nat) : (midT l f k).length ≤ l.length := by simp [midT]; omega
theorem drop_at {l : List UInt8} {k : Nat} (hk : k < l.length) : l.drop k = l[k] :: l.drop (k + 1) := List.drop_eq_getElem_cons hk
end Go.Proofs.YtedkhdnfbdojcaaDoor
end
section
/- Decimals, as lists of bytes; nothing of the program. -/
namespace Go.Proofs.YtedkhdnfbdojcaaDoor
open Go.RowKit
set_option linter.unusedVariables false

def digC (c : UInt8) : Bool := decide (48 ≤ c.toNat) && decide (c.toNat ≤ 57)
/-- Digits, and no nought ahead, but of 0. -/
def decB (l : List UInt8) : Bool := !l.isEmpty && (decide (l.head? ≠ some 48) || decide (l.length = 1)) && l.all digC
/-- What digits make. -/
def valD (l : List UInt8) : Nat := l.foldl (fun n c => 10 * n + (c.toNat - 48)) 0
def numV (l : List UInt8) : Int := if decB l = true then (min (valD l) 1000000000000000000 : Nat) else 0
/-- A number's digits. -/
def decN (n : Nat) : List UInt8 := if n < 10 then [UInt8.ofNat (48 + n)] else decN (n / 10) ++ [UInt8.ofNat (48 + n % 10)]
termination_by n
decreasing_by omega
def decI (n : Int) : List UInt8 := if n < 0 then 45 :: decN n.natAbs else decN n.natAbs

theorem snoc_ind {p : List UInt8 → Prop} (h0 : p []) (h1 : ∀ l c, p l → p (l ++ [c])) (l : List UInt8) : p l := by
  have h : ∀ r : List UInt8, p r.reverse := by
    intro r
    induction r with
    | nil => exact h0
    | cons c r ih => rw [List.reverse_cons]; exact h1 _ _ ih
  have := h l.reverse
  rwa [List.reverse_reverse] at this
theorem head_app {l m : List UInt8} (h : l ≠ []) : (l ++ m).head? = l.head? := by
  cases l with
  | nil => exact absurd rfl h
  | cons _ _ => rfl
theorem valD_snoc (l : List UInt8) (c : UInt8) : valD (l ++ [c]) = 10 * valD l + (c.toNat - 48) := by simp [valD]
theorem valD_take {l : List UInt8} {k : Nat} (hk : k < l.length) : valD (l.take (k + 1)) = 10 * valD (l.take k) + (l[k].toNat - 48) := by rw [List.take_succ_eq_append_getElem hk, valD_snoc]
theorem digC_iff {c : UInt8} : digC c = true ↔ 48 ≤ c.toNat ∧ c.toNat ≤ 57 := by unfold digC; simp
theorem valD_lt {l : List UInt8} (h : l.all digC = true) : valD l < 10 ^ l.length := by
  revert h
  refine snoc_ind (p := fun l => l.all digC = true → valD l < 10 ^ l.length) (fun _ => by simp [valD]) (fun l c ih h => ?_) l
  · rw [List.all_append, Bool.and_eq_true] at h
    have h1 := ih h.1
    have h2 : digC c = true := by simpa using h.2
    rw [digC_iff] at h2
    rw [valD_snoc, List.length_append, List.length_singleton, Nat.pow_succ]
    omega
theorem valD_ge {l : List UInt8} (h : l.all digC = true) (hl : l ≠ []) (h0 : l.head? ≠ some 48) : 10 ^ (l.length - 1) ≤ valD l := by
  revert h hl h0
  refine snoc_ind (p := fun l => l.all digC = true → l ≠ [] → l.head? ≠ some 48 → 10 ^ (l.length - 1) ≤ valD l) (fun _ h _ => absurd rfl h) (fun l c ih h _ h0 => ?_) l
  · rw [List.all_append, Bool.and_eq_true] at h
    have h2 : digC c = true := by simpa using h.2
    rw [digC_iff] at h2
    rw [valD_snoc, List.length_append, List.length_singleton, Nat.add_sub_cancel]
    by_cases he : l = []
    · subst he
      have : c.toNat ≠ 48 := fun e => h0 (by simp; exact UInt8.toNat_inj.1 e)
      simp [valD]
      omega
    · have h3 := ih h.1 he (by rw [head_app he] at h0; exact h0)
      obtain ⟨m, hm⟩ : ∃ m, l.length = m + 1 := ⟨l.length - 1, by have : l.length ≠ 0 := fun e => he (List.length_eq_zero_iff.1 e); omega⟩
      rw [hm] at h3 ⊢
      rw [Nat.add_sub_cancel] at h3
      rw [Nat.pow_succ]
      omega
theorem dig_toNat {d : Nat} (h : d < 10) : (UInt8.ofNat (48 + d)).toNat = 48 + d := by
  rw [UInt8.toNat_ofNat']
  omega
theorem decN_small {n : Nat} (h : n < 10) : decN n = [UInt8.ofNat (48 + n)] := by rw [decN, if_pos h]
theorem decN_big {n : Nat} (h : ¬ n < 10) : decN n = decN (n / 10) ++ [UInt8.ofNat (48 + n % 10)] := by rw [decN, if_neg h]
theorem decN_ne (n : Nat) : decN n ≠ [] := by
  by_cases h : n < 10
  · rw [decN_small h]; simp
  · rw [decN_big h]; simp
theorem decN_val (n : Nat) : valD (decN n) = n := by
  induction n using Nat.strongRecOn with
  | _ n ih =>
    by_cases h : n < 10
    · rw [decN_small h]
      simp only [valD, List.foldl_cons, List.foldl_nil]
      rw [dig_toNat h]; omega
    · rw [decN_big h, valD_snoc, ih _ (by omega), dig_toNat (Nat.mod_lt _ (by decide))]
      omega
theorem decN_dig (n : Nat) : (decN n).all digC = true := by
  induction n using Nat.strongRecOn with
  | _ n ih =>
    by_cases h : n < 10
    · rw [decN_small h]
      simp only [List.all_cons, List.all_nil, Bool.and_true]
      rw [digC_iff, dig_toNat h]; omega
    · rw [decN_big h, List.all_append, ih _ (by omega)]
      simp only [List.all_cons, List.all_nil, Bool.and_true, Bool.true_and]
      rw [digC_iff, dig_toNat (Nat.mod_lt _ (by decide))]
      have := Nat.mod_lt n (show 0 < 10 by decide)
      omega
theorem decN_head (n : Nat) : (decN n).head? ≠ some 48 ∨ (decN n).length = 1 := by
  induction n using Nat.strongRecOn with
  | _ n ih =>
    by_cases h : n < 10
    · right; rw [decN_small h]; rfl
    · left
      rw [decN_big h, head_app (decN_ne _)]
      rcases ih (n / 10) (by omega) with h1 | h1
      · exact h1
      · intro e
        obtain ⟨x, hx⟩ := List.length_eq_one_iff.1 h1
        have hv := decN_val (n / 10)
        rw [hx] at e hv
        simp at e
        subst e
        simp [valD] at hv
        omega
theorem decN_ok (n : Nat) : decB (decN n) = true := by
  unfold decB
  rw [decN_dig]
  have h : (decN n).isEmpty = false := by cases h : decN n with | nil => exact absurd h (decN_ne n) | cons _ _ => rfl
  rw [h]
  simp only [Bool.not_false, Bool.true_and, Bool.and_true, Bool.or_eq_true, decide_eq_true_iff]
  exact decN_head n
theorem decN_len_lt {n k : Nat} (h : n < 10 ^ (k + 1)) : (decN n).length ≤ k + 1 := by
  induction k generalizing n with
  | zero => rw [decN_small (by omega)]; simp
  | succ k ih =>
    by_cases h1 : n < 10
    · rw [decN_small h1]; simp
    · rw [decN_big h1, List.length_append, List.length_singleton]
      have := ih (n := n / 10) (by rw [Nat.pow_succ] at h; omega)
      omega
theorem decN_mono {a b : Nat} (h : a ≤ b) : (decN a).length ≤ (decN b).length := by
  induction b using Nat.strongRecOn generalizing a with
  | _ b ih =>
    by_cases h1 : a < 10
    · rw [decN_small h1]
      have : (decN b).length ≠ 0 := fun e => decN_ne b (List.length_eq_zero_iff.1 e)
      simp; omega
    · rw [decN_big h1, decN_big (show ¬ b < 10 by omega), List.length_append, List.length_append]
      have := ih (b / 10) (by omega) (a := a / 10) (Nat.div_le_div_right h)
      simpa using this
theorem decN_inj {a b : Nat} (h : decN a = decN b) : a = b := by rw [← decN_val a, h, decN_val]
theorem decI_nat (n : Nat) : decI (n : Int) = decN n := by unfold decI; rw [if_neg (by omega)]; rfl
theorem decI_neg {n : Int} (h : n < 0) : decI n = 45 :: decN n.natAbs := by unfold decI; rw [if_pos h]
theorem decI_no {n : Int} (h : n < 0) : decB (decI n) = false := by
  rw [decI_neg h]
  unfold decB
  simp [digC]
theorem decI_inj {a b : Int} (h : decI a = decI b) : a = b := by
  by_cases ha : a < 0
  · by_cases hb : b < 0
    · rw [decI_neg ha, decI_neg hb] at h
      injection h with _ h
      have := decN_inj h
      omega
    · have h1 := decI_no ha
      obtain ⟨m, rfl⟩ : ∃ m : Nat, b = (m : Int) := ⟨b.toNat, by omega⟩
      rw [h, decI_nat, decN_ok] at h1
      cases h1
  · obtain ⟨m, rfl⟩ : ∃ m : Nat, a = (m : Int) := ⟨a.toNat, by omega⟩
    by_cases hb : b < 0
    · have h1 := decI_no hb
      rw [← h, decI_nat, decN_ok] at h1
      cases h1
    · obtain ⟨k, rfl⟩ : ∃ k : Nat, b = (k : Int) := ⟨b.toNat, by omega⟩
      rw [decI_nat, decI_nat] at h
      rw [decN_inj h]
theorem numV_no {l : List UInt8} (h : decB l = false) : numV l = 0 := by unfold numV; rw [if_neg (by rw [h]; decide)]
theorem numV_yes {l : List UInt8} (h : decB l = true) : numV l = (min (valD l) 1000000000000000000 : Nat) := by unfold numV; rw [if_pos h]
theorem decB_parts {l : List UInt8} (h : decB l = true) : l ≠ [] ∧ (l.head? ≠ some 48 ∨ l.length = 1) ∧ l.all digC = true := by
  unfold decB at h
  simp only [Bool.and_eq_true, Bool.not_eq_true', Bool.or_eq_true, decide_eq_true_iff] at h
  exact ⟨fun e => by rw [e] at h; simp at h, h.1.2, h.2⟩
/-- More than 18 digits: 10^18 and more. -/
theorem numV_long {l : List UInt8} (h : decB l = true) (hl : 18 < l.length) : numV l = 1000000000000000000 := by
  obtain ⟨h0, h1, h2⟩ := decB_parts h
  have h3 := valD_ge h2 h0 (h1.resolve_right (by omega))
  have h4 : 10 ^ 18 ≤ 10 ^ (l.length - 1) := Nat.pow_le_pow_right (by decide) (by omega)
  rw [numV_yes h, Nat.min_eq_right (by omega)]
  rfl
theorem numV_short {l : List UInt8} (h : decB l = true) (hl : l.length ≤ 18) : numV l = (valD l : Int) := by
  have h3 := valD_lt (decB_parts h).2.2
  have h4 : 10 ^ l.length ≤ 10 ^ 18 := Nat.pow_le_pow_right (by decide) hl
  rw [numV_yes h, Nat.min_eq_left (by omega)]
end Go.Proofs.YtedkhdnfbdojcaaDoor
end
