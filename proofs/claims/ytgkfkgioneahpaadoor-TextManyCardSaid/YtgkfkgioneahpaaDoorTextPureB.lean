/- Texts of lines, byte by byte, as the document goes through them; nothing of the program. -/
import Derived.Test.YtgkfkgioneahpaaDoorTextPure
namespace Go.Proofs.YtgkfkgioneahpaaDoor
open Go.RowKit
set_option linter.unusedVariables false

/-- Byte by byte: cur is the word that is under way, line the words before it, out the lines before these. -/
def contD (cur : List UInt8) (line : List (List UInt8)) (out : List (List (List UInt8))) : List UInt8 → Option (List (List (List UInt8)))
  | [] => if cur = [] ∧ line = [] then some out else none
  | c :: r => if c = 32 then (if cur = [] then none else contD [] (line ++ [cur]) out r)
    else if c = 10 then (if cur = [] then none else contD [] [] (out ++ [line ++ [cur]]) r)
    else if goodC c = true then contD (cur ++ [c]) line out r else none
/-- A word under way ahead of a line's first piece. -/
def fw (cur : List UInt8) (d : List UInt8) : List (List UInt8) := match fields d with
  | [] => []
  | f :: fs => (cur ++ f) :: fs
def lastT (l : List UInt8) : Bool := match l.getLast? with | some c => c == 10 | none => false
theorem suffix_last (l : List UInt8) : Lib.hasSuffix l [10] = lastT l := by
  rcases List.eq_nil_or_concat l with rfl | ⟨p, c, rfl⟩
  · rfl
  · unfold Lib.hasSuffix lastT
    rw [List.isSuffixOf]
    simp [List.isPrefixOf]
    rw [Bool.eq_iff_iff]
    simp
    exact eq_comm
theorem lastT_cons {b : UInt8} {c : List UInt8} (h : c ≠ []) : lastT (b :: c) = lastT c := by
  unfold lastT
  cases c with
  | nil => exact absurd rfl h
  | cons x y => rw [List.getLast?_cons_cons]
theorem fw_nil (d : List UInt8) : fw [] d = fields d := by
  unfold fw
  cases h : fields d with
  | nil => rfl
  | cons f fs => simp
theorem chunks_nil {r : List UInt8} (h : chunks r = []) : r = [] := by
  cases r with
  | nil => rfl
  | cons b r =>
    rw [chunks] at h
    split at h
    · cases h
    · split at h <;> cases h
theorem chunks_mem {r c : List UInt8} {cs : List (List UInt8)} (h : chunks r = c :: cs) : c ≠ [] := by
  cases r with
  | nil => simp [chunks] at h
  | cons b r =>
    rw [chunks] at h
    split at h
    · injection h with h _; rw [← h]; simp
    · split at h
      · injection h with h _; rw [← h]; simp
      · injection h with h _; rw [← h]; simp
/-- What the pieces of a text make behind a word and a line that are under way. -/
def linesW (cur : List UInt8) (line : List (List UInt8)) (t : List UInt8) : Option (List (List (List UInt8))) := match chunks t with
  | [] => if cur = [] ∧ line = [] then some [] else none
  | c :: cs => if lastT c = true ∧ (fw cur c.dropLast).all wordB = true ∧ cs.all lineB = true then some ((line ++ fw cur c.dropLast) :: cs.map fun c => fields c.dropLast) else none
theorem wordB_good {cur : List UInt8} (h : cur.all goodC = true) : wordB cur = true ↔ cur ≠ [] := by
  unfold wordB
  rw [h]
  cases cur <;> simp
theorem wordB_bad {cur f : List UInt8} {b : UInt8} (h : goodC b = false) : wordB (cur ++ b :: f) = false := by
  unfold wordB
  have : (cur ++ b :: f).all goodC = false := List.all_eq_false.2 ⟨b, by simp, by rw [h]; decide⟩
  rw [this, Bool.and_false]
theorem good_32 : goodC 32 = false := by decide
theorem good_10 : goodC 10 = false := by decide
theorem contD_is (t : List UInt8) : ∀ (cur : List UInt8) (line : List (List UInt8)) (out : List (List (List UInt8))), cur.all goodC = true → contD cur line out t = (linesW cur line t).map (out ++ ·) := by
  induction t with
  | nil =>
    intro cur line out hc
    unfold contD linesW
    simp only [chunks]
    split <;> simp
  | cons b r ih =>
    intro cur line out hc
    by_cases h10 : b = 10
    · subst h10
      have e1 : linesW cur line (10 :: r) = if lastT [10] = true ∧ (fw cur []).all wordB = true ∧ (chunks r).all lineB = true then some ((line ++ fw cur []) :: (chunks r).map fun c => fields c.dropLast) else none := by
        unfold linesW
        rw [chunks, if_pos rfl]
        rfl
      rw [e1, contD, if_neg (by decide), if_pos rfl]
      have e2 : fw cur [] = [cur] := by simp [fw, fields]
      rw [e2]
      have e3 : ([cur].all wordB = true) ↔ cur ≠ [] := by simp only [List.all_cons, List.all_nil, Bool.and_true]; exact wordB_good hc
      by_cases h0 : cur = []
      · rw [if_pos h0, if_neg (fun h => (e3.1 h.2.1) h0)]
        rfl
      · rw [if_neg h0, ih [] [] _ rfl]
        by_cases h1 : (chunks r).all lineB = true
        · rw [if_pos ⟨rfl, e3.2 h0, h1⟩]
          have e4 : linesW [] [] r = some ((chunks r).map fun c => fields c.dropLast) := by
            unfold linesW
            cases h2 : chunks r with
            | nil => simp
            | cons c cs =>
              rw [h2] at h1
              simp only [List.all_cons, Bool.and_eq_true] at h1
              have h3 := h1.1
              unfold lineB at h3
              rw [Bool.and_eq_true, suffix_last] at h3
              simp only [fw_nil, h3.1, h3.2, h1.2, and_self, if_true, List.nil_append, List.map_cons]
          rw [e4]
          simp
        · rw [if_neg (fun h => h1 h.2.2)]
          have e4 : linesW [] [] r = none := by
            unfold linesW
            cases h2 : chunks r with
            | nil => rw [h2] at h1; simp at h1
            | cons c cs =>
              rw [h2] at h1
              simp only
              rw [if_neg]
              rintro ⟨g1, g2, g3⟩
              rw [fw_nil] at g2
              refine h1 ?_
              simp only [List.all_cons, Bool.and_eq_true]
              refine ⟨?_, g3⟩
              unfold lineB
              rw [suffix_last, g1, g2]
              rfl
          rw [e4]
          rfl
    · -- the byte is none that ends a line
      by_cases hr : chunks r = []
      · have hr' := chunks_nil hr
        subst hr'
        have e1 : linesW cur line [b] = none := by
          unfold linesW
          simp only [chunks, if_neg h10]
          rw [if_neg]
          rintro ⟨g1, _, _⟩
          simp [lastT] at g1
          exact h10 g1
        rw [e1, contD]
        by_cases h32 : b = 32
        · rw [if_pos h32]
          split
          · rfl
          · rw [contD, if_neg (by simp)]; rfl
        · rw [if_neg h32, if_neg h10]
          split
          · rw [contD, if_neg (by simp)]; rfl
          · rfl
      · obtain ⟨c, cs, hcs⟩ : ∃ c cs, chunks r = c :: cs := by
          cases h : chunks r with
          | nil => exact absurd h hr
          | cons c cs => exact ⟨c, cs, rfl⟩
        have hcn := chunks_mem hcs
        have hdl : (b :: c).dropLast = b :: c.dropLast := List.dropLast_cons_of_ne_nil hcn
        have e1 : linesW cur line (b :: r) = if lastT c = true ∧ (fw cur (b :: c.dropLast)).all wordB = true ∧ cs.all lineB = true then some ((line ++ fw cur (b :: c.dropLast)) :: cs.map fun c => fields c.dropLast) else none := by
          unfold linesW
          rw [chunks, if_neg h10, hcs]
          simp only [hdl, lastT_cons hcn]
        have e2 : ∀ cur' line', linesW cur' line' r = if lastT c = true ∧ (fw cur' c.dropLast).all wordB = true ∧ cs.all lineB = true then some ((line' ++ fw cur' c.dropLast) :: cs.map fun c => fields c.dropLast) else none := by
          intro cur' line'
          unfold linesW
          rw [hcs]
        obtain ⟨f, fs, hf⟩ : ∃ f fs, fields c.dropLast = f :: fs := by
          cases h : fields c.dropLast with
          | nil => exact absurd h (fields_ne _)
          | cons f fs => exact ⟨f, fs, rfl⟩
        rw [e1, contD]
        by_cases h32 : b = 32
        · subst h32
          have e3 : fw cur (32 :: c.dropLast) = cur :: fw [] c.dropLast := by
            unfold fw
            rw [fields, if_pos rfl, hf]
            simp
          rw [if_pos rfl, e3]
          by_cases h0 : cur = []
          · rw [if_pos h0, if_neg]
            · rfl
            · rintro ⟨_, g, _⟩
              simp only [List.all_cons, Bool.and_eq_true] at g
              exact ((wordB_good hc).1 g.1) h0
          · rw [if_neg h0, ih [] _ _ rfl, e2]
            have e4 : wordB cur = true := (wordB_good hc).2 h0
            simp only [List.all_cons, e4, Bool.true_and, List.append_assoc, List.singleton_append]
        · rw [if_neg h32, if_neg h10]
          have e3 : fw cur (b :: c.dropLast) = (cur ++ b :: f) :: fs := by
            unfold fw
            rw [fields, if_neg h32, hf]
          by_cases hg : goodC b = true
          · rw [if_pos hg, ih _ _ _ (by simp [hc, hg]), e2]
            have e4 : fw (cur ++ [b]) c.dropLast = (cur ++ b :: f) :: fs := by
              unfold fw
              rw [hf]
              simp
            rw [e3, e4]
          · rw [if_neg hg, e3, if_neg]
            · rfl
            · rintro ⟨_, g, _⟩
              simp only [List.all_cons, Bool.and_eq_true] at g
              rw [wordB_bad (by simpa using hg)] at g
              cases g.1
theorem contD_lines (t : List UInt8) : contD [] [] [] t = linesD t := by
  rw [contD_is t [] [] [] rfl]
  unfold linesW linesD
  cases h : chunks t with
  | nil => simp
  | cons c cs =>
    simp only [fw_nil, List.nil_append]
    have e : ((c :: cs).all lineB = true) ↔ (lastT c = true ∧ (fields c.dropLast).all wordB = true ∧ cs.all lineB = true) := by
      simp only [List.all_cons, Bool.and_eq_true]
      unfold lineB
      rw [suffix_last, Bool.and_eq_true, and_assoc]
    by_cases g : (c :: cs).all lineB = true
    · rw [if_pos g, if_pos (e.1 g)]; simp
    · rw [if_neg g, if_neg (fun h => g (e.2 h))]; rfl
/-- A text's piece between two places. -/
def midT (l : List UInt8) (f k : Nat) : List UInt8 := (l.drop f).take (k - f)
theorem ext_mid (t : ByteArray) (f k : Nat) : t.extract f k = strL (midT t.data.toList f k) := by
  rw [Lib.extract_eq]
  rfl
theorem midT_self (l : List UInt8) (k : Nat) : midT l k k = [] := by simp [midT]
theorem midT_more {l : List UInt8} {f k : Nat} (hf : f ≤ k) (hk : k < l.length) : midT l f (k + 1) = midT l f k ++ [l[k]] := by
  unfold midT
  have h : k - f < (l.drop f).length := by rw [List.length_drop]; omega
  rw [show k + 1 - f = (k - f) + 1 by omega, List.take_succ_eq_append_getElem h, List.getElem_drop]
  congr 3
  omega
theorem midT_ne {l : List UInt8} {f k : Nat} (hf : f < k) (hk : k ≤ l.length) : midT l f k ≠ [] := by
  intro h
  have := congrArg List.length h
  simp [midT] at this
  omega
theorem midT_len (l : List UInt8) (f k : Nat) : (midT l f k).length ≤ l.length := by simp [midT]; omega
theorem drop_at {l : List UInt8} {k : Nat} (hk : k < l.length) : l.drop k = l[k] :: l.drop (k + 1) := List.drop_eq_getElem_cons hk
end Go.Proofs.YtgkfkgioneahpaaDoor
