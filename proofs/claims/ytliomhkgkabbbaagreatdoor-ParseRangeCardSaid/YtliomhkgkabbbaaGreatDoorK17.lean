import Derived.Test.YtliomhkgkabbbaaGreatDoorK16
import Derived.Test.YtliomhkgkabbbaaGreatDoorK01
import Derived.Test.YtliomhkgkabbbaaGreatDoorK04
import Derived.Test.YtliomhkgkabbbaaGreatDoorK03
section
/- An instance's text as lists of bytes: what it is, and how lines are gone through; nothing of the program. -/
namespace Go.Proofs.YtliomhkgkabbbaaGreatDoor
open Go.RowKit
set_option linter.unusedVariables false
/-! ### The words -/
def wProgram : List UInt8 := [116, 114, 97, 110, 116, 101, 114]
def wEdition : List UInt8 := [49]
def wDays : List UInt8 := [100, 97, 121, 115]
def wVehicles : List UInt8 := [118, 101, 104, 105, 99, 108, 101, 115]
def wCapacity : List UInt8 := [99, 97, 112, 97, 99, 105, 116, 121]
def wLength : List UInt8 := [108, 101, 110, 103, 116, 104]
def wCustomers : List UInt8 := [99, 117, 115, 116, 111, 109, 101, 114, 115]
def wVisit : List UInt8 := [118, 105, 115, 105, 116]
def wTank : List UInt8 := [116, 97, 110, 107]
def wFill : List UInt8 := [102, 105, 108, 108]
def wAny : List UInt8 := [97, 110, 121]
def wDistances : List UInt8 := [100, 105, 115, 116, 97, 110, 99, 101, 115]
/-! ### An instance's text -/
/-- A pattern's signs. -/
def patW (n : Int) (p : Int) : List UInt8 := (textB p.toNat n).data.toList
def ruleW (r : Int) : List UInt8 := if r = 1 then wFill else wAny
/-- A customer's words. -/
def custW (n : Int) (c : Cust) : List (List UInt8) :=
  if c.kind = 2 then [wTank, decI c.rate, decI c.size, decI c.start, ruleW c.rule, decI c.hold]
  else wVisit :: decI c.demand :: c.pats.map (patW n)
/-- The first lines' words. -/
def sizesW (x : Inst) : List (List UInt8) := [wDays, decI x.days, wVehicles, decI x.veh, wCapacity, decI x.cap, wLength, decI x.len]
/-- An instance's lines. -/
def instW (x : Inst) : List (List (List UInt8)) := [wProgram, wEdition] :: sizesW x :: [wCustomers, decI x.custs.length] :: (x.custs.map (custW x.days) ++ [wDistances] :: x.dist.map fun r => r.map decI)
/-- Lines, one behind the other. -/
def linesT (ls : List (List (List UInt8))) : List UInt8 := (ls.map lineT).flatten
def printI (x : Inst) : List UInt8 := linesT (instW x)
theorem linesT_cons (l : List (List UInt8)) (ls : List (List (List UInt8))) : linesT (l :: ls) = lineT l ++ linesT ls := rfl
theorem linesT_app (a b : List (List (List UInt8))) : linesT (a ++ b) = linesT a ++ linesT b := by simp [linesT]
theorem linesT_nil : linesT [] = [] := rfl

/-! ### How lines are gone through -/
/-- What has been read: the lines left, the instance so far, how many customers there are, and whether a pattern's signs are amiss. -/
structure St where
  left : List (List (List UInt8))
  x : Inst
  n : Int
  am : Bool
def numsV (l : List (List UInt8)) : Option (List Int) := if l.all decB = true then some (l.map numV) else none
def evens : List (List UInt8) → List (List UInt8)
  | [] => []
  | [a] => [a]
  | a :: _ :: r => a :: evens r
def odds : List (List UInt8) → List (List UInt8)
  | [] => []
  | [_] => []
  | _ :: b :: r => b :: odds r
/-- The numbers of a line with these names, each ahead of its number. -/
def namedV (names l : List (List UInt8)) : Option (List Int) := if evens l = names ∧ (odds l).length = names.length then numsV (odds l) else none
def headP (s : St) (l : List (List UInt8)) : Option St := if l = [wProgram, wEdition] then some s else none
def sizesP (s : St) (l : List (List UInt8)) : Option St :=
  (namedV [wDays, wVehicles, wCapacity, wLength] l).map fun v => { s with x := { s.x with days := v.getD 0 0, veh := v.getD 1 0, cap := v.getD 2 0, len := v.getD 3 0 } }
def peopleP (s : St) (l : List (List UInt8)) : Option St := (namedV [wCustomers] l).map fun v => { s with n := v.getD 0 0 }
/-- A customer that is visited by patterns, and whether a pattern's signs are amiss. -/
def visitV (d : Int) : List (List UInt8) → Option (Cust × Bool)
  | [] => none
  | w :: ps => if decB w = true ∧ (ps.all fun p => decide ((parseV p).2 ≠ 2)) = true then
      some ({ kind := 1, demand := numV w, pats := ps.map fun p => ((parseV p).1 : Int), rate := 0, size := 0, start := 0, rule := 0, hold := 0 }, ps.any fun p => decide ((p.length : Int) ≠ d)) else none
theorem visitV_cons (d : Int) (w : List UInt8) (ps : List (List UInt8)) : visitV d (w :: ps) = if decB w = true ∧ (ps.all fun p => decide ((parseV p).2 ≠ 2)) = true then
      some ({ kind := 1, demand := numV w, pats := ps.map fun p => ((parseV p).1 : Int), rate := 0, size := 0, start := 0, rule := 0, hold := 0 }, ps.any fun p => decide ((p.length : Int) ≠ d)) else none := rfl
def ruleV (w : List UInt8) : Option Int := if w = wFill then some 1 else if w = wAny then some 2 else none
/-- A customer with a tank. -/
def tankV (l : List (List UInt8)) : Option Cust :=
  if l.length = 5 then
    match ruleV (l.getD 3 []), numsV [l.getD 0 [], l.getD 1 [], l.getD 2 [], l.getD 4 []] with
    | some r, some v => some { kind := 2, demand := 0, pats := [], rate := v.getD 0 0, size := v.getD 1 0, start := v.getD 2 0, rule := r, hold := v.getD 3 0 }
    | _, _ => none
  else none
/-- One more customer. -/
def St.more (s : St) (c : Cust) (am : Bool) : St := { s with x := { s.x with custs := s.x.custs ++ [c] }, am := s.am || am }
def kindP (d : Int) (l : List (List UInt8)) : Option (Cust × Bool) :=
  match l with
  | [] => none
  | k :: r => if k = wVisit then visitV d r else if k = wTank then (tankV r).map fun c => (c, false) else none
def custP (s : St) (l : List (List UInt8)) : Option St := (kindP s.x.days l).map fun t => s.more t.1 t.2
def tableP (s : St) (l : List (List UInt8)) : Option St := if l = [wDistances] then some s else none
def arcsP (s : St) (l : List (List UInt8)) : Option St :=
  (numsV l).bind fun v => if (v.length : Int) = s.n + 1 then some { s with x := { s.x with dist := s.x.dist ++ [v] } } else none
/-- So many lines, one behind the other. -/
def runP (f : St → List (List UInt8) → Option St) : St → List (List (List UInt8)) → Option St
  | s, [] => some s
  | s, l :: r => (f s l).bind fun s' => runP f s' r
def nextP (n : Int) (f : St → List (List UInt8) → Option St) (s : St) : Option St :=
  if (s.left.length : Int) < n then none else (runP f s (s.left.take n.toNat)).map fun s' => { s' with left := s.left.drop n.toNat }
/-- All lines. -/
def wholeP (s : St) : Option St :=
  (nextP 1 headP s).bind fun s => (nextP 1 sizesP s).bind fun s => (nextP 1 peopleP s).bind fun s => (nextP s.n custP s).bind fun s => (nextP 1 tableP s).bind fun s =>
    (nextP (s.n + 1) arcsP s).bind fun s => if s.left = [] then some s else none
def zeroI : Inst := ⟨0, 0, 0, 0, [], []⟩
def startP (ls : List (List (List UInt8))) : St := ⟨ls, zeroI, 0, false⟩

/-! ### Simple laws of these -/
theorem nextP_one {f : St → List (List UInt8) → Option St} {s : St} {l : List (List UInt8)} {r : List (List (List UInt8))} (h : s.left = l :: r) : nextP 1 f s = (f s l).map fun s' => { s' with left := r } := by
  unfold nextP
  rw [h, if_neg (by simp; omega)]
  show ((f s l).bind fun s' => runP f s' []).map _ = _
  cases f s l <;> rfl
theorem nextP_none {f : St → List (List UInt8) → Option St} {s : St} (h : s.left = []) : nextP 1 f s = none := by
  unfold nextP
  rw [h, if_pos (by simp)]
theorem runP_app {f : St → List (List UInt8) → Option St} : ∀ {s : St} {a b : List (List (List UInt8))}, runP f s (a ++ b) = (runP f s a).bind fun s' => runP f s' b := by
  intro s a
  induction a generalizing s with
  | nil => intro b; rfl
  | cons l r ih =>
    intro b
    show (f s l).bind _ = ((f s l).bind _).bind _
    cases f s l with
    | none => rfl
    | some s' => exact ih
theorem numsV_len {l : List (List UInt8)} {v : List Int} (h : numsV l = some v) : v.length = l.length := by
  unfold numsV at h
  split at h
  · injection h with h; rw [← h, List.length_map]
  · cases h
theorem namedV_len {names l : List (List UInt8)} {v : List Int} (h : namedV names l = some v) : v.length = names.length := by
  unfold namedV at h
  split at h
  · rename_i hc; rw [numsV_len h, hc.2]
  · cases h
theorem numV_bd (l : List UInt8) : 0 ≤ numV l ∧ numV l ≤ 1000000000000000000 := by
  unfold numV
  split <;> omega
theorem numsV_bd {l : List (List UInt8)} {v : List Int} (h : numsV l = some v) : ∀ n ∈ v, 0 ≤ n ∧ n ≤ 1000000000000000000 := by
  unfold numsV at h
  split at h
  · injection h with h
    subst h
    intro n hn
    obtain ⟨w, _, rfl⟩ := List.mem_map.1 hn
    exact numV_bd w
  · cases h
theorem getD_bd {v : List Int} {B : Int} (hB : 0 ≤ B) (h : ∀ n ∈ v, 0 ≤ n ∧ n ≤ B) (k : Nat) : 0 ≤ v.getD k 0 ∧ v.getD k 0 ≤ B := by
  rw [List.getD_eq_getElem?_getD]
  cases e : v[k]? with
  | none => exact ⟨Int.le_refl _, hB⟩
  | some n => exact h n (List.mem_of_getElem? e)
end Go.Proofs.YtliomhkgkabbbaaGreatDoor
end
section
/- Lines that are written are read as they were, and a text of lines is its lines; decimals, and sets' texts, back and forth; nothing of the program. -/
namespace Go.Proofs.YtliomhkgkabbbaaGreatDoor
open Go.RowKit
set_option linter.unusedVariables false
/-! ### Decimals -/
theorem dec_num {n : Int} (h : 0 ≤ n) (h' : n ≤ 1000000000000000000) : decB (decI n) = true ∧ numV (decI n) = n := by
  obtain ⟨m, rfl⟩ : ∃ m : Nat, n = (m : Int) := ⟨n.toNat, by omega⟩
  rw [decI_nat]
  refine ⟨decN_ok m, ?_⟩
  rw [numV_yes (decN_ok m), decN_val]
  omega
theorem dig_of {c : UInt8} (h : digC c = true) : UInt8.ofNat (48 + (c.toNat - 48)) = c := by
  rw [digC_iff] at h
  rw [show 48 + (c.toNat - 48) = c.toNat by omega]
  simp
theorem decN_of {l : List UInt8} (h : l ≠ []) (h0 : l.head? ≠ some 48 ∨ l.length = 1) (hd : l.all digC = true) : decN (valD l) = l := by
  revert h h0 hd
  refine snoc_ind (p := fun l => l ≠ [] → (l.head? ≠ some 48 ∨ l.length = 1) → l.all digC = true → decN (valD l) = l) (fun h => absurd rfl h) (fun l c ih _ h0 hd => ?_) l
  rw [List.all_append, Bool.and_eq_true] at hd
  have hc : digC c = true := by simpa using hd.2
  have hcd := digC_iff.1 hc
  by_cases he : l = []
  · subst he
    have e : valD ([] ++ [c]) = c.toNat - 48 := by simp [valD]
    rw [e, decN_small (by omega), dig_of hc]
    rfl
  · have hlen : l.length ≠ 0 := fun e => he (List.length_eq_zero_iff.1 e)
    have h1 : l.head? ≠ some 48 := by
      rcases h0 with h0 | h0
      · rwa [head_app he] at h0
      · rw [List.length_append, List.length_singleton] at h0; omega
    have hv := valD_ge hd.1 he h1
    have hv1 : 1 ≤ valD l := Nat.le_trans (Nat.one_le_pow _ _ (by decide)) hv
    rw [valD_snoc, decN_big (by omega)]
    rw [show (10 * valD l + (c.toNat - 48)) / 10 = valD l by omega, show (10 * valD l + (c.toNat - 48)) % 10 = c.toNat - 48 by omega, ih he (.inl h1) hd.1, dig_of hc]
theorem num_dec {l : List UInt8} (h : decB l = true) (h' : numV l < 1000000000000000000) : decI (numV l) = l := by
  obtain ⟨h0, h1, h2⟩ := decB_parts h
  rw [numV_yes h] at h' ⊢
  rw [decI_nat, show min (valD l) 1000000000000000000 = valD l by omega, decN_of h0 h1 h2]
theorem dig_good {c : UInt8} (h : digC c = true) : goodC c = true := by
  rw [digC_iff] at h
  unfold goodC
  simp
  omega
theorem all_good {l : List UInt8} (h : l.all digC = true) : l.all goodC = true := List.all_eq_true.2 fun c hc => dig_good (List.all_eq_true.1 h c hc)
theorem word_of {l : List UInt8} (h : l ≠ []) (hg : l.all goodC = true) : wordB l = true := by
  unfold wordB
  rw [hg]
  cases l with
  | nil => exact absurd rfl h
  | cons _ _ => rfl
theorem dec_word {n : Int} (h : 0 ≤ n) : wordB (decI n) = true := by
  obtain ⟨m, rfl⟩ : ∃ m : Nat, n = (m : Int) := ⟨n.toNat, by omega⟩
  rw [decI_nat]
  exact word_of (decN_ne m) (all_good (decN_dig m))
theorem dec_len {n : Int} (h : 0 ≤ n) {k : Nat} (h' : n < 10 ^ (k + 1)) : (decI n).length ≤ k + 1 := by
  obtain ⟨m, rfl⟩ : ∃ m : Nat, n = (m : Int) := ⟨n.toNat, by omega⟩
  rw [decI_nat]
  exact decN_len_lt (by exact_mod_cast h')

/-! ### Lines -/
theorem lines_made {ls : List (List (List UInt8))} (h : ∀ l ∈ ls, l ≠ [] ∧ ∀ x ∈ l, wordB x = true) : linesD (linesT ls) = some ls := by
  induction ls with
  | nil => rfl
  | cons l r ih =>
    obtain ⟨h1, h2⟩ := h l (by simp)
    rw [linesT_cons]
    exact linesD_app (linesD_line h1 h2) (ih fun x hx => h x (by simp [hx]))
theorem join_fields : ∀ l : List UInt8, Lib.join (fields l) [32] = l := by
  intro l
  induction l with
  | nil => rfl
  | cons b r ih =>
    rw [fields]
    split
    · rename_i hb
      subst hb
      cases hf : fields r with
      | nil => exact absurd hf (fields_ne r)
      | cons f fs =>
        rw [hf] at ih
        rw [Lib.join_cons, joinTail_cons, ← Lib.join_cons, ih]
        rfl
    · cases hf : fields r with
      | nil => exact absurd hf (fields_ne r)
      | cons f fs =>
        rw [hf] at ih
        simp only
        rw [Lib.join_cons] at ih ⊢
        rw [List.cons_append, ih]
theorem chunks_flat : ∀ l : List UInt8, (chunks l).flatten = l := by
  intro l
  induction l with
  | nil => rfl
  | cons b r ih =>
    rw [chunks]
    split
    · simp [ih]
    · cases hf : chunks r with
      | nil => rw [hf] at ih; simp at ih; subst ih; rfl
      | cons f fs => rw [hf] at ih; simp at ih ⊢; exact ih
theorem last_ten {c : List UInt8} (h : lastT c = true) : c.dropLast ++ [10] = c := by
  rcases List.eq_nil_or_concat c with rfl | ⟨p, x, rfl⟩
  · cases h
  · unfold lastT at h
    simp at h
    subst h
    simp
theorem lines_back {t : List UInt8} {ls : List (List (List UInt8))} (h : linesD t = some ls) : linesT ls = t := by
  obtain ⟨h1, rfl⟩ := linesD_some h
  unfold linesT
  rw [List.map_map]
  have : (chunks t).map (lineT ∘ fun c => fields c.dropLast) = chunks t := by
    refine (List.map_congr_left fun c hc => ?_).trans (List.map_id _)
    have hl := List.all_eq_true.1 h1 c hc
    unfold lineB at hl
    rw [Bool.and_eq_true, suffix_last] at hl
    show lineT (fields c.dropLast) = c
    unfold lineT
    rw [join_fields, last_ten hl.1]
  rw [this, chunks_flat]
/-- A text of lines is empty, or its last byte is 10. -/
theorem lines_end {t : List UInt8} {ls : List (List (List UInt8))} (h : linesD t = some ls) : t = [] ∨ ∃ p, t = p ++ [10] := by
  rw [← lines_back h]
  rcases List.eq_nil_or_concat ls with rfl | ⟨p, l, rfl⟩
  · exact .inl rfl
  · refine .inr ⟨linesT p ++ Lib.join l [32], ?_⟩
    rw [List.concat_eq_append, linesT_app, linesT_cons, linesT_nil, List.append_nil, List.append_assoc]
    rfl
theorem lines_other {t : List UInt8} {c : UInt8} (hc : c ≠ 10) : linesD (t ++ [c]) = none := by
  cases h : linesD (t ++ [c]) with
  | none => rfl
  | some ls =>
    rcases lines_end h with e | ⟨p, e⟩
    · simp at e
    · have := congrArg List.getLast? e
      simp at this
      exact absurd this hc
theorem lines_twice {t : List UInt8} {ls : List (List (List UInt8))} (h : linesD t = some ls) : linesD (t ++ [10]) = none := by
  rw [← contD_lines] at h ⊢
  rw [contD_app h]
  rfl
/-- Without its last byte a text of lines is none, but for one of one byte. -/
theorem lines_less {t : List UInt8} {ls : List (List (List UInt8))} (h : linesD t = some ls) (h0 : t ≠ []) : linesD t.dropLast = none := by
  obtain ⟨p, rfl⟩ := (lines_end h).resolve_left h0
  rw [List.dropLast_concat]
  cases h1 : linesD p with
  | none => rfl
  | some l => rw [lines_twice h1] at h; cases h

/-! ### Sets' texts -/
theorem pat_ok {m : Nat} (h : 1 ≤ m) (h' : m ≤ 64) (p : Int) : (patW (m : Int) p).length = m ∧ okB (patW (m : Int) p) = true := by
  refine ⟨?_, textB_ok h h'⟩
  unfold patW
  rw [textB_list h h', List.length_map, textI_len]
theorem sign_good {l : List UInt8} (h : okB l = true) : l.all goodC = true := by
  refine List.all_eq_true.2 fun c hc => ?_
  have := List.all_eq_true.1 h c hc
  simp at this
  rcases this with rfl | rfl <;> rfl
theorem pat_word {m : Nat} (h : 1 ≤ m) (h' : m ≤ 64) (p : Int) : wordB (patW (m : Int) p) = true := by
  obtain ⟨h1, h2⟩ := pat_ok h h' p
  exact word_of (fun e => by rw [e] at h1; simp at h1; omega) (sign_good h2)
theorem nextI_none {p : Nat} {d : Int} (h : nextI p d < 0) {j : Nat} (hj : j < 64) (hd : d ≤ (j : Int)) : p.testBit j = false := by
  cases e : p.testBit j with
  | false => rfl
  | true =>
    have hm : (j : Int) ∈ allI p := mem_upTo.2 ⟨by omega, by omega, by rw [Int.toNat_natCast]; exact e⟩
    unfold nextI at h
    cases hf : (allI p).find? (fun x => decide (d ≤ x)) with
    | none => exact absurd hd (by simpa using List.find?_eq_none.1 hf _ hm)
    | some z =>
      rw [hf] at h
      have := (mem_upTo.1 (List.mem_of_find?_eq_some hf)).1
      exact absurd h (by show ¬ z < 0; omega)
theorem pat_read {m : Nat} (h : 1 ≤ m) (h' : m ≤ 64) {p : Int} (hp : 0 ≤ p ∧ p ≤ 18446744073709551615) (ht : nextI p.toNat (m : Int) < 0) : parseV (patW (m : Int) p) = (p.toNat, 0) := by
  obtain ⟨x, h1, h2, h3⟩ := parse_text (s := p.toNat) h h'
  unfold patW
  rw [h1]
  congr 1
  refine eq_bits h2 (by omega) fun j hj => ?_
  have h4 := h3 j hj
  unfold hasB at h4
  rw [decide_eq_true (show 0 ≤ (j : Int) ∧ (j : Int) ≤ 63 by omega), Bool.true_and, Bool.true_and, Int.toNat_natCast] at h4
  rw [h4]
  by_cases hm : j < m
  · rw [decide_eq_true (by omega), Bool.true_and]
  · rw [nextI_none ht hj (by omega), Bool.and_false]
theorem pat_back {m : Nat} (h : 1 ≤ m) (h' : m ≤ 64) {w : List UInt8} (hw : w.length = m) (ho : (parseV w).2 ≠ 2) : patW (m : Int) ((parseV w).1 : Int) = w ∧ (parseV w).2 = 0 := by
  have hn : w ≠ [] := fun e => by rw [e] at hw; simp at hw; omega
  have hok : okB w = true := by
    cases e : okB w with
    | true => rfl
    | false => exact absurd (by unfold parseV; rw [if_pos (.inr e)]) ho
  have hv : parseV w = (num2 (bitsT w), 0) := by
    unfold parseV
    rw [if_neg (not_or.2 ⟨hn, by rw [hok]; decide⟩), if_neg (by omega)]
  rw [hv]
  refine ⟨?_, rfl⟩
  unfold patW
  rw [Int.toNat_natCast, textB_list h h']
  refine List.ext_getElem (by rw [List.length_map, textI_len, hw]) fun j h1 h2 => ?_
  rw [List.getElem_map]
  unfold textI
  rw [List.getElem_map, List.getElem_range, num2_bit]
  have hb : (bitsT w).getD j 0 = ((w[j]).toNat : Int) - 48 := by
    unfold bitsT
    rw [List.getD_eq_getElem?_getD, List.getElem?_map, List.getElem?_eq_getElem h2]
    rfl
  rw [hb]
  have hc := List.all_eq_true.1 hok _ (List.getElem_mem h2)
  simp at hc
  rcases hc with e | e <;> rw [e] <;> rfl
end Go.Proofs.YtliomhkgkabbbaaGreatDoor
end
