import Derived.Test.YtedkhdnfbdojcaaDoorK02
import Derived.Test.YtedkhdnfbdojcaaDoorK05
section
/- A plan's text, as lists of bytes; nothing of the program. -/
namespace Go.Proofs.YtedkhdnfbdojcaaDoor
open Go.RowKit
set_option linter.unusedVariables false
def wPlan : List UInt8 := [112, 108, 97, 110]
def wDay : List UInt8 := [100, 97, 121]
def wTour : List UInt8 := [116, 111, 117, 114]
def stopW (s : StopD) : List (List UInt8) := [decI s.1, decI s.2]
def tourW (t : TourD) : List (List UInt8) := wTour :: decI t.length :: t.flatMap stopW
def dayT (d : DayD) : List UInt8 := lineT [wDay, decI d.length] ++ linesT (d.map tourW)
def planT (p : PlanD) : List UInt8 := lineT [wPlan, decI p.length] ++ p.flatMap dayT
/-- It may be told. -/
def okS (s : StopD) : Bool := decide (0 ≤ s.1) && (decide (0 ≤ s.2) && (decide (s.1 ≤ 1000000000000000000) && decide (s.2 ≤ 1000000000000000000)))
def okT (t : TourD) : Bool := t.all okS
def okD (d : DayD) : Bool := d.all okT
def okPl (p : PlanD) : Bool := p.all okD
/-- No list is long. -/
structure FewP (p : PlanD) : Prop where
  n : p.length ≤ 1000
  day : ∀ d ∈ p, d.length ≤ 1000
  tour : ∀ d ∈ p, ∀ t ∈ d, t.length ≤ 1000
theorem len_w {n : Nat} (h : n ≤ 1000) : W64 (n : Int) := ⟨by omega, by omega⟩
theorem tourW_len (t : TourD) : (tourW t).length = 2 + 2 * t.length := by
  have : ∀ l : TourD, (l.flatMap stopW).length = 2 * l.length := fun l => by
    induction l with
    | nil => rfl
    | cons a r ih => rw [List.flatMap_cons, List.length_append, ih, List.length_cons]; show 2 + _ = _; omega
  unfold tourW
  rw [List.length_cons, List.length_cons, this]
  omega
theorem tourW_mem {t : TourD} (hn : t.length ≤ 1000) (h : ∀ s ∈ t, W64 s.1 ∧ W64 s.2) : ∀ y ∈ tourW t, y.length ≤ 20 := fun y hy => by
  unfold tourW at hy
  rcases List.mem_cons.1 hy with rfl | hy
  · decide
  rcases List.mem_cons.1 hy with rfl | hy
  · exact decI_bd (len_w hn)
  obtain ⟨s, hs, hy⟩ := List.mem_flatMap.1 hy
  obtain ⟨h1, h2⟩ := h s hs
  simp only [stopW, List.mem_cons, List.not_mem_nil, or_false] at hy
  rcases hy with rfl | rfl
  · exact decI_bd h1
  · exact decI_bd h2
theorem tour_bd {t : TourD} (hn : t.length ≤ 1000) (h : ∀ s ∈ t, W64 s.1 ∧ W64 s.2) : (lineT (tourW t)).length ≤ 42042 := by
  have h1 := lineT_bdK (K := 20) (ws := tourW t) (by simp [tourW]) (tourW_mem hn h)
  rw [tourW_len] at h1
  omega
theorem two_bd {a : List UInt8} (ha : a.length ≤ 20) {n : Nat} (hn : n ≤ 1000) : (lineT [a, decI (n : Int)]).length ≤ 42 := by
  have := lineT_bdK (K := 20) (ws := [a, decI (n : Int)]) (by simp) (fun y hy => by
    simp only [List.mem_cons, List.not_mem_nil, or_false] at hy
    rcases hy with rfl | rfl
    · exact ha
    · exact decI_bd (len_w hn))
  simpa using this
theorem tours_bd {d : DayD} (hn : d.length ≤ 1000) (ht : ∀ t ∈ d, t.length ≤ 1000) (h : ∀ t ∈ d, ∀ s ∈ t, W64 s.1 ∧ W64 s.2) (m : Nat) : (linesT ((d.take m).map tourW)).length ≤ 42042000 := by
  have h1 := linesT_bd (K := 42042) (ls := (d.take m).map tourW) (fun l hl => by
    obtain ⟨t, hm, rfl⟩ := List.mem_map.1 hl
    exact tour_bd (ht t (List.mem_of_mem_take hm)) (h t (List.mem_of_mem_take hm)))
  rw [List.length_map, List.length_take] at h1
  have : 42042 * min m d.length ≤ 42042 * 1000 := Nat.mul_le_mul_left _ (by omega)
  omega
theorem day_bd {d : DayD} (hn : d.length ≤ 1000) (ht : ∀ t ∈ d, t.length ≤ 1000) (h : ∀ t ∈ d, ∀ s ∈ t, W64 s.1 ∧ W64 s.2) : (dayT d).length ≤ 42042042 := by
  have h1 := tours_bd hn ht h d.length
  rw [List.take_length] at h1
  have h2 := two_bd (a := wDay) (by decide) hn
  unfold dayT
  rw [List.length_append]
  omega
theorem days_bd {p : PlanD} (hw : WfP p) (hf : FewP p) (j : Nat) : ((p.take j).flatMap dayT).length ≤ 42042042000 := by
  have h1 := flat_bd (K := 42042042) (f := dayT) (l := p.take j) (fun d hd => day_bd (hf.day d (List.mem_of_mem_take hd)) (hf.tour d (List.mem_of_mem_take hd)) (hw.stop d (List.mem_of_mem_take hd)))
  rw [List.length_take] at h1
  have := hf.n
  have : 42042042 * min j p.length ≤ 42042042 * 1000 := Nat.mul_le_mul_left _ (by omega)
  omega
theorem join_le (L : List UInt8) (ws : List (List UInt8)) : (L ++ Lib.join ws [32]).length ≤ L.length + (lineT ws).length := by
  unfold lineT
  rw [List.length_append, List.length_append]
  omega
theorem part_bd {t : TourD} (hn : t.length ≤ 1000) (h : ∀ s ∈ t, W64 s.1 ∧ W64 s.2) (i : Nat) : (lineT (wTour :: decI (t.length : Int) :: (t.take i).flatMap stopW)).length ≤ 42042 := by
  have h1 := lineT_bdK (K := 20) (ws := wTour :: decI (t.length : Int) :: (t.take i).flatMap stopW) (by simp) (fun y hy => tourW_mem hn h y (by
    unfold tourW
    simp only [List.mem_cons, List.mem_flatMap] at hy ⊢
    rcases hy with h | h | ⟨q, hq, h⟩
    · exact .inl h
    · exact .inr (.inl h)
    · exact .inr (.inr ⟨q, List.mem_of_mem_take hq, h⟩)))
  have h2 := tourW_len (t.take i)
  unfold tourW at h2
  rw [List.length_cons, List.length_cons] at h2
  rw [List.length_cons, List.length_cons] at h1
  have h3 : (t.take i).length ≤ 1000 := by rw [List.length_take]; omega
  have : (20 + 1) * (((t.take i).flatMap stopW).length + 1 + 1) ≤ 21 * 2002 := Nat.mul_le_mul_left _ (by omega)
  omega
/-! ### Texts that are joined by + -/
theorem plan_head (a : List UInt8) : ((⟨#[112, 108, 97, 110, 32]⟩ : ByteArray) ++ strL a) ++ ⟨#[10]⟩ = strL (lineT [wPlan, a]) := by
  show (strL [112, 108, 97, 110, 32] ++ strL a) ++ strL [10] = _
  simp only [strL_cat]
  refine congrArg strL ?_
  simp [lineT, Lib.join_cons, Lib.joinTail, wPlan]
theorem day_head (L a : List UInt8) : ((strL L ++ ⟨#[100, 97, 121, 32]⟩) ++ strL a) ++ ⟨#[10]⟩ = strL (L ++ lineT [wDay, a]) := by
  show ((strL L ++ strL [100, 97, 121, 32]) ++ strL a) ++ strL [10] = _
  simp only [strL_cat]
  refine congrArg strL ?_
  simp [lineT, Lib.join_cons, Lib.joinTail, wDay]
theorem tour_head (L a : List UInt8) : (strL L ++ ⟨#[116, 111, 117, 114, 32]⟩) ++ strL a = strL (L ++ Lib.join [wTour, a] [32]) := by
  show (strL L ++ strL [116, 111, 117, 114, 32]) ++ strL a = _
  simp only [strL_cat]
  refine congrArg strL ?_
  simp [Lib.join_cons, Lib.joinTail, wTour]
end Go.Proofs.YtedkhdnfbdojcaaDoor
end
section
/- A plan's lines, as lists of words: what a plan's text is read as; nothing of the program. -/
namespace Go.Proofs.YtedkhdnfbdojcaaDoor
open Go.RowKit
set_option linter.unusedVariables false
def dayW (d : DayD) : List (List (List UInt8)) := [wDay, decI d.length] :: d.map tourW
def planW (p : PlanD) : List (List (List UInt8)) := [wPlan, decI p.length] :: p.flatMap dayW
theorem linesT_flat {α : Type} (f : α → List (List (List UInt8))) : ∀ l : List α, linesT (l.flatMap f) = l.flatMap fun a => linesT (f a)
  | [] => rfl
  | a :: r => by rw [List.flatMap_cons, linesT_app, linesT_flat f r, List.flatMap_cons]
theorem planW_text (p : PlanD) : linesT (planW p) = planT p := by
  unfold planW planT
  rw [linesT_cons, linesT_flat]
  rfl
/-- How many lines the first days have. -/
def daysN (p : PlanD) : Nat := (p.map fun d => 1 + d.length).sum
theorem daysN_succ {p : PlanD} {j : Nat} (h : j < p.length) : daysN (p.take (j + 1)) = daysN (p.take j) + (1 + p[j].length) := by
  unfold daysN
  rw [List.take_succ_eq_append_getElem h, List.map_append, List.sum_append]
  simp
theorem days_len (p : PlanD) : (p.flatMap dayW).length = daysN p := by
  induction p with
  | nil => rfl
  | cons d r ih =>
    rw [List.flatMap_cons, List.length_append, ih]
    unfold daysN
    rw [List.map_cons, List.sum_cons]
    unfold dayW
    rw [List.length_cons, List.length_map]
    omega
theorem planW_len (p : PlanD) : (planW p).length = 1 + daysN p := by
  unfold planW
  rw [List.length_cons, days_len]
  omega
/-- The lines of day j begin behind those of the days before. -/
theorem planW_day {p : PlanD} {j : Nat} (h : j < p.length) : ∃ rest, planW p = ([wPlan, decI p.length] :: (p.take j).flatMap dayW) ++ (dayW p[j] ++ rest) := by
  refine ⟨(p.drop (j + 1)).flatMap dayW, ?_⟩
  have e : p.flatMap dayW = (p.take j).flatMap dayW ++ (dayW p[j] ++ (p.drop (j + 1)).flatMap dayW) := by
    have e1 : p = p.take j ++ p[j] :: p.drop (j + 1) := by rw [List.getElem_cons_drop, List.take_append_drop]
    have := congrArg (List.flatMap dayW) e1
    rw [List.flatMap_append, List.flatMap_cons] at this
    exact this
  unfold planW
  rw [e]
  rfl
theorem planW_head {p : PlanD} {j : Nat} (h : j < p.length) : (planW p)[1 + daysN (p.take j)]? = some [wDay, decI p[j].length] := by
  obtain ⟨rest, e⟩ := planW_day h
  have hl : ([wPlan, decI (p.length : Int)] :: (p.take j).flatMap dayW).length = 1 + daysN (p.take j) := by rw [List.length_cons, days_len]; omega
  rw [e, ← hl, List.getElem?_append_right (Nat.le_refl _), Nat.sub_self]
  rfl
theorem planW_tour {p : PlanD} {j m : Nat} (h : j < p.length) (hm : m < p[j].length) : (planW p)[1 + daysN (p.take j) + (1 + m)]? = some (tourW p[j][m]) := by
  obtain ⟨rest, e⟩ := planW_day h
  have hl : ([wPlan, decI (p.length : Int)] :: (p.take j).flatMap dayW).length = 1 + daysN (p.take j) := by rw [List.length_cons, days_len]; omega
  rw [e, ← hl, List.getElem?_append_right (Nat.le_add_right _ _), Nat.add_sub_cancel_left]
  unfold dayW
  rw [List.cons_append, Nat.add_comm 1 m, List.getElem?_cons_succ, List.getElem?_append_left (by rw [List.length_map]; exact hm), List.getElem?_map, List.getElem?_eq_getElem hm]
  rfl
theorem tour_words {t : TourD} (h : okT t = true) : ∀ x ∈ tourW t, wordB x = true := fun x hx => by
  unfold tourW at hx
  rcases List.mem_cons.1 hx with rfl | hx
  · rfl
  rcases List.mem_cons.1 hx with rfl | hx
  · exact dec_word (by omega)
  obtain ⟨s, hs, hx⟩ := List.mem_flatMap.1 hx
  have hk := List.all_eq_true.1 h s hs
  unfold okS at hk
  simp only [Bool.and_eq_true, decide_eq_true_eq] at hk
  simp only [stopW, List.mem_cons, List.not_mem_nil, or_false] at hx
  rcases hx with rfl | rfl
  · exact dec_word hk.1
  · exact dec_word hk.2.1
theorem plan_lines {p : PlanD} (h : okPl p = true) : linesD (planT p) = some (planW p) := by
  rw [← planW_text]
  refine lines_made fun l hl => ?_
  unfold planW at hl
  have two : ∀ (w : List UInt8) (n : Nat), wordB w = true → ∀ x ∈ [w, decI (n : Int)], wordB x = true := fun w n hw x hx => by
    simp only [List.mem_cons, List.not_mem_nil, or_false] at hx
    rcases hx with rfl | rfl
    · exact hw
    · exact dec_word (by omega)
  rcases List.mem_cons.1 hl with rfl | hl
  · exact ⟨by simp, two _ _ rfl⟩
  obtain ⟨d, hd, hl⟩ := List.mem_flatMap.1 hl
  have hod := List.all_eq_true.1 h d hd
  unfold dayW at hl
  rcases List.mem_cons.1 hl with rfl | hl
  · exact ⟨by simp, two _ _ rfl⟩
  obtain ⟨t, ht, rfl⟩ := List.mem_map.1 hl
  exact ⟨by simp [tourW], tour_words (List.all_eq_true.1 hod t ht)⟩
theorem flat_same {α β : Type} {f g : α → List β} {l : List α} (h : ∀ a ∈ l, f a = g a) : l.flatMap f = l.flatMap g := by rw [List.flatMap_def, List.flatMap_def, List.map_congr_left h]
/-- A tour's numbers, as they are read. -/
theorem tour_read {t : TourD} (hn : t.length ≤ 1000) (h : okT t = true) : ((tourW t).tail.map strL).all (fun x => decB x.data.toList) = true ∧ (((tourW t).tail.map strL).map fun x => numV x.data.toList) = ((t.length : Int) :: t.flatMap fun s => [s.1, s.2]) := by
  have hd := fun (n : Int) h0 h1 => dec_num (n := n) h0 h1
  have hs : ∀ s ∈ t, 0 ≤ s.1 ∧ 0 ≤ s.2 ∧ s.1 ≤ 1000000000000000000 ∧ s.2 ≤ 1000000000000000000 := fun s hs => by
    have hk := List.all_eq_true.1 h s hs
    unfold okS at hk
    simpa only [Bool.and_eq_true, decide_eq_true_eq] using hk
  have hL : (tourW t).tail = decI (t.length : Int) :: t.flatMap stopW := rfl
  have hin : ∀ x ∈ decI (t.length : Int) :: t.flatMap stopW, decB x = true := fun x hx => by
    rcases List.mem_cons.1 hx with rfl | hx
    · exact (hd _ (by omega) (by omega)).1
    · obtain ⟨s, hm, hx⟩ := List.mem_flatMap.1 hx
      obtain ⟨a, b, c, d⟩ := hs s hm
      simp only [stopW, List.mem_cons, List.not_mem_nil, or_false] at hx
      rcases hx with rfl | rfl
      · exact (hd _ a c).1
      · exact (hd _ b d).1
  rw [hL]
  refine ⟨List.all_eq_true.2 fun x hx => ?_, ?_⟩
  · obtain ⟨y, hy, rfl⟩ := List.mem_map.1 hx
    rw [strL_list]
    exact hin y hy
  · rw [List.map_map, List.map_cons]
    have e0 : ((fun x : ByteArray => numV x.data.toList) ∘ strL) (decI (t.length : Int)) = (t.length : Int) := by
      show numV (strL _).data.toList = _
      rw [strL_list]
      exact (hd _ (by omega) (by omega)).2
    rw [e0, List.map_flatMap]
    congr 1
    refine flat_same fun s hm => ?_
    obtain ⟨a, b, c, d⟩ := hs s hm
    show [numV (strL (decI s.1)).data.toList, numV (strL (decI s.2)).data.toList] = _
    rw [strL_list, strL_list, (hd _ a c).2, (hd _ b d).2]
end Go.Proofs.YtedkhdnfbdojcaaDoor
end
