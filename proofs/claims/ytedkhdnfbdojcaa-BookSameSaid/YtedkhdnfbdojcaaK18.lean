import Derived.Test.YtedkhdnfbdojcaaK02
import Derived.Test.YtedkhdnfbdojcaaK05
section
/- A plan's text, as lists of bytes; nothing of the program. -/
namespace Go.Proofs.Ytedkhdnfbdojcaa
open Go.RowKit
set_option linter.unusedVariables false
def wPlan : List UInt8 := [112, 108, 97, 110]
def wDay : List UInt8 := [100, 97, 121]
def wTour : List UInt8 := [116, 111, 117, 114]
def stopW (s : StopD) : List (List UInt8) := [decI s.1, decI s.2]
def tourW (t : TourD) : List (List UInt8) := wTour :: decI t.length :: t.flatMap stopW
def dayT (d : DayD) : List UInt8 := lineT [wDay, decI d.length] ++ linesT (d.map tourW)
def planT (p : PlanD) : List UInt8 := lineT [wPlan, decI p.length] ++ p.flatMap dayT
/-- It may be told. -/
def okS (s : StopD) : Bool := decide (0 ≤ s.1) && (decide (0 ≤ s.2) && (decide (s.1 ≤ 1000000000000000000) && decide (s.2 ≤ 1000000000000000000)))
def okT (t : TourD) : Bool := t.all okS
def okD (d : DayD) : Bool := d.all okT
def okPl (p : PlanD) : Bool := p.all okD
/-- No list is long. -/
structure FewP (p : PlanD) : Prop where
  n : p.length ≤ 1000
  day : ∀ d ∈ p, d.length ≤ 1000
  tour : ∀ d ∈ p, ∀ t ∈ d, t.length ≤ 1000
theorem len_w {n : Nat} (h : n ≤ 1000) : W64 (n : Int) := ⟨by omega, by omega⟩
theorem tourW_len (t : TourD) : (tourW t).length = 2 + 2 * t.length := by
  have : ∀ l : TourD, (l.flatMap stopW).length = 2 * l.length := fun l => by
    induction l with
    | nil => rfl
    | cons a r ih => rw [List.flatMap_cons, List.length_append, ih, List.length_cons]; show 2 + _ = _; omega
  unfold tourW
  rw [List.length_cons, List.length_cons, this]
  omega
theorem tourW_mem {t : TourD} (hn : t.length ≤ 1000) (h : ∀ s ∈ t, W64 s.1 ∧ W64 s.2) : ∀ y ∈ tourW t, y.length ≤ 20 := fun y hy => by
  unfold tourW at hy
  rcases List.mem_cons.1 hy with rfl | hy
  · decide
  rcases List.mem_cons.1 hy with rfl | hy
  · exact decI_bd (len_w hn)
  obtain ⟨s, hs, hy⟩ := List.mem_flatMap.1 hy
  obtain ⟨h1, h2⟩ := h s hs
  simp only [stopW, List.mem_cons, List.not_mem_nil, or_false] at hy
  rcases hy with rfl | rfl
  · exact decI_bd h1
  · exact decI_bd h2
theorem tour_bd {t : TourD} (hn : t.length ≤ 1000) (h : ∀ s ∈ t, W64 s.1 ∧ W64 s.2) : (lineT (tourW t)).length ≤ 42042 := by
  have h1 := lineT_bdK (K := 20) (ws := tourW t) (by simp [tourW]) (tourW_mem hn h)
  rw [tourW_len] at h1
  omega
theorem two_bd {a : List UInt8} (ha : a.length ≤ 20) {n : Nat} (hn : n ≤ 1000) : (lineT [a, decI (n : Int)]).length ≤ 42 := by
  have := lineT_bdK (K := 20) (ws := [a, decI (n : Int)]) (by simp) (fun y hy => by
    simp only [List.mem_cons, List.not_mem_nil, or_false] at hy
    rcases hy with rfl | rfl
    · exact ha
    · exact decI_bd (len_w hn))
  simpa using this
theorem tours_bd {d : DayD} (hn : d.length ≤ 1000) (ht : ∀ t ∈ d, t.length ≤ 1000) (h : ∀ t ∈ d, ∀ s ∈ t, W64 s.1 ∧ W64 s.2) (m : Nat) : (linesT ((d.take m).map tourW)).length ≤ 42042000 := by
  have h1 := linesT_bd (K := 42042) (ls := (d.take m).map tourW) (fun l hl => by
    obtain ⟨t, hm, rfl⟩ := List.mem_map.1 hl
    exact tour_bd (ht t (List.mem_of_mem_take hm)) (h t (List.mem_of_mem_take hm)))
  rw [List.length_map, List.length_take] at h1
  have : 42042 * min m d.length ≤ 42042 * 1000 := Nat.mul_le_mul_left _ (by omega)
  omega
theorem day_bd {d : DayD} (hn : d.length ≤ 1000) (ht : ∀ t ∈ d, t.length ≤ 1000) (h : ∀ t ∈ d, ∀ s ∈ t, W64 s.1 ∧ W64 s.2) : (dayT d).length ≤ 42042042 := by
  have h1 := tours_bd hn ht h d.length
  rw [List.take_length] at h1
  have h2 := two_bd (a := wDay) (by decide) hn
  unfold dayT
  rw [List.length_append]
  omega
theorem days_bd {p : PlanD} (hw : WfP p) (hf : FewP p) (j : Nat) : ((p.take j).flatMap dayT).length ≤ 42042042000 := by
  have h1 := flat_bd (K := 42042042) (f := dayT) (l := p.take j) (fun d hd => day_bd (hf.day d (List.mem_of_mem_take hd)) (hf.tour d (List.mem_of_mem_take hd)) (hw.stop d (List.mem_of_mem_take hd)))
  rw [List.length_take] at h1
  have := hf.n
  have : 42042042 * min j p.length ≤ 42042042 * 1000 := Nat.mul_le_mul_left _ (by omega)
  omega
theorem join_le (L : List UInt8) (ws : List (List UInt8)) : (L ++ Lib.join ws [32]).length ≤ L.length + (lineT ws).length := by
  unfold lineT
  rw [List.length_append, List.length_append]
  omega
theorem part_bd {t : TourD} (hn : t.length ≤ 1000) (h : ∀ s ∈ t, W64 s.1 ∧ W64 s.2) (i : Nat) : (lineT (wTour :: decI (t.length : Int) :: (t.take i).flatMap stopW)).length ≤ 42042 := by
  have h1 := lineT_bdK (K := 20) (ws := wTour :: decI (t.length : Int) :: (t.take i).flatMap stopW) (by simp) (fun y hy => tourW_mem hn h y (by
    unfold tourW
    simp only [List.mem_cons, List.mem_flatMap] at hy ⊢
    rcases hy with h | h | ⟨q, hq, h⟩
    · exact .inl h
    · exact .inr (.inl h)
    · exact .inr (.inr ⟨q, List.mem_of_mem_take hq, h⟩)))
  have h2 := tourW_len (t.take i)
  unfold tourW at h2
  rw [List.length_cons, List.length_cons] at h2
  rw [List.length_cons, List.length_cons] at h1
  have h3 : (t.take i).length ≤ 1000 := by rw [List.length_take]; omega
  have : (20 + 1) * (((t.take i).flatMap stopW).length + 1 + 1) ≤ 21 * 2002 := Nat.mul_le_mul_left _ (by omega)
  omega
/-! ### Texts that are joined by + -/
theorem plan_head (a : List UInt8) : ((⟨#[112, 108, 97, 110, 32]⟩ : ByteArray) ++ strL a) ++ ⟨#[10]⟩ = strL (lineT [wPlan, a]) := by
  show (strL [112, 108, 97, 110, 32] ++ strL a) ++ strL [10] = _
  simp only [strL_cat]
  refine congrArg strL ?_
  simp [lineT, Lib.join_cons, Lib.joinTail, wPlan]
theorem day_head (L a : List UInt8) : ((strL L ++ ⟨#[100, 97, 121, 32]⟩) ++ strL a) ++ ⟨#[10]⟩ = strL (L ++ lineT [wDay, a]) := by
  show ((strL L ++ strL [100, 97, 121, 32]) ++ strL a) ++ strL [10] = _
  simp only [strL_cat]
  refine congrArg strL ?_
  simp [lineT, Lib.join_cons, Lib.joinTail, wDay]
theorem tour_head (L a : List UInt8) : (strL L ++ ⟨#[116, 111, 117, 114, 32]⟩) ++ strL a = strL (L ++ Lib.join [wTour, a] [32]) := by
  show (strL L ++ strL [116, 111, 117, 114, 32]) ++ strL a = _
  simp only [strL_cat]
  refine congrArg strL ?_
  simp [Lib.join_cons, Lib.joinTail, wTour]
end Go.Proofs.Ytedkhdnfbdojcaa
end
