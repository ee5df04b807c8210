/- Go's symMerge, walked. -/
import Derived.Test.YtgpnpopmlommaaaSortSymB
namespace Go.Proofs.Ytgpnpopmlommaaa
open Go.RowKit
set_option linter.unusedVariables false
/-- Where the cut lies. -/
structure CutAt (K : Int → Int) (d : Nat → Int) (a m b mid s en : Nat) : Prop where
  ale : a ≤ s
  sm : s ≤ m
  smid : s ≤ mid
  amid : a ≤ mid
  midb : mid ≤ b
  sum : en + s = mid + m
  enb : en ≤ b
  lo : a < s → en < b → ¬ K (d en) < K (d (s - 1))
  hi : s < m → m < en → K (d (en - 1)) < K (d s)
section
variable {w : World} {D C bx : Nat} {A : Option Addr} {n c : Nat} {xs : List Int} {d : Nat → Int} {a b m mid s en : Nat}
def Mid1 (w : World) (D C bx : Nat) (A : Option Addr) (n c : Nat) (xs : List Int) (e : Nat → Int) (w1 : World) : Prop := SortIs w1 D C bx A n c xs e ∧ Only [D] w w1
def Mid2 (w : World) (D C bx : Nat) (A : Option Addr) (n c : Nat) (xs : List Int) (e : Nat → Int) (a mid : Nat) (w2 : World) : Prop := ∃ e1, SortIs w2 D C bx A n c xs e1 ∧ Moved a mid e e1 ∧ SortedOn (keyOfI xs) e1 a mid ∧ Only [D] w w2
/-- What the recursion may be asked. -/
def SymOk (D C bx : Nat) (A : Option Addr) (n c : Nat) (xs : List Int) (t : Nat) : Prop :=
  ∀ (w : World) (d : Nat → Int) (a m b : Nat), b - a ≤ t → SortIs w D C bx A n c xs d → MergeIn (keyOfI xs) d a m b → a < m → m < b → b ≤ n →
    Calls Try.prog 46 #[.slice (some ⟨D, 0, none⟩) n C, .int .i64 a, .int .i64 m, .int .i64 b, cmpV bx] w fun e w' => e = .returned (.tuple #[]) ∧ Sorted1 w D C bx A n c xs d a b w'
theorem mid1_yes {wr : World} (hc : CutAt (keyOfI xs) d a m b mid s en) (hS : SortIs wr D C bx A n c xs d) (hO : Only [D] w wr) (hb : b ≤ n) (h1 : s < m) (h2 : m < en) :
    Calls Try.prog 47 #[.slice (some ⟨D, 0, none⟩) n C, .int .i64 s, .int .i64 m, .int .i64 en, cmpV bx] wr fun e w' => e = .returned (.tuple #[]) ∧ Mid1 w D C bx A n c xs (rot d s m en) w' :=
  (rotate_any hS h1 h2 (by have := hc.enb; omega)).mono fun _ _ ⟨e1, g1, g2⟩ => ⟨e1, g1, hO.trans' g2⟩
theorem mid1_no {wr : World} (hc : CutAt (keyOfI xs) d a m b mid s en) (hS : SortIs wr D C bx A n c xs d) (hO : Only [D] w wr) (h : s = m ∨ m = en) : Mid1 w D C bx A n c xs (rot d s m en) wr := by
  rw [rot_none hc.sm (by have := hc.sum; have := hc.smid; omega) h]
  exact ⟨hS, hO⟩
theorem mid2_yes {t : Nat} (hR : SymOk D C bx A n c xs t) (hM : MergeIn (keyOfI xs) d a m b) (hc : CutAt (keyOfI xs) d a m b mid s en) (hb : b ≤ n) (ht : mid - a ≤ t) (h1 : a < s) (h2 : s < mid) :
    ∀ w1, Mid1 w D C bx A n c xs (rot d s m en) w1 → Calls Try.prog 46 #[.slice (some ⟨D, 0, none⟩) n C, .int .i64 a, .int .i64 s, .int .i64 mid, cmpV bx] w1 fun e w' => e = .returned (.tuple #[]) ∧ Mid2 w D C bx A n c xs (rot d s m en) a mid w' := by
  intro w1 ⟨g1, g2⟩
  have hl := sym_left (s := s) (en := en) (mid := mid) hM hc.ale hc.sm (by have := hc.sum; have := hc.smid; omega) hc.enb (by have := hc.sum; have := hc.smid; omega)
  refine (hR w1 _ a s mid ht g1 hl h1 h2 (by have := hc.midb; omega)).mono ?_
  rintro e w' ⟨rfl, e1, k1, k2, k3, k4⟩
  exact ⟨rfl, e1, k1, k2, k3, g2.trans' k4⟩
theorem mid2_no (hM : MergeIn (keyOfI xs) d a m b) (hc : CutAt (keyOfI xs) d a m b mid s en) (h : s = a ∨ s = mid) : ∀ w1, Mid1 w D C bx A n c xs (rot d s m en) w1 → Mid2 w D C bx A n c xs (rot d s m en) a mid w1 := by
  intro w1 ⟨g1, g2⟩
  have hl := sym_left (s := s) (en := en) (mid := mid) hM hc.ale hc.sm (by have := hc.sum; have := hc.smid; omega) hc.enb (by have := hc.sum; have := hc.smid; omega)
  refine ⟨_, g1, Moved.refl _ _ _, ?_, g2⟩
  rcases h with rfl | rfl
  · exact hl.2.1
  · exact hl.1
theorem sym_done {e1 f : Nat → Int} {w' : World} (hM : MergeIn (keyOfI xs) d a m b) (hc : CutAt (keyOfI xs) d a m b mid s en) (k1 : Moved a mid (rot d s m en) e1) (k2 : SortedOn (keyOfI xs) e1 a mid) (k3 : Moved mid b e1 f) (k4 : SortedOn (keyOfI xs) f mid b) (k5 : SortIs w' D C bx A n c xs f) (k6 : Only [D] w w') : Sorted1 w D C bx A n c xs d a b w' := by
  have hx := sym_cross (s := s) (en := en) (mid := mid) hM hc.ale hc.sm (by have := hc.sum; have := hc.smid; omega) hc.enb (by have := hc.sum; have := hc.smid; omega) hc.lo hc.hi
  have hv : Moved a b d (rot d s m en) := (rot_moved hc.sm (by have := hc.sum; have := hc.smid; omega)).wide hc.ale hc.enb
  exact ⟨f, k5, (hv.trans (k1.wide (Nat.le_refl _) hc.midb)).trans (k3.wide hc.amid (Nat.le_refl _)), sym_end hx k1 k3 k2 k4 hc.amid hc.midb, k6⟩
theorem sorted_cong {K : Int → Int} {e f : Nat → Int} {l r : Nat} (h : SortedOn K e l r) (he : ∀ k, l ≤ k → k < r → f k = e k) : SortedOn K f l r := by
  intro i j h1 h2 h3
  rw [he i h1 (by omega), he j (by omega) h3]
  exact h i j h1 h2 h3
theorem mid3_yes {t : Nat} (hR : SymOk D C bx A n c xs t) (hM : MergeIn (keyOfI xs) d a m b) (hc : CutAt (keyOfI xs) d a m b mid s en) (hb : b ≤ n) (ht : b - mid ≤ t) (h1 : mid < en) (h2 : en < b) :
    ∀ w2, Mid2 w D C bx A n c xs (rot d s m en) a mid w2 → Calls Try.prog 46 #[.slice (some ⟨D, 0, none⟩) n C, .int .i64 mid, .int .i64 en, .int .i64 b, cmpV bx] w2 fun e w' => e = .returned (.tuple #[]) ∧ Sorted1 w D C bx A n c xs d a b w' := by
  intro w2 ⟨e1, g1, g2, g3, g4⟩
  obtain ⟨r1, r2, r3⟩ := sym_right (s := s) (en := en) (mid := mid) hM hc.ale hc.sm (by have := hc.sum; have := hc.smid; omega) hc.enb (by have := hc.sum; have := hc.smid; omega)
  have he : ∀ k, mid ≤ k → k < b → e1 k = rot d s m en k := fun k k1 _ => g2.out k (.inr k1)
  have hr : MergeIn (keyOfI xs) e1 mid en b := ⟨sorted_cong r1 fun k k1 k2 => he k k1 (by omega), sorted_cong r2 fun k k1 k2 => he k (by omega) k2, fun i j i1 i2 j1 j2 => by rw [he i i1 (by omega), he j (by omega) j2]; exact r3 i j i1 i2 j1 j2⟩
  refine (hR w2 _ mid en b ht g1 hr h1 h2 hb).mono ?_
  rintro e w' ⟨rfl, f, k1, k2, k3, k4⟩
  exact ⟨rfl, sym_done hM hc g2 g3 k2 k3 k1 (g4.trans' k4)⟩
theorem mid3_no (hM : MergeIn (keyOfI xs) d a m b) (hc : CutAt (keyOfI xs) d a m b mid s en) (h : en = mid ∨ en = b) : ∀ w2, Mid2 w D C bx A n c xs (rot d s m en) a mid w2 → Sorted1 w D C bx A n c xs d a b w2 := by
  intro w2 ⟨e1, g1, g2, g3, g4⟩
  obtain ⟨r1, r2, r3⟩ := sym_right (s := s) (en := en) (mid := mid) hM hc.ale hc.sm (by have := hc.sum; have := hc.smid; omega) hc.enb (by have := hc.sum; have := hc.smid; omega)
  have he : ∀ k, mid ≤ k → k < b → e1 k = rot d s m en k := fun k k1 _ => g2.out k (.inr k1)
  refine sym_done hM hc g2 g3 (Moved.refl _ _ _) ?_ g1 g4
  rcases h with rfl | rfl
  · exact sorted_cong r2 he
  · exact sorted_cong r1 he
/-- How far the search for the cut has come. -/
def FindS (w : World) (D C bx : Nat) (A : Option Addr) (n c : Nat) (xs : List Int) (d : Nat → Int) (lo r0 pp : Nat) (i j : Value) (wr : World) : Prop :=
  ∃ p q : Nat, i = .int .i64 p ∧ j = .int .i64 q ∧ lo ≤ p ∧ p ≤ q ∧ q ≤ r0 ∧ (p = lo ∨ ¬ keyOfI xs (d (pp + 1 - p)) < keyOfI xs (d (p - 1))) ∧ (q = r0 ∨ keyOfI xs (d (pp - q)) < keyOfI xs (d q)) ∧ SortIs wr D C bx A n c xs d ∧ Only [D] w wr
end
end Go.Proofs.Ytgpnpopmlommaaa
