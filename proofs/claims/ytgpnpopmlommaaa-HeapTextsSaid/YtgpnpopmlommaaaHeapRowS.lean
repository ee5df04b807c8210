/- The row's methods. -/
import Derived.Test.YtgpnpopmlommaaaHeapMem
import Derived.BigRegion
import Derived.StillTailTactics
import Derived.Deep.RegionHeld3
namespace Go.Proofs.Ytgpnpopmlommaaa.Txt
open Go.RowKit Go.Maps
set_option linter.unusedVariables false
/-- How worths are ordered. -/
def LtS (a b : ByteArray) : Prop := Op.bytesLess a.toList b.toList = true
instance : DecidableRel LtS := fun a b => inferInstanceAs (Decidable (Op.bytesLess a.toList b.toList = true))
theorem bytes_ext {a b : ByteArray} (h : a.toList = b.toList) : a = b := by
  rw [ByteArray.toList_eq, ByteArray.toList_eq] at h
  exact ByteArray.ext (Array.toList_inj.1 h)
theorem less_irrefl : ∀ l : List UInt8, Op.bytesLess l l = false
  | [] => rfl
  | a :: l => by simp [Op.bytesLess, less_irrefl l]
theorem less_trans : ∀ {a b c : List UInt8}, Op.bytesLess a b = true → Op.bytesLess b c = true → Op.bytesLess a c = true
  | _, _, [], _, h => by cases h' : ‹List UInt8› <;> simp_all [Op.bytesLess]
  | [], _, _ :: _, _, _ => by simp [Op.bytesLess]
  | a :: x, [], c :: z, h, _ => by simp [Op.bytesLess] at h
  | a :: x, b :: y, c :: z, h, g => by
    simp only [Op.bytesLess, Bool.or_eq_true, decide_eq_true_eq, Bool.and_eq_true, beq_iff_eq] at h g ⊢
    rcases h with h | ⟨rfl, h⟩
    · rcases g with g | ⟨rfl, g⟩
      · exact .inl (UInt8.lt_trans h g)
      · exact .inl h
    · rcases g with g | ⟨rfl, g⟩
      · exact .inl g
      · exact .inr ⟨rfl, less_trans h g⟩
theorem less_total : ∀ a b : List UInt8, Op.bytesLess a b = true ∨ a = b ∨ Op.bytesLess b a = true
  | [], [] => .inr (.inl rfl)
  | [], _ :: _ => .inl rfl
  | _ :: _, [] => .inr (.inr rfl)
  | a :: x, b :: y => by
    simp only [Op.bytesLess, Bool.or_eq_true, decide_eq_true_eq, Bool.and_eq_true, beq_iff_eq, List.cons.injEq]
    rcases Nat.lt_trichotomy a.toNat b.toNat with h | h | h
    · exact .inl (.inl (UInt8.lt_iff_toNat_lt.2 h))
    · replace h := UInt8.toNat_inj.1 h
      rcases less_total x y with g | g | g
      · exact .inl (.inr ⟨h, g⟩)
      · exact .inr (.inl ⟨h, g⟩)
      · exact .inr (.inr (.inr ⟨h.symm, g⟩))
    · exact .inr (.inr (.inl (UInt8.lt_iff_toNat_lt.2 h)))
theorem order_I : Order LtS := ⟨fun a => by unfold LtS; rw [less_irrefl]; simp, fun a b c h g => less_trans h g, fun a b => by
  rcases less_total a.toList b.toList with h | h | h
  · exact .inl h
  · exact .inr (.inl (bytes_ext h))
  · exact .inr (.inr h)⟩
theorem before_I (x y : Thing ByteArray) (w : World) : Calls Try.prog 77 #[.agg #[.int .i64 x.1, .string x.2], .agg #[.int .i64 y.1, .string y.2]] w fun e w' =>
    e = .returned (.bool (decide (Bef LtS x y))) ∧ Below w.heap.size w w' := by
  obtain ⟨a, b⟩ := x
  obtain ⟨c, d⟩ := y
  by_cases h : b = d
  · subst h
    have e1 : decide (Bef LtS (a, b) (c, b)) = decide (a < c) := by unfold Bef LtS; simp [less_irrefl]
    rw [e1]
    clear e1
    go_enter Try.func77, Try.ntmps77
    go_wp2
    go_ret
    exact ⟨rfl, ((Below.refl _ _).alloc (Nat.le_refl _) _).alloc (by simp) _⟩
  · have e1 : decide (Bef LtS (a, b) (c, d)) = Op.bytesLess b.toList d.toList := by unfold Bef LtS; simp [h]
    rw [e1]
    clear e1
    have h' : (b.toList == d.toList) = false := by simpa using fun e => h (bytes_ext e)
    go_enter Try.func77, Try.ntmps77
    go_wp2
    go_ret
    exact ⟨rfl, ((Below.refl _ _).alloc (Nat.le_refl _) _).alloc (by simp) _⟩
abbrev HI (w : World) (g : Nat) (F : List Nat) (q : Nat → Thing ByteArray) (n : Nat) : Prop :=
  HeapIs (Value.string) (fun _ => True) 71 75 w g F q n
theorem len_I {w : World} {g : Nat} {F : List Nat} {q : Nat → Thing ByteArray} {n : Nat} (h : HI w g F q n) :
    Calls Try.prog 38 #[.pointer (some ⟨g, 0, none⟩)] w fun e w' => e = .returned (.int .i64 n) ∧ w = w' := by
  obtain ⟨s, m, G, f, hb, ht, hm, hp, rfl, hn, hw⟩ := h
  have c0 := hb.cellAt 0
  simp at c0
  rcases ht with ⟨rfl, rfl, rfl⟩ | ⟨a, c, rfl, rfl, hr⟩
  all_goals
    go_enter Try.func38, Try.ntmps38
    go_wp2
    go_ret
    exact ⟨rfl, rfl⟩
theorem less_I {w : World} {g : Nat} {F : List Nat} {q : Nat → Thing ByteArray} {n : Nat} (h : HI w g F q n) {i j : Nat} (hi : i < n) (hj : j < n) :
    Calls Try.prog 73 #[.pointer (some ⟨g, 0, none⟩), .int .i64 i, .int .i64 j] w fun e w' => e = .returned (.bool (decide (Bef LtS (q i) (q j)))) ∧ Below w.heap.size w w' := by
  obtain ⟨s, m, G, f, hb, ht, hm, hp, rfl, hn, hw⟩ := h
  have c0 := hb.cellAt 0
  simp at c0
  rcases ht with ⟨rfl, rfl, rfl⟩ | ⟨a, c, rfl, rfl, hr⟩
  · omega
  obtain ⟨c1, c2⟩ := hr.cell hi
  obtain ⟨c3, c4⟩ := hr.cell hj
  have hi' : (i : Int) < (n : Int) := by omega
  have hj' : (j : Int) < (n : Int) := by omega
  obtain ⟨x, hx⟩ : ∃ x, x = q i := ⟨_, rfl⟩
  obtain ⟨y, hy⟩ : ∃ y, y = q j := ⟨_, rfl⟩
  rw [← hx] at c1 c2 ⊢
  rw [← hy] at c3 c4 ⊢
  clear hx hy hm hp hw hr
  go_enter Try.func73, Try.ntmps73
  go_wp2
  go_still_tail 14, (by kernel_rfl)
  change wpList _ _ _ _ _ w.drew
  go_wp2_with (go_at_call 77; refine (before_I x y _).mono ?_; rintro e w' ⟨rfl, hb'⟩)
  go_ret
  exact ⟨rfl, (below_drew w).trans hb'⟩
end Go.Proofs.Ytgpnpopmlommaaa.Txt
