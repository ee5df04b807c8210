/- What the sort works on, in memory; the comparison that it is handed. -/
import Derived.Test.YtgpnpopmlommaaaHeapMemB
import Derived.Test.YtgpnpopmlommaaaSortMerge
import Derived.BigRegion
namespace Go.Proofs.Ytgpnpopmlommaaa
open Go.RowKit
set_option linter.unusedVariables false
/-- Block D holds the n numbers of d; there is room for C. -/
def DataIs (w : World) (D C n : Nat) (d : Nat → Int) : Prop := ∃ cur, w.heap[D]? = some (.cells cur 3 (0, 0)) ∧ n ≤ C ∧ cur.size = C ∧ ∀ k, k < n → cur[k]? = some (.int .i64 (d k))
theorem DataIs.cell {w : World} {D C n : Nat} {d : Nat → Int} (h : DataIs w D C n d) {k : Nat} (hk : k < n) : w.cell? ⟨D, k, none⟩ = some (.int .i64 (d k)) := by
  obtain ⟨cur, h1, _, _, h2⟩ := h
  simp [World.cell?, h1, h2 k hk]
theorem DataIs.free {w : World} {D C n : Nat} {d : Nat → Int} (h : DataIs w D C n d) (k : Nat) : w.frozen? ⟨D, k, none⟩ = false := by
  obtain ⟨cur, h1, _⟩ := h
  simp [World.frozen?, h1]
theorem DataIs.keep {w w' : World} {D C n : Nat} {d : Nat → Int} (h : DataIs w D C n d) (hb : w'.heap[D]? = w.heap[D]?) : DataIs w' D C n d := by
  obtain ⟨cur, h1, r⟩ := h
  exact ⟨cur, hb.trans h1, r⟩
theorem DataIs.lt {w : World} {D C n : Nat} {d : Nat → Int} (h : DataIs w D C n d) : D < w.heap.size := by
  obtain ⟨cur, h1, _⟩ := h
  exact (Array.getElem?_eq_some_iff.1 h1).1
theorem DataIs.swap {w : World} {D C n : Nat} {d : Nat → Int} (h : DataIs w D C n d) {i j : Nat} (hi : i < n) (hj : j < n) {x y : Int} (hx : x = d i) (hy : y = d j) : DataIs ((w.setCell ⟨D, i, none⟩ (.int .i64 y)).setCell ⟨D, j, none⟩ (.int .i64 x)) D C n (swp d i j) := by
  subst hx; subst hy
  obtain ⟨cur, h1, h2, h3, h4⟩ := h
  refine ⟨(cur.setIfInBounds i (.int .i64 (d j))).setIfInBounds j (.int .i64 (d i)), ?_, h2, by simpa using h3, fun k hk => ?_⟩
  · simp [World.setCell, Array.getElem?_modify, h1]
  · unfold swp
    by_cases e2 : k = j
    · subst e2
      rw [Array.getElem?_setIfInBounds_self_of_lt (by simp; omega)]
      by_cases e1 : k = i
      · subst e1; rw [if_pos rfl]
      · rw [if_neg e1, if_pos rfl]
    · rw [Array.getElem?_setIfInBounds_ne (by omega)]
      by_cases e1 : k = i
      · subst e1
        rw [if_pos rfl, Array.getElem?_setIfInBounds_self_of_lt (by omega)]
      · rw [if_neg e1, if_neg e2, Array.getElem?_setIfInBounds_ne (by omega)]; exact h4 k hk
/-- The sort's data, and what its comparison reads. -/
structure SortIs (w : World) (D C bx : Nat) (A : Option Addr) (n c : Nat) (xs : List Int) (d : Nat → Int) : Prop where
  data : DataIs w D C n d
  box : BlkIs w bx 33 #[.slice A n c]
  row : Ints w A n xs
  inn : ∀ k, k < n → 0 ≤ d k ∧ d k < (n : Int)
  ne : bx ≠ D
  off : 0 < n → ∀ a, A = some a → a.block ≠ D
  small : n ≤ 1152921504606846976
section
variable {w w' : World} {D C bx : Nat} {A : Option Addr} {n c : Nat} {xs : List Int} {d e : Nat → Int}
theorem SortIs.only (h : SortIs w D C bx A n c xs d) (ho : Only [D] w w') (hd : DataIs w' D C n e) (hi : ∀ k, k < n → 0 ≤ e k ∧ e k < (n : Int)) : SortIs w' D C bx A n c xs e := by
  refine ⟨hd, h.box.only ho (by simpa using h.ne), ?_, hi, h.ne, h.off, h.small⟩
  refine ⟨h.row.1, fun hn => ?_⟩
  obtain ⟨b, off, e1, hc⟩ := h.row.2 hn
  refine ⟨b, off, e1, fun k hk => ?_⟩
  have hb := h.off hn _ e1
  have hl := World.block_lt_of_cell? w _ (hc k hk)
  have := ho.block b hl (by simpa using hb)
  exact (World.cell?_of_block (w := w) (a := ⟨b, off + k, none⟩) this).trans (hc k hk)
theorem SortIs.drewN (h : SortIs w D C bx A n c xs d) (m : Nat) : SortIs (w.drewN m) D C bx A n c xs d := ⟨h.data.keep rfl, h.box, h.row, h.inn, h.ne, h.off, h.small⟩
theorem SortIs.drew (h : SortIs w D C bx A n c xs d) : SortIs w.drew D C bx A n c xs d := ⟨h.data.keep rfl, h.box, h.row, h.inn, h.ne, h.off, h.small⟩
theorem only_drewN (F : List Nat) (w : World) (m : Nat) : Only F w (w.drewN m) := ⟨rfl, rfl, rfl, Nat.le_refl _, fun _ _ _ => rfl⟩
theorem two_only (w : World) (D i j : Nat) (u v : Value) : Only [D] w (((w.setCell ⟨D, i, none⟩ u).setCell ⟨D, j, none⟩ v).drew) :=
  (((Only.refl [D] w).setCell (p := ⟨D, i, none⟩) (by simp) _).setCell (p := ⟨D, j, none⟩) (by simp) _).drew
theorem SortIs.swap (h : SortIs w D C bx A n c xs d) {i j : Nat} (hi : i < n) (hj : j < n) {x y : Int} (hx : x = d i) (hy : y = d j) :
    SortIs (((w.setCell ⟨D, i, none⟩ (.int .i64 y)).setCell ⟨D, j, none⟩ (.int .i64 x)).drew) D C bx A n c xs (swp d i j) := by
  refine h.only (two_only _ _ _ _ _ _) ((h.data.swap hi hj hx hy).keep rfl) fun k hk => ?_
  unfold swp
  split
  · exact h.inn j hj
  · split
    · exact h.inn i hi
    · exact h.inn k hk
end
/-- A place's key. -/
def keyOfI (xs : List Int) (x : Int) : Int := xs.getD x.toNat 0
/-- What the comparison tells. -/
def cmpI (a b : Int) : Int := if a < b then -1 else if b < a then 1 else 0
theorem cmpI_lt {a b : Int} (h : a < b) : cmpI a b < 0 := by unfold cmpI; rw [if_pos h]; decide
theorem cmpI_ge {a b : Int} (h : ¬ a < b) : 0 ≤ cmpI a b := by unfold cmpI; rw [if_neg h]; split <;> decide
theorem compare_any (a b : Int) (w : World) : Calls Try.prog 33 #[.int .i64 a, .int .i64 b] w fun e w' => e = .returned (.int .i64 (cmpI a b)) ∧ w' = w := by
  have HN : ∀ x, Calls Try.prog 42 #[.int .i64 x] w fun e w' => e = .returned (.bool false) ∧ w = w' := by
    intro x
    go_enter Try.func42, Try.ntmps42
    go_wp2
    go_ret
    exact ⟨rfl, rfl⟩
  have HN := Lib.hid HN
  rcases Int.lt_trichotomy a b with h | h | h
  · have e : cmpI a b = -1 := by unfold cmpI; rw [if_pos h]
    rw [e]; clear e
    go_enter Try.func33, Try.ntmps33
    go_wp2_with (go_at_call 42; refine (HN.out _).mono ?_; rintro e w1 ⟨rfl, rfl⟩)
    go_ret
    exact ⟨rfl, rfl⟩
  · subst h
    have e : cmpI a a = 0 := by unfold cmpI; rw [if_neg (by omega), if_neg (by omega)]
    rw [e]; clear e
    go_enter Try.func33, Try.ntmps33
    go_wp2_with (go_at_call 42; refine (HN.out _).mono ?_; rintro e w1 ⟨rfl, rfl⟩)
    go_ret
    exact ⟨rfl, rfl⟩
  · have e : cmpI a b = 1 := by unfold cmpI; rw [if_neg (by omega), if_pos h]
    rw [e]; clear e
    have h' : ¬ a < b := by omega
    go_enter Try.func33, Try.ntmps33
    go_wp2_with (go_at_call 42; refine (HN.out _).mono ?_; rintro e w1 ⟨rfl, rfl⟩)
    go_ret
    exact ⟨rfl, rfl⟩
theorem cmp_any {w : World} {D C bx : Nat} {A : Option Addr} {n c : Nat} {xs : List Int} {d : Nat → Int} (h : SortIs w D C bx A n c xs d) {x y : Int} (hx : 0 ≤ x ∧ x < (n : Int)) (hy : 0 ≤ y ∧ y < (n : Int)) :
    Calls Try.prog 32 #[.int .i64 x, .int .i64 y, .pointer (some ⟨bx, 0, none⟩)] w fun e w' => e = .returned (.int .i64 (cmpI (keyOfI xs x) (keyOfI xs y))) ∧ ∃ m, w' = w.drewN m := by
  obtain ⟨i, rfl⟩ := Int.eq_ofNat_of_zero_le hx.1
  obtain ⟨j, rfl⟩ := Int.eq_ofNat_of_zero_le hy.1
  have hi : i < n := by omega
  have hj : j < n := by omega
  obtain ⟨b, off, rfl, hc⟩ := h.row.2 (by omega)
  have c0 := h.box.cellAt 0
  simp at c0
  have c1 := hc i hi
  have c2 := hc j hj
  have e1 : keyOfI xs (i : Int) = xs.getD i 0 := by unfold keyOfI; rw [Int.toNat_natCast]
  have e2 : keyOfI xs (j : Int) = xs.getD j 0 := by unfold keyOfI; rw [Int.toNat_natCast]
  show Calls _ _ _ _ fun e w' => e = .returned (.int .i64 (cmpI (keyOfI xs (i : Int)) (keyOfI xs (j : Int)))) ∧ _
  rw [e1, e2]
  obtain ⟨p, hp⟩ : ∃ p, p = xs.getD i 0 := ⟨_, rfl⟩
  obtain ⟨q, hq⟩ : ∃ q, q = xs.getD j 0 := ⟨_, rfl⟩
  rw [← hp] at c1 ⊢
  rw [← hq] at c2 ⊢
  have l1 : (i : Int) < (n : Int) := by omega
  have l2 : (j : Int) < (n : Int) := by omega
  clear e1 e2 hp hq hc h hx hy
  go_enter Try.func32, Try.ntmps32
  go_wp2
  go_quiet ((go_at_call 33; exact Calls.quiet_of_same (compare_any _ _ _)))
  go_wp2
  go_ret
  exact ⟨rfl, _, rfl⟩
end Go.Proofs.Ytgpnpopmlommaaa
