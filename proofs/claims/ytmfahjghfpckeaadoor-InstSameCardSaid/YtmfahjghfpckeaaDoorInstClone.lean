/- Copies of lists: the library's Clone. -/
import Derived.Test.YtmfahjghfpckeaaDoorInstEqE
namespace Go.Proofs.YtmfahjghfpckeaaDoor
open Go.RowKit
set_option linter.unusedVariables false
theorem eql_nil {P : Program} (w : World) (t e : TypeId) (a : Option Addr) (l c : Nat) (h : P.underlying t = some (.slice e)) : (binOp .eql t (.slice a l c) (.slice none 0 0)).run P w = .ok (.bool a.isNone) w := by
  simp only [binOp]
  simp [run_equal_slice_nil w t e a l c h]
theorem own_cells {w : World} {base : Nat} {e : TypeId} {size n cap g : Nat} {news : List Value} (h : w.ownsRow base e size (.slice (some ⟨g, 0, none⟩) n cap) n news) : ∀ j u, news[j]? = some u → w.cell? ((⟨g, 0, none⟩ : Addr).add j) = some u := fun j u hj => by
  have := World.ownsRow.cells h (g := g) rfl j u hj
  exact this
theorem info_u64c : (Tryd.prog.info? 46).map (fun i => (i.zero, i.size, i.bytes)) = some (some (.int .u64 0), 1, 8) := by kernel_rfl
set_option maxHeartbeats 2000000 in
theorem clone_u (v : Value) (n base : Nat) (news : List Value) (w : World) (h : w.ownsRow base 46 1 v n news) (h1 : ∀ u ∈ news, u.oneCell' = true) (hn : n ≤ 1000) :
    Calls Tryd.prog 35 #[v] w fun e w' => ∃ v', e = .returned v' ∧ w'.ownsRow w.heap.size 46 1 v' n news ∧ Below w.heap.size w w' := by
  obtain ⟨i0, hi, hz0, hz1, hz2⟩ := info_parts info_u64c
  have hnil : ∀ (w : World) (a : Option Addr) (l c : Nat), (binOp .eql 43 (.slice a l c) (.slice none 0 0)).run Tryd.prog w = .ok (.bool a.isNone) w := fun w a l c => eql_nil w _ _ a l c Tryd.underlying43
  rcases h.2 with ⟨rfl, rfl⟩ | ⟨g, cap, cur, rfl, hg, hh, x1, x2, x3, x4⟩
  · have hne : news = [] := List.length_eq_zero_iff.1 (by have := h.1; omega)
    subst hne
    clear h h1
    go_enter Tryd.func35, Tryd.ntmps35
    go_wp2
    go_ret
    exact ⟨_, rfl, World.ownsRow_nil _ _ _ _, Below.refl _ _⟩
  · have hl := h.1
    have hlt : g < w.heap.size := (Array.getElem?_eq_some_iff.1 hh).1
    have HO := Go.Lib.hid h
    have H1 := Go.Lib.hid h1
    have hown0 : (w.alloc (.cells #[] 46)).ownsRow w.heap.size 46 1 (.slice (some ⟨w.heap.size, 0, none⟩) 0 0) 0 [] := World.ownsRow_lit w #[] 0 (Nat.le_refl _) (by decide) rfl
    clear h h1 hh x4 x3
    go_enter Tryd.func35, Tryd.ntmps35
    go_wp2_with (at_builtin; refine wpList_append_own _ rfl _ _ 43 rfl w.heap.size 46 i0 (.int .u64 0) 1 8 Tryd.underlying43 hi hz0 hz1 hz2 rfl (by decide) _ _ _ rfl hown0 ⟨g, 0, none⟩ n cap news rfl hl (own_cells (own_alloc HO.out _)) H1.out (by unfold maxLen; omega) (by omega) (by simp) ?_; intro v' w3 hown' hgrow _; have R := ((Below.refl w.heap.size w).alloc (Nat.le_refl _) (.cells #[] 46)).grown hgrow (by simp) (fun k hk => (World.ownsRow.lt hown0 k hk).1); clear hgrow)
    go_ret
    refine ⟨_, rfl, ?_, R⟩
    rw [Nat.zero_add, List.nil_append] at hown'
    exact hown'
set_option maxHeartbeats 2000000 in
theorem clone_i (v : Value) (n base : Nat) (news : List Value) (w : World) (h : w.ownsRow base 3 1 v n news) (h1 : ∀ u ∈ news, u.oneCell' = true) (hn : n ≤ 1000) :
    Calls Tryd.prog 37 #[v] w fun e w' => ∃ v', e = .returned v' ∧ w'.ownsRow w.heap.size 3 1 v' n news ∧ Below w.heap.size w w' := by
  obtain ⟨i0, hi, hz0, hz1, hz2⟩ := info_parts info_int
  have hnil : ∀ (w : World) (a : Option Addr) (l c : Nat), (binOp .eql 33 (.slice a l c) (.slice none 0 0)).run Tryd.prog w = .ok (.bool a.isNone) w := fun w a l c => eql_nil w _ _ a l c Tryd.underlying33
  rcases h.2 with ⟨rfl, rfl⟩ | ⟨g, cap, cur, rfl, hg, hh, x1, x2, x3, x4⟩
  · have hne : news = [] := List.length_eq_zero_iff.1 (by have := h.1; omega)
    subst hne
    clear h h1
    go_enter Tryd.func37, Tryd.ntmps37
    go_wp2
    go_ret
    exact ⟨_, rfl, World.ownsRow_nil _ _ _ _, Below.refl _ _⟩
  · have hl := h.1
    have hlt : g < w.heap.size := (Array.getElem?_eq_some_iff.1 hh).1
    have HO := Go.Lib.hid h
    have H1 := Go.Lib.hid h1
    have hown0 : (w.alloc (.cells #[] 3)).ownsRow w.heap.size 3 1 (.slice (some ⟨w.heap.size, 0, none⟩) 0 0) 0 [] := World.ownsRow_lit w #[] 0 (Nat.le_refl _) (by decide) rfl
    clear h h1 hh x4 x3
    go_enter Tryd.func37, Tryd.ntmps37
    go_wp2_with (at_builtin; refine wpList_append_own _ rfl _ _ 33 rfl w.heap.size 3 i0 (.int .i64 0) 1 8 Tryd.underlying33 hi hz0 hz1 hz2 rfl (by decide) _ _ _ rfl hown0 ⟨g, 0, none⟩ n cap news rfl hl (own_cells (own_alloc HO.out _)) H1.out (by unfold maxLen; omega) (by omega) (by simp) ?_; intro v' w3 hown' hgrow _; have R := ((Below.refl w.heap.size w).alloc (Nat.le_refl _) (.cells #[] 3)).grown hgrow (by simp) (fun k hk => (World.ownsRow.lt hown0 k hk).1); clear hgrow)
    go_ret
    refine ⟨_, rfl, ?_, R⟩
    rw [Nat.zero_add, List.nil_append] at hown'
    exact hown'
set_option maxHeartbeats 2000000 in
theorem clone_d (v : Value) (n base : Nat) (news : List Value) (w : World) (h : w.ownsRow base 33 1 v n news) (h1 : ∀ u ∈ news, u.oneCell' = true) (hn : n ≤ 1000) :
    Calls Tryd.prog 36 #[v] w fun e w' => ∃ v', e = .returned v' ∧ w'.ownsRow w.heap.size 33 1 v' n news ∧ Below w.heap.size w w' := by
  obtain ⟨i0, hi, hz0, hz1, hz2⟩ := info_parts info_rowi
  have hnil : ∀ (w : World) (a : Option Addr) (l c : Nat), (binOp .eql 23 (.slice a l c) (.slice none 0 0)).run Tryd.prog w = .ok (.bool a.isNone) w := fun w a l c => eql_nil w _ _ a l c Tryd.underlying23
  rcases h.2 with ⟨rfl, rfl⟩ | ⟨g, cap, cur, rfl, hg, hh, x1, x2, x3, x4⟩
  · have hne : news = [] := List.length_eq_zero_iff.1 (by have := h.1; omega)
    subst hne
    clear h h1
    go_enter Tryd.func36, Tryd.ntmps36
    go_wp2
    go_ret
    exact ⟨_, rfl, World.ownsRow_nil _ _ _ _, Below.refl _ _⟩
  · have hl := h.1
    have hlt : g < w.heap.size := (Array.getElem?_eq_some_iff.1 hh).1
    have HO := Go.Lib.hid h
    have H1 := Go.Lib.hid h1
    have hown0 : (w.alloc (.cells #[] 33)).ownsRow w.heap.size 33 1 (.slice (some ⟨w.heap.size, 0, none⟩) 0 0) 0 [] := World.ownsRow_lit w #[] 0 (Nat.le_refl _) (by decide) rfl
    clear h h1 hh x4 x3
    go_enter Tryd.func36, Tryd.ntmps36
    go_wp2_with (at_builtin; refine wpList_append_own _ rfl _ _ 23 rfl w.heap.size 33 i0 (.slice none 0 0) 1 24 Tryd.underlying23 hi hz0 hz1 hz2 rfl (by decide) _ _ _ rfl hown0 ⟨g, 0, none⟩ n cap news rfl hl (own_cells (own_alloc HO.out _)) H1.out (by unfold maxLen; omega) (by omega) (by simp) ?_; intro v' w3 hown' hgrow _; have R := ((Below.refl w.heap.size w).alloc (Nat.le_refl _) (.cells #[] 33)).grown hgrow (by simp) (fun k hk => (World.ownsRow.lt hown0 k hk).1); clear hgrow)
    go_ret
    refine ⟨_, rfl, ?_, R⟩
    rw [Nat.zero_add, List.nil_append] at hown'
    exact hown'
set_option maxHeartbeats 2000000 in
theorem clone_c (v : Value) (n base : Nat) (news : List Value) (w : World) (h : w.ownsRow base 45 8 v n news) (h1 : ∀ u ∈ news, u.oneCell' = true) (hn : n ≤ 1000) :
    Calls Tryd.prog 34 #[v] w fun e w' => ∃ v', e = .returned v' ∧ w'.ownsRow w.heap.size 45 8 v' n news ∧ Below w.heap.size w w' := by
  obtain ⟨i0, hi, hz0, hz1, hz2⟩ := info_parts info_cust
  have hnil : ∀ (w : World) (a : Option Addr) (l c : Nat), (binOp .eql 22 (.slice a l c) (.slice none 0 0)).run Tryd.prog w = .ok (.bool a.isNone) w := fun w a l c => eql_nil w _ _ a l c Tryd.underlying22
  rcases h.2 with ⟨rfl, rfl⟩ | ⟨g, cap, cur, rfl, hg, hh, x1, x2, x3, x4⟩
  · have hne : news = [] := List.length_eq_zero_iff.1 (by have := h.1; omega)
    subst hne
    clear h h1
    go_enter Tryd.func34, Tryd.ntmps34
    go_wp2
    go_ret
    exact ⟨_, rfl, World.ownsRow_nil _ _ _ _, Below.refl _ _⟩
  · have hl := h.1
    have hlt : g < w.heap.size := (Array.getElem?_eq_some_iff.1 hh).1
    have HO := Go.Lib.hid h
    have H1 := Go.Lib.hid h1
    have hown0 : (w.alloc (.cells #[] 45)).ownsRow w.heap.size 45 8 (.slice (some ⟨w.heap.size, 0, none⟩) 0 0) 0 [] := World.ownsRow_lit w #[] 0 (Nat.le_refl _) (by decide) rfl
    clear h h1 hh x4 x3
    go_enter Tryd.func34, Tryd.ntmps34
    go_wp2_with (at_builtin; refine wpList_append_own _ rfl _ _ 22 rfl w.heap.size 45 i0 (.agg #[.int .i64 0, .int .i64 0, .slice none 0 0, .int .i64 0, .int .i64 0, .int .i64 0, .int .i64 0, .int .i64 0]) 8 80 Tryd.underlying22 hi hz0 hz1 hz2 rfl (by decide) _ _ _ rfl hown0 ⟨g, 0, none⟩ n cap news rfl hl (own_cells (own_alloc HO.out _)) H1.out (by unfold maxLen; omega) (by omega) (by simp) ?_; intro v' w3 hown' hgrow _; have R := ((Below.refl w.heap.size w).alloc (Nat.le_refl _) (.cells #[] 45)).grown hgrow (by simp) (fun k hk => (World.ownsRow.lt hown0 k hk).1); clear hgrow)
    go_ret
    refine ⟨_, rfl, ?_, R⟩
    rw [Nat.zero_add, List.nil_append] at hown'
    exact hown'
end Go.Proofs.YtmfahjghfpckeaaDoor
