/- DrawRows' walk. -/
import Derived.Test.YtaeiapodpihmnaaDrawRow
import Derived.Test.YtaeiapodpihmnaaMarks
namespace Go.Proofs.Ytaeiapodpihmnaa
open Go.RowKit
set_option linter.unusedVariables false
theorem metB_mixed {d : Nat → Int} {n i p : Nat} (h : Mixed n d) (hi : i < n) (hp : d i = (p : Int)) : metB d i p = false := by
  unfold metB
  rw [List.any_eq_false]
  intro j hj e
  have e2 : d j = (p : Int) := by simpa using e
  exact h.2 j i (List.mem_range.1 hj) hi (e2.trans hp.symm)
theorem MarksAre.made {w : World} {n : Nat} (f : Nat → Int) : MarksAre (w.alloc (.cells (madeCells #[.bool false] n) 4)) w.heap.size n (metB f 0) :=
  ⟨madeCells #[.bool false] n, BlkIs.fresh _ _ _, size_madeCells _ _, fun k hk => by rw [madeMarks_at hk, metB_none]⟩
def RowsRel (w : World) (D H n : Nat) (d : Nat → Int) (i : Value) (wr : World) : Prop :=
  ∃ k : Nat, i = .int .i64 k ∧ k ≤ n ∧ DataIs wr D n n d ∧ MarksAre wr H n (metB d k) ∧ Below w.heap.size w wr
/-- A row of the call's own. -/
def RowOwn (w : World) (a n : Nat) (e : Ending) (w' : World) : Prop := ∃ D d, e = .returned (.slice (some ⟨D, 0, none⟩) n n) ∧ DataIs w' D n n d ∧ Mixed n d ∧ w.heap.size ≤ D ∧ Below w.heap.size w w'
theorem row_own {w w1 : World} {a n : Nat} {s r : Int} (ha : w.heap.size ≤ a) (hb : Below w.heap.size w w1) (h : StIs w1 a s) (hr : min (max r 0) 10000 = (n : Int)) :
    Calls Try.prog 10 #[.pointer (some ⟨a, 0, none⟩), .int .i64 r] w1 (RowOwn w a n) := by
  refine (row_any h hr).mono ?_
  rintro e w' ⟨D, d, s', rfl, h1, h2, h3, h4, h5, h6⟩
  exact ⟨D, d, rfl, h2, h3, Nat.le_trans hb.size h1, h6.over hb (by simpa using ha)⟩
set_option maxHeartbeats 4000000 in
theorem rows_none {x n : Int} (hn : n < 1) (w : World) :
    Calls Try.prog 3 #[.int .i64 x, .int .i64 n] w fun e w' => e = .returned (.bool true) ∧ Below w.heap.size w w' := by
  have HN := Lib.hid (new_any x w)
  have HR : Hid (∀ {w1 : World} {a : Nat} {s : Int}, w.heap.size ≤ a → Below w.heap.size w w1 → StIs w1 a s → Calls Try.prog 10 #[.pointer (some ⟨a, 0, none⟩), .int .i64 n] w1 (RowOwn w a 0)) :=
    Lib.hid fun ha hb h => row_own ha hb h (by omega)
  go_enter Try.func3, Try.ntmps3
  go_wp2_with (first
    | (go_at_call 8; (with_reducible refine HN.out.mono ?_); rintro e w1 ⟨a, rfl, h1, h2, h3⟩)
    | (go_at_call 9; (with_reducible refine (below_none hn _ _).mono ?_); rintro e w2 ⟨rfl, rfl⟩)
    | (go_at_call 10; (with_reducible refine (HR.out h1 h3 h2).mono ?_); rintro e w3 ⟨D, d, rfl, _, _, _, h4⟩)
    | (go_at_call 11; (with_reducible refine (lives_any _).mono ?_); rintro e w9 ⟨rfl, hl⟩))
  go_ret
  exact ⟨rfl, h4.trans (hl.mono h4.size)⟩
set_option maxHeartbeats 4000000 in
theorem rows_some {x n : Int} (hn : 1 ≤ n) (hn2 : n ≤ 9223372036854775807) (w : World) :
    Calls Try.prog 3 #[.int .i64 x, .int .i64 n] w fun e w' => e = .returned (.bool true) ∧ Below w.heap.size w w' := by
  have HN := Lib.hid (new_any x w)
  obtain ⟨m, hm⟩ : ∃ m : Nat, n % 301 = (m : Int) := ⟨(n % 301).toNat, by omega⟩
  have hm301 : m < 301 := by omega
  have HB : Hid (∀ {w1 : World} {a : Nat}, StIs w1 a (seedS x) → Calls Try.prog 9 #[.pointer (some ⟨a, 0, none⟩), .int .i64 n] w1 (BelowPost w1 a n)) := Lib.hid fun h => below_some h hn hn2
  have HR : Hid (∀ {w1 : World} {a : Nat} {s : Int}, w.heap.size ≤ a → Below w.heap.size w w1 → StIs w1 a s → Calls Try.prog 10 #[.pointer (some ⟨a, 0, none⟩), .int .i64 (m : Int)] w1 (RowOwn w a m)) :=
    Lib.hid fun ha hb h => row_own ha hb h (by omega)
  obtain ⟨i0, hi, hz0, hz1, hz2⟩ := info_parts info_b
  have hmk : ∀ w : World, (Instr.makeSlice 28 (.int .i64 (m : Int)) (.int .i64 (m : Int))).run Try.prog w = .ok (.slice (some ⟨w.heap.size, 0, none⟩) m m) (w.alloc (.cells (madeCells #[.bool false] m) 4)) := by
    intro w
    have := run_make (P := Try.prog) w 28 4 i0 (.bool false) Try.underlying28 hi hz0 .i64 .i64 (m : Int) (m : Int) (by omega) (Int.le_refl _) (by rw [hz2]; omega) (by omega)
    rw [hz1] at this
    simpa [Value.cells] using this
  have dn : decide (n < 1) = false := decide_eq_false (by omega)
  clear hi hz0 hz1 hz2
  go_enter Try.func3, Try.ntmps3
  go_wp2_with (first
    | (go_at_call 8; (with_reducible refine HN.out.mono ?_); rintro e w1 ⟨a, rfl, h1, h2, h3⟩)
    | (go_at_call 9; (with_reducible refine (HB.out h2).mono ?_); rintro e w2 ⟨b, s', rfl, hb, g1, g2⟩; have h4 := g2.over h3 (by simpa using h1); have db0 : decide ((b : Int) < 0) = false := decide_eq_false (by omega); have db1 : decide (n ≤ (b : Int)) = false := decide_eq_false (by omega))
    | (go_at_call 10; (with_reducible refine (HR.out h1 h4 g1).mono ?_); rintro e w3 ⟨D, d, rfl, k1, k2, k3, k4⟩; have K1 := Lib.hid k1; have K2 := Lib.hid k2; have K4 := Lib.hid k4; have HDl := k1.lt; clear h1 h2 h3 h4 g1 g2 k1 k2 k4))
  have H0 : RowsRel w D w3.heap.size m d (.int .i64 0) (w3.alloc (.cells (madeCells #[.bool false] m) 4)) :=
    ⟨0, rfl, Nat.zero_le _, K1.out.below (below_alloc _ _), MarksAre.made d, K4.out.trans ((below_alloc _ _).mono K4.out.size)⟩
  have hDH : D ≠ w3.heap.size := by omega
  have hHw : w.heap.size ≤ w3.heap.size := K4.out.size
  clear HB HR hmk
  go_loopw [9] (fun i wr => RowsRel w D w3.heap.size m d i wr) (fun i _ => m - (intOf i).toNat)
  case atStart => exact H0
  case round =>
    clear H0
    obtain ⟨k, rfl, hk, hDt, hMk, hW⟩ := hrel
    by_cases hlt : k < m
    · obtain ⟨p, hp, hdp⟩ := K2.out.1 k hlt
      have hnot := metB_mixed K2.out hlt hdp
      have c1 := hDt.cell hlt
      rw [hdp] at c1
      have c2 := hMk.cell hp
      rw [hnot] at c2
      have f2 := hMk.free p
      have l1 : (k : Int) < (m : Int) := by omega
      have l2 : (p : Int) < (m : Int) := by omega
      have d1 : decide ((p : Int) < 0) = false := decide_eq_false (by omega)
      have d2 : decide ((m : Int) ≤ (p : Int)) = false := decide_eq_false (by omega)
      have HR : Hid (∀ t, RowsRel w D w3.heap.size m d (.int .i64 ((k : Int) + 1)) ((wr.setCell ⟨w3.heap.size, p, none⟩ (.bool true)).drewN t)) := by
        refine Lib.hid fun t => ⟨k + 1, by go_num, by omega, hDt.keep (Below.heap_setCell _ _ _ _ hDH), ?_, ?_⟩
        · have := hMk.put hp
          have e : (fun j => if j = p then true else metB d k j) = metB d (k + 1) := by funext j; rw [metB_next hdp]
          rw [e] at this
          exact this
        · have := hW.setCell (p := ⟨w3.heap.size, p, none⟩) hHw (.bool true)
          exact ⟨this.os, this.tape, this.output, this.size, this.block⟩
      clear hdp hnot hDt hMk hW
      go_wp2
      go_roundw
      case rel => exact HR.out 0
      case measure => simp [intOf]; omega
    · have l1 : (m : Int) ≤ (k : Int) := by omega
      have HW := Lib.hid hW
      clear hDt hMk hW
      go_wp2_with (go_at_call 11; (with_reducible refine (lives_any _).mono ?_); rintro e w9 ⟨rfl, hl⟩)
      go_ret
      exact ⟨rfl, HW.out.trans (hl.mono HW.out.size)⟩
theorem rows_any (x n : Int) (wx : (Lit.int .i64 x).wf = true) (wn : (Lit.int .i64 n).wf = true) (w : World) :
    Calls Try.prog 3 #[.int .i64 x, .int .i64 n] w fun e w' => e = .returned (.bool true) ∧ Below w.heap.size w w' := by
  rw [wf_iff] at wn
  rcases Int.lt_or_le n 1 with h | h
  · exact rows_none h w
  · exact rows_some h wn.2 w
end Go.Proofs.Ytaeiapodpihmnaa
