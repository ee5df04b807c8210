/- What Row answers: the numbers from 0 on, in some row. -/
import Derived.Test.YtaeiapodpihmnaaDraw
import Derived.BigRegion
namespace Go.Proofs.Ytaeiapodpihmnaa
open Go.RowKit
set_option linter.unusedVariables false
/-- The first n places hold numbers below n, no two the same. -/
def Mixed (n : Nat) (d : Nat → Int) : Prop := (∀ k, k < n → ∃ p : Nat, p < n ∧ d k = (p : Int)) ∧ ∀ i j, i < j → j < n → d i ≠ d j
theorem Mixed.filled (n : Nat) : Mixed n (filled n) := by
  refine ⟨fun k hk => ⟨k, hk, by unfold Go.Proofs.Ytaeiapodpihmnaa.filled; rw [if_pos hk]⟩, fun i j h1 h2 => ?_⟩
  unfold Go.Proofs.Ytaeiapodpihmnaa.filled
  rw [if_pos (by omega), if_pos h2]; omega
theorem Mixed.ne {n : Nat} {d : Nat → Int} (h : Mixed n d) {i j : Nat} (hi : i < n) (hj : j < n) (hn : i ≠ j) : d i ≠ d j := by
  rcases Nat.lt_or_ge i j with g | g
  · exact h.2 i j g hj
  · exact fun e => h.2 j i (by omega) hi e.symm
theorem Mixed.swp {n : Nat} {d : Nat → Int} (h : Mixed n d) {i j : Nat} (hi : i < n) (hj : j < n) : Mixed n (swp d i j) := by
  have key : ∀ k, k < n → ∃ m, m < n ∧ Go.Proofs.Ytaeiapodpihmnaa.swp d i j k = d m ∧ ((k = i ∧ m = j) ∨ (k = j ∧ m = i) ∨ (k ≠ i ∧ k ≠ j ∧ m = k)) := by
    intro k hk
    by_cases e : k = i
    · subst e; exact ⟨j, hj, swp_left d k j, .inl ⟨rfl, rfl⟩⟩
    · by_cases e2 : k = j
      · subst e2; exact ⟨i, hi, swp_right d i k, .inr (.inl ⟨rfl, rfl⟩)⟩
      · exact ⟨k, hk, swp_other d e e2, .inr (.inr ⟨e, e2, rfl⟩)⟩
  refine ⟨fun k hk => ?_, fun a b h1 h2 => ?_⟩
  · obtain ⟨m, hm, e, _⟩ := key k hk
    rw [e]; exact h.1 m hm
  · obtain ⟨p, hp, e1, c1⟩ := key a (by omega)
    obtain ⟨q, hq, e2, c2⟩ := key b h2
    rw [e1, e2]
    exact h.ne hp hq (by omega)
/-- Below, as a value: the method of one stream. -/
def belowV (g : Nat) : Value := .func (.func 9) #[.pointer (some ⟨g, 0, none⟩)] #[]
def RowFill (w2 : World) (D n : Nat) (i : Value) (wr : World) : Prop := ∃ k : Nat, i = .int .i64 k ∧ k ≤ n ∧ DataIs wr D n n (filled k) ∧ Only [D] w2 wr
def RowMix (w2 : World) (D g n : Nat) (s : Int) (i : Value) (wr : World) : Prop := ∃ (m : Nat) (d : Nat → Int) (s' : Int), i = .int .i64 ((m : Int) - 1) ∧ m ≤ n ∧ DataIs wr D n n d ∧ Mixed n d ∧ StIs wr g s' ∧ (n ≤ 1 → s' = s) ∧ Only [D, g] w2 wr
/-- A row of n numbers: where it lies; the stream's state. -/
def RowPost (w : World) (g n : Nat) (s : Int) (e : Ending) (w' : World) : Prop := ∃ D d s', e = .returned (.slice (some ⟨D, 0, none⟩) n n) ∧ w.heap.size ≤ D ∧ DataIs w' D n n d ∧ Mixed n d ∧ StIs w' g s' ∧ (n ≤ 1 → s' = s) ∧ Only [g] w w'
set_option maxHeartbeats 4000000 in
theorem mixed_any {w : World} {g n : Nat} {s : Int} (h : StIs w g s) (hn : n ≤ 10000) :
    Calls Try.prog 15 #[.int .i64 (n : Int), belowV g] w (RowPost w g n s) := by
  obtain ⟨i0, hi, hz0, hz1, hz2⟩ := info_parts info_i
  have hmk : ∀ w : World, (Instr.makeSlice 25 (.int .i64 (n : Int)) (.int .i64 (n : Int))).run Try.prog w = .ok (.slice (some ⟨w.heap.size, 0, none⟩) n n) (w.alloc (.cells (madeCells #[.int .i64 0] n) 3)) := by
    intro w
    have := run_make (P := Try.prog) w 25 3 i0 (.int .i64 0) Try.underlying25 hi hz0 .i64 .i64 (n : Int) (n : Int) (by omega) (Int.le_refl _) (by rw [hz2]; omega) (by omega)
    rw [hz1] at this
    simpa [Value.cells] using this
  obtain ⟨w2, hw2⟩ : ∃ w2, w2 = w.alloc (.cells (madeCells #[.int .i64 0] n) 3) := ⟨_, rfl⟩
  have D2 : DataIs w2 w.heap.size n n (filled 0) := by rw [hw2]; exact DataIs.made
  have B2 : Below w.heap.size w w2 := by rw [hw2]; exact below_alloc _ _
  have S2 := h.below B2
  have hgD : g < w.heap.size := h.lt
  have H0 : RowFill w2 w.heap.size n (.int .i64 0) w2 := ⟨0, rfl, by omega, D2, Only.refl _ _⟩
  have HB2 := Lib.hid B2
  have HS2 := Lib.hid S2
  clear h D2 B2 S2 hi hz0 hz1 hz2
  unfold belowV
  go_enter Try.func15, Try.ntmps15
  go_wp2_with fail
  rw [← hw2]
  clear hw2 hmk
  go_loopw [13] (fun i wr => RowFill w2 w.heap.size n i wr) (fun i _ => n - (intOf i).toNat)
  case atStart => exact H0
  case round =>
    clear H0
    obtain ⟨k, rfl, hk, hDt, hO⟩ := hrel
    by_cases hlt : k < n
    · have c1 := hDt.cell hlt
      have f1 := hDt.free k
      have l1 : (k : Int) < (n : Int) := by omega
      have HR : Hid (RowFill w2 w.heap.size n (.int .i64 ((k : Int) + 1)) (wr.setCell ⟨w.heap.size, k, none⟩ (.int .i64 (k : Int)))) :=
        Lib.hid ⟨k + 1, by go_num, by omega, hDt.put hlt, hO.setCell (by simp) _⟩
      clear hDt hO
      go_wp2
      go_roundw
      case rel => exact HR.out
      case measure => simp [intOf]; omega
    · obtain rfl : n = k := by omega
      have l1 : decide ((n : Int) < (n : Int)) = false := by simp
      have H1 : RowMix w2 w.heap.size g n s (.int .i64 ((n : Int) - 1)) wr :=
        ⟨n, _, s, rfl, Nat.le_refl _, hDt, Mixed.filled n, HS2.out.only hO (by simp; omega), fun _ => rfl, hO.more (by simp)⟩
      clear hDt hO
      go_wp2
      go_loopw [7] (fun i wr => RowMix w2 w.heap.size g n s i wr) (fun i _ => (intOf i).toNat)
      case atStart => exact H1
      case round =>
        clear H1
        obtain ⟨m, d, s', rfl, hm, hDt, hMx, hS, hs, hO⟩ := hrel
        by_cases h2 : 2 ≤ m
        · obtain ⟨p, rfl⟩ : ∃ p, m = p + 1 := ⟨m - 1, by omega⟩
          have e1 : ((p + 1 : Nat) : Int) - 1 = (p : Int) := by omega
          rw [e1]
          have l0 : (0 : Int) < (p : Int) := by omega
          have HB : Hid (Calls Try.prog 9 #[.pointer (some ⟨g, 0, none⟩), .int .i64 ((p : Int) + 1)] wr (BelowPost wr g ((p : Int) + 1))) := Lib.hid (below_some hS (by omega) (by omega))
          clear e1
          go_wp2_with (go_at_call 9; (with_reducible refine HB.out.mono ?_); rintro e w3 ⟨q, s2, rfl, hq, hS2, hO2⟩)
          have hq2 : q < p + 1 := by omega
          have hD2 := hDt.keep (w' := w3) (hO2.block _ hDt.lt (by simp; omega))
          have hO3 := hO.trans' (hO2.more (F' := [w.heap.size, g]) (by simp))
          have l1 : (p : Int) < (n : Int) := by omega
          have l2 : (q : Int) < (n : Int) := by omega
          have c1 := hD2.cell (k := p) (by omega)
          have c2 := hD2.cell (k := q) (by omega)
          have f1 := hD2.free p
          have f2 := hD2.free q
          obtain ⟨x, hx⟩ : ∃ x, x = d p := ⟨_, rfl⟩
          obtain ⟨y, hy⟩ : ∃ y, y = d q := ⟨_, rfl⟩
          rw [← hx] at c1
          rw [← hy] at c2
          have HR : Hid (RowMix w2 w.heap.size g n s (.int .i64 ((p : Int) - 1)) (((w3.setCell ⟨w.heap.size, p, none⟩ (.int .i64 y)).setCell ⟨w.heap.size, q, none⟩ (.int .i64 x)).drew)) := by
            have h1 := hD2.swap (i := p) (j := q) (by omega) (by omega) hx hy
            refine Lib.hid ⟨p, swp d p q, s2, rfl, by omega, h1.keep rfl, hMx.swp (by omega) (by omega), hS2.only (F := [w.heap.size]) (two_only _ _ _ _ _ _) (by simp; omega), fun hn => by omega, hO3.trans' ((two_only _ _ _ _ _ _).more (by simp))⟩
          clear hS2 hD2 hO3 hO2 hDt hMx hS hs hO
          by_cases hpq : p = q
          · subst hpq
            clear hx hy
            obtain rfl : x = y := by rw [c1] at c2; injection c2 with c2; injection c2
            go_wp2
            go_region
            go_wp2
            go_roundw
            case rel => exact HR.out
            case measure => simp [intOf]; omega
          · have hqp : ¬ q = p := by omega
            clear hx hy
            go_wp2
            go_region
            go_wp2
            go_roundw
            case rel => exact HR.out
            case measure => simp [intOf]; omega
        · have l0 : (m : Int) - 1 ≤ 0 := by omega
          have HE : Hid (RowPost w g n s (.returned (.slice (some ⟨w.heap.size, 0, none⟩) n n)) wr) :=
            Lib.hid ⟨w.heap.size, d, s', rfl, Nat.le_refl _, hDt, hMx, hS, hs, (Only.of_below HB2.out).trans hO (fun x hx => by simp at hx; rcases hx with rfl | rfl; exact .inr (Nat.le_refl _); exact .inl (by simp))⟩
          clear hDt hMx hS hs hO
          go_wp2
          go_ret
          exact HE.out
theorem row_any {w : World} {g n : Nat} {s r : Int} (h : StIs w g s) (hr : min (max r 0) 10000 = (n : Int)) :
    Calls Try.prog 10 #[.pointer (some ⟨g, 0, none⟩), .int .i64 r] w (RowPost w g n s) := by
  have hmf : ∀ (fn : Fn) (first cap : Array Value) (w : World), (Instr.makeFunc fn first cap).run Try.prog w = .ok (.func fn first cap) w := fun _ _ _ _ => rfl
  have HM := Lib.hid (mixed_any h (n := n) (by omega))
  have HC : Hid (∀ w, Calls Try.prog 16 #[.int .i64 r, .int .i64 0, .int .i64 10000] w fun e w' => e = .returned (.int .i64 (n : Int)) ∧ w = w') := Lib.hid fun w => hr ▸ clip_any r 0 10000 w
  clear h hr
  unfold belowV at HM
  go_enter Try.func10, Try.ntmps10
  go_wp2_with (first
    | (go_at_call 16; refine (HC.out _).mono ?_; rintro e w1 ⟨rfl, rfl⟩)
    | (go_at_call 15; (with_reducible refine HM.out.mono ?_); rintro e w1 ⟨D, d, s', rfl, h1, h2, h3, h4, h5, h6⟩))
  go_ret
  exact ⟨D, d, s', rfl, h1, h2, h3, h4, h5, h6⟩
end Go.Proofs.Ytaeiapodpihmnaa
