/- DrawPicks' walk. -/
import Derived.Test.YtaeiapodpihmnaaDrawPick
namespace Go.Proofs.Ytaeiapodpihmnaa
open Go.RowKit
set_option linter.unusedVariables false
/-- Has any of the first k a worth? -/
def someB (xs : List Int) (k : Nat) : Bool := (List.range k).any fun j => decide (0 < xs.getD j 0)
theorem someB_succ (xs : List Int) (k : Nat) : someB xs (k + 1) = (someB xs k || decide (0 < xs.getD k 0)) := by
  unfold someB; rw [List.range_succ, List.any_append]; simp
theorem someB_cnts (xs : List Int) (n : Nat) : (someB xs n = false ∧ cnts xs n = 0) ∨ (someB xs n = true ∧ 0 < cnts xs n) := by
  cases h : someB xs n
  · refine .inl ⟨rfl, cnts_none fun k hk => ?_⟩
    unfold someB at h
    rw [List.any_eq_false] at h
    have := h k (List.mem_range.2 hk)
    simpa using this
  · refine .inr ⟨rfl, ?_⟩
    unfold someB at h
    rw [List.any_eq_true] at h
    obtain ⟨k, hk, e⟩ := h
    exact cnts_some (List.mem_range.1 hk) (by simpa using e)
def SomeRel (w1 : World) (xs : List Int) (n : Nat) (v i : Value) (wr : World) : Prop := ∃ (k : Nat) (f : Bool), v = .bool f ∧ i = .int .i64 k ∧ k ≤ n ∧ someB xs k = f ∧ w1 = wr
set_option maxHeartbeats 4000000 in
theorem picks_any (x : Int) (A : Option Addr) (n0 c : Nat) (zs : List Int) (wx : (Lit.int .i64 x).wf = true) (w : World)
    (h : Ints w A n0 (zs.take n0) ∧ n0 ≤ c ∧ (∀ k, -9223372036854775808 ≤ zs.getD k 0 ∧ zs.getD k 0 ≤ 9223372036854775807) ∧ n0 ≤ zs.length) :
    Calls Try.prog 4 #[.int .i64 x, .slice A n0 c] w fun e w' => e = .returned (.bool true) ∧ Below w.heap.size w w' := by
  obtain ⟨hI, hc, hz, hl⟩ := h
  have HN := Lib.hid (new_any x w)
  clear wx
  have HI := Lib.hid hI
  by_cases h20 : 20 < n0
  · have d20 : decide ((20 : Int) < (n0 : Int)) = true := decide_eq_true (by omega)
    have hcc : (20 : Int) ≤ (c : Int) := by omega
    have HX : Hid (Ints w A 20 (zs.take 20)) := by
      have := hI.cut (k := 20) (by omega)
      rw [List.take_take, Nat.min_eq_left (by omega)] at this
      exact Lib.hid this
    clear hI hz hl
    go_enter Try.func4, Try.ntmps4
    go_wp2_with (go_at_call 8; (with_reducible refine HN.out.mono ?_); rintro e w1 ⟨a, rfl, h1, h2, h3⟩)
    obtain ⟨xs, hxs⟩ : ∃ xs, xs = zs.take 20 := ⟨_, rfl⟩
    rw [← hxs] at HX
    clear hxs
    have HX1 : Hid (Ints w1 A 20 xs) := Lib.hid (HX.out.keep h3)
    have H0 : SomeRel w1 xs 20 (.bool false) (.int .i64 0) w1 := ⟨0, false, rfl, rfl, Nat.zero_le _, rfl, rfl⟩
    have H2 := Lib.hid h2
    have H3 := Lib.hid h3
    have H1 := Lib.hid h1
    clear h1 h2 h3
    go_loopw [6, 7] (fun v i wr => SomeRel w1 xs 20 v i wr) (fun _ i _ => 20 - (intOf i).toNat)
    case atStart => exact H0
    case round =>
      clear H0
      obtain ⟨k, f, rfl, rfl, hk, hf, rfl⟩ := hrel
      by_cases hlt : k < 20
      · obtain ⟨b, off, rfl, hcs⟩ := HX1.out.2 (by omega)
        have c1 := hcs k hlt
        obtain ⟨x1, hx1⟩ : ∃ x1, x1 = xs.getD k 0 := ⟨_, rfl⟩
        rw [← hx1] at c1
        have l1 : (k : Int) < (20 : Int) := by omega
        have HR : Hid (∀ v, (f || decide (0 < x1)) = v → SomeRel w1 xs 20 (.bool v) (.int .i64 ((k : Int) + 1)) w1) :=
          Lib.hid fun v hv => ⟨k + 1, v, rfl, by go_num, by omega, by rw [someB_succ, hf, ← hx1, hv], rfl⟩
        clear hcs hx1 hf
        cases f
        · by_cases hp : 0 < x1
          · go_wp2
            go_roundw
            case rel => exact HR.out _ (by simp [hp])
            case measure => simp [intOf]; omega
          · go_wp2
            go_roundw
            case rel => exact HR.out _ (by simp [hp])
            case measure => simp [intOf]; omega
        · go_wp2
          go_roundw
          case rel => exact HR.out _ (by simp)
          case measure => simp [intOf]; omega
      · obtain hkn : 20 = k := by omega
        have l1 : decide ((k : Int) < (20 : Int)) = false := decide_eq_false (by omega)
        rw [← hkn] at hf
        rcases someB_cnts xs 20 with ⟨hb, hz⟩ | ⟨hb, hz⟩
        · obtain rfl : f = false := hf.symm.trans hb
          clear hf hb hkn
          have HP := Lib.hid (pick_none (c := c) H2.out HX1.out (by omega) hz)
          go_wp2_with (first
            |  (go_at_call 12; (with_reducible refine HP.out.mono ?_); rintro e w2 ⟨rfl, rfl⟩)
            | (go_at_call 11; (with_reducible refine (lives_any _).mono ?_); rintro e w9 ⟨rfl, hl⟩))
          go_ret
          exact ⟨rfl, H3.out.trans (hl.mono H3.out.size)⟩
        · obtain rfl : f = true := hf.symm.trans hb
          clear hf hb hkn
          have HP := Lib.hid (pick_some (c := c) H2.out HX1.out (by omega) hz)
          go_wp2_with (first
            |  (go_at_call 12; (with_reducible refine HP.out.mono ?_); rintro e w2 ⟨i, b, off, y, rfl, rfl, c1, hi, hy, ho⟩; have l3 : (i : Int) < (20 : Int) := hi; have HO := Lib.hid (ho.over H3.out (by simpa using H1.out)))
            | (go_at_call 11; (with_reducible refine (lives_any _).mono ?_); rintro e w9 ⟨rfl, hl⟩))
          go_ret
          exact ⟨rfl, HO.out.trans (hl.mono HO.out.size)⟩
  · have d20 : decide ((20 : Int) < (n0 : Int)) = false := decide_eq_false (by omega)
    have HX : Hid (Ints w A n0 (zs.take n0)) := Lib.hid hI
    have hn20 : n0 ≤ 20 := by omega
    clear hI hz hl
    go_enter Try.func4, Try.ntmps4
    go_wp2_with (go_at_call 8; (with_reducible refine HN.out.mono ?_); rintro e w1 ⟨a, rfl, h1, h2, h3⟩)
    obtain ⟨xs, hxs⟩ : ∃ xs, xs = zs.take n0 := ⟨_, rfl⟩
    rw [← hxs] at HX
    clear hxs
    have HX1 : Hid (Ints w1 A n0 xs) := Lib.hid (HX.out.keep h3)
    have H0 : SomeRel w1 xs n0 (.bool false) (.int .i64 0) w1 := ⟨0, false, rfl, rfl, Nat.zero_le _, rfl, rfl⟩
    have H2 := Lib.hid h2
    have H3 := Lib.hid h3
    have H1 := Lib.hid h1
    clear h1 h2 h3
    go_loopw [6, 7] (fun v i wr => SomeRel w1 xs n0 v i wr) (fun _ i _ => n0 - (intOf i).toNat)
    case atStart => exact H0
    case round =>
      clear H0
      obtain ⟨k, f, rfl, rfl, hk, hf, rfl⟩ := hrel
      by_cases hlt : k < n0
      · obtain ⟨b, off, rfl, hcs⟩ := HX1.out.2 (by omega)
        have c1 := hcs k hlt
        obtain ⟨x1, hx1⟩ : ∃ x1, x1 = xs.getD k 0 := ⟨_, rfl⟩
        rw [← hx1] at c1
        have l1 : (k : Int) < (n0 : Int) := by omega
        have HR : Hid (∀ v, (f || decide (0 < x1)) = v → SomeRel w1 xs n0 (.bool v) (.int .i64 ((k : Int) + 1)) w1) :=
          Lib.hid fun v hv => ⟨k + 1, v, rfl, by go_num, by omega, by rw [someB_succ, hf, ← hx1, hv], rfl⟩
        clear hcs hx1 hf
        cases f
        · by_cases hp : 0 < x1
          · go_wp2
            go_roundw
            case rel => exact HR.out _ (by simp [hp])
            case measure => simp [intOf]; omega
          · go_wp2
            go_roundw
            case rel => exact HR.out _ (by simp [hp])
            case measure => simp [intOf]; omega
        · go_wp2
          go_roundw
          case rel => exact HR.out _ (by simp)
          case measure => simp [intOf]; omega
      · obtain hkn : n0 = k := by omega
        have l1 : decide ((k : Int) < (n0 : Int)) = false := decide_eq_false (by omega)
        rw [← hkn] at hf
        rcases someB_cnts xs n0 with ⟨hb, hz⟩ | ⟨hb, hz⟩
        · obtain rfl : f = false := hf.symm.trans hb
          clear hf hb hkn
          have HP := Lib.hid (pick_none (c := c) H2.out HX1.out (by omega) hz)
          go_wp2_with (first
            |  (go_at_call 12; (with_reducible refine HP.out.mono ?_); rintro e w2 ⟨rfl, rfl⟩)
            | (go_at_call 11; (with_reducible refine (lives_any _).mono ?_); rintro e w9 ⟨rfl, hl⟩))
          go_ret
          exact ⟨rfl, H3.out.trans (hl.mono H3.out.size)⟩
        · obtain rfl : f = true := hf.symm.trans hb
          clear hf hb hkn
          have HP := Lib.hid (pick_some (c := c) H2.out HX1.out (by omega) hz)
          go_wp2_with (first
            |  (go_at_call 12; (with_reducible refine HP.out.mono ?_); rintro e w2 ⟨i, b, off, y, rfl, rfl, c1, hi, hy, ho⟩; have l3 : (i : Int) < (n0 : Int) := hi; have HO := Lib.hid (ho.over H3.out (by simpa using H1.out)))
            | (go_at_call 11; (with_reducible refine (lives_any _).mono ?_); rintro e w9 ⟨rfl, hl⟩))
          go_ret
          exact ⟨rfl, HO.out.trans (hl.mono HO.out.size)⟩
end Go.Proofs.Ytaeiapodpihmnaa
