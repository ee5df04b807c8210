import Derived.Test.YtliomhkgkabbbaaGreatDoorK25
import Derived.Test.YtliomhkgkabbbaaGreatDoorK18
section
/- The document's example, parsed; and what is printed is parsed as the same. -/
namespace Go.Proofs.YtliomhkgkabbbaaGreatDoor
open Go.RowKit
set_option linter.unusedVariables false
set_option maxRecDepth 20000
theorem parse_print {x : Inst} (hw : x.Wf) (h : mayI x = true) : parseT (printI x) = (0, x) := by
  unfold parseT
  rw [print_lines h]
  show parseL (instW x) = _
  unfold parseL
  have e := whole_read hw h []
  rw [List.append_nil, if_pos rfl] at e
  rw [e]
  show (if false = true ∨ mayI x = false then ((3 : Int), zeroI) else (0, x)) = _
  rw [if_neg (by rw [h]; simp)]
theorem parse_again {t : List UInt8} {x : Inst} (h : parseT t = (0, x)) : mayI x = true ∧ printI x = t := by
  unfold parseT at h
  cases hl : linesD t with
  | none => rw [hl] at h; injection h with h _; exact absurd h (by decide)
  | some ls =>
    rw [hl] at h
    have h' : parseL ls = (0, x) := h
    unfold parseL at h'
    cases hs : wholeP (startP ls) with
    | none => rw [hs] at h'; injection h' with h' _; exact absurd h' (by decide)
    | some s =>
      rw [hs] at h'
      have h2 : (if s.am = true ∨ mayI s.x = false then ((3 : Int), zeroI) else (0, s.x)) = (0, x) := h'
      split at h2
      · injection h2 with h2 _; exact absurd h2 (by decide)
      · rename_i hc
        injection h2 with _ h2
        subst h2
        have ham : s.am = false := by cases e : s.am with | true => exact absurd (.inl e) hc | false => rfl
        have hm : mayI s.x = true := by cases e : mayI s.x with | true => rfl | false => exact absurd (.inr e) hc
        refine ⟨hm, ?_⟩
        unfold printI
        rw [(whole_back hs ham hm).1]
        exact lines_back hl
theorem parse_fail {t : List UInt8} (h : (parseT t).1 ≠ 0) : (parseT t).2 = zeroI ∧ ((parseT t).1 = 2 ∨ (parseT t).1 = 3) := by
  unfold parseT at h ⊢
  cases hl : linesD t with
  | none => exact ⟨rfl, .inl rfl⟩
  | some ls =>
    rw [hl] at h
    show (parseL ls).2 = zeroI ∧ ((parseL ls).1 = 2 ∨ (parseL ls).1 = 3)
    have h' : (parseL ls).1 ≠ 0 := h
    unfold parseL at h' ⊢
    cases hs : wholeP (startP ls) with
    | none => exact ⟨rfl, .inl rfl⟩
    | some s =>
      rw [hs] at h'
      show (if s.am = true ∨ mayI s.x = false then ((3 : Int), zeroI) else (0, s.x)).2 = zeroI ∧ ((if s.am = true ∨ mayI s.x = false then ((3 : Int), zeroI) else (0, s.x)).1 = 2 ∨ (if s.am = true ∨ mayI s.x = false then ((3 : Int), zeroI) else (0, s.x)).1 = 3)
      have h2 : (if s.am = true ∨ mayI s.x = false then ((3 : Int), zeroI) else (0, s.x)).1 ≠ 0 := h'
      split
      · exact ⟨rfl, .inr rfl⟩
      · rename_i hc
        rw [if_neg hc] at h2
        exact absurd rfl h2
theorem print_inj {x y : Inst} (hx : x.Wf) (hy : y.Wf) (mx : mayI x = true) (my : mayI y = true) : (printI x = printI y) ↔ x = y := by
  refine ⟨fun h => ?_, fun h => by rw [h]⟩
  have e1 := parse_print hx mx
  rw [h, parse_print hy my] at e1
  injection e1 with _ e1
  exact e1.symm
/-! ### The document's example -/
def leastT : List UInt8 := [116, 114, 97, 110, 116, 101, 114, 32, 49, 10, 100, 97, 121, 115, 32, 49, 32, 118, 101, 104, 105, 99, 108, 101, 115, 32, 49, 32, 99, 97, 112, 97, 99, 105, 116, 121, 32, 57, 32, 108, 101, 110, 103, 116, 104, 32, 57, 10, 99, 117, 115, 116, 111, 109, 101, 114, 115, 32, 49, 10, 116, 97, 110, 107, 32, 50, 32, 54, 32, 51, 32, 102, 105, 108, 108, 32, 49, 10, 100, 105, 115, 116, 97, 110, 99, 101, 115, 10, 48, 32, 51, 10, 52, 32, 48, 10]
def leastC : Cust := { kind := 2, demand := 0, pats := [], rate := 2, size := 6, start := 3, rule := 1, hold := 1 }
def leastI : Inst := { days := 1, veh := 1, cap := 9, len := 9, custs := [leastC], dist := [[0, 3], [4, 0]] }
theorem dig1 (n : Nat) (h : n < 10) : decI (n : Int) = [UInt8.ofNat (48 + n)] := by rw [decI_nat, decN_small h]
theorem least_print : printI leastI = leastT := by
  have d0 : decI 0 = [48] := dig1 0 (by decide)
  have d1 : decI 1 = [49] := dig1 1 (by decide)
  have d2 : decI 2 = [50] := dig1 2 (by decide)
  have d3 : decI 3 = [51] := dig1 3 (by decide)
  have d4 : decI 4 = [52] := dig1 4 (by decide)
  have d6 : decI 6 = [54] := dig1 6 (by decide)
  have d9 : decI 9 = [57] := dig1 9 (by decide)
  have e : instW leastI = [[wProgram, wEdition], [wDays, [49], wVehicles, [49], wCapacity, [57], wLength, [57]], [wCustomers, [49]], [wTank, [50], [54], [51], wFill, [49]], [wDistances], [[48], [51]], [[52], [48]]] := by
    show [[wProgram, wEdition], [wDays, decI 1, wVehicles, decI 1, wCapacity, decI 9, wLength, decI 9], [wCustomers, decI 1], [wTank, decI 2, decI 6, decI 3, wFill, decI 1], [wDistances], [decI 0, decI 3], [decI 4, decI 0]] = _
    rw [d0, d1, d2, d3, d4, d6, d9]
  unfold printI
  rw [e]
  decide
theorem least_may : mayI leastI = true := by kernel_rfl
theorem least_wf : leastI.Wf := by
  have w : ∀ n : Int, 0 ≤ n → n ≤ 100 → W64 n := fun n h1 h2 => ⟨by omega, by omega⟩
  refine ⟨w 1 (by decide) (by decide), w 1 (by decide) (by decide), w 9 (by decide) (by decide), w 9 (by decide) (by decide), fun c hc => ?_, fun r hr => ?_, by decide, by decide⟩
  · simp [leastI] at hc
    subst hc
    exact ⟨w 2 (by decide) (by decide), w 0 (by decide) (by decide), w 2 (by decide) (by decide), w 6 (by decide) (by decide), w 3 (by decide) (by decide), w 1 (by decide) (by decide), w 1 (by decide) (by decide), fun p hp => by simp [leastC] at hp, Nat.zero_le _⟩
  · simp [leastI] at hr
    rcases hr with rfl | rfl
    · exact ⟨by decide, fun n hn => by simp at hn; rcases hn with rfl | rfl <;> exact w _ (by decide) (by decide)⟩
    · exact ⟨by decide, fun n hn => by simp at hn; rcases hn with rfl | rfl <;> exact w _ (by decide) (by decide)⟩
theorem least_parse : parseT leastT = (0, leastI) := by rw [← least_print]; exact parse_print least_wf least_may
/-- The example, parsed: what lives reads of it. -/
def LeastEnd (w : World) (e : Ending) (w' : World) : Prop :=
  ∃ b off c B d P kp, e = .returned (.tuple #[.agg #[.int .i64 1, .int .i64 1, .int .i64 9, .int .i64 9, .slice (some ⟨b, off, none⟩) 1 c, .slice B 2 d], .int .i64 0]) ∧ CustAt w' b (off + 0 * 8) leastC P kp ∧ Below w.heap.size w w'
theorem least_code (w : World) (hT : Tab w) : Calls Tryz.prog 10 #[.string ⟨#[116, 114, 97, 110, 116, 101, 114, 32, 49, 10, 100, 97, 121, 115, 32, 49, 32, 118, 101, 104, 105, 99, 108, 101, 115, 32, 49, 32, 99, 97, 112, 97, 99, 105, 116, 121, 32, 57, 32, 108, 101, 110, 103, 116, 104, 32, 57, 10, 99, 117, 115, 116, 111, 109, 101, 114, 115, 32, 49, 10, 116, 97, 110, 107, 32, 50, 32, 54, 32, 51, 32, 102, 105, 108, 108, 32, 49, 10, 100, 105, 115, 116, 97, 110, 99, 101, 115, 10, 48, 32, 51, 10, 52, 32, 48, 10]⟩] w (LeastEnd w) := by
  refine (Parse_code leastT (by decide) w hT _ least_parse).mono ?_
  rintro e w' ⟨A, c, B, d, rfl, hO, hWf, hb⟩
  obtain ⟨b, off, P, kp, rfl, hc, _⟩ := (hO.inst hWf).custs 0 (by decide)
  exact ⟨b, off, c, B, d, P, kp, rfl, hc, hb⟩
set_option maxHeartbeats 4000000 in
theorem lives7_any (w : World) (hT : Tab w) : Calls Tryz.prog 13 #[] w fun e w' => e = .returned (.bool true) ∧ Below w.heap.size w w' := by
  have CP := fun W hT => least_code W hT
  have HT := Go.Lib.hid hT
  clear hT
  go_enter Tryz.func13, Tryz.ntmps13
  go_wp2_with (first
    | (go_at_call 10; refine (CP _ (HT.out.keep (by first | exact Below.refl _ _ | exact below_alloc _ _))).mono ?_; rintro e w1 ⟨b, off, c, B, d, P, kp, rfl, hc, hb⟩; obtain ⟨c0, c1, c2, c3, c4, c5, c6, c7⟩ := hc; simp only [leastC, Nat.zero_mul, Nat.add_zero] at c0 c1 c2 c3 c4 c5 c6 c7; have HL := Go.Lib.hid (hb.alloc hb.size (.cells #[.int .i64 1, .int .i64 1, .int .i64 9, .int .i64 9, .slice (some ⟨b, off, none⟩) 1 c, .slice B 2 d] 25)); have hba := below_alloc w1 (.cells #[.int .i64 1, .int .i64 1, .int .i64 9, .int .i64 9, .slice (some ⟨b, off, none⟩) 1 c, .slice B 2 d] 25); replace c3 := keep_cell hba c3; replace c4 := keep_cell hba c4; replace c5 := keep_cell hba c5; replace c6 := keep_cell hba c6; replace c7 := keep_cell hba c7; clear c0 c1 c2 hb hba))
  go_ret
  exact ⟨rfl, HL.out⟩
end Go.Proofs.YtliomhkgkabbbaaGreatDoor
end
