/- Sorted: what it tells of up to sixty worths. -/
import Derived.Test.YtgpnpopmlommaaaSortStab
import Derived.Laws.MakeOwn
namespace Go.Proofs.Ytgpnpopmlommaaa
open Go.RowKit
set_option linter.unusedVariables false
theorem stabf_any {w : World} {D C bx : Nat} {A : Option Addr} {n c : Nat} {xs : List Int} {d : Nat → Int} (h : SortIs w D C bx A n c xs d) (hn60 : n ≤ 60) (hid : ∀ k, k < n → d k = (k : Int)) :
    Calls Try.prog 31 #[.slice (some ⟨D, 0, none⟩) n C, cmpV bx] w fun e w' => e = .returned (.tuple #[]) ∧ Sorted1 w D C bx A n c xs d 0 n w' := by
  have HS := Lib.hid (stab_any h hn60 hid)
  unfold cmpV at *
  clear h hid
  go_enter Try.func31, Try.ntmps31
  go_wp2_with (go_at_call 41; refine HS.out.mono ?_; rintro e' w1 ⟨rfl, hR⟩)
  go_end0
  exact ⟨rfl, hR⟩
/-- The first k places hold themselves. -/
def filled (k : Nat) : Nat → Int := fun j => if j < k then (j : Int) else 0
theorem DataIs.put {w : World} {D C n k : Nat} (h : DataIs w D C n (filled k)) (hk : k < n) : DataIs (w.setCell ⟨D, k, none⟩ (.int .i64 (k : Int))) D C n (filled (k + 1)) := by
  obtain ⟨cur, h1, h2, h3, h4⟩ := h
  refine ⟨cur.setIfInBounds k (.int .i64 (k : Int)), ?_, h2, by simpa using h3, fun j hj => ?_⟩
  · simp [World.setCell, Array.getElem?_modify, h1]
  · by_cases e : j = k
    · subst e
      rw [Array.getElem?_setIfInBounds_self_of_lt (by omega)]
      unfold filled; rw [if_pos (by omega)]
    · rw [Array.getElem?_setIfInBounds_ne (by omega), h4 j hj]
      unfold filled
      by_cases c : j < k
      · rw [if_pos c, if_pos (by omega)]
      · rw [if_neg c, if_neg (by omega)]
def FillRel (w2 : World) (D n : Nat) (i : Value) (wr : World) : Prop := ∃ k : Nat, i = .int .i64 k ∧ k ≤ n ∧ DataIs wr D n n (filled k) ∧ Only [D] w2 wr
def SortedPost (w : World) (n : Nat) (xs : List Int) (e : Ending) (w' : World) : Prop :=
  ∃ D f, e = .returned (.slice (some ⟨D, 0, none⟩) n n) ∧ DataIs w' D n n f ∧ Below w.heap.size w w' ∧ w.heap.size ≤ D ∧ SortedOn (keyOfI xs) f 0 n ∧ Moved 0 n (filled n) f
theorem info_i : (Try.prog.info? 3).map (fun i => (i.zero, i.size, i.bytes)) = some (some (.int .i64 0), 1, 8) := by kernel_rfl
theorem madeCells_at {n k : Nat} (hk : k < n) : (madeCells #[Value.int .i64 0] n)[k]? = some (.int .i64 0) := by
  unfold madeCells
  simp [hk, Nat.mod_one]
set_option maxHeartbeats 4000000 in
theorem sorted_any (A : Option Addr) (n c : Nat) (xs : List Int) (w : World) (h : Ints w A n xs) (hn60 : n ≤ 60) :
    Calls Try.prog 14 #[.slice A n c] w (SortedPost w n xs) := by
  obtain ⟨i0, hi, hz0, hz1, hz2⟩ := info_parts info_i
  have hmk : ∀ w : World, (Instr.makeSlice 33 (.int .i64 (n : Int)) (.int .i64 (n : Int))).run Try.prog w = .ok (.slice (some ⟨w.heap.size, 0, none⟩) n n) (w.alloc (.cells (madeCells #[.int .i64 0] n) 3)) := by
    intro w
    have := run_make (P := Try.prog) w 33 3 i0 (.int .i64 0) Try.underlying33 hi hz0 .i64 .i64 n n (by omega) (Int.le_refl _) (by rw [hz2]; omega) (by omega)
    rw [hz1] at this
    simpa [Value.cells] using this
  have HX := Lib.hid h
  obtain ⟨D, hD⟩ : ∃ D, D = w.heap.size + 1 := ⟨_, rfl⟩
  obtain ⟨w2, hw2⟩ : ∃ w2, w2 = (w.alloc (.cells #[.slice A n c] 33)).alloc (.cells (madeCells #[.int .i64 0] n) 3) := ⟨_, rfl⟩
  have b2 : Below w.heap.size w w2 := by rw [hw2]; exact (below_alloc _ _).trans ((below_alloc _ _).mono (by simp))
  have X2 : BlkIs w2 w.heap.size 33 #[.slice A n c] := by rw [hw2]; exact (BlkIs.fresh _ _ _).alloc _
  have D2 : DataIs w2 D n n (filled 0) := by
    refine ⟨madeCells #[.int .i64 0] n, ?_, Nat.le_refl _, size_madeCells _ _, fun k hk => ?_⟩
    · have := BlkIs.fresh (w.alloc (.cells #[.slice A n c] 33)) 3 (madeCells #[.int .i64 0] n)
      unfold BlkIs at this
      rw [World.size_alloc] at this
      rw [hw2, hD]; exact this
    · rw [madeCells_at hk]; rfl
  have hDs : w.heap.size < w2.heap.size := X2.lt
  have H0 : FillRel w2 D n (.int .i64 0) w2 := ⟨0, rfl, by omega, D2, Only.refl _ _⟩
  subst hD
  have hcell : w2.cell? ⟨w.heap.size, 0, none⟩ = some (.slice A n c) := by have := X2.cellAt 0; simpa using this
  have HX2 := Lib.hid X2
  clear h D2 X2 hi hz0 hz1 hz2
  go_enter Try.func14, Try.ntmps14
  go_wp2_with fail
  rw [← hw2]
  have HB2 := Lib.hid b2
  clear hw2 b2 hmk
  go_loopw [10] (fun i wr => FillRel w2 (w.heap.size + 1) n i wr) (fun i _ => n - (intOf i).toNat)
  case atStart => exact H0
  case round =>
    clear H0
    obtain ⟨k, rfl, hk, hDt, hO⟩ := hrel
    by_cases hlt : k < n
    · have c1 := hDt.cell hlt
      have f1 := hDt.free k
      have l1 : (k : Int) < (n : Int) := by omega
      have HR : Hid (FillRel w2 (w.heap.size + 1) n (.int .i64 ((k : Int) + 1)) (wr.setCell ⟨w.heap.size + 1, k, none⟩ (.int .i64 (k : Int)))) :=
        Lib.hid ⟨k + 1, by go_num, by omega, hDt.put hlt, hO.setCell (by simp) _⟩
      clear hDt hO
      go_wp2
      go_roundw
      case rel => exact HR.out
      case measure => simp [intOf]; omega
    · obtain rfl : n = k := by omega
      have l1 : decide ((n : Int) < (n : Int)) = false := by simp
      have hS : SortIs wr (w.heap.size + 1) n w.heap.size A n c xs (filled n) := by
        refine ⟨hDt, HX2.out.only hO (by simp), (HX.out.keep (HB2.out.trans (hO.to_below (B := w.heap.size) (by omega) (by simp)))), fun k hk => ?_, by simp, fun hn a ha => ?_, by omega⟩
        · unfold filled; rw [if_pos hk]; omega
        · obtain ⟨b, off, e1, hc⟩ := HX.out.2 hn
          rw [e1] at ha; cases ha
          have := World.block_lt_of_cell? w _ (hc 0 hn)
          show b ≠ w.heap.size + 1
          have h2 : b < w.heap.size := this
          omega
      have HS : Hid (Calls Try.prog 31 #[.slice (some ⟨w.heap.size + 1, 0, none⟩) n n, .func (.func 32) #[] #[.pointer (some ⟨w.heap.size, 0, none⟩)]] wr fun e w' => e = .returned (.tuple #[]) ∧ SortedPost w n xs (.returned (.slice (some ⟨w.heap.size + 1, 0, none⟩) n n)) w') := by
        refine Lib.hid ((stabf_any hS hn60 (fun k hk => by unfold filled; rw [if_pos hk])).mono ?_)
        rintro e' w' ⟨rfl, f, k1, k2, k3, k4⟩
        exact ⟨rfl, w.heap.size + 1, f, rfl, k1.data, HB2.out.trans ((hO.trans' k4).to_below (by omega) (by simp)), by omega, k3, k2⟩
      clear hDt hO hS
      go_wp2_with (go_at_call 31; refine HS.out.mono ?_; rintro e' w5 ⟨rfl, hR⟩)
      go_ret
      exact hR
end Go.Proofs.Ytgpnpopmlommaaa
