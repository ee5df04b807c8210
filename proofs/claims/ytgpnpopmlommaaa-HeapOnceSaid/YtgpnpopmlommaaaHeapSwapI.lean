/- The row's Swap. -/
import Derived.Test.YtgpnpopmlommaaaHeapRowI
namespace Go.Proofs.Ytgpnpopmlommaaa
open Go.RowKit Go.Maps
set_option linter.unusedVariables false
theorem swap_I {w : World} {g : Nat} {F : List Nat} {q : Nat → Thing Int} {n : Nat} (h : HI w g F q n) {i j : Nat} (hi : i < n) (hj : j < n) :
    Calls Try.prog 71 #[.pointer (some ⟨g, 0, none⟩), .int .i64 i, .int .i64 j] w fun e w' => e = .returned (.tuple #[]) ∧ HI w' g F (sw q i j) n ∧ Only F w w' := by
  obtain ⟨s, m, G, f, hb, ht, hm, hp, rfl, hn, hw⟩ := h
  have c0 := hb.cellAt 0
  have c1 := hb.cellAt 1
  simp at c0 c1
  rcases ht with ⟨rfl, rfl, rfl⟩ | ⟨a, c, rfl, rfl, hr⟩
  · omega
  obtain ⟨c2, c3⟩ := hr.cell hi
  obtain ⟨c4, c5⟩ := hr.cell hj
  have f1 := hr.free (i * 2)
  have f2 := hr.free (i * 2 + 1)
  have f3 := hr.free (j * 2)
  have f4 := hr.free (j * 2 + 1)
  have hi' : (i : Int) < (n : Int) := by omega
  have hj' : (j : Int) < (n : Int) := by omega
  obtain ⟨x, hx⟩ : ∃ x, x = q i := ⟨_, rfl⟩
  obtain ⟨y, hy⟩ : ∃ y, y = q j := ⟨_, rfl⟩
  rw [← hx] at c2 c3
  rw [← hy] at c4 c5
  have HX := Lib.hid hx
  have HY := Lib.hid hy
  have HM := Lib.hid hm
  have HP := Lib.hid hp
  have HW := Lib.hid hw
  have HR := Lib.hid hr
  clear hx hy hm hp hw hr
  go_enter Try.func71, Try.ntmps71
  obtain ⟨v1, d1⟩ := cell?_setCell_some (w := w) (p := ⟨a, i * 2, none⟩) (x := .int .i64 y.1) (q := ⟨a, j * 2, none⟩) (v := .int .i64 y.1) c4
  obtain ⟨v2, d2⟩ := cell?_setCell_some (w := w) (p := ⟨a, i * 2 + 1, none⟩) (x := .int .i64 y.2) (q := ⟨a, j * 2 + 1, none⟩) (v := .int .i64 y.2) c5
  obtain ⟨v4, d4⟩ := cell?_setCell_some (w := w) (p := ⟨a, i * 2, none⟩) (x := .int .i64 y.1) (q := ⟨a, j * 2 + 1, none⟩) (v := .int .i64 y.2) c5
  obtain ⟨v3, d3⟩ := cell?_setCell_some (w := w.setCell ⟨a, i * 2, none⟩ (.int .i64 y.1)) (p := ⟨a, i * 2 + 1, none⟩) (x := .int .i64 y.2) (q := ⟨a, j * 2 + 1, none⟩) d4
  go_wp2
  go_region
  go_wp2
  generalize hw1 : (World.drew (World.setCell (World.setCell (World.setCell (World.setCell w _ _) _ _) _ _) _ _)) = w1
  have o1 : Only [a] w w1 := by rw [← hw1]; exact four_only _ _ _ _ _ _ _ _ _ _
  have R1 : RowIs (Value.int .i64) 77 w1 a c (sw q i j) n := by rw [← hw1]; exact HR.out.swap HX.out HY.out
  clear hw1 d1 d2 d3 d4 c2 c3 c4 c5 c0 c1 f1 f2 f3 f4
  obtain ⟨ap1, ap2, ap3⟩ := three_apart hb HM.out HR.out (by decide)
  have B1 := hb.only o1 (by simpa using ap2)
  have M1 := HM.out.only o1 (by simpa using ap3)
  have hwx := (HW.out i hi).1
  have hwy := (HW.out j hj).1
  have hki : (sw q i j i).1 = y.1 := by rw [sw_left, HY.out]
  have hkj : (sw q i j j).1 = x.1 := by rw [sw_right, HX.out]
  rw [← HX.out] at hwx
  rw [← HY.out] at hwy
  have fy : f y.1 = some (j : Int) := by rw [HY.out]; exact HP.out.at hj
  have fx : f x.1 = some (i : Int) := by rw [HX.out]; exact HP.out.at hi
  have wfi : (Lit.int .i64 (i : Int)).wf = true := wf_iff.2 ⟨by omega, by omega⟩
  have wfj : (Lit.int .i64 (j : Int)).wf = true := wf_iff.2 ⟨by omega, by omega⟩
  obtain ⟨w2, e2, M2, t2⟩ := (M1.keep (w' := w1.drew) rfl).store (by unfold maxLen; omega) hwy wfi
  rw [fy] at M2
  have o2 : Only [m] w1 w2 := (Only.drew (Only.refl _ _)).trans' (.of_grown t2.grown (by simp))
  have B2 := B1.only o2 (by simpa using ap1)
  have R2 := R1.only o2 (by simpa using fun e => ap3 e.symm)
  obtain ⟨w3, e3, M3, t3⟩ := (M2.keep (w' := w2.drew) rfl).store (by simp only [Option.isSome_some, if_true]; unfold maxLen; omega) hwx wfj
  have hs : (updF f y.1 (some (i : Int)) x.1).isSome = true := by
    unfold updF
    split
    · rfl
    · rw [fx]; rfl
  rw [if_pos hs, Option.isSome_some, if_pos rfl] at M3
  clear hs
  have o3 : Only [m] w2 w3 := (Only.drew (Only.refl _ _)).trans' (.of_grown t3.grown (by simp))
  have B3 := B2.only o3 (by simpa using ap1)
  have R3 := R2.only o3 (by simpa using fun e => ap3 e.symm)
  have a1 := B1.cellAt 0
  have a2 := B1.cellAt 1
  have a3 := B2.cellAt 0
  have a4 := B2.cellAt 1
  simp at a1 a2 a3 a4
  have a5 := (R1.cell hi).1
  have a6 := (R2.cell hj).1
  rw [hki] at a5
  rw [hkj] at a6
  have O : Only [g, m, a] w w3 := ((o1.more (by simp)).trans' (o2.more (by simp))).trans' (o3.more (by simp))
  have HO := Lib.hid O
  have HM3 := Lib.hid M3
  have HB3 := Lib.hid B3
  have HR3 := Lib.hid R3
  clear O M3 B3 R3 o1 o2 o3 M1 M2 B1 B2 R1 R2 t2 t3 hki hkj fy fx
  go_still_tail 13, (by kernel_rfl)
  change wpList _ _ _ _ _ w1.drew
  go_wp2
  go_still_tail 13, (by kernel_rfl)
  change wpList _ _ _ _ _ w2.drew
  go_wp2
  go_end0
  refine ⟨rfl, ⟨_, m, [a], _, HB3.out, .inr ⟨a, c, rfl, rfl, HR3.out⟩, HM3.out, ?_, rfl, hn, fun k hk => ?_⟩, HO.out⟩
  · rw [HX.out, HY.out]; exact HP.out.sw hi hj
  · unfold sw
    split
    · exact HW.out j hj
    · split
      · exact HW.out i hi
      · exact HW.out k hk
end Go.Proofs.Ytgpnpopmlommaaa
