/- The document's comparison of numbers, and that floors and ceilings fit. -/
import Derived.Test.YtnfjfejjbphgbaaSums
namespace Go.Proofs.Ytnfjfejjbphgbaa
open Go.RowKit
set_option linter.unusedVariables false

theorem Bg.neg {w : World} {L : Nat} {A : Option Addr} {n c : Nat} {b : Bool} {z : Int} (h : Bg w L (.agg #[.slice A n c, .bool b]) z) : b = decide (z < 0) := by
  obtain ⟨A', n', c', xs, b', e, hi, hd, hn, hz, hv, hl, hc⟩ := h
  simp only [Value.agg.injEq, Array.mk.injEq, List.cons.injEq, Value.slice.injEq, Value.bool.injEq, and_true] at e
  obtain ⟨⟨rfl, rfl, rfl⟩, rfl⟩ := e
  have hb := val_bd hd
  cases b
  · unfold sg at hv
    simp at hv
    exact (decide_eq_false (by omega)).symm
  · have : 0 < val xs := by
      by_cases h0 : val xs = 0
      · have := hz (norm_zero hd hn h0)
        cases this
      · omega
    unfold sg at hv
    simp at hv
    exact (decide_eq_true (by omega)).symm

/-! ### The document's calls from a world on that has grown since -/
section
variable {w wc : World}
theorem of_from {L : Nat} {v : Value} {x : Int} (hx : Bg w L v x) (n : Int) (wn : (Lit.int .i64 n).wf = true) (hb : Below w.heap.size w wc) :
    Calls Try.prog 10 #[.int .i64 n] wc fun e w' => ∃ r, e = .returned r ∧ Bg w' 4 r n ∧ Below w.heap.size w w' ∧ Below wc.heap.size wc w' :=
  (of_any n wn wc).mono fun _ _ ⟨r, h1, h2, h3⟩ => ⟨r, h1, h2, hb.trans (h3.mono hb.size), h3⟩
theorem neg_from {L : Nat} {v : Value} {x : Int} (hx : Bg w L v x) (hL : L ≤ 900) (hb : Below w.heap.size w wc) :
    Calls Try.prog 15 #[v] wc fun e w' => ∃ r, e = .returned r ∧ Bg w' L r (-x) ∧ Below w.heap.size w w' ∧ Below wc.heap.size wc w' :=
  (neg_any L v x wc (hx.keep hb) (by omega)).mono fun _ _ ⟨r, h1, h2, h3⟩ => ⟨r, h1, h2, hb.trans (h3.mono hb.size), h3⟩
theorem add_from {L M : Nat} {v u : Value} {x y : Int} (hx : Bg w L v x) (hy : Bg w M u y) (hL : L ≤ 900) (hM : M ≤ 900) (hb : Below w.heap.size w wc) :
    Calls Try.prog 13 #[v, u] wc fun e w' => ∃ r, e = .returned r ∧ Bg w' (max L M + 1) r (x + y) ∧ Below w.heap.size w w' ∧ Below wc.heap.size wc w' :=
  (bigadd_any (max L M) v u x y wc ((hx.keep hb).more (by omega)) ((hy.keep hb).more (by omega)) (by omega)).mono fun _ _ ⟨r, h1, h2, h3⟩ => ⟨r, h1, h2, hb.trans (h3.mono hb.size), h3⟩
theorem times_from {L M : Nat} {v u : Value} {x y : Int} (hx : Bg w L v x) (hy : Bg w M u y) (hL : L ≤ 400) (hM : M ≤ 400) (hb : Below w.heap.size w wc) :
    Calls Try.prog 17 #[v, u] wc fun e w' => ∃ r, e = .returned r ∧ Bg w' (max L M + max L M + 1) r (x * y) ∧ Below w.heap.size w w' ∧ Below wc.heap.size wc w' :=
  (bigtimes_any (max L M) v u x y wc ((hx.keep hb).more (by omega)) ((hy.keep hb).more (by omega)) (by omega)).mono fun _ _ ⟨r, h1, h2, h3⟩ => ⟨r, h1, h2, hb.trans (h3.mono hb.size), h3⟩
end
theorem below_drew (w : World) : Below w.heap.size w w.drew := (Below.refl _ _).drew
theorem below_drew_alloc (w : World) (o : Obj) : Below w.heap.size w (w.alloc o).drew := (below_alloc w o).drew
theorem below_drew_alloc' (w : World) (o : Obj) : Below w.heap.size w (w.drew.alloc o) := (below_drew w).alloc (Nat.le_refl _) o
/-- A new variable's block that a call has left. -/
theorem fresh_left {w w' : World} (hb : Below (w.alloc (.cells #[.slice none 0 0, .bool false] 24)).heap.size (w.alloc (.cells #[.slice none 0 0, .bool false] 24)) w') : BlkIs w' w.heap.size 24 #[.slice none 0 0, .bool false] :=
  (BlkIs.fresh w 24 #[.slice none 0 0, .bool false]).below hb (by simp)
theorem fresh_left' {w w' : World} (hb : Below ((w.alloc (.cells #[.slice none 0 0, .bool false] 24)).drew).heap.size (w.alloc (.cells #[.slice none 0 0, .bool false] 24)).drew w') : BlkIs w' w.heap.size 24 #[.slice none 0 0, .bool false] :=
  fresh_left ((Below.refl _ _).drew.trans hb)
/-- A number in parts. -/
theorem Bg.parts {w : World} {L : Nat} {v : Value} {z : Int} (h : Bg w L v z) : ∃ A n c b, v = .agg #[.slice A n c, .bool b] := by
  obtain ⟨A, n, c, xs, b, rfl, _⟩ := h
  exact ⟨A, n, c, b, rfl⟩

set_option maxHeartbeats 2000000 in
theorem bigbelow_any (L : Nat) (v u : Value) (x y : Int) (w : World) (hx : Bg w L v x) (hy : Bg w L u y) (hL : L ≤ 800) :
    Calls Try.prog 22 #[v, u] w fun e w' => e = .returned (.bool (decide (x < y))) ∧ Below w.heap.size w w' := by
  obtain ⟨A, n, c, na, rfl⟩ := hx.parts
  obtain ⟨C, m, d, nb, rfl⟩ := hy.parts
  have hb2 : ∀ o o', Below w.heap.size w ((w.alloc o).alloc o') := fun o o' => ((Below.refl _ _).alloc (Nat.le_refl _) o).alloc (by simp) o'
  go_enter Try.func22, Try.ntmps22
  go_wp2
  have CW : Below w.heap.size w ((w.alloc (.cells #[.slice A n c, .bool na] 24)).alloc (.cells #[.slice C m d, .bool nb] 24)) := hb2 _ _
  have J0 := (BlkIs.fresh w 24 #[.slice A n c, .bool na]).alloc (.cells #[.slice C m d, .bool nb] 24)
  have J1 := BlkIs.fresh (w.alloc (.cells #[.slice A n c, .bool na] 24)) 24 #[.slice C m d, .bool nb]
  rw [World.size_alloc] at J1
  obtain ⟨W, hW⟩ : ∃ W, (w.alloc (.cells #[.slice A n c, .bool na] 24)).alloc (.cells #[.slice C m d, .bool nb] 24) = W := ⟨_, rfl⟩
  rw [hW] at CW J0 J1 ⊢
  clear hW hb2
  replace hx := hx.keep CW
  replace hy := hy.keep CW
  obtain ⟨u0, u1, u2, u3⟩ := J0.cells2
  obtain ⟨u4, u5, u6, u7⟩ := J1.cells2
  have lW := J1.lt
  go_region_held3 (fun w' => w'.cell? ⟨w.heap.size, 0, none⟩ = some (.slice A n c) ∧ w'.cell? ⟨w.heap.size, 1, none⟩ = some (.bool na) ∧ w'.cell? ⟨w.heap.size + 1, 0, none⟩ = some (.slice C m d) ∧ w'.cell? ⟨w.heap.size + 1, 1, none⟩ = some (.bool nb))
    (first | ((try dsimp only); (repeat' apply And.intro) <;> (first | assumption | (rw [far_two (by omega)]; assumption)); done) | go_keep)
    (first
      | (go_at_call 15; refine (neg_from hy (by omega) (by first | exact below_drew _ | exact below_drew_alloc _ _ | exact below_drew_alloc' _ _)).mono ?_; rintro e w5 ⟨r2, rfl, GN, HB, hbc⟩; (first | (have KA := fresh_left hbc) | (have KA := fresh_left' hbc) | skip); replace CW := CW.trans (HB.mono CW.size); replace hx := hx.keep HB; replace J0 := J0.below HB J0.lt; replace J1 := J1.below HB J1.lt; obtain ⟨v0, v1, v2, v3⟩ := J0.cells2; obtain ⟨v4, v5, v6, v7⟩ := J1.cells2; have l5 := J1.lt; clear HB hbc)
      | (go_at_call 13; refine (add_from hx GN (by omega) (by omega) (by first | exact Below.refl _ _ | exact below_alloc _ _)).mono ?_; rintro e w6 ⟨r3, rfl, GA, HB, hbc⟩; (first | (replace KA := KA.below HB KA.lt) | (have KA := fresh_left hbc) | skip); replace CW := CW.trans (HB.mono CW.size); replace J0 := J0.below HB J0.lt; replace J1 := J1.below HB J1.lt; obtain ⟨t0, t1, t2, t3⟩ := J0.cells2; obtain ⟨t4, t5, t6, t7⟩ := J1.cells2; obtain ⟨A6, n6, c6, b6, rfl⟩ := GA.parts; (try obtain ⟨ka0, ka1, ka2, ka3⟩ := KA.cells2); clear HB hbc))
  all_goals
    have H6 := Go.Lib.hid GA.neg
    have HW := Go.Lib.hid CW
    (try obtain ⟨q0, q1⟩ := KA.two (A1 := A6) (n1 := n6) (c1 := c6) (b1 := b6))
    clear CW
    go_wp2
    go_ret
    refine ⟨ret_bool ?_, ?_⟩
    · rw [H6.out]
      by_cases h : x < y
      · rw [decide_eq_true h, decide_eq_true (by omega)]
      · rw [decide_eq_false h, decide_eq_false (by omega)]
    · first
        | exact HW.out.trans ((below_alloc w6 _).mono HW.out.size)
        | exact (HW.out.setCell (by dsimp only; omega) _).setCell (by dsimp only; omega) _

theorem flo_wf {a b : Int} (wa : -9223372036854775808 ≤ a ∧ a ≤ 9223372036854775807) (h : dvB a b = true) : (Lit.int .i64 (flo a b)).wf = true := by
  by_cases hm : a.tmod b = 0
  · rw [← flo_same wa h hm]; exact wrap64_wf _
  · cases hs : (!decide (a < 0) == decide (b < 0))
    · rw [← flo_up wa h hm hs]; exact wrap64_wf _
    · rw [← flo_down wa h hm hs]; exact wrap64_wf _
theorem cei_wf {a b : Int} (wa : -9223372036854775808 ≤ a ∧ a ≤ 9223372036854775807) (h : dvB a b = true) : (Lit.int .i64 (cei a b)).wf = true := by
  by_cases hm : a.tmod b = 0
  · rw [← cei_same wa h hm]; exact wrap64_wf _
  · cases hs : (decide (a < 0) == decide (b < 0))
    · rw [← cei_down wa h hm hs]; exact wrap64_wf _
    · rw [← cei_up wa h hm hs]; exact wrap64_wf _
end Go.Proofs.Ytnfjfejjbphgbaa
