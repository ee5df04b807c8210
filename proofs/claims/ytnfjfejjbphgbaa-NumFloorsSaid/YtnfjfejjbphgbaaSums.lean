/- The walk of NumSums: it returns true for any two numbers, and writes nothing that was there. -/
import Derived.Test.YtnfjfejjbphgbaaTimes
import Derived.Test.YtnfjfejjbphgbaaInt
namespace Go.Proofs.Ytnfjfejjbphgbaa
open Go.RowKit
set_option linter.unusedVariables false

/-- A variable of the document's kind of number: its block, and that it holds a number. -/
def VarAt (w : World) (g : Nat) (A : Option Addr) (n c : Nat) (b : Bool) (L : Nat) (z : Int) : Prop := BlkIs w g 24 #[.slice A n c, .bool b] ∧ Bg w L (.agg #[.slice A n c, .bool b]) z
theorem VarAt.keep {w w' : World} {g : Nat} {A : Option Addr} {n c : Nat} {b : Bool} {L : Nat} {z : Int} (h : VarAt w g A n c b L z) (hb : Below w.heap.size w w') : VarAt w' g A n c b L z := ⟨h.1.below hb h.1.lt, h.2.keep hb⟩
theorem VarAt.new {w : World} {A : Option Addr} {n c : Nat} {b : Bool} {L : Nat} {z : Int} (h : Bg w L (.agg #[.slice A n c, .bool b]) z) : VarAt (w.alloc (.cells #[.slice A n c, .bool b] 24)) w.heap.size A n c b L z :=
  ⟨BlkIs.fresh _ _ _, h.keep (below_alloc _ _)⟩

/-- Of, its number in parts. -/
theorem of_parts (n : Int) (wn : (Lit.int .i64 n).wf = true) (w : World) :
    Calls Try.prog 10 #[.int .i64 n] w fun e w' => ∃ A k c b, e = .returned (.agg #[.slice A k c, .bool b]) ∧ Bg w' 4 (.agg #[.slice A k c, .bool b]) n ∧ Below w.heap.size w w' := by
  refine (of_any n wn w).mono ?_
  rintro e w' ⟨v, rfl, h, hb⟩
  obtain ⟨A, k, c, xs, b, rfl, hr⟩ := h
  exact ⟨A, k, c, b, rfl, ⟨A, k, c, xs, b, rfl, hr⟩, hb⟩

set_option maxHeartbeats 4000000 in
theorem sums_core (a b s1 s2 s3 : Int) (f1 f2 f3 : Bool) (wa : (Lit.int .i64 a).wf = true) (wb : (Lit.int .i64 b).wf = true)
    (h1 : Hid (fitV (a + b) = s1 ∧ fitB (a + b) = f1)) (h2 : Hid (fitV (a + -b) = s2 ∧ fitB (a + -b) = f2)) (h3 : Hid (fitV (a * b) = s3 ∧ fitB (a * b) = f3))
    (c1 : ∀ w, Calls Try.prog 11 #[.int .i64 a, .int .i64 b] w fun e w' => e = .returned (.tuple #[.int .i64 s1, .bool f1]) ∧ w = w')
    (c2 : ∀ w, Calls Try.prog 14 #[.int .i64 a, .int .i64 b] w fun e w' => e = .returned (.tuple #[.int .i64 s2, .bool f2]) ∧ w = w')
    (c3 : ∀ w, Calls Try.prog 16 #[.int .i64 a, .int .i64 b] w fun e w' => e = .returned (.tuple #[.int .i64 s3, .bool f3]) ∧ w = w') (w : World) :
    Calls Try.prog 3 #[.int .i64 a, .int .i64 b] w fun e w' => e = .returned (.bool true) ∧ Below w.heap.size w w' := by
  have OA := of_parts a wa
  have OB := of_parts b wb
  clear wa wb
  go_enter Try.func3, Try.ntmps3
  go_wp2_with (first
    | (go_at_call 10; refine (OA _).mono ?_; rintro e w1 ⟨A1, n1, k1, b1, rfl, ga, ba⟩; clear OA; have V1 := VarAt.new ga; have B1 := ba.trans ((below_alloc w1 (.cells #[.slice A1 n1 k1, .bool b1] 24)).mono ba.size); have l1 := V1.1.lt; clear ga ba)
    | (go_at_call 10; refine (OB _).mono ?_; rintro e w2 ⟨A2, n2, k2, b2, rfl, gb, bb⟩; have V2 := VarAt.new gb; have W1 := (V1.keep bb).keep (below_alloc _ (.cells #[.slice A2 n2 k2, .bool b2] 24)); have Z1 := (V1.keep bb).1.cells2; obtain ⟨z0, z1, z2, z3⟩ := Z1; have l2 := (V1.keep bb).1.lt; have B2 := (B1.trans (bb.mono B1.size)).trans ((below_alloc w2 (.cells #[.slice A2 n2 k2, .bool b2] 24)).mono (B1.trans (bb.mono B1.size)).size); clear gb bb B1 V1)
    | (go_at_call 11; refine (c1 _).mono ?_; rintro e w' ⟨rfl, rfl⟩)
    | (go_at_call 13; refine (bigadd_any 4 _ _ _ _ _ W1.2 V2.2 (by decide)).mono ?_; rintro e w3 ⟨r1, rfl, g3, b3⟩; have X1 := W1.keep b3; have X2 := V2.keep b3; have B3 := B2.trans (b3.mono B2.size); clear b3 W1 V2 B2)
    | (go_at_call 12; refine (int_is g3 (by decide) h1.out.1 h1.out.2).mono ?_; rintro e w4 ⟨rfl, b4⟩; have Y1 := X1.keep b4; have Y2 := X2.keep b4; have B4 := B3.trans (b4.mono B3.size); obtain ⟨y0, y1, y2, y3⟩ := Y1.1.cells2; obtain ⟨y4, y5, y6, y7⟩ := Y2.1.cells2; clear b4 X1 X2 B3 g3)
    | (go_at_call 14; refine (c2 _).mono ?_; rintro e w' ⟨rfl, rfl⟩))
  go_region_held3 (fun w' => w'.cell? ⟨w1.heap.size, 0, none⟩ = some (.slice A1 n1 k1) ∧ w'.cell? ⟨w1.heap.size, 1, none⟩ = some (.bool b1) ∧ w'.cell? ⟨w2.heap.size, 0, none⟩ = some (.slice A2 n2 k2) ∧ w'.cell? ⟨w2.heap.size, 1, none⟩ = some (.bool b2))
    (first | ((try dsimp only); (repeat' apply And.intro) <;> assumption; done) | go_keep)
    (first
      | (go_at_call 15; refine (neg_any 4 _ _ _ (Y2.2.keep (Below.refl _ w4).drew) (by decide)).mono ?_; rintro e w5 ⟨r2, rfl, g5, b5⟩; have D5 := (Below.refl _ w4).drew.trans b5; have U1 := Y1.keep D5; have U2 := Y2.keep D5; have B5 := B4.trans (D5.mono B4.size); obtain ⟨u0, u1, u2, u3⟩ := U1.1.cells2; obtain ⟨u4, u5, u6, u7⟩ := U2.1.cells2; clear b5 D5)
      | (go_at_call 13; refine (bigadd_any 4 _ _ _ _ _ U1.2 g5 (by decide)).mono ?_; rintro e w6 ⟨r3, rfl, g6, b6⟩; have T1 := U1.keep b6; have T2 := U2.keep b6; have B6 := B5.trans (b6.mono B5.size); obtain ⟨t0, t1, t2, t3⟩ := T1.1.cells2; obtain ⟨t4, t5, t6, t7⟩ := T2.1.cells2; clear b6)
      | (go_at_call 12; refine (int_is g6 (by decide) h2.out.1 h2.out.2).mono ?_; rintro e w7 ⟨rfl, b7⟩; have S1 := T1.keep b7; have S2 := T2.keep b7; have B7 := B6.trans (b7.mono B6.size); obtain ⟨q0, q1, q2, q3⟩ := S1.1.cells2; obtain ⟨q4, q5, q6, q7⟩ := S2.1.cells2; clear b7))
  clear z0 z1 z2 z3 y0 y1 y2 y3 y4 y5 y6 y7 u0 u1 u2 u3 u4 u5 u6 u7 t0 t1 t2 t3 t4 t5 t6 t7
  go_wp2_with (first
    | (go_at_call 16; refine (c3 _).mono ?_; rintro e w' ⟨rfl, rfl⟩)
    | (go_at_call 17; refine (bigtimes_any 4 _ _ _ _ _ S1.2 S2.2 (by decide)).mono ?_; rintro e w8 ⟨r4, rfl, g8, b8⟩; have B8 := B7.trans (b8.mono B7.size); clear b8)
    | (go_at_call 12; refine (int_is g8 (by decide) h3.out.1 h3.out.2).mono ?_; rintro e w9 ⟨rfl, b9⟩; have B9 := B8.trans (b9.mono B8.size); clear b9)
    | (go_at_call 18; refine (lives_any _).mono ?_; rintro e w10 ⟨rfl, bl⟩))
  go_ret
  exact ⟨rfl, B9.trans (bl.mono B9.size)⟩

theorem sums_any (a b : Int) (wa : (Lit.int .i64 a).wf = true) (wb : (Lit.int .i64 b).wf = true) (w : World) :
    Calls Try.prog 3 #[.int .i64 a, .int .i64 b] w fun e w' => e = .returned (.bool true) ∧ Below w.heap.size w w' :=
  sums_core a b _ _ _ _ _ _ wa wb ⟨rfl, rfl⟩ ⟨rfl, rfl⟩ ⟨rfl, rfl⟩ (add_any a b wa wb) (fun w => by have := less_any a b wa wb w; rwa [show a - b = a + -b by omega] at this) (times_any a b wa wb) w
end Go.Proofs.Ytnfjfejjbphgbaa
