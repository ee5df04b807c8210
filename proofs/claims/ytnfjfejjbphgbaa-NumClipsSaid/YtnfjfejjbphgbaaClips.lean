/- The walk of NumClips: it returns true for any three numbers, and writes nothing that was there. -/
import Derived.Test.YtnfjfejjbphgbaaInt
namespace Go.Proofs.Ytnfjfejjbphgbaa
open Go.RowKit
set_option linter.unusedVariables false

theorem clip_is {a least most v : Int} (h : min (max a least) most = v) (w : World) :
    Calls Try.prog 23 #[.int .i64 a, .int .i64 least, .int .i64 most] w fun e w' => e = .returned (.int .i64 v) ∧ w = w' := h ▸ clip_any a least most w
theorem sat_is {a b v : Int} (wa : (Lit.int .i64 a).wf = true) (wb : (Lit.int .i64 b).wf = true) (h : satV a b = v) (w : World) :
    Calls Try.prog 24 #[.int .i64 a, .int .i64 b] w fun e w' => e = .returned (.int .i64 v) ∧ w = w' := h ▸ sat_any a b wa wb w
theorem int_is {L : Nat} {v : Value} {z t : Int} {f : Bool} {w : World} (h : Bg w L v z) (hL : L ≤ 1000) (ht : fitV z = t) (hf : fitB z = f) :
    Calls Try.prog 12 #[v] w fun e w' => e = .returned (.tuple #[.int .i64 t, .bool f]) ∧ Below w.heap.size w w' := ht ▸ hf ▸ bigint_any L v z w h hL

set_option maxHeartbeats 4000000 in
theorem clips_core (a b m v s t : Int) (f : Bool) (wa : (Lit.int .i64 a).wf = true) (wb : (Lit.int .i64 b).wf = true) (C : ∀ w, Calls Try.prog 23 #[.int .i64 a, .int .i64 b, .int .i64 m] w fun e w' => e = .returned (.int .i64 v) ∧ w = w')
    (S : ∀ w, Calls Try.prog 24 #[.int .i64 a, .int .i64 b] w fun e w' => e = .returned (.int .i64 s) ∧ w = w') (HT : Hid (fitV (a + b) = t)) (HF : Hid (fitB (a + b) = f))
    (hc : (a < b ∧ m < b ∧ v = m) ∨ (a < b ∧ b ≤ m ∧ v = b) ∨ (b ≤ a ∧ m < a ∧ v = m) ∨ (b ≤ a ∧ a ≤ m ∧ v = a))
    (hs : (f = true ∧ s = t) ∨ (f = false ∧ a < 0 ∧ s = -9223372036854775808) ∨ (f = false ∧ 0 ≤ a ∧ s = 9223372036854775807)) (w : World) :
    Calls Try.prog 6 #[.int .i64 a, .int .i64 b, .int .i64 m] w fun e w' => e = .returned (.bool true) ∧ Below w.heap.size w w' := by
  have OA := of_any a wa
  have OB := of_any b wb
  clear wa wb
  rcases hc with ⟨h1, h2, rfl⟩ | ⟨h1, h2, rfl⟩ | ⟨h1, h2, rfl⟩ | ⟨h1, h2, rfl⟩ <;> rcases hs with ⟨rfl, rfl⟩ | ⟨rfl, h3, rfl⟩ | ⟨rfl, h3, rfl⟩
  all_goals
    go_enter Try.func6, Try.ntmps6
    go_wp2_with (first
      | (go_at_call 23; refine (C _).mono ?_; rintro e w' ⟨rfl, rfl⟩)
      | (go_at_call 24; refine (S _).mono ?_; rintro e w' ⟨rfl, rfl⟩)
      | (go_at_call 10; refine (OA _).mono ?_; rintro e w1 ⟨va, rfl, ga, ba⟩; clear OA)
      | (go_at_call 10; refine (OB _).mono ?_; rintro e w2 ⟨vb, rfl, gb, bb⟩; have ga2 := ga.keep bb; have b2 := ba.trans (bb.mono ba.size))
      | (go_at_call 13; refine (bigadd_any 4 _ _ _ _ _ ga2 gb (by decide)).mono ?_; rintro e w3 ⟨vr, rfl, gr, br⟩; have b3 := b2.trans (br.mono b2.size))
      | (go_at_call 12; refine (int_is gr (by decide) HT.out HF.out).mono ?_; rintro e w4 ⟨rfl, bi⟩; have b4 := b3.trans (bi.mono b3.size))
      | (go_at_call 18; refine (lives_any _).mono ?_; rintro e w5 ⟨rfl, bl⟩))
    go_ret
    exact ⟨rfl, b4.trans (bl.mono b4.size)⟩

theorem clips_any (a b m : Int) (wa : (Lit.int .i64 a).wf = true) (wb : (Lit.int .i64 b).wf = true) (w : World) :
    Calls Try.prog 6 #[.int .i64 a, .int .i64 b, .int .i64 m] w fun e w' => e = .returned (.bool true) ∧ Below w.heap.size w w' := by
  refine clips_core a b m _ _ _ _ wa wb (clip_any a b m) (sat_any a b wa wb) rfl rfl (by omega) ?_ w
  cases hf : fitB (a + b)
  · right
    by_cases ha : a < 0
    · left; exact ⟨rfl, ha, by unfold satV; rw [hf, if_neg (by decide), if_pos ha]⟩
    · right; exact ⟨rfl, by omega, by unfold satV; rw [hf, if_neg (by decide), if_neg ha]⟩
  · left; exact ⟨rfl, by unfold satV; rw [hf, if_pos rfl, fitV_true hf]⟩
end Go.Proofs.Ytnfjfejjbphgbaa
