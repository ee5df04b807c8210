/- The walks of layer 2's laws DaysSets and DaysOf, off what the functions of package days answer. -/
import Derived.Test.YtmjogpbdgbgkhaaDoorDaysApi
namespace Go.Proofs.YtmjogpbdgbgkhaaDoor
open Go.RowKit
set_option linter.unusedVariables false

theorem same_self (A C : Option Addr) (n c d : Nat) (xs : List Int) (w : World) (ha : Ints w A n xs) (hb : Ints w C n xs) (hn : n ≤ maxLen) :
    Calls Tryd.prog 11 #[.slice A n c, .slice C n d] w fun e w' => e = .returned (.bool true) ∧ Below w.heap.size w w' := by
  have := same_ref A C n n c d xs xs w ha hb hn hn
  simpa using this

set_option maxHeartbeats 2000000 in
theorem sets_any (HH : HasOk) (HWI : WithOk) (HWO : WithoutOk) (HL : LenOk) (HA : AllOk) (HN : NextOk) (HO : OfOk) (HT : TextOk) (s : Nat) (hs : s < 2 ^ 64) (d : Int) (wd : (Lit.int .i64 d).wf = true) (w : World) (ht : Tab w) :
    Calls Tryd.prog 3 #[.int .u64 s, .int .i64 d] w fun e w' => e = .returned (.bool true) ∧ Below w.heap.size w w' := by
  have TT := Go.Lib.hid ht
  clear ht
  have L := lives2_any HO HT HN
  have c1 := fun W => HH s d W hs wd
  have c2 := fun W => HWI s d W hs wd
  have c3 := fun W => HWO s d W hs wd
  have c4 := fun W => HL s W hs
  have c5 := fun W => HA s W hs
  have c6 := fun W hw => HN s d W hw hs wd
  have r1 := has_ref s hs d
  have r2 := put_ref s hs d 1 (.inr rfl)
  have r3 := put_ref s hs d 0 (.inl rfl)
  have r4 := all_ref s hs
  have r5 := next_ref s hs d
  have hl := upTo_len s 64
  obtain ⟨xs, hxs⟩ : ∃ xs, allI s = xs := ⟨_, rfl⟩
  have hl' : xs.length ≤ 64 := by rw [← hxs]; exact hl
  rw [hxs] at c4 c5 r4
  generalize hasB s d = b1 at *
  generalize putN s d 1 = p1 at *
  generalize putN s d 0 = p0 at *
  generalize nextI s d = nx at *
  obtain ⟨n, hn⟩ : ∃ n, xs.length = n := ⟨_, rfl⟩
  rw [hn] at hl' c4
  have HNN := Go.Lib.hid hn
  clear hn hxs hl hs wd HH HWI HWO HL HA HN HO HT
  have CW := Below.refl w.heap.size w
  go_enter Tryd.func3, Tryd.ntmps3
  go_wp2_with (first
    | (go_at_call 12; refine (c5 _).mono ?_; rintro e x1 ⟨A1, k1, rfl, M1, _, hb⟩; rw [HNN.out] at M1 ⊢; replace CW := CW.trans (hb.mono CW.size); clear hb)
    | (go_at_call 13; refine (r4 _).mono ?_; rintro e x2 ⟨A2, k2, rfl, M2, _, hb⟩; rw [HNN.out] at M2 ⊢; (try replace M1 := M1.keep hb); replace CW := CW.trans (hb.mono CW.size); clear hb)
    | (go_at_call 11; refine (same_self _ _ n _ _ xs _ M1 M2 (by unfold maxLen; omega)).mono ?_; rintro e x3 ⟨rfl, hb⟩; clear M1 M2; replace CW := CW.trans (hb.mono CW.size); clear hb)
    | (go_at_call 14; refine (c1 _).mono ?_; rintro e x4 ⟨rfl, hb⟩; replace CW := CW.trans (hb.mono CW.size); clear hb)
    | (go_at_call 15; refine (r1 _).mono ?_; rintro e x5 ⟨rfl, hb⟩; replace CW := CW.trans (hb.mono CW.size); clear hb)
    | (go_at_call 16; refine (c2 _).mono ?_; rintro e x6 ⟨rfl, hb⟩; replace CW := CW.trans (hb.mono CW.size); clear hb)
    | (go_at_call 18; refine (c3 _).mono ?_; rintro e x7 ⟨rfl, hb⟩; replace CW := CW.trans (hb.mono CW.size); clear hb)
    | (go_at_call 17; refine (r2 _).mono ?_; rintro e x8 ⟨rfl, hb⟩; replace CW := CW.trans (hb.mono CW.size); clear hb r2)
    | (go_at_call 17; refine (r3 _).mono ?_; rintro e x9 ⟨rfl, hb⟩; replace CW := CW.trans (hb.mono CW.size); clear hb)
    | (go_at_call 19; refine (c4 _).mono ?_; rintro e x10 ⟨rfl, hb⟩; replace CW := CW.trans (hb.mono CW.size); clear hb)
    | (go_at_call 20; refine (c6 _ (TT.out.keep CW)).mono ?_; rintro e x11 ⟨rfl, hb⟩; replace CW := CW.trans (hb.mono CW.size); clear hb)
    | (go_at_call 21; refine (r5 _).mono ?_; rintro e x12 ⟨rfl, hb⟩; replace CW := CW.trans (hb.mono CW.size); clear hb)
    | (go_at_call 22; refine (L _ (TT.out.keep CW)).mono ?_; rintro e x13 ⟨rfl, hb⟩; replace CW := CW.trans (hb.mono CW.size); clear hb))
  go_ret
  exact ⟨rfl, CW⟩
end Go.Proofs.YtmjogpbdgbgkhaaDoor
