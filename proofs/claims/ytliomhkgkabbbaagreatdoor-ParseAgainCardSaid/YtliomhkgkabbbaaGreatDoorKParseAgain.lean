import Derived.Test.YtliomhkgkabbbaaGreatDoorK26
import Derived.Test.YtliomhkgkabbbaaGreatDoorK31
import Derived.ChangeMaps5
section
/- ParseAgain, off its code. -/
namespace Go.Proofs.YtliomhkgkabbbaaGreatDoor
open Go.RowKit Go.ChangeShapes Go.WideShapes
open Go.ChangeMaps (open_string shut_string)
set_option linter.unusedVariables false
set_option maxRecDepth 20000
theorem linesT_len : ∀ ls : List (List (List UInt8)), ls.length ≤ (linesT ls).length
  | [] => Nat.zero_le _
  | l :: r => by
    rw [linesT_cons, List.length_append, List.length_cons]
    have h1 := linesT_len r
    have h2 : 1 ≤ (lineT l).length := by unfold lineT; simp
    omega
theorem print_custs (x : Inst) : x.custs.length ≤ (printI x).length := by
  have h := linesT_len (instW x)
  unfold printI
  have h2 : x.custs.length ≤ (instW x).length := by unfold instW; simp; omega
  omega
/-- A text that is no instance's. -/
theorem parse_err (X : ByteArray) (hX : X.size ≤ 1000) (k : Int) (hR : parseT X.data.toList = (k, zeroI)) (w : World) (hT : Tab w) :
    Calls Tryz.prog 10 #[.string X] w fun e w' => ∃ A c B d, e = .returned (.tuple #[.agg #[.int .i64 0, .int .i64 0, .int .i64 0, .int .i64 0, .slice A 0 c, .slice B 0 d], .int .i64 k]) ∧ Below w.heap.size w w' := by
  have := Parse_code X.data.toList (by rw [Array.length_toList]; exact hX) w hT _ hR
  rw [strL_of] at this
  refine this.mono ?_
  rintro e w' ⟨A, c, B, d, rfl, _, _, hb⟩
  exact ⟨A, c, B, d, rfl, hb⟩
/-- A text that is one's. -/
theorem parse_yes (X : ByteArray) (hX : X.size ≤ 1000) (x : Inst) (hR : parseT X.data.toList = (0, x)) (w : World) (hT : Tab w) :
    Calls Tryz.prog 10 #[.string X] w fun e w' => ∃ A c B d, e = .returned (.tuple #[instV x A c B d, .int .i64 0]) ∧ InstIs w' x A B ∧ Below w.heap.size w w' := by
  have := Parse_code X.data.toList (by rw [Array.length_toList]; exact hX) w hT _ hR
  rw [strL_of] at this
  refine this.mono ?_
  rintro e w' ⟨A, c, B, d, rfl, hO, hWf, hb⟩
  exact ⟨A, c, B, d, rfl, hO.inst hWf, hb⟩
theorem parse_cases (t : List UInt8) : (∃ x, parseT t = (0, x) ∧ mayI x = true ∧ printI x = t) ∨ parseT t = (2, zeroI) ∨ parseT t = (3, zeroI) := by
  by_cases h : (parseT t).1 = 0
  · have h' : parseT t = (0, (parseT t).2) := by rw [← h]
    exact .inl ⟨_, h', parse_again h'⟩
  · obtain ⟨h2, h3 | h3⟩ := parse_fail h
    · exact .inr (.inl (by rw [← h2, ← h3]))
    · exact .inr (.inr (by rw [← h2, ← h3]))
set_option maxHeartbeats 8000000 in
theorem again_law (s : ByteArray) (hs : s.size ≤ maxLen) (w : World) (hT : Tab w) :
    Calls Tryz.prog 4 #[.string s] w fun e W' => e = .returned (.bool true) ∧ Below w.heap.size w W' := by
  have CL := fun W hT => lives7_any W hT
  obtain ⟨X, hXs, hcut⟩ : ∃ X : ByteArray, X.size ≤ 600 ∧ ((600 < s.size ∧ s.extract 0 600 = X) ∨ (¬ 600 < s.size ∧ s = X)) := by
    by_cases h : 600 < s.size
    · exact ⟨_, by simp; omega, .inl ⟨h, rfl⟩⟩
    · exact ⟨s, by omega, .inr ⟨h, rfl⟩⟩
  unfold maxLen at hs
  have HT := Go.Lib.hid hT
  clear hT
  rcases parse_cases X.data.toList with ⟨x, hR, hm, hp⟩ | hR | hR
  · have C1 := fun W hT => parse_yes X (by omega) x hR W hT
    have hn : x.custs.length ≤ 900 := by have := print_custs x; rw [hp, Array.length_toList] at this; have e : X.data.size = X.size := rfl; omega
    have C2 : ∀ A c B d W, Tab W → InstIs W x A B → Calls Tryz.prog 9 #[instV x A c B d] W fun e w' => e = .returned (.tuple #[.string X, .int .i64 0]) ∧ Below W.heap.size W w' := fun A c B d W hT h => by
      have := Print_code x A c B d W hT h hn
      rw [if_pos hm, hp, strL_of] at this
      exact this
    unfold instV at C1 C2
    clear hR hm hp hn
    rcases hcut with ⟨hlong, hX⟩ | ⟨hlong, rfl⟩
    all_goals
      go_enter Tryz.func4, Tryz.ntmps4
      go_wp2_with (first
        | (go_at_call 10; refine (C1 _ (HT.out.keep (by first | exact Below.refl _ _ | exact below_alloc _ _))).mono ?_; rintro e w1 ⟨A, c, B, d, rfl, hI, hb1⟩; have HI := Go.Lib.hid (hI.keep (below_alloc w1 (.cells #[.int .i64 x.days, .int .i64 x.veh, .int .i64 x.cap, .int .i64 x.len, .slice A x.custs.length c, .slice B x.dist.length d] 25))); have HB1 := Go.Lib.hid (hb1.alloc hb1.size (.cells #[.int .i64 x.days, .int .i64 x.veh, .int .i64 x.cap, .int .i64 x.len, .slice A x.custs.length c, .slice B x.dist.length d] 25)); clear hI hb1)
        | (go_at_call 9; refine (C2 _ _ _ _ _ (HT.out.keep HB1.out) HI.out).mono ?_; rintro e w2 ⟨rfl, hb2⟩; have HB2 := Go.Lib.hid (HB1.out.trans (hb2.mono HB1.out.size)); clear hb2)
        | (go_at_call 13; refine (CL _ (HT.out.keep HB2.out)).mono ?_; rintro e w4 ⟨rfl, hb4⟩; have HB4 := Go.Lib.hid (HB2.out.trans (hb4.mono HB2.out.size)); clear hb4))
      go_ret
      exact ⟨rfl, HB4.out⟩
  all_goals
    have C1 := fun W hT => parse_err X (by omega) _ hR W hT
    clear hR
    rcases hcut with ⟨hlong, hX⟩ | ⟨hlong, rfl⟩
    all_goals
      go_enter Tryz.func4, Tryz.ntmps4
      go_wp2_with (first
        | (go_at_call 10; refine (C1 _ (HT.out.keep (by first | exact Below.refl _ _ | exact below_alloc _ _))).mono ?_; rintro e w1 ⟨A, c, B, d, rfl, hb1⟩; have HB1 := Go.Lib.hid (hb1.alloc hb1.size (.cells #[.int .i64 0, .int .i64 0, .int .i64 0, .int .i64 0, .slice A 0 c, .slice B 0 d] 25)); clear hb1)
        | (go_at_call 13; refine (CL _ (HT.out.keep HB1.out)).mono ?_; rintro e w4 ⟨rfl, hb4⟩; have HB4 := Go.Lib.hid (HB1.out.trans (hb4.mono HB1.out.size)); clear hb4))
      go_ret
      exact ⟨rfl, HB4.out⟩
section
variable {H : Type} {enc : TypeId × Value → H} {base : Nat}
theorem parseAgain_frame (W : World) {v0 : Value} {d0 : DataW H} {p0 : List MemPlace} (k0 : DataW.Trod enc Tryz.prog W 0 (fun _ => true) true 9 v0 d0 p0) (o0 : Value.okWide Tryz.prog W .any base 9 v0) (hT : Tab W) :
    Calls Tryz.prog 4 #[v0] W fun e w' => e = .returned (.bool true) ∧ Below W.heap.size W w' := by
  obtain ⟨s, rfl, _, _, hs⟩ := open_string Tryz.underlying9 o0 k0
  exact again_law s hs W hT
end
end Go.Proofs.YtliomhkgkabbbaaGreatDoor
end
