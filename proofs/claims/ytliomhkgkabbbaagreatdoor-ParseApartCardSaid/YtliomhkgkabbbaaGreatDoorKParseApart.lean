import Derived.Test.YtliomhkgkabbbaaGreatDoorK26
import Derived.Test.YtliomhkgkabbbaaGreatDoorK31
import Derived.ChangeMaps5
import Derived.Test.YtliomhkgkabbbaaGreatDoorK13
import Derived.Test.YtliomhkgkabbbaaGreatDoorK33
import Derived.Test.YtliomhkgkabbbaaGreatDoorK04
section
/- ParseAgain, off its code. -/
namespace Go.Proofs.YtliomhkgkabbbaaGreatDoor
open Go.RowKit Go.ChangeShapes Go.WideShapes
open Go.ChangeMaps (open_string shut_string)
set_option linter.unusedVariables false
set_option maxRecDepth 20000
theorem linesT_len : ∀ ls : List (List (List UInt8)), ls.length ≤ (linesT ls).length
  | [] => Nat.zero_le _
  | l :: r => by
    rw [linesT_cons, List.length_append, List.length_cons]
    have h1 := linesT_len r
    have h2 : 1 ≤ (lineT l).length := by unfold lineT; simp
    omega
theorem print_custs (x : Inst) : x.custs.length ≤ (printI x).length := by
  have h := linesT_len (instW x)
  unfold printI
  have h2 : x.custs.length ≤ (instW x).length := by unfold instW; simp; omega
  omega
/-- A text that is no instance's. -/
theorem parse_err (X : ByteArray) (hX : X.size ≤ 1000) (k : Int) (hR : parseT X.data.toList = (k, zeroI)) (w : World) (hT : Tab w) :
    Calls Tryz.prog 10 #[.string X] w fun e w' => ∃ A c B d, e = .returned (.tuple #[.agg #[.int .i64 0, .int .i64 0, .int .i64 0, .int .i64 0, .slice A 0 c, .slice B 0 d], .int .i64 k]) ∧ Below w.heap.size w w' := by
  have := Parse_code X.data.toList (by rw [Array.length_toList]; exact hX) w hT _ hR
  rw [strL_of] at this
  refine this.mono ?_
  rintro e w' ⟨A, c, B, d, rfl, _, _, hb⟩
  exact ⟨A, c, B, d, rfl, hb⟩
/-- A text that is one's. -/
theorem parse_yes (X : ByteArray) (hX : X.size ≤ 1000) (x : Inst) (hR : parseT X.data.toList = (0, x)) (w : World) (hT : Tab w) :
    Calls Tryz.prog 10 #[.string X] w fun e w' => ∃ A c B d, e = .returned (.tuple #[instV x A c B d, .int .i64 0]) ∧ InstIs w' x A B ∧ Below w.heap.size w w' := by
  have := Parse_code X.data.toList (by rw [Array.length_toList]; exact hX) w hT _ hR
  rw [strL_of] at this
  refine this.mono ?_
  rintro e w' ⟨A, c, B, d, rfl, hO, hWf, hb⟩
  exact ⟨A, c, B, d, rfl, hO.inst hWf, hb⟩
theorem parse_cases (t : List UInt8) : (∃ x, parseT t = (0, x) ∧ mayI x = true ∧ printI x = t) ∨ parseT t = (2, zeroI) ∨ parseT t = (3, zeroI) := by
  by_cases h : (parseT t).1 = 0
  · have h' : parseT t = (0, (parseT t).2) := by rw [← h]
    exact .inl ⟨_, h', parse_again h'⟩
  · obtain ⟨h2, h3 | h3⟩ := parse_fail h
    · exact .inr (.inl (by rw [← h2, ← h3]))
    · exact .inr (.inr (by rw [← h2, ← h3]))
set_option maxHeartbeats 8000000 in
theorem again_law (s : ByteArray) (hs : s.size ≤ maxLen) (w : World) (hT : Tab w) :
    Calls Tryz.prog 4 #[.string s] w fun e W' => e = .returned (.bool true) ∧ Below w.heap.size w W' := by
  have CL := fun W hT => lives7_any W hT
  obtain ⟨X, hXs, hcut⟩ : ∃ X : ByteArray, X.size ≤ 600 ∧ ((600 < s.size ∧ s.extract 0 600 = X) ∨ (¬ 600 < s.size ∧ s = X)) := by
    by_cases h : 600 < s.size
    · exact ⟨_, by simp; omega, .inl ⟨h, rfl⟩⟩
    · exact ⟨s, by omega, .inr ⟨h, rfl⟩⟩
  unfold maxLen at hs
  have HT := Go.Lib.hid hT
  clear hT
  rcases parse_cases X.data.toList with ⟨x, hR, hm, hp⟩ | hR | hR
  · have C1 := fun W hT => parse_yes X (by omega) x hR W hT
    have hn : x.custs.length ≤ 900 := by have := print_custs x; rw [hp, Array.length_toList] at this; have e : X.data.size = X.size := rfl; omega
    have C2 : ∀ A c B d W, Tab W → InstIs W x A B → Calls Tryz.prog 9 #[instV x A c B d] W fun e w' => e = .returned (.tuple #[.string X, .int .i64 0]) ∧ Below W.heap.size W w' := fun A c B d W hT h => by
      have := Print_code x A c B d W hT h hn
      rw [if_pos hm, hp, strL_of] at this
      exact this
    unfold instV at C1 C2
    clear hR hm hp hn
    rcases hcut with ⟨hlong, hX⟩ | ⟨hlong, rfl⟩
    all_goals
      go_enter Tryz.func4, Tryz.ntmps4
      go_wp2_with (first
        | (go_at_call 10; refine (C1 _ (HT.out.keep (by first | exact Below.refl _ _ | exact below_alloc _ _))).mono ?_; rintro e w1 ⟨A, c, B, d, rfl, hI, hb1⟩; have HI := Go.Lib.hid (hI.keep (below_alloc w1 (.cells #[.int .i64 x.days, .int .i64 x.veh, .int .i64 x.cap, .int .i64 x.len, .slice A x.custs.length c, .slice B x.dist.length d] 25))); have HB1 := Go.Lib.hid (hb1.alloc hb1.size (.cells #[.int .i64 x.days, .int .i64 x.veh, .int .i64 x.cap, .int .i64 x.len, .slice A x.custs.length c, .slice B x.dist.length d] 25)); clear hI hb1)
        | (go_at_call 9; refine (C2 _ _ _ _ _ (HT.out.keep HB1.out) HI.out).mono ?_; rintro e w2 ⟨rfl, hb2⟩; have HB2 := Go.Lib.hid (HB1.out.trans (hb2.mono HB1.out.size)); clear hb2)
        | (go_at_call 13; refine (CL _ (HT.out.keep HB2.out)).mono ?_; rintro e w4 ⟨rfl, hb4⟩; have HB4 := Go.Lib.hid (HB2.out.trans (hb4.mono HB2.out.size)); clear hb4))
      go_ret
      exact ⟨rfl, HB4.out⟩
  all_goals
    have C1 := fun W hT => parse_err X (by omega) _ hR W hT
    clear hR
    rcases hcut with ⟨hlong, hX⟩ | ⟨hlong, rfl⟩
    all_goals
      go_enter Tryz.func4, Tryz.ntmps4
      go_wp2_with (first
        | (go_at_call 10; refine (C1 _ (HT.out.keep (by first | exact Below.refl _ _ | exact below_alloc _ _))).mono ?_; rintro e w1 ⟨A, c, B, d, rfl, hb1⟩; have HB1 := Go.Lib.hid (hb1.alloc hb1.size (.cells #[.int .i64 0, .int .i64 0, .int .i64 0, .int .i64 0, .slice A 0 c, .slice B 0 d] 25)); clear hb1)
        | (go_at_call 13; refine (CL _ (HT.out.keep HB1.out)).mono ?_; rintro e w4 ⟨rfl, hb4⟩; have HB4 := Go.Lib.hid (HB1.out.trans (hb4.mono HB1.out.size)); clear hb4))
      go_ret
      exact ⟨rfl, HB4.out⟩
section
variable {H : Type} {enc : TypeId × Value → H} {base : Nat}
theorem parseAgain_frame (W : World) {v0 : Value} {d0 : DataW H} {p0 : List MemPlace} (k0 : DataW.Trod enc Tryz.prog W 0 (fun _ => true) true 9 v0 d0 p0) (o0 : Value.okWide Tryz.prog W .any base 9 v0) (hT : Tab W) :
    Calls Tryz.prog 4 #[v0] W fun e w' => e = .returned (.bool true) ∧ Below W.heap.size W w' := by
  obtain ⟨s, rfl, _, _, hs⟩ := open_string Tryz.underlying9 o0 k0
  exact again_law s hs W hT
end
end Go.Proofs.YtliomhkgkabbbaaGreatDoor
end
section
/- ParseMore, off its code. -/
namespace Go.Proofs.YtliomhkgkabbbaaGreatDoor
open Go.RowKit Go.ChangeShapes Go.WideShapes
open Go.ChangeMaps (open_string shut_string)
set_option linter.unusedVariables false
set_option maxRecDepth 20000
theorem parse_none {t : List UInt8} (h : linesD t = none) : parseT t = (2, zeroI) := by unfold parseT; rw [h]
theorem parse_form {t : List UInt8} {ls : List (List (List UInt8))} (h : linesD t = some ls) (hw : wholeP (startP ls) = none) : parseT t = (2, zeroI) := by
  unfold parseT
  rw [h]
  show parseL ls = _
  unfold parseL
  rw [hw]
theorem more_zero {x : Inst} (hw : x.Wf) (h : mayI x = true) : parseT (printI x ++ [48, 10]) = (2, zeroI) := by
  refine parse_form (linesD_app (print_lines h) (show linesD [48, 10] = some [[[48]]] from by decide)) ?_
  rw [whole_read hw h, if_neg (by simp)]
theorem print_ne {x : Inst} : printI x ≠ [] := fun e => by
  have h := congrArg List.length e
  unfold printI instW at h
  rw [linesT_cons, List.length_append] at h
  have h2 : (lineT [wProgram, wEdition]).length = 10 := by decide
  rw [h2] at h
  simp at h
theorem more_less {x : Inst} (h : mayI x = true) : parseT (printI x).dropLast = (2, zeroI) := parse_none (lines_less (print_lines h) print_ne)
theorem more_x (t : List UInt8) : parseT (t ++ [120]) = (2, zeroI) := parse_none (lines_other (by decide))
theorem bytes_app (a b : ByteArray) : (a ++ b).data.toList = a.data.toList ++ b.data.toList := by simp
theorem bytes_cut (a : ByteArray) (n : Nat) : (a.extract 0 n).data.toList = a.data.toList.take n := by simp
theorem bytes_len (a : ByteArray) : a.data.toList.length = a.size := Array.length_toList
set_option maxHeartbeats 8000000 in
theorem more_law (x : Inst) (A : Option Addr) (c : Nat) (B : Option Addr) (d : Nat) (s : ByteArray) (hs : s.size ≤ maxLen) (w : World) (hT : Tab w) (h : InstIs w x A B) :
    Calls Tryz.prog 7 #[instV x A c B d, .string s] w fun e W' => e = .returned (.bool true) ∧ Below w.heap.size w W' := by
  have CL := fun W hT => lives7_any W hT
  obtain ⟨M, hMs, hcut⟩ : ∃ X : ByteArray, X.size ≤ 50 ∧ ((50 < s.size ∧ s.extract 0 50 = X) ∨ (¬ 50 < s.size ∧ s = X)) := by
    by_cases h : 50 < s.size
    · exact ⟨_, by simp; omega, .inl ⟨h, rfl⟩⟩
    · exact ⟨s, by omega, .inr ⟨h, rfl⟩⟩
  unfold maxLen at hs
  obtain ⟨y, hy⟩ : ∃ y, Made x y := ⟨_, made_of x⟩
  have hm : mayI y = true := by rw [hy.is]; exact good_may x
  have hsh : (printI y).length ≤ 600 := by rw [hy.is]; exact good_short x
  have hb0 := below_alloc w (.cells #[.int .i64 x.days, .int .i64 x.veh, .int .i64 x.cap, .int .i64 x.len, .slice A x.custs.length c, .slice B x.dist.length d] 25)
  have HB0 := Go.Lib.hid hb0
  have HT := Go.Lib.hid hT
  have CG := fun W hb => Good_from h hy c d W hb
  have HWf := Go.Lib.hid hy.wf
  have C2 : ∀ A c B d W, Tab W → InstIs W y A B → Calls Tryz.prog 9 #[instV y A c B d] W fun e w' => e = .returned (.tuple #[.string (strL (printI y)), .int .i64 0]) ∧ Below W.heap.size W w' := fun A c B d W hT h => by
    have := Print_code y A c B d W hT h (by have := hy.n; omega)
    rw [if_pos hm] at this
    exact this
  obtain ⟨S, hS⟩ : ∃ S, S = strL (printI y) := ⟨_, rfl⟩
  have eS : S.data.toList = printI y := by rw [hS]; rfl
  have lS : S.size = (printI y).length := by rw [← eS]; exact (bytes_len S).symm
  have h0 : S.size ≠ 0 := by rw [lS]; intro e; exact print_ne (List.length_eq_zero_iff.1 e)
  have hS6 : S.size ≤ 600 := by omega
  rw [← hS] at C2
  have P1 := fun W hT => parse_err (S ++ M ++ ⟨#[120]⟩) (by simp only [ByteArray.size_append]; show S.size + M.size + 1 ≤ 1000; omega) 2 (by rw [bytes_app]; exact more_x _) W hT
  have P2 := fun W hT => parse_err (S.extract 0 (S.size - 1)) (by simp; omega) 2 (by rw [bytes_cut, eS, lS, ← List.dropLast_eq_take]; exact more_less hm) W hT
  have P3 := fun W hT => parse_err (S ++ ⟨#[48, 10]⟩) (by simp only [ByteArray.size_append]; show S.size + 2 ≤ 1000; omega) 2 (by rw [bytes_app, eS]; exact more_zero hy.wf hm) W hT
  unfold instV at C2 ⊢
  clear h hy hT hb0 hm hsh eS lS hS
  rcases hcut with ⟨hlong, hX⟩ | ⟨hlong, rfl⟩
  all_goals
    go_enter Tryz.func7, Tryz.ntmps7
    go_wp2_with (first
      | (go_at_call 8; refine (CG _ HB0.out).mono ?_; rintro e w1 ⟨A2, c2, B2, d2, rfl, hO, hY, hb1, hb1'⟩; have HI1 := Go.Lib.hid (hO.inst HWf.out); have HB1 := Go.Lib.hid (HB0.out.trans (hb1'.mono HB0.out.size)); clear hO hY hb1 hb1')
      | (go_at_call 9; refine (C2 _ _ _ _ _ (HT.out.keep HB1.out) HI1.out).mono ?_; rintro e w2 ⟨rfl, hb2⟩; have HB2 := Go.Lib.hid (HB1.out.trans (hb2.mono HB1.out.size)); clear hb2)
      | (go_at_call 10; (with_reducible refine (P1 _ (HT.out.keep HB2.out)).mono ?_); rintro e w3 ⟨A3, c3, B3, d3, rfl, hb3⟩; have HB3 := Go.Lib.hid ((HB2.out.trans (hb3.mono HB2.out.size)).alloc (HB2.out.trans (hb3.mono HB2.out.size)).size (.cells #[.int .i64 0, .int .i64 0, .int .i64 0, .int .i64 0, .slice A3 0 c3, .slice B3 0 d3] 25)); clear hb3)
      | (go_at_call 10; (with_reducible refine (P2 _ (HT.out.keep HB3.out)).mono ?_); rintro e w4 ⟨A4, c4, B4, d4, rfl, hb4⟩; have HB4 := Go.Lib.hid ((HB3.out.trans (hb4.mono HB3.out.size)).alloc (HB3.out.trans (hb4.mono HB3.out.size)).size (.cells #[.int .i64 0, .int .i64 0, .int .i64 0, .int .i64 0, .slice A4 0 c4, .slice B4 0 d4] 25)); clear hb4)
      | (go_at_call 10; (with_reducible refine (P3 _ (HT.out.keep HB4.out)).mono ?_); rintro e w5 ⟨A5, c5, B5, d5, rfl, hb5⟩; have HB5 := Go.Lib.hid ((HB4.out.trans (hb5.mono HB4.out.size)).alloc (HB4.out.trans (hb5.mono HB4.out.size)).size (.cells #[.int .i64 0, .int .i64 0, .int .i64 0, .int .i64 0, .slice A5 0 c5, .slice B5 0 d5] 25)); clear hb5)
      | (go_at_call 13; (with_reducible refine (CL _ (HT.out.keep HB5.out)).mono ?_); rintro e w6 ⟨rfl, hb6⟩; have HB6 := Go.Lib.hid (HB5.out.trans (hb6.mono HB5.out.size)); clear hb6))
    go_ret
    exact ⟨rfl, HB6.out⟩
section
variable {H : Type} {enc : TypeId × Value → H} {base : Nat}
theorem parseMore_frame (W : World) {v0 v1 : Value} {d0 d1 : DataW H} {p0 p1 : List MemPlace} (k0 : DataW.Trod enc Tryz.prog W 0 (fun _ => true) true 25 v0 d0 p0) (o0 : Value.okWide Tryz.prog W .any base 25 v0)
    (k1 : DataW.Trod enc Tryz.prog W 0 (fun _ => true) true 9 v1 d1 p1) (o1 : Value.okWide Tryz.prog W .any base 9 v1) (hT : Tab W) :
    Calls Tryz.prog 7 #[v0, v1] W fun e w' => e = .returned (.bool true) ∧ Below W.heap.size W w' := by
  obtain ⟨x, A, c, B, e, rfl, hI⟩ := inst_open k0 o0
  obtain ⟨s, rfl, _, _, hs⟩ := open_string Tryz.underlying9 o1 k1
  exact more_law x A c B e s hs W hT hI
end
end Go.Proofs.YtliomhkgkabbbaaGreatDoor
end
section
/- ParseApart, off its code. -/
namespace Go.Proofs.YtliomhkgkabbbaaGreatDoor
open Go.RowKit Go.ChangeShapes Go.WideShapes
set_option linter.unusedVariables false
set_option maxRecDepth 20000
theorem print_good {x y : Inst} (h : Made x y) (S : ByteArray) (hS : S = strL (printI y)) (A : Option Addr) (c : Nat) (B : Option Addr) (d : Nat) (W : World) (hT : Tab W) (hI : InstIs W y A B) :
    Calls Tryz.prog 9 #[.agg #[.int .i64 y.days, .int .i64 y.veh, .int .i64 y.cap, .int .i64 y.len, .slice A y.custs.length c, .slice B y.dist.length d]] W fun e w' => e = .returned (.tuple #[.string S, .int .i64 0]) ∧ Below W.heap.size W w' := by
  have := Print_code y A c B d W hT hI (by have := h.n; omega)
  rw [if_pos (by rw [h.is]; exact good_may x), ← hS] at this
  exact this
set_option maxHeartbeats 2000000 in
theorem apart_law (x : Inst) (A : Option Addr) (c : Nat) (B : Option Addr) (d : Nat) (y : Inst) (C : Option Addr) (e : Nat) (D : Option Addr) (f : Nat) (w : World) (hT : Tab w) (h : InstIs w x A B) (h2 : InstIs w y C D) :
    Calls Tryz.prog 6 #[instV x A c B d, instV y C e D f] w fun e W' => e = .returned (.bool true) ∧ Below w.heap.size w W' := by
  have CL := fun W hT => lives7_any W hT
  obtain ⟨a, ha⟩ : ∃ a, Made x a := ⟨_, made_of x⟩
  obtain ⟨b, hb⟩ : ∃ b, Made y b := ⟨_, made_of y⟩
  have hb0 := below_alloc w (.cells #[.int .i64 x.days, .int .i64 x.veh, .int .i64 x.cap, .int .i64 x.len, .slice A x.custs.length c, .slice B x.dist.length d] 25)
  have hb00 := hb0.alloc hb0.size (.cells #[.int .i64 y.days, .int .i64 y.veh, .int .i64 y.cap, .int .i64 y.len, .slice C y.custs.length e, .slice D y.dist.length f] 25)
  have HB0 := Go.Lib.hid hb00
  have HKY := Go.Lib.hid (InstBox.fresh (w.alloc (.cells #[.int .i64 x.days, .int .i64 x.veh, .int .i64 x.cap, .int .i64 x.len, .slice A x.custs.length c, .slice B x.dist.length d] 25)) y C e D f)
  have hz : (w.alloc (.cells #[.int .i64 x.days, .int .i64 x.veh, .int .i64 x.cap, .int .i64 x.len, .slice A x.custs.length c, .slice B x.dist.length d] 25)).heap.size = w.heap.size + 1 := by simp
  rw [hz] at HKY
  have HT := Go.Lib.hid hT
  have CG1 := fun W hb => Good_from h ha c d W hb
  have CG2 := fun W hw => Good_from h2 hb e f W hw
  have HWa := Go.Lib.hid ha.wf
  have HWb := Go.Lib.hid hb.wf
  obtain ⟨S, hS⟩ : ∃ S, S = strL (printI a) := ⟨_, rfl⟩
  obtain ⟨T, hT'⟩ : ∃ T, T = strL (printI b) := ⟨_, rfl⟩
  have CP1 := fun A c B d W hT h => print_good ha S hS A c B d W hT h
  have CP2 := fun A c B d W hT h => print_good hb T hT' A c B d W hT h
  have CS := fun A c B d C e D f W h1 h2 => Same_ref a b A c B d C e D f W h1 h2
  have hst : S = T ↔ a = b := by
    rw [hS, hT']
    refine ⟨fun h => (print_inj ha.wf hb.wf (by rw [ha.is]; exact good_may x) (by rw [hb.is]; exact good_may y)).1 (strL_inj h), fun h => by rw [h]⟩
  have hst2 : (S.toList == T.toList) = decide (a = b) := by
    by_cases hab : a = b
    · rw [decide_eq_true hab, hst.2 hab, beq_self_eq_true]
    · rw [decide_eq_false hab, beq_eq_false_iff_ne]
      intro he
      rw [ByteArray.toList_eq, ByteArray.toList_eq] at he
      exact hab (hst.1 (by rw [← strL_of S, ← strL_of T, he]))
  have HST := Go.Lib.hid hst2
  unfold instV at CS ⊢
  clear h h2 ha hb hT hb0 hb00 hS hT' hst hst2 hz
  go_enter Tryz.func6, Tryz.ntmps6
  go_wp2_with (first
    | (go_at_call 8; (with_reducible refine (CG1 _ HB0.out).mono ?_); rintro e w1 ⟨A1, c1, B1, d1, rfl, hO, hY, hb1, hb1'⟩; have HY1 := Go.Lib.hid hY; obtain ⟨j0, j1, j2, j3, j4, j5⟩ := (HKY.out.keep hb1).cells; have HB1 := Go.Lib.hid (HB0.out.trans (hb1.mono HB0.out.size)); clear hO hY hb1 hb1')
    | (go_at_call 8; (with_reducible refine (CG2 _ HB1.out).mono ?_); rintro e w2 ⟨A2, c2, B2, d2, rfl, hO, hY, hb2, hb2'⟩; have HY1b := Go.Lib.hid (HY1.out.keep hb2); have HY2 := Go.Lib.hid hY; obtain ⟨k0, k1, k2, k3, k4, k5⟩ := HY1b.out.box.cells; have HB2 := Go.Lib.hid (HB1.out.trans (hb2.mono HB1.out.size)); clear hO hY hb2 hb2' j0 j1 j2 j3 j4 j5)
    | (go_at_call 9; (with_reducible refine (CP1 _ _ _ _ _ (HT.out.keep HB2.out) HY1b.out.inst).mono ?_); rintro e w3 ⟨rfl, hb3⟩; have HB3 := Go.Lib.hid (HB2.out.trans (hb3.mono HB2.out.size)); have HY1c := Go.Lib.hid (HY1b.out.keep hb3); have HY2c := Go.Lib.hid (HY2.out.keep hb3); obtain ⟨l0, l1, l2, l3, l4, l5⟩ := HY2c.out.box.cells; clear hb3 k0 k1 k2 k3 k4 k5)
    | (go_at_call 9; (with_reducible refine (CP2 _ _ _ _ _ (HT.out.keep HB3.out) HY2c.out.inst).mono ?_); rintro e w4 ⟨rfl, hb4⟩; have HB4 := Go.Lib.hid (HB3.out.trans (hb4.mono HB3.out.size)); have HY1d := Go.Lib.hid (HY1c.out.keep hb4); have HY2d := Go.Lib.hid (HY2c.out.keep hb4); obtain ⟨m0, m1, m2, m3, m4, m5⟩ := HY2d.out.box.cells; obtain ⟨n0, n1, n2, n3, n4, n5⟩ := HY1d.out.box.cells; clear hb4 l0 l1 l2 l3 l4 l5)
    | (go_at_call 12; (with_reducible refine (CS _ _ _ _ _ _ _ _ _ HY1d.out.inst HY2d.out.inst).mono ?_); rintro e w5 ⟨rfl, hb5⟩; have HB5 := Go.Lib.hid (HB4.out.trans (hb5.mono HB4.out.size)); clear hb5)
    | (go_at_call 13; (with_reducible refine (CL _ (HT.out.keep HB5.out)).mono ?_); rintro e w6 ⟨rfl, hb6⟩; have HB6 := Go.Lib.hid (HB5.out.trans (hb6.mono HB5.out.size)); clear hb6))
  all_goals first
    | (go_ret; exact ⟨rfl, HB6.out⟩)
    | (rename_i hne; exact absurd HST.out hne)
section
variable {H : Type} {enc : TypeId × Value → H} {base : Nat}
theorem parseApart_frame (W : World) {v0 v1 : Value} {d0 d1 : DataW H} {p0 p1 : List MemPlace} (k0 : DataW.Trod enc Tryz.prog W 0 (fun _ => true) true 25 v0 d0 p0) (o0 : Value.okWide Tryz.prog W .any base 25 v0)
    (k1 : DataW.Trod enc Tryz.prog W 0 (fun _ => true) true 25 v1 d1 p1) (o1 : Value.okWide Tryz.prog W .any base 25 v1) (hT : Tab W) :
    Calls Tryz.prog 6 #[v0, v1] W fun e w' => e = .returned (.bool true) ∧ Below W.heap.size W w' := by
  obtain ⟨x, A, c, B, e, rfl, hI⟩ := inst_open k0 o0
  obtain ⟨y, C, f, D, g, rfl, hJ⟩ := inst_open k1 o1
  exact apart_law x A c B e y C f D g W hT hI hJ
end
end Go.Proofs.YtliomhkgkabbbaaGreatDoor
end
