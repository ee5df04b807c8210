import Derived.Test.YtliomhkgkabbbaaGreatDoorK26
import Derived.Test.YtliomhkgkabbbaaGreatDoorK31
import Derived.ChangeMaps5
import Derived.Test.YtliomhkgkabbbaaGreatDoorK24
import Derived.Test.YtliomhkgkabbbaaGreatDoorK27
import Derived.Test.YtliomhkgkabbbaaGreatDoorK15
import Derived.Test.YtliomhkgkabbbaaGreatDoorK19
import Derived.Test.YtliomhkgkabbbaaGreatDoorK17
import Derived.Test.YtliomhkgkabbbaaGreatDoorK28
import Derived.Test.YtliomhkgkabbbaaGreatDoorK03
import Derived.Test.YtliomhkgkabbbaaGreatDoorK33
import Derived.Test.YtliomhkgkabbbaaGreatDoorK12
section
/- ParseAgain, off its code. -/
namespace Go.Proofs.YtliomhkgkabbbaaGreatDoor
open Go.RowKit Go.ChangeShapes Go.WideShapes
open Go.ChangeMaps (open_string shut_string)
set_option linter.unusedVariables false
set_option maxRecDepth 20000
theorem linesT_len : ∀ ls : List (List (List UInt8)), ls.length ≤ (linesT ls).length
  | [] => Nat.zero_le _
  | l :: r => by
    rw [linesT_cons, List.length_append, List.length_cons]
    have h1 := linesT_len r
    have h2 : 1 ≤ (lineT l).length := by unfold lineT; simp
    omega
theorem print_custs (x : Inst) : x.custs.length ≤ (printI x).length := by
  have h := linesT_len (instW x)
  unfold printI
  have h2 : x.custs.length ≤ (instW x).length := by unfold instW; simp; omega
  omega
/-- A text that is no instance's. -/
theorem parse_err (X : ByteArray) (hX : X.size ≤ 1000) (k : Int) (hR : parseT X.data.toList = (k, zeroI)) (w : World) (hT : Tab w) :
    Calls Tryz.prog 10 #[.string X] w fun e w' => ∃ A c B d, e = .returned (.tuple #[.agg #[.int .i64 0, .int .i64 0, .int .i64 0, .int .i64 0, .slice A 0 c, .slice B 0 d], .int .i64 k]) ∧ Below w.heap.size w w' := by
  have := Parse_code X.data.toList (by rw [Array.length_toList]; exact hX) w hT _ hR
  rw [strL_of] at this
  refine this.mono ?_
  rintro e w' ⟨A, c, B, d, rfl, _, _, hb⟩
  exact ⟨A, c, B, d, rfl, hb⟩
/-- A text that is one's. -/
theorem parse_yes (X : ByteArray) (hX : X.size ≤ 1000) (x : Inst) (hR : parseT X.data.toList = (0, x)) (w : World) (hT : Tab w) :
    Calls Tryz.prog 10 #[.string X] w fun e w' => ∃ A c B d, e = .returned (.tuple #[instV x A c B d, .int .i64 0]) ∧ InstIs w' x A B ∧ Below w.heap.size w w' := by
  have := Parse_code X.data.toList (by rw [Array.length_toList]; exact hX) w hT _ hR
  rw [strL_of] at this
  refine this.mono ?_
  rintro e w' ⟨A, c, B, d, rfl, hO, hWf, hb⟩
  exact ⟨A, c, B, d, rfl, hO.inst hWf, hb⟩
theorem parse_cases (t : List UInt8) : (∃ x, parseT t = (0, x) ∧ mayI x = true ∧ printI x = t) ∨ parseT t = (2, zeroI) ∨ parseT t = (3, zeroI) := by
  by_cases h : (parseT t).1 = 0
  · have h' : parseT t = (0, (parseT t).2) := by rw [← h]
    exact .inl ⟨_, h', parse_again h'⟩
  · obtain ⟨h2, h3 | h3⟩ := parse_fail h
    · exact .inr (.inl (by rw [← h2, ← h3]))
    · exact .inr (.inr (by rw [← h2, ← h3]))
set_option maxHeartbeats 8000000 in
theorem again_law (s : ByteArray) (hs : s.size ≤ maxLen) (w : World) (hT : Tab w) :
    Calls Tryz.prog 4 #[.string s] w fun e W' => e = .returned (.bool true) ∧ Below w.heap.size w W' := by
  have CL := fun W hT => lives7_any W hT
  obtain ⟨X, hXs, hcut⟩ : ∃ X : ByteArray, X.size ≤ 600 ∧ ((600 < s.size ∧ s.extract 0 600 = X) ∨ (¬ 600 < s.size ∧ s = X)) := by
    by_cases h : 600 < s.size
    · exact ⟨_, by simp; omega, .inl ⟨h, rfl⟩⟩
    · exact ⟨s, by omega, .inr ⟨h, rfl⟩⟩
  unfold maxLen at hs
  have HT := Go.Lib.hid hT
  clear hT
  rcases parse_cases X.data.toList with ⟨x, hR, hm, hp⟩ | hR | hR
  · have C1 := fun W hT => parse_yes X (by omega) x hR W hT
    have hn : x.custs.length ≤ 900 := by have := print_custs x; rw [hp, Array.length_toList] at this; have e : X.data.size = X.size := rfl; omega
    have C2 : ∀ A c B d W, Tab W → InstIs W x A B → Calls Tryz.prog 9 #[instV x A c B d] W fun e w' => e = .returned (.tuple #[.string X, .int .i64 0]) ∧ Below W.heap.size W w' := fun A c B d W hT h => by
      have := Print_code x A c B d W hT h hn
      rw [if_pos hm, hp, strL_of] at this
      exact this
    unfold instV at C1 C2
    clear hR hm hp hn
    rcases hcut with ⟨hlong, hX⟩ | ⟨hlong, rfl⟩
    all_goals
      go_enter Tryz.func4, Tryz.ntmps4
      go_wp2_with (first
        | (go_at_call 10; refine (C1 _ (HT.out.keep (by first | exact Below.refl _ _ | exact below_alloc _ _))).mono ?_; rintro e w1 ⟨A, c, B, d, rfl, hI, hb1⟩; have HI := Go.Lib.hid (hI.keep (below_alloc w1 (.cells #[.int .i64 x.days, .int .i64 x.veh, .int .i64 x.cap, .int .i64 x.len, .slice A x.custs.length c, .slice B x.dist.length d] 25))); have HB1 := Go.Lib.hid (hb1.alloc hb1.size (.cells #[.int .i64 x.days, .int .i64 x.veh, .int .i64 x.cap, .int .i64 x.len, .slice A x.custs.length c, .slice B x.dist.length d] 25)); clear hI hb1)
        | (go_at_call 9; refine (C2 _ _ _ _ _ (HT.out.keep HB1.out) HI.out).mono ?_; rintro e w2 ⟨rfl, hb2⟩; have HB2 := Go.Lib.hid (HB1.out.trans (hb2.mono HB1.out.size)); clear hb2)
        | (go_at_call 13; refine (CL _ (HT.out.keep HB2.out)).mono ?_; rintro e w4 ⟨rfl, hb4⟩; have HB4 := Go.Lib.hid (HB2.out.trans (hb4.mono HB2.out.size)); clear hb4))
      go_ret
      exact ⟨rfl, HB4.out⟩
  all_goals
    have C1 := fun W hT => parse_err X (by omega) _ hR W hT
    clear hR
    rcases hcut with ⟨hlong, hX⟩ | ⟨hlong, rfl⟩
    all_goals
      go_enter Tryz.func4, Tryz.ntmps4
      go_wp2_with (first
        | (go_at_call 10; refine (C1 _ (HT.out.keep (by first | exact Below.refl _ _ | exact below_alloc _ _))).mono ?_; rintro e w1 ⟨A, c, B, d, rfl, hb1⟩; have HB1 := Go.Lib.hid (hb1.alloc hb1.size (.cells #[.int .i64 0, .int .i64 0, .int .i64 0, .int .i64 0, .slice A 0 c, .slice B 0 d] 25)); clear hb1)
        | (go_at_call 13; refine (CL _ (HT.out.keep HB1.out)).mono ?_; rintro e w4 ⟨rfl, hb4⟩; have HB4 := Go.Lib.hid (HB1.out.trans (hb4.mono HB1.out.size)); clear hb4))
      go_ret
      exact ⟨rfl, HB4.out⟩
section
variable {H : Type} {enc : TypeId × Value → H} {base : Nat}
theorem parseAgain_frame (W : World) {v0 : Value} {d0 : DataW H} {p0 : List MemPlace} (k0 : DataW.Trod enc Tryz.prog W 0 (fun _ => true) true 9 v0 d0 p0) (o0 : Value.okWide Tryz.prog W .any base 9 v0) (hT : Tab W) :
    Calls Tryz.prog 4 #[v0] W fun e w' => e = .returned (.bool true) ∧ Below W.heap.size W w' := by
  obtain ⟨s, rfl, _, _, hs⟩ := open_string Tryz.underlying9 o0 k0
  exact again_law s hs W hT
end
end Go.Proofs.YtliomhkgkabbbaaGreatDoor
end
section
/- The document's Print: its words. -/
namespace Go.Proofs.YtliomhkgkabbbaaGreatDoor
open Go.RowKit
set_option linter.unusedVariables false
set_option maxRecDepth 20000
theorem decR_from {w W : World} (n : Int) (hn : W64 n) (hb : Below w.heap.size w W) : Calls Tryz.prog 30 #[.int .i64 n] W fun e w' => e = .returned (.string (strL (decI n))) ∧ Below w.heap.size w w' :=
  (dec_ref n hn W).mono fun e w' ⟨h1, h2⟩ => ⟨h1, hb.trans (h2.mono hb.size)⟩
set_option maxHeartbeats 4000000 in
theorem words7_ref (A : Option Addr) (xs : List Int) (c : Nat) (w : World) (hA : NumsIn w A xs) (hn : xs.length ≤ 2000) (hz : ∀ x ∈ xs, W64 x) :
    Calls Tryz.prog 29 #[.slice A xs.length c] w (WordsEnd w (xs.map decI)) := by
  obtain ⟨i0, hi, hz0, hz1, hz2⟩ := info_parts info_str
  have HA := Go.Lib.hid hA
  have HZ := Go.Lib.hid hz
  obtain ⟨n, hnn⟩ : ∃ n, n = xs.length := ⟨_, rfl⟩
  have HN := Go.Lib.hid hnn
  rw [← hnn] at hn ⊢
  clear hA hz hnn
  go_enter Tryz.func29, Tryz.ntmps29
  go_wp2
  go_loopw [3, 4] (fun ov iv wr => ∃ k : Nat, k ≤ n ∧ iv = .int .i64 k ∧ wr.ownsRow w.heap.size 9 1 ov k ((xs.take k).map fun x => Value.string (strL (decI x))) ∧ Below w.heap.size w wr) (fun _ iv _ => n - (intOf iv).toNat)
  case atStart => exact ⟨0, Nat.zero_le _, rfl, World.ownsRow_nil _ _ _ _, Below.refl _ _⟩
  case round =>
    obtain ⟨k, hk, rfl, hown, hB⟩ := hrel
    by_cases hlt : k < n
    · have hkl : k < xs.length := by rw [← HN.out]; exact hlt
      obtain ⟨b, off, rfl, hc⟩ := HA.out (by omega)
      have hcell := keep_cell hB (hc k hkl)
      have hw := HZ.out _ (List.getElem_mem hkl)
      have hs : (xs.take (k + 1)).map (fun x => Value.string (strL (decI x))) = (xs.take k).map (fun x => Value.string (strL (decI x))) ++ [Value.string (strL (decI xs[k]))] := by
        rw [List.take_succ_eq_append_getElem hkl, List.map_append]
        rfl
      have HS := Go.Lib.hid hs
      have DC := decR_from (w := wr) (W := wr) xs[k] hw (Below.refl _ _)
      have HB := Go.Lib.hid hB
      have HO := Go.Lib.hid hown
      obtain ⟨Av, cv, rfl, _⟩ := own_form hown
      clear hc hw hs hown hB
      generalize xs[k] = x at *
      clear hkl
      generalize strL (decI x) = t at *
      go_wp2_with (first
        | (go_at_call 30; refine DC.mono ?_; rintro e w5 ⟨rfl, hb5⟩; have HO5 := Go.Lib.hid (own_keep HO.out hb5); have HB5 := Go.Lib.hid (HB.out.trans (hb5.mono HB.out.size)); clear hb5)
        | (at_builtin; refine wpList_append_at rfl _ _ 50 rfl w.heap.size 9 i0 (.string ByteArray.empty) 1 16 Tryz.underlying50 hi hz0 hz1 hz2 rfl (by decide) _ _ _ rfl (HO5.out.alloc _) ⟨w5.heap.size, 0, none⟩ 1 1 [.string t] rfl rfl (one_text _ _) (by intro u hu; simp at hu; subst hu; rfl) (by unfold maxLen; omega) (by omega) (by have := HB5.out.size; simp; omega) ?_; intro v' w3 hown' hgrow hloc; have R := (HB5.out.alloc HB5.out.size _).grown hgrow (by have := HB5.out.size; simp; omega) (own_ge HO5.out)))
      refine ⟨⟨k + 1, by omega, by go_num, ?_, R⟩, by simp [intOf]; omega⟩
      rw [HS.out]
      exact hown'
    · obtain rfl : k = n := by omega
      have hall : xs.take k = xs := List.take_of_length_le (by rw [← HN.out]; exact Nat.le_refl _)
      rw [hall] at hown
      clear hall
      go_wp2
      go_ret
      refine ⟨_, rfl, ?_, hB⟩
      unfold RowS
      rw [List.length_map, List.map_map, ← HN.out]
      exact hown
end Go.Proofs.YtliomhkgkabbbaaGreatDoor
end
section
/- The document's Print: what its texts, joined by +, are. -/
namespace Go.Proofs.YtliomhkgkabbbaaGreatDoor
open Go.RowKit
set_option linter.unusedVariables false
theorem strL_cat (a b : List UInt8) : strL a ++ strL b = strL (a ++ b) := by
  have h : (strL a ++ strL b).data.toList = a ++ b := by simp [strL]
  rw [← strL_of (strL a ++ strL b), h]
theorem join_one (a : List UInt8) : Lib.join [a] [32] = a := by simp [Lib.join_cons, Lib.joinTail]
theorem head_text (x : Inst) : ((((((((((⟨#[116, 114, 97, 110, 116, 101, 114, 32, 49, 10, 100, 97, 121, 115, 32]⟩ : ByteArray) ++ strL (decI x.days)) ++ ⟨#[32, 118, 101, 104, 105, 99, 108, 101, 115, 32]⟩) ++ strL (decI x.veh)) ++ ⟨#[32, 99, 97, 112, 97, 99, 105, 116, 121, 32]⟩) ++ strL (decI x.cap)) ++ ⟨#[32, 108, 101, 110, 103, 116, 104, 32]⟩) ++ strL (decI x.len)) ++ ⟨#[10, 99, 117, 115, 116, 111, 109, 101, 114, 115, 32]⟩) ++ strL (decI (x.custs.length : Int))) ++ ⟨#[10]⟩
    = strL (lineT [wProgram, wEdition] ++ lineT (sizesW x) ++ lineT [wCustomers, decI (x.custs.length : Int)]) := by
  show ((((((((((strL [116, 114, 97, 110, 116, 101, 114, 32, 49, 10, 100, 97, 121, 115, 32]) ++ strL (decI x.days)) ++ strL [32, 118, 101, 104, 105, 99, 108, 101, 115, 32]) ++ strL (decI x.veh)) ++ strL [32, 99, 97, 112, 97, 99, 105, 116, 121, 32]) ++ strL (decI x.cap)) ++ strL [32, 108, 101, 110, 103, 116, 104, 32]) ++ strL (decI x.len)) ++ strL [10, 99, 117, 115, 116, 111, 109, 101, 114, 115, 32]) ++ strL (decI (x.custs.length : Int))) ++ strL [10] = _
  simp only [strL_cat]
  refine congrArg strL ?_
  unfold sizesW
  simp [lineT, Lib.join_cons, Lib.joinTail, wProgram, wEdition, wDays, wVehicles, wCapacity, wLength, wCustomers]
theorem tank_text (L : List UInt8) (a b c r d : List UInt8) : ((((((((((strL L ++ ⟨#[116, 97, 110, 107, 32]⟩) ++ strL a) ++ ⟨#[32]⟩) ++ strL b) ++ ⟨#[32]⟩) ++ strL c) ++ ⟨#[32]⟩) ++ strL r) ++ ⟨#[32]⟩) ++ strL d) ++ ⟨#[10]⟩ = strL (L ++ lineT [wTank, a, b, c, r, d]) := by
  show ((((((((((strL L ++ strL [116, 97, 110, 107, 32]) ++ strL a) ++ strL [32]) ++ strL b) ++ strL [32]) ++ strL c) ++ strL [32]) ++ strL r) ++ strL [32]) ++ strL d) ++ strL [10] = _
  simp only [strL_cat]
  refine congrArg strL ?_
  simp [lineT, Lib.join_cons, Lib.joinTail, wTank]
theorem visit_text (L d : List UInt8) : (strL L ++ ⟨#[118, 105, 115, 105, 116, 32]⟩) ++ strL d = strL (L ++ Lib.join (wVisit :: d :: []) [32]) := by
  show (strL L ++ strL [118, 105, 115, 105, 116, 32]) ++ strL d = _
  simp only [strL_cat]
  refine congrArg strL ?_
  simp [Lib.join_cons, Lib.joinTail, wVisit]
theorem more_text (L : List UInt8) (ws : List (List UInt8)) (h : ws ≠ []) (p : List UInt8) : (strL (L ++ Lib.join ws [32]) ++ ⟨#[32]⟩) ++ strL p = strL (L ++ Lib.join (ws ++ [p]) [32]) := by
  show (strL (L ++ Lib.join ws [32]) ++ strL [32]) ++ strL p = _
  rw [strL_cat, strL_cat, join_snoc h]
  refine congrArg strL ?_
  simp
theorem end_text (L : List UInt8) (ws : List (List UInt8)) : strL (L ++ Lib.join ws [32]) ++ ⟨#[10]⟩ = strL (L ++ lineT ws) := by
  show strL (L ++ Lib.join ws [32]) ++ strL [10] = _
  rw [strL_cat]
  unfold lineT
  rw [List.append_assoc]
theorem dist_text (L : List UInt8) : strL L ++ ⟨#[100, 105, 115, 116, 97, 110, 99, 101, 115, 10]⟩ = strL (L ++ lineT [wDistances]) := by
  show strL L ++ strL [100, 105, 115, 116, 97, 110, 99, 101, 115, 10] = _
  rw [strL_cat]
  rfl
end Go.Proofs.YtliomhkgkabbbaaGreatDoor
end
section
/- The document's Print. -/
namespace Go.Proofs.YtliomhkgkabbbaaGreatDoor
open Go.RowKit
set_option linter.unusedVariables false
set_option maxRecDepth 20000
theorem nums_lit (w : World) (xs : List Int) (h : xs.length ≤ maxLen) : NumsIn (w.alloc (.cells (xs.map (Value.int .i64)).toArray 3)) (some ⟨w.heap.size, 0, none⟩) xs := fun _ => ⟨_, 0, rfl, fun j hj => by
  have hO : (w.alloc (.cells (xs.map (Value.int .i64)).toArray 3)).ownsRow 0 3 1 (.slice (some ⟨w.heap.size, 0, none⟩) xs.length xs.length) xs.length (xs.map (Value.int .i64)) :=
    ⟨by simp, .inr ⟨w.heap.size, xs.length, _, rfl, Nat.zero_le _, heap_alloc_new w _, Nat.le_refl _, h, by simp, by simp [List.take_of_length_le]⟩⟩
  rw [Nat.zero_add, World.ownsRow.cellAt hO j (by rw [Nat.mul_one]; exact hj), List.getElem?_map, List.getElem?_eq_getElem hj]
  rfl⟩
theorem textR_from {w W : World} (p d : Int) (hp : 0 ≤ p ∧ p ≤ 18446744073709551615) (hb : Below w.heap.size w W) : Calls Tryz.prog 31 #[.int .u64 p, .int .i64 d] W fun e w' => e = .returned (.string (strL (patW d p))) ∧ Below w.heap.size w w' := by
  have h := text_ref p.toNat (by omega) d W
  rw [Int.toNat_of_nonneg hp.1] at h
  refine h.mono fun e w' ⟨h1, h2⟩ => ⟨?_, hb.trans (h2.mono hb.size)⟩
  rw [h1]
  unfold patW
  rw [strL_of]
set_option maxHeartbeats 8000000 in
theorem print_ref (x : Inst) (A : Option Addr) (c : Nat) (B : Option Addr) (d : Nat) (w : World) (h : InstIs w x A B) (hm : mayI x = true) (hn : x.custs.length ≤ 900) :
    Calls Tryz.prog 11 #[instV x A c B d] w fun e w' => e = .returned (.string (strL (printI x))) ∧ Below w.heap.size w w' := by
  obtain ⟨W0, hW0⟩ : ∃ W0, W0 = w.alloc (.cells #[.int .i64 x.days, .int .i64 x.veh, .int .i64 x.cap, .int .i64 x.len, .slice A x.custs.length c, .slice B x.dist.length d] 25) := ⟨_, rfl⟩
  have hb0 : Below w.heap.size w W0 := by rw [hW0]; exact below_alloc _ _
  have HB := Go.Lib.hid hb0
  have HI := Go.Lib.hid (h.keep hb0)
  have HK : Hid (InstBox W0 w.heap.size x A c B d) := by show InstBox _ _ _ _ _ _ _; rw [hW0]; exact InstBox.fresh w x A c B d
  obtain ⟨j0, j1, j2, j3, j4, j5⟩ := HK.out.cells
  have CW := words7_ref (some ⟨W0.heap.size, 0, none⟩) [x.days, x.veh, x.cap, x.len, (x.custs.length : Int)] 5 (W0.alloc (.cells #[.int .i64 x.days, .int .i64 x.veh, .int .i64 x.cap, .int .i64 x.len, .int .i64 (x.custs.length : Int)] 3)) (nums_lit W0 [x.days, x.veh, x.cap, x.len, (x.custs.length : Int)] (by show 5 ≤ maxLen; decide)) (by simp) (fun y hy => by
    simp only [List.mem_cons, List.not_mem_nil, or_false] at hy
    rcases hy with rfl | rfl | rfl | rfl | rfl
    · exact h.wf.days
    · exact h.wf.veh
    · exact h.wf.cap
    · exact h.wf.len
    · exact ⟨by omega, by omega⟩)
  have hz : W0.heap.size = w.heap.size + 1 := by rw [hW0]; simp
  have HBa := Go.Lib.hid (below_alloc W0 (.cells #[.int .i64 x.days, .int .i64 x.veh, .int .i64 x.cap, .int .i64 x.len, .int .i64 (x.custs.length : Int)] 3))
  obtain ⟨s0, s1, s2, s3, s4⟩ : (decI x.days).length ≤ 64 ∧ (decI x.veh).length ≤ 64 ∧ (decI x.cap).length ≤ 64 ∧ (decI x.len).length ≤ 64 ∧ (decI (x.custs.length : Int)).length ≤ 64 := by
    obtain ⟨z1, z2, z3, z4, z5, z6, z7, z8, z9, z10⟩ := (mayI_iff.1 hm).1
    refine ⟨?_, ?_, ?_, ?_, ?_⟩ <;> exact dec_bd (by omega) (by omega)
  have HE := Go.Lib.hid (head_text x)
  rw [hz] at CW
  unfold instV
  clear h hb0 hz
  go_enter Tryz.func11, Tryz.ntmps11
  go_wp2_with fail
  rw [← hW0]
  clear hW0
  refine CW.mono ?_
  rintro e w1 ⟨v, rfl, hrow, hb1⟩
  obtain ⟨g, cg, rfl, hcg⟩ := RowS.at hrow (j := 0) (by simp)
  have hws := RowS.words hrow
  obtain ⟨g0, o0, e0, u0⟩ := hws 0 (by simp)
  obtain ⟨g1, o1, e1, u1⟩ := hws 1 (by simp)
  obtain ⟨g2, o2, e2, u2⟩ := hws 2 (by simp)
  obtain ⟨g3, o3, e3, u3⟩ := hws 3 (by simp)
  obtain ⟨g4, o4, e4, u4⟩ := hws 4 (by simp)
  cases e0; cases e1; cases e2; cases e3; cases e4
  simp only [List.map_cons, List.getElem_cons_zero, List.getElem_cons_succ, Nat.zero_add] at u0 u1 u2 u3 u4
  have HB1 : Hid (Below W0.heap.size W0 w1) := HBa.out.trans (hb1.mono HBa.out.size)
  rw [← strL_size] at s0 s1 s2 s3 s4
  have HX := Go.Lib.hid (And.intro s0 (And.intro s1 (And.intro s2 (And.intro s3 s4))))
  have HL3 : Hid ((lineT [wProgram, wEdition] ++ lineT (sizesW x) ++ lineT [wCustomers, decI (x.custs.length : Int)]).length ≤ 10000000) := by
    show _ ≤ _
    rw [← strL_size, ← HE.out]
    simp only [ByteArray.size_append]
    have h1 : (⟨#[116, 114, 97, 110, 116, 101, 114, 32, 49, 10, 100, 97, 121, 115, 32]⟩ : ByteArray).size = 15 := rfl
    have h2 : (⟨#[32, 118, 101, 104, 105, 99, 108, 101, 115, 32]⟩ : ByteArray).size = 10 := rfl
    have h3 : (⟨#[32, 99, 97, 112, 97, 99, 105, 116, 121, 32]⟩ : ByteArray).size = 10 := rfl
    have h4 : (⟨#[32, 108, 101, 110, 103, 116, 104, 32]⟩ : ByteArray).size = 8 := rfl
    have h5 : (⟨#[10, 99, 117, 115, 116, 111, 109, 101, 114, 115, 32]⟩ : ByteArray).size = 11 := rfl
    have h6 : (⟨#[10]⟩ : ByteArray).size = 1 := rfl
    omega
  obtain ⟨L3, hL3⟩ : ∃ L, L = lineT [wProgram, wEdition] ++ lineT (sizesW x) ++ lineT [wCustomers, decI (x.custs.length : Int)] := ⟨_, rfl⟩
  rw [← hL3] at HE HL3
  have HQ3 := Go.Lib.hid hL3
  clear hL3
  generalize strL (decI x.days) = t0 at *
  generalize strL (decI x.veh) = t1 at *
  generalize strL (decI x.cap) = t2 at *
  generalize strL (decI x.len) = t3 at *
  generalize strL (decI (x.custs.length : Int)) = t4 at *
  clear hcg hrow hb1 hws CW j0 j1 j2 j3 j4 j5
  go_wp2_with fail
  go_cut [4] from 11 to 48 (fun sv wx => sv = .string (strL L3) ∧ wx = w1.drew)
  case first =>
    go_region
    all_goals
      go_wp2_with fail
      go_meet
      exact ⟨congrArg Value.string HE.out, rfl⟩
  case rest =>
  obtain ⟨rfl, rfl⟩ := hcut
  clear u0 u1 u2 u3 u4 s0 s1 s2 s3 s4
  have HBX := Go.Lib.hid (HI.out.keep HB1.out)
  obtain ⟨md, hmd, md1, md2⟩ := may_days hm
  have hcm := (mayI_iff.1 hm).2.1
  have HCB : Hid (∀ j (hj : j < x.custs.length), custW x.days x.custs[j] ≠ [] ∧ (custW x.days x.custs[j]).length ≤ 66 ∧ (∀ y ∈ custW x.days x.custs[j], y.length ≤ 64) ∧ x.custs[j].pats.length ≤ 900) := fun j hj => by
    have hmj := List.all_eq_true.1 hcm _ (List.getElem_mem hj)
    rw [hmd] at hmj ⊢
    obtain ⟨q1, q2, q3⟩ := cust_bd md1 md2 hmj
    refine ⟨q1, q2, q3, ?_⟩
    rcases mayC_cases hmj with ⟨_, _, k3, _⟩ | ⟨_, _, _, _, _, _, _, k8⟩
    · omega
    · rw [k8]; exact Nat.zero_le _
  have HLB : Hid (∀ j, j ≤ x.custs.length → (L3 ++ linesT ((x.custs.take j).map (custW x.days))).length ≤ 20000000) := fun j hj => by
    have h1 := linesT_bd (K := 4290) (ls := (x.custs.take j).map (custW x.days)) (fun l hl => by
      obtain ⟨ci, hci, rfl⟩ := List.mem_map.1 hl
      obtain ⟨i, hi, rfl⟩ := List.getElem_of_mem (List.mem_of_mem_take hci)
      obtain ⟨q1, q2, q3, _⟩ := HCB.out i hi
      have := lineT_bdK (K := 64) q1 q3
      omega)
    rw [List.length_map, List.length_take_of_le hj] at h1
    rw [List.length_append]
    have := HL3.out
    omega
  have HCM := Go.Lib.hid hcm
  have HMD := Go.Lib.hid (And.intro hmd (And.intro md1 md2))
  clear hmd md1 md2 hcm
  go_wp2
  go_loopw [4, 5] (fun sv iv wr => ∃ (j : Nat) (S : ByteArray), j ≤ x.custs.length ∧ iv = .int .i64 j ∧ sv = .string S ∧ S = strL (L3 ++ linesT ((x.custs.take j).map (custW x.days))) ∧ Below W0.heap.size W0 wr) (fun _ iv _ => x.custs.length - (intOf iv).toNat)
  case atStart => exact ⟨0, _, Nat.zero_le _, rfl, rfl, by simp [linesT], HB1.out.drew⟩
  case round =>
    obtain ⟨j, S, hj, rfl, rfl, hSj, hLj⟩ := hrel
    have HLj := Go.Lib.hid hLj
    clear hLj
    obtain ⟨i0, i1, i2, i3, i4, i5⟩ := (HK.out.keep HLj.out).cells
    have hsz : S.size ≤ 20000000 := by rw [hSj, strL_size]; exact HLB.out j hj
    by_cases hlt : j < x.custs.length
    · obtain ⟨b, off, P, kp, rfl, hca, hnp, hkp⟩ := (HI.out.keep HLj.out).custs j hlt
      have hcw := HI.out.wf.custs _ (List.getElem_mem hlt)
      obtain ⟨q1, q2, q3, q4⟩ := HCB.out j hlt
      have hmj := List.all_eq_true.1 HCM.out _ (List.getElem_mem hlt)
      have HS : Hid (linesT ((x.custs.take (j + 1)).map (custW x.days)) = linesT ((x.custs.take j).map (custW x.days)) ++ lineT (custW x.days x.custs[j])) := by
        show _ = _
        rw [List.take_succ_eq_append_getElem hlt, List.map_append]
        exact linesT_snoc _ _
      obtain ⟨ci, hci⟩ : ∃ ci, ci = x.custs[j] := ⟨_, rfl⟩
      rw [← hci] at hca hnp hkp hcw q1 q2 q3 q4 hmj HS
      obtain ⟨L, hL⟩ : ∃ L, L = L3 ++ linesT ((x.custs.take j).map (custW x.days)) := ⟨_, rfl⟩
      rw [← hL] at hSj
      have HE2 : Hid (L3 ++ linesT ((x.custs.take (j + 1)).map (custW x.days)) = L ++ lineT (custW x.days ci)) := by
        show _ = _
        rw [HS.out, ← List.append_assoc, ← hL]
      have HSS := Go.Lib.hid hSj
      have HQ := Go.Lib.hid (And.intro q1 (And.intro q2 q3))
      have HNP := Go.Lib.hid hnp
      have HCW := Go.Lib.hid hcw
      obtain ⟨c0, c1, c2, c3, c4, c5, c6, c7⟩ := hca
      have hkind := mayC_cases (by rw [HMD.out.1] at hmj; exact hmj)
      clear hci hL hSj hnp hcw q1 q2 q3 hmj HS
      rcases hkind with ⟨k1, kz⟩ | ⟨k1, k2, k3, k4, k5, k6, k7, k8⟩
      · clear kz
        rw [k1] at c0
        have HW : Hid (custW x.days ci = wVisit :: decI ci.demand :: ci.pats.map (patW x.days)) := by
          show _ = _
          unfold custW
          rw [if_neg (by omega)]
        obtain ⟨W5, hW5⟩ : ∃ W, W = wr.alloc (.cells #[.int .i64 1, .int .i64 ci.demand, .slice P ci.pats.length kp, .int .i64 ci.rate, .int .i64 ci.size, .int .i64 ci.start, .int .i64 ci.rule, .int .i64 ci.hold] 41) := ⟨_, rfl⟩
        have K5 : BlkIs W5 wr.heap.size 41 #[.int .i64 1, .int .i64 ci.demand, .slice P ci.pats.length kp, .int .i64 ci.rate, .int .i64 ci.size, .int .i64 ci.start, .int .i64 ci.rule, .int .i64 ci.hold] := by rw [hW5]; exact BlkIs.fresh wr _ _
        have HB5 : Hid (Below wr.heap.size wr W5) := by show Below _ _ _; rw [hW5]; exact below_alloc _ _
        obtain ⟨p0, p1, p2, p3, p4, p5, p6, p7⟩ := K5.cells8
        have hdl : (strL (decI ci.demand)).size ≤ 64 := by rw [strL_size]; exact HQ.out.2.2 _ (by rw [HW.out]; simp)
        obtain ⟨D, hD⟩ : ∃ D, D = strL (decI ci.demand) := ⟨_, rfl⟩
        have CD := decR_from (w := W5) (W := W5) ci.demand HCW.out.demand (Below.refl _ _)
        rw [← hD] at CD hdl
        have HD := Go.Lib.hid hD
        have HK5 := Go.Lib.hid K5
        clear hD K5 k1 p0 p1 p2 p3 p4 p5 p6 p7
        go_wp2_with fail
        rw [← hW5]
        clear hW5
        refine CD.mono ?_
        rintro e w6 ⟨rfl, hb6⟩
        have HB6 := Go.Lib.hid (HB5.out.trans (hb6.mono HB5.out.size))
        have HK6 := Go.Lib.hid (BlkIs.below HK5.out hb6 HK5.out.lt)
        have lt6 := HK6.out.lt
        obtain ⟨p0, p1, p2, p3, p4, p5, p6, p7⟩ := HK6.out.cells8
        clear hb6 CD c0 c1 c2 c3 c4 c5 c6 c7 p0 p1 p3 p4 p5 p6 p7 i0 i1 i2 i3 i4 i5
        obtain ⟨m, hm'⟩ : ∃ m, m = ci.pats.length := ⟨_, rfl⟩
        have HM := Go.Lib.hid hm'
        rw [← hm'] at p2 q4 hkp
        clear hm'
        have hJ : ∀ k, k ≤ m → (L ++ Lib.join (wVisit :: decI ci.demand :: (ci.pats.take k).map (patW x.days)) [32]).length ≤ 21000000 := fun k hk => by
          have h1 := lineT_bdK (K := 64) (ws := wVisit :: decI ci.demand :: (ci.pats.take k).map (patW x.days)) (by simp) (fun y hy => HQ.out.2.2 y (by
            rw [HW.out]
            simp only [List.mem_cons, List.mem_map] at hy ⊢
            rcases hy with h | h | ⟨q, hq, h⟩
            · exact .inl h
            · exact .inr (.inl h)
            · exact .inr (.inr ⟨q, List.mem_of_mem_take hq, h⟩)))
          have h2 : (wVisit :: decI ci.demand :: (ci.pats.take k).map (patW x.days)).length ≤ 66 := by
            have := HQ.out.2.1
            rw [HW.out] at this
            simp only [List.length_cons, List.length_map, List.length_take] at this ⊢
            omega
          have h3 : L.length ≤ 20000000 := by rw [← strL_size, ← HSS.out]; exact hsz
          have h4 : (Lib.join (wVisit :: decI ci.demand :: (ci.pats.take k).map (patW x.days)) [32]).length ≤ (lineT (wVisit :: decI ci.demand :: (ci.pats.take k).map (patW x.days))).length := by unfold lineT; simp
          rw [List.length_append]
          omega
        have HJ := Go.Lib.hid hJ
        clear hJ
        go_wp2
        go_loopw [4, 7] (fun sv kv wk => ∃ (k : Nat) (T : ByteArray), k ≤ m ∧ kv = .int .i64 k ∧ sv = .string T ∧ T = strL (L ++ Lib.join (wVisit :: decI ci.demand :: (ci.pats.take k).map (patW x.days)) [32]) ∧ Below w6.heap.size w6 wk) (fun _ kv _ => m - (intOf kv).toNat)
        case atStart => exact ⟨0, _, Nat.zero_le _, rfl, rfl, by rw [HSS.out, HD.out]; exact visit_text _ _, Below.refl _ _⟩
        case round =>
          obtain ⟨k, T, hk, rfl, rfl, hT, hbk⟩ := hrel
          have g2 := keep_cell hbk p2
          have hts : T.size ≤ 21000000 := by rw [hT, strL_size]; exact HJ.out k hk
          have HT := Go.Lib.hid hT
          have HBk := Go.Lib.hid hbk
          clear hT hbk
          obtain ⟨i0, i1, i2, i3, i4, i5⟩ := (HK.out.keep (HLj.out.trans ((HB6.out.trans (HBk.out.mono HB6.out.size)).mono HLj.out.size))).cells
          clear i1 i2 i3 i4 i5 hsz p2
          by_cases hlk : k < m
          · have hkl : k < ci.pats.length := by rw [← HM.out]; exact hlk
            have hnp2 := HNP.out.keep (HB6.out.trans (HBk.out.mono HB6.out.size))
            obtain ⟨b', o', rfl, hcell⟩ := hnp2.2 (by omega)
            have hc0 := hcell k hkl
            rw [getD_in _ _ hkl] at hc0
            have htk := Go.Lib.hid (List.take_succ_eq_append_getElem hkl)
            have CT := fun W hb => textR_from (w := wr) (W := W) ci.pats[k] x.days (HCW.out.pats _ (List.getElem_mem hkl)) hb
            have hps : (strL (patW x.days ci.pats[k])).size ≤ 64 := by rw [strL_size]; exact HQ.out.2.2 _ (by rw [HW.out]; exact List.mem_cons_of_mem _ (List.mem_cons_of_mem _ (List.mem_map.2 ⟨_, List.getElem_mem hkl, rfl⟩)))
            obtain ⟨p, hp⟩ : ∃ p, p = ci.pats[k] := ⟨_, rfl⟩
            rw [← hp] at hc0 CT htk hps
            obtain ⟨PT, hPT⟩ : ∃ PT, PT = strL (patW x.days p) := ⟨_, rfl⟩
            rw [← hPT] at CT hps
            have HPT := Go.Lib.hid hPT
            have hbr := Below.refl wr.heap.size wr
            clear hp hcell hnp2 hkl hPT
            go_wp2_with fail
            go_region_with (go_at_call 31; refine (CT _ (by first | exact hbr | exact hbr.drew)).mono ?_; rintro e w8 ⟨rfl, hb8⟩; have HB8 := Go.Lib.hid hb8; clear hb8)
            go_wp2
            all_goals
              refine ⟨⟨k + 1, _, by omega, by go_num, rfl, ?_, HBk.out.trans (HB8.out.mono HBk.out.size)⟩, by simp [intOf]; omega⟩
              rw [HT.out, HPT.out, htk.out, List.map_append, more_text _ _ (by simp)]
              rfl
          · obtain rfl : k = m := by omega
            have hall : ci.pats.take k = ci.pats := List.take_of_length_le (by rw [← HM.out]; exact Nat.le_refl _)
            rw [hall] at HT
            clear hall
            go_wp2
            refine ⟨⟨j + 1, _, by omega, by go_num, rfl, ?_, HLj.out.trans ((HB6.out.trans (HBk.out.mono HB6.out.size)).mono HLj.out.size)⟩, by simp [intOf]; omega⟩
            rw [HE2.out, HT.out, HW.out, end_text]
      · have HW : Hid (custW x.days ci = [wTank, decI ci.rate, decI ci.size, decI ci.start, ruleW ci.rule, decI ci.hold]) := by
          show _ = _
          unfold custW
          rw [if_pos k1]
        have HR5 := Go.Lib.hid k5
        rw [k1] at c0
        clear k1 k2 k3 k4 k5 k6 k7 k8
        obtain ⟨W5, hW5⟩ : ∃ W, W = wr.alloc (.cells #[.int .i64 2, .int .i64 ci.demand, .slice P ci.pats.length kp, .int .i64 ci.rate, .int .i64 ci.size, .int .i64 ci.start, .int .i64 ci.rule, .int .i64 ci.hold] 41) := ⟨_, rfl⟩
        have K5 : BlkIs W5 wr.heap.size 41 #[.int .i64 2, .int .i64 ci.demand, .slice P ci.pats.length kp, .int .i64 ci.rate, .int .i64 ci.size, .int .i64 ci.start, .int .i64 ci.rule, .int .i64 ci.hold] := by rw [hW5]; exact BlkIs.fresh wr _ _
        have HB5 : Hid (Below wr.heap.size wr W5) := by show Below _ _ _; rw [hW5]; exact below_alloc _ _
        obtain ⟨p0, p1, p2, p3, p4, p5, p6, p7⟩ := K5.cells8
        have hz5 : W5.heap.size = wr.heap.size + 1 := by rw [hW5]; simp
        have CW4 := words7_ref (some ⟨W5.heap.size, 0, none⟩) [ci.rate, ci.size, ci.start, ci.hold] 4 (W5.alloc (.cells #[.int .i64 ci.rate, .int .i64 ci.size, .int .i64 ci.start, .int .i64 ci.hold] 3)) (nums_lit W5 [ci.rate, ci.size, ci.start, ci.hold] (by show 4 ≤ maxLen; decide)) (by simp) (fun y hy => by
          simp only [List.mem_cons, List.not_mem_nil, or_false] at hy
          rcases hy with rfl | rfl | rfl | rfl
          · exact HCW.out.rate
          · exact HCW.out.size
          · exact HCW.out.start
          · exact HCW.out.hold)
        rw [hz5] at CW4
        have HBa5 := Go.Lib.hid (HB5.out.alloc HB5.out.size (.cells #[.int .i64 ci.rate, .int .i64 ci.size, .int .i64 ci.start, .int .i64 ci.hold] 3))
        have HK5 := Go.Lib.hid (BlkIs.below K5 (below_alloc W5 (.cells #[.int .i64 ci.rate, .int .i64 ci.size, .int .i64 ci.start, .int .i64 ci.hold] 3)) K5.lt)
        obtain ⟨s0, s1, s2, s3, s4⟩ : (strL (decI ci.rate)).size ≤ 64 ∧ (strL (decI ci.size)).size ≤ 64 ∧ (strL (decI ci.start)).size ≤ 64 ∧ (strL (ruleW ci.rule)).size ≤ 64 ∧ (strL (decI ci.hold)).size ≤ 64 := by
          simp only [strL_size]
          refine ⟨?_, ?_, ?_, ?_, ?_⟩ <;> exact HQ.out.2.2 _ (by rw [HW.out]; simp)
        have HE5 := Go.Lib.hid (tank_text L (decI ci.rate) (decI ci.size) (decI ci.start) (ruleW ci.rule) (decI ci.hold))
        clear K5 hz5 p0 p1 p2
        go_wp2_with fail
        rw [← hW5]
        clear hW5
        refine CW4.mono ?_
        rintro e w6 ⟨v, rfl, hrow, hb6⟩
        obtain ⟨g', cg', rfl, hcg⟩ := RowS.at hrow (j := 0) (by simp)
        have hws := RowS.words hrow
        obtain ⟨g0, o0, e0, u0⟩ := hws 0 (by simp)
        obtain ⟨g1, o1, e1, u1⟩ := hws 1 (by simp)
        obtain ⟨g2, o2, e2, u2⟩ := hws 2 (by simp)
        obtain ⟨g3, o3, e3, u3⟩ := hws 3 (by simp)
        cases e0; cases e1; cases e2; cases e3
        simp only [List.map_cons, List.getElem_cons_zero, List.getElem_cons_succ, Nat.zero_add] at u0 u1 u2 u3
        have HB6 := Go.Lib.hid (HBa5.out.trans (hb6.mono HBa5.out.size))
        have HK6 := Go.Lib.hid (BlkIs.below HK5.out hb6 HK5.out.lt)
        obtain ⟨_, _, _, _, _, _, r6, _⟩ := HK6.out.cells8
        have HE6 : Hid (strL (L3 ++ linesT ((x.custs.take (j + 1)).map (custW x.days))) = S ++ ⟨#[116, 97, 110, 107, 32]⟩ ++ strL (decI ci.rate) ++ ⟨#[32]⟩ ++ strL (decI ci.size) ++ ⟨#[32]⟩ ++ strL (decI ci.start) ++ ⟨#[32]⟩ ++ strL (ruleW ci.rule) ++ ⟨#[32]⟩ ++ strL (decI ci.hold) ++ ⟨#[10]⟩) := by
          show _ = _
          rw [HE2.out, HW.out, HSS.out]
          exact HE5.out.symm
        clear HE5
        generalize strL (decI ci.rate) = t0 at *
        generalize strL (decI ci.size) = t1 at *
        generalize strL (decI ci.start) = t2 at *
        generalize strL (decI ci.hold) = t3 at *
        clear hcg hrow hb6 hws CW4 c0 c1 c2 c3 c4 c5 c6 c7 p3 p4 p5 p6 p7 i0 i1 i2 i3 i4 i5
        rcases HR5.out with hr | hr
        · have er : strL (ruleW ci.rule) = ⟨#[102, 105, 108, 108]⟩ := by rw [hr]; rfl
          rw [er] at HE6
          rw [hr] at r6
          clear er s3
          go_wp2_with fail
          go_region
          all_goals
            go_wp2
            exact ⟨⟨j + 1, _, by omega, by go_num, rfl, HE6.out.symm, HLj.out.trans ((HB6.out.mono HLj.out.size).drew)⟩, by simp [intOf]; omega⟩
        · have er : strL (ruleW ci.rule) = ⟨#[97, 110, 121]⟩ := by rw [hr]; rfl
          rw [er] at HE6
          rw [hr] at r6
          clear er s3
          go_wp2_with fail
          go_region
          all_goals
            go_wp2
            exact ⟨⟨j + 1, _, by omega, by go_num, rfl, HE6.out.symm, HLj.out.trans ((HB6.out.mono HLj.out.size).drew)⟩, by simp [intOf]; omega⟩
    · obtain rfl : j = x.custs.length := by omega
      rw [List.take_length] at hSj
      have hl4 := HLB.out x.custs.length (Nat.le_refl _)
      rw [List.take_length] at hl4
      obtain ⟨L4, hL4⟩ : ∃ L4, L4 = L3 ++ linesT (x.custs.map (custW x.days)) := ⟨_, rfl⟩
      rw [← hL4] at hSj hl4
      have HL4 := Go.Lib.hid hL4
      have HSS := Go.Lib.hid hSj
      clear hL4 hSj HLB HCB hlt i0 i1 i2 i3
      obtain ⟨L5, hL5⟩ : ∃ L5, L5 = L4 ++ lineT [wDistances] := ⟨_, rfl⟩
      have hl5 : L5.length ≤ 20000010 := by
        have h6 : (lineT [wDistances]).length = 10 := by decide
        rw [hL5, List.length_append]; omega
      have HPR : Hid (L5 ++ linesT (x.dist.map fun r => r.map decI) = printI x) := by
        show _ = _
        rw [hL5, HL4.out, HQ3.out]
        unfold printI instW
        rw [linesT_cons, linesT_cons, linesT_cons, linesT_app, linesT_cons]
        simp
      have HL5e := Go.Lib.hid hL5
      have hm2 := (mayI_iff.1 hm).1
      have hdl : x.dist.length ≤ 901 := by obtain ⟨_, _, _, _, _, _, _, _, _, e⟩ := hm2; omega
      have HRB : Hid (∀ i (hi : i < x.dist.length), (x.dist[i]).map decI ≠ [] ∧ ((x.dist[i]).map decI).length ≤ 1000 ∧ ∀ y ∈ (x.dist[i]).map decI, y.length ≤ 64) := fun i hi => row_words_bd hm hn (List.getElem_mem hi)
      have HL5 : Hid (∀ i, i ≤ x.dist.length → (L5 ++ linesT ((x.dist.take i).map fun r => r.map decI)).length ≤ 200000000) := fun i hi => by
        have h1 := linesT_bd (K := 65000) (ls := (x.dist.take i).map fun r => r.map decI) (fun l hl => by
          obtain ⟨r, hr, rfl⟩ := List.mem_map.1 hl
          obtain ⟨q, hq, rfl⟩ := List.getElem_of_mem (List.mem_of_mem_take hr)
          obtain ⟨q1, q2, q3⟩ := HRB.out q hq
          have := lineT_bdK (K := 64) q1 q3
          omega)
        rw [List.length_map, List.length_take_of_le hi] at h1
        rw [List.length_append]
        omega
      clear hm2 hl4 hl5 hL5
      go_wp2
      go_loopw [4, 10] (fun sv iv wq => ∃ (i : Nat) (T : ByteArray), i ≤ x.dist.length ∧ iv = .int .i64 i ∧ sv = .string T ∧ T = strL (L5 ++ linesT ((x.dist.take i).map fun r => r.map decI)) ∧ Below W0.heap.size W0 wq) (fun _ iv _ => x.dist.length - (intOf iv).toNat)
      case atStart => exact ⟨0, _, Nat.zero_le _, rfl, rfl, by rw [HSS.out, HL5e.out]; simpa [linesT] using dist_text L4, HLj.out⟩
      case round =>
        obtain ⟨i, T, hi, rfl, rfl, hT, hLi⟩ := hrel
        have HLi := Go.Lib.hid hLi
        have hts : T.size ≤ 200000000 := by rw [hT, strL_size]; exact HL5.out i hi
        have HT := Go.Lib.hid hT
        clear hLi hT hsz i4 i5
        obtain ⟨_, _, _, _, _, i5⟩ := (HK.out.keep HLi.out).cells
        by_cases hlt : i < x.dist.length
        · obtain ⟨b, off, P, kp, rfl, hcell, hint, hkp⟩ := (HI.out.keep HLi.out).dist i hlt
          have hwr := HI.out.wf.dist _ (List.getElem_mem hlt)
          obtain ⟨q1, q2, q3⟩ := HRB.out i hlt
          have HS : Hid (linesT ((x.dist.take (i + 1)).map fun r => r.map decI) = linesT ((x.dist.take i).map fun r => r.map decI) ++ lineT ((x.dist[i]).map decI)) := by
            show _ = _
            rw [List.take_succ_eq_append_getElem hlt, List.map_append]
            exact linesT_snoc _ _
          have hnin : NumsIn _ P x.dist[i] := fun h0 => by
            obtain ⟨b', off', e, hc⟩ := hint.2 h0
            refine ⟨b', off', e, fun j hj => ?_⟩
            rw [hc j hj, getD_in _ _ hj]
          have CW := words7_ref P x.dist[i] kp _ hnin (by rw [List.length_map] at q2; omega) hwr.2
          obtain ⟨ws, hws⟩ : ∃ ws, ws = (x.dist[i]).map decI := ⟨_, rfl⟩
          rw [← hws] at q1 q2 q3 HS CW
          obtain ⟨rl, hrl⟩ : ∃ rl, rl = (x.dist[i]).length := ⟨_, rfl⟩
          rw [← hrl] at hcell CW
          have hll : (strL (lineT ws)).size ≤ 65000 := by
            rw [strL_size]
            have := lineT_bdK (K := 64) q1 q3
            omega
          have CLN := fun v base W hr => line_refK v ws W base hr q1 q2 q3
          obtain ⟨LN, hLN⟩ : ∃ LN, LN = strL (lineT ws) := ⟨_, rfl⟩
          rw [← hLN] at hll CLN
          have HLN := Go.Lib.hid hLN
          clear hwr hint hkp hnin hws hrl hLN q1 q2 q3
          go_wp2_with (first
            | (go_at_call 29; refine CW.mono ?_; rintro e w15 ⟨v, rfl, hrow, hb15⟩; have HB15 := Go.Lib.hid hb15)
            | (go_at_call 32; refine (CLN _ _ _ hrow).mono ?_; rintro e w16 ⟨rfl, rfl⟩))
          refine ⟨⟨i + 1, _, by omega, by go_num, rfl, ?_, HLi.out.trans (HB15.out.mono HLi.out.size)⟩, by simp [intOf]; omega⟩
          rw [HT.out, HLN.out, strL_cat, HS.out, List.append_assoc]
        · obtain rfl : i = x.dist.length := by omega
          rw [List.take_length] at HT
          go_wp2
          go_ret
          refine ⟨?_, HB.out.trans (HLi.out.mono HB.out.size)⟩
          rw [HT.out, HPR.out]
          rfl
end Go.Proofs.YtliomhkgkabbbaaGreatDoor
end
section
/- The room of an instance's lists. -/
namespace Go.Proofs.YtliomhkgkabbbaaGreatDoor
open Go.RowKit Go.ChangeShapes Go.WideShapes
set_option linter.unusedVariables false
section
variable {H : Type} {enc : TypeId × Value → H} {base : Nat}
theorem inst_rooms {w : World} {x : Inst} {A : Option Addr} {c : Nat} {B : Option Addr} {e : Nat} {d : DataW H} {p : List MemPlace} (k : DataW.Trod enc Tryz.prog w 0 (fun _ => true) true 25 (instV x A c B e) d p) : x.custs.length ≤ c ∧ x.dist.length ≤ e := by
  obtain ⟨fuel, h⟩ := k
  obtain ⟨xs, n, _, _, _, hxl, hf⟩ := DataW.trod_struct Tryz.underlying25 h
  obtain ⟨x4, hx4⟩ := field_one (T := 25) hxl hf (i := 4) rfl (by kernel_rfl) (by kernel_rfl) (by show 4 < 6; omega)
  obtain ⟨x5, hx5⟩ := field_one (T := 25) hxl hf (i := 5) rfl (by kernel_rfl) (by kernel_rfl) (by show 5 < 6; omega)
  constructor
  · rcases Go.Deep.open_slice Tryz.underlying22 hx4 with ⟨hcs, _⟩ | ⟨a, len, cap, m, n, D, Pl, hcs, _, hl, hm, hmm, _, hx⟩
    · simp only [List.cons.injEq, and_true] at hcs
      have hcs : Value.slice A x.custs.length c = .slice none 0 0 := hcs
      injection hcs with _ h1 h2
      omega
    · simp only [List.cons.injEq, and_true] at hcs
      have hcs : Value.slice A x.custs.length c = .slice (some a) len cap := hcs
      injection hcs with _ h1 h2
      omega
  · rcases Go.Deep.open_slice Tryz.underlying23 hx5 with ⟨hcs, _⟩ | ⟨a, len, cap, m, n, D, Pl, hcs, _, hl, hm, hmm, _, hx⟩
    · simp only [List.cons.injEq, and_true] at hcs
      have hcs : Value.slice B x.dist.length e = .slice none 0 0 := hcs
      injection hcs with _ h1 h2
      omega
    · simp only [List.cons.injEq, and_true] at hcs
      have hcs : Value.slice B x.dist.length e = .slice (some a) len cap := hcs
      injection hcs with _ h1 h2
      omega
end
end Go.Proofs.YtliomhkgkabbbaaGreatDoor
end
section
/- ParseRange, off its code. -/
namespace Go.Proofs.YtliomhkgkabbbaaGreatDoor
open Go.RowKit Go.ChangeShapes Go.WideShapes
set_option linter.unusedVariables false
set_option maxRecDepth 20000
theorem DistIs.cut {w : World} {B : Option Addr} {l : List (List Int)} (h : DistIs w B l) (n : Nat) : DistIs w B (l.take n) := fun i hi => by
  rw [List.length_take] at hi
  obtain ⟨b, off, P, k, e, h1, h2, h3⟩ := h i (by omega)
  rw [List.getElem_take]
  exact ⟨b, off, P, k, e, h1, h2, h3⟩
/-- The first customers and rows of an instance. -/
def cutI (x : Inst) (n m : Nat) : Inst := { x with custs := x.custs.take n, dist := x.dist.take m }
theorem cut_is {w : World} {x : Inst} {A B : Option Addr} (h : InstIs w x A B) (n m : Nat) : InstIs w (cutI x n m) A B :=
  ⟨h.custs.cut n, h.dist.cut m, ⟨h.wf.days, h.wf.veh, h.wf.cap, h.wf.len, fun c hc => h.wf.custs c (List.mem_of_mem_take hc), fun r hr => h.wf.dist r (List.mem_of_mem_take hr), by show (x.custs.take n).length ≤ _; rw [List.length_take]; have := h.wf.n; omega, by show (x.dist.take m).length ≤ _; rw [List.length_take]; have := h.wf.m; omega⟩⟩
theorem range_law (x : Inst) (A : Option Addr) (c : Nat) (B : Option Addr) (d : Nat) (w : World) (hT : Tab w) (h : InstIs w x A B) (hc : x.custs.length ≤ c) (hd : x.dist.length ≤ d) :
    Calls Tryz.prog 5 #[instV x A c B d] w fun e W' => e = .returned (.bool true) ∧ Below w.heap.size w W' := by
  have CL := fun W hT => lives7_any W hT
  obtain ⟨n, hn, hn2⟩ : ∃ n, (x.custs.take 10).length = n ∧ n ≤ 10 ∧ ((10 < x.custs.length ∧ n = 10) ∨ (¬ 10 < x.custs.length ∧ x.custs.length = n)) := ⟨_, rfl, by rw [List.length_take]; omega⟩
  obtain ⟨m, hm, hm2⟩ : ∃ m, (x.dist.take 11).length = m ∧ m ≤ 11 ∧ ((11 < x.dist.length ∧ m = 11) ∨ (¬ 11 < x.dist.length ∧ x.dist.length = m)) := ⟨_, rfl, by rw [List.length_take]; omega⟩
  have hy := cut_is h 10 11
  have hyd : (cutI x 10 11).days = x.days ∧ (cutI x 10 11).veh = x.veh ∧ (cutI x 10 11).cap = x.cap ∧ (cutI x 10 11).len = x.len ∧ (cutI x 10 11).custs.length = n ∧ (cutI x 10 11).dist.length = m := ⟨rfl, rfl, rfl, rfl, hn, hm⟩
  obtain ⟨y, hye⟩ : ∃ y, y = cutI x 10 11 := ⟨_, rfl⟩
  rw [← hye] at hy hyd
  obtain ⟨d1, d2, d3, d4, d5, d6⟩ := hyd
  have CM := fun c d W hI => May_ref y A c B d W hI
  have CP := fun c d W hT hI => Print_code y A c B d W hT hI (by omega)
  have CR := fun c d W hI hm => print_ref y A c B d W hI hm (by omega)
  unfold instV at CM CP CR ⊢
  rw [d1, d2, d3, d4, d5, d6] at CM CP CR
  obtain ⟨S, hS⟩ : ∃ S, S = strL (printI y) := ⟨_, rfl⟩
  rw [← hS] at CP CR
  have HT := Go.Lib.hid hT
  have HY := Go.Lib.hid hy
  have hcl := h.wf.n
  have hdl := h.wf.m
  unfold maxLen at hcl hdl
  clear hye hn hm d1 d2 d3 d4 d5 d6 hy h hT hS
  have hb : ∀ v, Below w.heap.size w (w.alloc v) := fun v => below_alloc w v
  have HB := Go.Lib.hid hb
  clear hb
  cases hmy : mayI y
  · rw [hmy] at CM CP
    simp only [Bool.false_eq_true, if_false] at CP
    clear CR hmy
    obtain ⟨hn3, ⟨hq, rfl⟩ | ⟨hq, hq2⟩⟩ := hn2 <;> obtain ⟨hm3, ⟨hr, rfl⟩ | ⟨hr, hr2⟩⟩ := hm2
    all_goals
      (try rw [hq2])
      (try rw [hr2])
      (try rw [hq2] at hq hc hcl)
      (try rw [hr2] at hr hd hdl)
      go_enter Tryz.func5, Tryz.ntmps5
      go_wp2_with (first
        | (go_at_call 14; (refine (CM _ _ _ (HY.out.keep (HB.out _))).mono ?_); rintro e w1 ⟨rfl, hb1⟩; have HB1 := Go.Lib.hid ((HB.out _).trans (hb1.mono (HB.out _).size)); have K1 := Go.Lib.hid ((BlkIs.fresh w _ _).below hb1 (by simp)); obtain ⟨j0, j1, j2, j3, j4, j5⟩ := BlkIs.cells6 K1.out; clear hb1)
        | (go_at_call 9; (refine (CP _ _ _ (HT.out.keep HB1.out) (HY.out.keep HB1.out)).mono ?_); rintro e w2 ⟨rfl, hb2⟩; have HB2 := Go.Lib.hid (HB1.out.trans (hb2.mono HB1.out.size)); clear hb2)
        | (go_at_call 13; (refine (CL _ (HT.out.keep HB2.out)).mono ?_); rintro e w4 ⟨rfl, hb4⟩; have HB4 := Go.Lib.hid (HB2.out.trans (hb4.mono HB2.out.size)); clear hb4))
      go_ret
      exact ⟨rfl, HB4.out⟩
  · rw [hmy] at CM CP
    simp only [if_true] at CP
    have CR := fun c d W hI => CR c d W hI hmy
    clear hmy
    obtain ⟨hn3, ⟨hq, rfl⟩ | ⟨hq, hq2⟩⟩ := hn2 <;> obtain ⟨hm3, ⟨hr, rfl⟩ | ⟨hr, hr2⟩⟩ := hm2
    all_goals
      (try rw [hq2])
      (try rw [hr2])
      (try rw [hq2] at hq hc hcl)
      (try rw [hr2] at hr hd hdl)
      go_enter Tryz.func5, Tryz.ntmps5
      go_wp2_with (first
        | (go_at_call 14; (refine (CM _ _ _ (HY.out.keep (HB.out _))).mono ?_); rintro e w1 ⟨rfl, hb1⟩; have HB1 := Go.Lib.hid ((HB.out _).trans (hb1.mono (HB.out _).size)); have K1 := Go.Lib.hid ((BlkIs.fresh w _ _).below hb1 (by simp)); obtain ⟨j0, j1, j2, j3, j4, j5⟩ := BlkIs.cells6 K1.out; clear hb1)
        | (go_at_call 9; (refine (CP _ _ _ (HT.out.keep HB1.out) (HY.out.keep HB1.out)).mono ?_); rintro e w2 ⟨rfl, hb2⟩; have HB2 := Go.Lib.hid (HB1.out.trans (hb2.mono HB1.out.size)); have K2 := Go.Lib.hid (BlkIs.below K1.out hb2 K1.out.lt); obtain ⟨k0, k1, k2, k3, k4, k5⟩ := BlkIs.cells6 K2.out; clear hb2 j0 j1 j2 j3 j4 j5)
        | (go_at_call 11; (refine (CR _ _ _ (HY.out.keep HB2.out)).mono ?_); rintro e w3 ⟨rfl, hb3⟩; have HB3 := Go.Lib.hid (HB2.out.trans (hb3.mono HB2.out.size)); clear hb3)
        | (go_at_call 13; (refine (CL _ (HT.out.keep HB3.out)).mono ?_); rintro e w4 ⟨rfl, hb4⟩; have HB4 := Go.Lib.hid (HB3.out.trans (hb4.mono HB3.out.size)); clear hb4))
      go_ret
      exact ⟨rfl, HB4.out⟩
section
variable {H : Type} {enc : TypeId × Value → H} {base : Nat}
theorem parseRange_frame (W : World) {v0 : Value} {d0 : DataW H} {p0 : List MemPlace} (k0 : DataW.Trod enc Tryz.prog W 0 (fun _ => true) true 25 v0 d0 p0) (o0 : Value.okWide Tryz.prog W .any base 25 v0) (hT : Tab W) :
    Calls Tryz.prog 5 #[v0] W fun e w' => e = .returned (.bool true) ∧ Below W.heap.size W w' := by
  obtain ⟨x, A, c, B, e, rfl, hI⟩ := inst_open k0 o0
  obtain ⟨h1, h2⟩ := inst_rooms k0
  exact range_law x A c B e W hT hI h1 h2
end
end Go.Proofs.YtliomhkgkabbbaaGreatDoor
end
