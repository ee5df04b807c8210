/- The document's number of digits as a number of 64 bits, and whether it fits. -/
import Derived.Test.YtmjogpbdgbgkhaaDoorAdd
namespace Go.Proofs.YtmjogpbdgbgkhaaDoor
open Go.RowKit
set_option linter.unusedVariables false

theorem ofmax (w : World) : Calls Tryd.prog 44 #[.int .i64 9223372036854775807] w fun e w' => ∃ A n c xs b, e = .returned (.agg #[.slice A n c, .bool b]) ∧ (Ints w' A n xs ∧ Dig xs ∧ Norm xs ∧ val xs = 9223372036854775807 ∧ n ≤ 4) ∧ Below w.heap.size w w' := by
  refine (of_any _ (by decide) w).mono ?_
  rintro e w' ⟨v, rfl, ⟨A, n, c, xs, b, rfl, h1, h2, h3, h4, h5, h6, h7⟩, hb⟩
  have := (val_bd h2).1
  exact ⟨A, n, c, xs, b, rfl, ⟨h1, h2, h3, by unfold sg at h5; split at h5 <;> omega, h6⟩, hb⟩
theorem ofmin (w : World) : Calls Tryd.prog 44 #[.int .i64 (-9223372036854775808)] w fun e w' => ∃ A n c xs b, e = .returned (.agg #[.slice A n c, .bool b]) ∧ (Ints w' A n xs ∧ Dig xs ∧ Norm xs ∧ val xs = 9223372036854775808 ∧ n ≤ 4) ∧ Below w.heap.size w w' := by
  refine (of_any _ (by decide) w).mono ?_
  rintro e w' ⟨v, rfl, ⟨A, n, c, xs, b, rfl, h1, h2, h3, h4, h5, h6, h7⟩, hb⟩
  have := (val_bd h2).1
  exact ⟨A, n, c, xs, b, rfl, ⟨h1, h2, h3, by unfold sg at h5; split at h5 <;> omega, h6⟩, hb⟩

/-- How far the loop of Int has come: k digits are left. -/
def IntAt (xs : List Int) (neg : Bool) (k : Nat) (i : Value) (a : Int) : Prop := a = sg neg (val (xs.drop k)) ∧ ((k = 0 ∧ i = .int .i64 (-1)) ∨ ∃ j : Nat, k = j + 1 ∧ i = .int .i64 j)
theorem IntAt.next {xs : List Int} {neg : Bool} {j : Nat} {a a' : Int} (h : a = sg neg (val (xs.drop (j + 1)))) (he : a' = a * 65536 + sg neg (xs.getD j 0)) : IntAt xs neg j (.int .i64 ((j : Int) - 1)) a' := by
  refine ⟨by rw [he, h, drop_succ' xs j]; unfold sg; cases neg <;> simp <;> omega, ?_⟩
  rcases j with _ | j
  · exact .inl ⟨rfl, rfl⟩
  · exact .inr ⟨j, rfl, by congr 1; omega⟩
theorem IntAt.start {xs : List Int} {neg : Bool} {n : Nat} (h : xs.length = n) : IntAt xs neg n (.int .i64 ((n : Int) - 1)) 0 := by
  refine ⟨by rw [List.drop_of_length_le (by omega)]; unfold sg; simp [val], ?_⟩
  rcases n with _ | j
  · exact .inl ⟨rfl, rfl⟩
  · exact .inr ⟨j, rfl, by congr 1; omega⟩
theorem drop_le {xs : List Int} (dx : Dig xs) (k : Nat) : 0 ≤ val (xs.drop k) ∧ val (xs.drop k) ≤ val xs := by
  have h1 := val_bd (dx.drop k)
  have h2 := val_bd (dx.take k)
  have h3 := val_split xs k
  have h4 := Int.mul_le_mul_of_nonneg_left (c := val (xs.drop k)) (a := 1) (b := 65536 ^ k) (by have := pow_pos16 k; omega) h1.1
  rw [Int.mul_comm (val (xs.drop k)) (65536 ^ k)] at h4
  omega
theorem cmp_hi {x y : Int} (h : y < x) : 1 ≤ cmpV x y := by unfold cmpV; split <;> (try split) <;> omega
theorem cmp_no {x y : Int} (h : x ≤ y) : cmpV x y ≤ 0 := by unfold cmpV; split <;> (try split) <;> omega

set_option maxHeartbeats 2000000 in
theorem int_far_pos (A : Option Addr) (n c : Nat) (xs : List Int) (w : World) (hi : Ints w A n xs) (dx : Dig xs) (nx : Norm xs) (hn : n ≤ 1000) (hv : 9223372036854775807 < val xs) :
    Calls Tryd.prog 42 #[.agg #[.slice A n c, .bool false]] w fun e w' => e = .returned (.tuple #[.int .i64 0, .bool false]) ∧ Below w.heap.size w w' := by
  have HI := Go.Lib.hid hi
  have DX := Go.Lib.hid dx
  have NX := Go.Lib.hid nx
  have HV := Go.Lib.hid hv
  clear hi dx nx hv
  go_enter Tryd.func42, Tryd.ntmps42
  go_wp2_with fail
  refine (ofmax _).mono ?_
  rintro e w1 ⟨A1, n1, c1, xs1, b1, rfl, h1, hb1⟩
  have J0 := (BlkIs.fresh w 66 #[.slice A n c, .bool false]).below hb1 (by simp)
  have B1 := (below_alloc w (.cells #[.slice A n c, .bool false] 66)).trans (hb1.mono (by simp))
  have H1 := Go.Lib.hid h1
  clear hb1 h1
  go_wp2_with fail
  refine (ofmin _).mono ?_
  rintro e w2 ⟨A2, n2, c2, xs2, b2, rfl, h2, hb2⟩
  have J0 := (J0.alloc (.cells #[.slice A1 n1 c1, .bool b1] 66)).below hb2 (by have := J0.lt; simp; omega)
  have J1 := (BlkIs.fresh w1 66 #[.slice A1 n1 c1, .bool b1]).below hb2 (by simp)
  have B2 := B1.trans (((below_alloc w1 (.cells #[.slice A1 n1 c1, .bool b1] 66)).trans (hb2.mono (by simp))).mono B1.size)
  have H1 := Go.Lib.hid (show Ints (w2.alloc (.cells #[.slice A2 n2 c2, .bool b2] 66)) A1 n1 xs1 ∧ Dig xs1 ∧ Norm xs1 ∧ val xs1 = 9223372036854775807 ∧ n1 ≤ 4 from ⟨((H1.out.1.keep (below_alloc _ _)).keep hb2).keep (below_alloc _ _), H1.out.2⟩)
  have H2 := Go.Lib.hid (show Ints (w2.alloc (.cells #[.slice A2 n2 c2, .bool b2] 66)) A2 n2 xs2 ∧ Dig xs2 ∧ Norm xs2 ∧ val xs2 = 9223372036854775808 ∧ n2 ≤ 4 from ⟨h2.1.keep (below_alloc _ _), h2.2⟩)
  have K0 := J0.alloc (.cells #[.slice A2 n2 c2, .bool b2] 66)
  have K1 := J1.alloc (.cells #[.slice A2 n2 c2, .bool b2] 66)
  have K2 := BlkIs.fresh w2 66 #[.slice A2 n2 c2, .bool b2]
  have B3 := B2.trans ((below_alloc w2 (.cells #[.slice A2 n2 c2, .bool b2] 66)).mono B2.size)
  obtain ⟨p0, p1, p2, p3⟩ := J0.cells2
  obtain ⟨p4, p5, p6, p7⟩ := J1.cells2
  have l0 := J0.lt
  have l1 := J1.lt
  obtain ⟨r, hr, hr1⟩ : ∃ r, cmpV (val xs) (val xs1) = r ∧ 1 ≤ r := ⟨_, rfl, cmp_hi (by rw [H1.out.2.2.2.1]; exact HV.out)⟩
  have S : Calls Tryd.prog 46 #[.slice A n c, .slice A1 n1 c1] (w2.alloc (.cells #[.slice A2 n2 c2, .bool b2] 66)) fun e w' => e = .returned (.int .i64 r) ∧ Below (w2.alloc (.cells #[.slice A2 n2 c2, .bool b2] 66)).heap.size (w2.alloc (.cells #[.slice A2 n2 c2, .bool b2] 66)) w' :=
    hr ▸ dsize_any A A1 n n1 c c1 xs xs1 _ (HI.out.keep B3) H1.out.1 DX.out H1.out.2.1 NX.out H1.out.2.2.1 hn (by have := H1.out.2.2.2.2; omega)
  clear hr h2 hb2 J1 B1 B2
  go_wp2_with (go_at_call 46; refine S.mono ?_; rintro e w4 ⟨rfl, hb4⟩; have M0 := K0.below hb4 K0.lt; have M1 := K1.below hb4 K1.lt; have M2 := K2.below hb4 K2.lt; obtain ⟨m0, m1, m2, m3⟩ := M0.cells2; obtain ⟨m4, m5, m6, m7⟩ := M1.cells2; obtain ⟨m8, m9, m10, m11⟩ := M2.cells2; have B4 := B3.trans (hb4.mono B3.size); clear hb4 S)
  go_ret2
  exact ⟨rfl, B4⟩

set_option maxHeartbeats 2000000 in
theorem int_far_neg (A : Option Addr) (n c : Nat) (xs : List Int) (w : World) (hi : Ints w A n xs) (dx : Dig xs) (nx : Norm xs) (hn : n ≤ 1000) (hv : 9223372036854775808 < val xs) :
    Calls Tryd.prog 42 #[.agg #[.slice A n c, .bool true]] w fun e w' => e = .returned (.tuple #[.int .i64 0, .bool false]) ∧ Below w.heap.size w w' := by
  have HI := Go.Lib.hid hi
  have DX := Go.Lib.hid dx
  have NX := Go.Lib.hid nx
  have HV := Go.Lib.hid hv
  clear hi dx nx hv
  go_enter Tryd.func42, Tryd.ntmps42
  go_wp2_with fail
  refine (ofmax _).mono ?_
  rintro e w1 ⟨A1, n1, c1, xs1, b1, rfl, h1, hb1⟩
  have J0 := (BlkIs.fresh w 66 #[.slice A n c, .bool true]).below hb1 (by simp)
  have B1 := (below_alloc w (.cells #[.slice A n c, .bool true] 66)).trans (hb1.mono (by simp))
  have H1 := Go.Lib.hid h1
  clear hb1 h1
  go_wp2_with fail
  refine (ofmin _).mono ?_
  rintro e w2 ⟨A2, n2, c2, xs2, b2, rfl, h2, hb2⟩
  have J0 := (J0.alloc (.cells #[.slice A1 n1 c1, .bool b1] 66)).below hb2 (by have := J0.lt; simp; omega)
  have J1 := (BlkIs.fresh w1 66 #[.slice A1 n1 c1, .bool b1]).below hb2 (by simp)
  have B2 := B1.trans (((below_alloc w1 (.cells #[.slice A1 n1 c1, .bool b1] 66)).trans (hb2.mono (by simp))).mono B1.size)
  have H1 := Go.Lib.hid (show Ints (w2.alloc (.cells #[.slice A2 n2 c2, .bool b2] 66)) A1 n1 xs1 ∧ Dig xs1 ∧ Norm xs1 ∧ val xs1 = 9223372036854775807 ∧ n1 ≤ 4 from ⟨((H1.out.1.keep (below_alloc _ _)).keep hb2).keep (below_alloc _ _), H1.out.2⟩)
  have H2 := Go.Lib.hid (show Ints (w2.alloc (.cells #[.slice A2 n2 c2, .bool b2] 66)) A2 n2 xs2 ∧ Dig xs2 ∧ Norm xs2 ∧ val xs2 = 9223372036854775808 ∧ n2 ≤ 4 from ⟨h2.1.keep (below_alloc _ _), h2.2⟩)
  have K0 := J0.alloc (.cells #[.slice A2 n2 c2, .bool b2] 66)
  have K1 := J1.alloc (.cells #[.slice A2 n2 c2, .bool b2] 66)
  have K2 := BlkIs.fresh w2 66 #[.slice A2 n2 c2, .bool b2]
  have B3 := B2.trans ((below_alloc w2 (.cells #[.slice A2 n2 c2, .bool b2] 66)).mono B2.size)
  obtain ⟨p0, p1, p2, p3⟩ := J0.cells2
  obtain ⟨p4, p5, p6, p7⟩ := J1.cells2
  have l0 := J0.lt
  have l1 := J1.lt
  obtain ⟨r, hr, hr1⟩ : ∃ r, cmpV (val xs) (val xs2) = r ∧ 1 ≤ r := ⟨_, rfl, cmp_hi (by rw [H2.out.2.2.2.1]; exact HV.out)⟩
  have S : Calls Tryd.prog 46 #[.slice A n c, .slice A2 n2 c2] (w2.alloc (.cells #[.slice A2 n2 c2, .bool b2] 66)) fun e w' => e = .returned (.int .i64 r) ∧ Below (w2.alloc (.cells #[.slice A2 n2 c2, .bool b2] 66)).heap.size (w2.alloc (.cells #[.slice A2 n2 c2, .bool b2] 66)) w' :=
    hr ▸ dsize_any A A2 n n2 c c2 xs xs2 _ (HI.out.keep B3) H2.out.1 DX.out H2.out.2.1 NX.out H2.out.2.2.1 hn (by have := H2.out.2.2.2.2; omega)
  clear hr h2 hb2 J1 B1 B2
  go_wp2_with (go_at_call 46; refine S.mono ?_; rintro e w4 ⟨rfl, hb4⟩; have M0 := K0.below hb4 K0.lt; have M1 := K1.below hb4 K1.lt; have M2 := K2.below hb4 K2.lt; obtain ⟨m0, m1, m2, m3⟩ := M0.cells2; obtain ⟨m4, m5, m6, m7⟩ := M1.cells2; obtain ⟨m8, m9, m10, m11⟩ := M2.cells2; have B4 := B3.trans (hb4.mono B3.size); clear hb4 S)
  go_ret2
  exact ⟨rfl, B4⟩

set_option maxHeartbeats 2000000 in
theorem int_pos (A : Option Addr) (n c : Nat) (xs : List Int) (w : World) (hi : Ints w A n xs) (dx : Dig xs) (nx : Norm xs) (hn : n ≤ 1000) (hv : val xs ≤ 9223372036854775807) :
    Calls Tryd.prog 42 #[.agg #[.slice A n c, .bool false]] w fun e w' => e = .returned (.tuple #[.int .i64 (sg false (val xs)), .bool true]) ∧ Below w.heap.size w w' := by
  have HI := Go.Lib.hid hi
  have DX := Go.Lib.hid dx
  have NX := Go.Lib.hid nx
  have HV := Go.Lib.hid hv
  clear hi dx nx hv
  go_enter Tryd.func42, Tryd.ntmps42
  go_wp2_with fail
  refine (ofmax _).mono ?_
  rintro e w1 ⟨A1, n1, c1, xs1, b1, rfl, h1, hb1⟩
  have J0 := (BlkIs.fresh w 66 #[.slice A n c, .bool false]).below hb1 (by simp)
  have B1 := (below_alloc w (.cells #[.slice A n c, .bool false] 66)).trans (hb1.mono (by simp))
  have H1 := Go.Lib.hid h1
  clear hb1 h1
  go_wp2_with fail
  refine (ofmin _).mono ?_
  rintro e w2 ⟨A2, n2, c2, xs2, b2, rfl, h2, hb2⟩
  have J0 := (J0.alloc (.cells #[.slice A1 n1 c1, .bool b1] 66)).below hb2 (by have := J0.lt; simp; omega)
  have J1 := (BlkIs.fresh w1 66 #[.slice A1 n1 c1, .bool b1]).below hb2 (by simp)
  have B2 := B1.trans (((below_alloc w1 (.cells #[.slice A1 n1 c1, .bool b1] 66)).trans (hb2.mono (by simp))).mono B1.size)
  have H1 := Go.Lib.hid (show Ints (w2.alloc (.cells #[.slice A2 n2 c2, .bool b2] 66)) A1 n1 xs1 ∧ Dig xs1 ∧ Norm xs1 ∧ val xs1 = 9223372036854775807 ∧ n1 ≤ 4 from ⟨((H1.out.1.keep (below_alloc _ _)).keep hb2).keep (below_alloc _ _), H1.out.2⟩)
  have H2 := Go.Lib.hid (show Ints (w2.alloc (.cells #[.slice A2 n2 c2, .bool b2] 66)) A2 n2 xs2 ∧ Dig xs2 ∧ Norm xs2 ∧ val xs2 = 9223372036854775808 ∧ n2 ≤ 4 from ⟨h2.1.keep (below_alloc _ _), h2.2⟩)
  have K0 := J0.alloc (.cells #[.slice A2 n2 c2, .bool b2] 66)
  have K1 := J1.alloc (.cells #[.slice A2 n2 c2, .bool b2] 66)
  have K2 := BlkIs.fresh w2 66 #[.slice A2 n2 c2, .bool b2]
  have B3 := B2.trans ((below_alloc w2 (.cells #[.slice A2 n2 c2, .bool b2] 66)).mono B2.size)
  obtain ⟨p0, p1, p2, p3⟩ := J0.cells2
  obtain ⟨p4, p5, p6, p7⟩ := J1.cells2
  have l0 := J0.lt
  have l1 := J1.lt
  obtain ⟨r, hr, hr1⟩ : ∃ r, cmpV (val xs) (val xs1) = r ∧ r ≤ 0 := ⟨_, rfl, cmp_no (by rw [H1.out.2.2.2.1]; exact HV.out)⟩
  have S : Calls Tryd.prog 46 #[.slice A n c, .slice A1 n1 c1] (w2.alloc (.cells #[.slice A2 n2 c2, .bool b2] 66)) fun e w' => e = .returned (.int .i64 r) ∧ Below (w2.alloc (.cells #[.slice A2 n2 c2, .bool b2] 66)).heap.size (w2.alloc (.cells #[.slice A2 n2 c2, .bool b2] 66)) w' :=
    hr ▸ dsize_any A A1 n n1 c c1 xs xs1 _ (HI.out.keep B3) H1.out.1 DX.out H1.out.2.1 NX.out H1.out.2.2.1 hn (by have := H1.out.2.2.2.2; omega)
  clear hr h2 hb2 J1 B1 B2
  go_wp2_with (go_at_call 46; refine S.mono ?_; rintro e w4 ⟨rfl, hb4⟩; have M0 := K0.below hb4 K0.lt; have M1 := K1.below hb4 K1.lt; have M2 := K2.below hb4 K2.lt; obtain ⟨m0, m1, m2, m3⟩ := M0.cells2; obtain ⟨m4, m5, m6, m7⟩ := M1.cells2; obtain ⟨m8, m9, m10, m11⟩ := M2.cells2; have B4 := B3.trans (hb4.mono B3.size); clear hb4 S)
  clear p0 p1 p2 p3 p4 p5 p6 p7 l0 l1
  have I4 := Go.Lib.hid (HI.out.keep B4)
  have HB := Go.Lib.hid B4
  clear B3 B4 K0 K1 K2 M0 M1 M2 J0 m4 m5 m6 m7 m8 m9 m10 m11
  go_loop [6, 7] (fun av i => ∃ (k : Nat) (a : Int), k ≤ n ∧ av = .int .i64 a ∧ IntAt xs false k i a) (fun _ i => (intOf i + 1).toNat)
  case atStart => exact ⟨n, 0, Nat.le_refl _, rfl, IntAt.start HI.out.1⟩
  case round =>
    obtain ⟨k, a, hk, rfl, he, hi⟩ := hrel
    rcases hi with ⟨rfl, rfl⟩ | ⟨j, rfl, rfl⟩
    · have E := Go.Lib.hid he
      clear he
      go_wp2
      go_ret2
      exact ⟨ret_pair (by rw [E.out]; simp) rfl, HB.out⟩
    · obtain ⟨x, hx⟩ : ∃ x, xs.getD j 0 = x := ⟨_, rfl⟩
      obtain ⟨b, off, rfl, hcs⟩ := I4.out.2 (by omega)
      have hcj := hcs j (by omega)
      rw [hx] at hcj
      have hxb := DX.out.getD j
      rw [hx] at hxb
      obtain ⟨x0, x1⟩ := hxb
      have hle := drop_le DX.out j
      have hlj := drop_le DX.out (j + 1)
      have hv := HV.out
      rw [drop_succ', hx] at hle
      have hbd : 0 ≤ a ∧ a * 65536 + x ≤ 9223372036854775807 := by unfold sg at he; simp at he; omega
      obtain ⟨a0, a1⟩ := hbd
      have E := Go.Lib.hid he
      have HX := Go.Lib.hid hx
      clear hcs he hx hle hlj hv
      go_wp2
      go_round
      case rel => exact ⟨j, a * 65536 + x, by omega, rfl, IntAt.next E.out (by rw [HX.out]; unfold sg; simp; try omega)⟩
      case measure => simp [intOf]

set_option maxHeartbeats 2000000 in
theorem int_neg (A : Option Addr) (n c : Nat) (xs : List Int) (w : World) (hi : Ints w A n xs) (dx : Dig xs) (nx : Norm xs) (hn : n ≤ 1000) (hv : val xs ≤ 9223372036854775808) :
    Calls Tryd.prog 42 #[.agg #[.slice A n c, .bool true]] w fun e w' => e = .returned (.tuple #[.int .i64 (sg true (val xs)), .bool true]) ∧ Below w.heap.size w w' := by
  have HI := Go.Lib.hid hi
  have DX := Go.Lib.hid dx
  have NX := Go.Lib.hid nx
  have HV := Go.Lib.hid hv
  clear hi dx nx hv
  go_enter Tryd.func42, Tryd.ntmps42
  go_wp2_with fail
  refine (ofmax _).mono ?_
  rintro e w1 ⟨A1, n1, c1, xs1, b1, rfl, h1, hb1⟩
  have J0 := (BlkIs.fresh w 66 #[.slice A n c, .bool true]).below hb1 (by simp)
  have B1 := (below_alloc w (.cells #[.slice A n c, .bool true] 66)).trans (hb1.mono (by simp))
  have H1 := Go.Lib.hid h1
  clear hb1 h1
  go_wp2_with fail
  refine (ofmin _).mono ?_
  rintro e w2 ⟨A2, n2, c2, xs2, b2, rfl, h2, hb2⟩
  have J0 := (J0.alloc (.cells #[.slice A1 n1 c1, .bool b1] 66)).below hb2 (by have := J0.lt; simp; omega)
  have J1 := (BlkIs.fresh w1 66 #[.slice A1 n1 c1, .bool b1]).below hb2 (by simp)
  have B2 := B1.trans (((below_alloc w1 (.cells #[.slice A1 n1 c1, .bool b1] 66)).trans (hb2.mono (by simp))).mono B1.size)
  have H1 := Go.Lib.hid (show Ints (w2.alloc (.cells #[.slice A2 n2 c2, .bool b2] 66)) A1 n1 xs1 ∧ Dig xs1 ∧ Norm xs1 ∧ val xs1 = 9223372036854775807 ∧ n1 ≤ 4 from ⟨((H1.out.1.keep (below_alloc _ _)).keep hb2).keep (below_alloc _ _), H1.out.2⟩)
  have H2 := Go.Lib.hid (show Ints (w2.alloc (.cells #[.slice A2 n2 c2, .bool b2] 66)) A2 n2 xs2 ∧ Dig xs2 ∧ Norm xs2 ∧ val xs2 = 9223372036854775808 ∧ n2 ≤ 4 from ⟨h2.1.keep (below_alloc _ _), h2.2⟩)
  have K0 := J0.alloc (.cells #[.slice A2 n2 c2, .bool b2] 66)
  have K1 := J1.alloc (.cells #[.slice A2 n2 c2, .bool b2] 66)
  have K2 := BlkIs.fresh w2 66 #[.slice A2 n2 c2, .bool b2]
  have B3 := B2.trans ((below_alloc w2 (.cells #[.slice A2 n2 c2, .bool b2] 66)).mono B2.size)
  obtain ⟨p0, p1, p2, p3⟩ := J0.cells2
  obtain ⟨p4, p5, p6, p7⟩ := J1.cells2
  have l0 := J0.lt
  have l1 := J1.lt
  obtain ⟨r, hr, hr1⟩ : ∃ r, cmpV (val xs) (val xs2) = r ∧ r ≤ 0 := ⟨_, rfl, cmp_no (by rw [H2.out.2.2.2.1]; exact HV.out)⟩
  have S : Calls Tryd.prog 46 #[.slice A n c, .slice A2 n2 c2] (w2.alloc (.cells #[.slice A2 n2 c2, .bool b2] 66)) fun e w' => e = .returned (.int .i64 r) ∧ Below (w2.alloc (.cells #[.slice A2 n2 c2, .bool b2] 66)).heap.size (w2.alloc (.cells #[.slice A2 n2 c2, .bool b2] 66)) w' :=
    hr ▸ dsize_any A A2 n n2 c c2 xs xs2 _ (HI.out.keep B3) H2.out.1 DX.out H2.out.2.1 NX.out H2.out.2.2.1 hn (by have := H2.out.2.2.2.2; omega)
  clear hr h2 hb2 J1 B1 B2
  go_wp2_with (go_at_call 46; refine S.mono ?_; rintro e w4 ⟨rfl, hb4⟩; have M0 := K0.below hb4 K0.lt; have M1 := K1.below hb4 K1.lt; have M2 := K2.below hb4 K2.lt; obtain ⟨m0, m1, m2, m3⟩ := M0.cells2; obtain ⟨m4, m5, m6, m7⟩ := M1.cells2; obtain ⟨m8, m9, m10, m11⟩ := M2.cells2; have B4 := B3.trans (hb4.mono B3.size); clear hb4 S)
  clear p0 p1 p2 p3 p4 p5 p6 p7 l0 l1
  have I4 := Go.Lib.hid (HI.out.keep B4)
  have HB := Go.Lib.hid B4
  clear B3 B4 K0 K1 K2 M0 M1 M2 J0 m4 m5 m6 m7 m8 m9 m10 m11
  go_loop [6, 7] (fun av i => ∃ (k : Nat) (a : Int), k ≤ n ∧ av = .int .i64 a ∧ IntAt xs true k i a) (fun _ i => (intOf i + 1).toNat)
  case atStart => exact ⟨n, 0, Nat.le_refl _, rfl, IntAt.start HI.out.1⟩
  case round =>
    obtain ⟨k, a, hk, rfl, he, hi⟩ := hrel
    rcases hi with ⟨rfl, rfl⟩ | ⟨j, rfl, rfl⟩
    · have E := Go.Lib.hid he
      clear he
      go_wp2
      go_ret2
      exact ⟨ret_pair (by rw [E.out]; simp) rfl, HB.out⟩
    · obtain ⟨x, hx⟩ : ∃ x, xs.getD j 0 = x := ⟨_, rfl⟩
      obtain ⟨b, off, rfl, hcs⟩ := I4.out.2 (by omega)
      have hcj := hcs j (by omega)
      rw [hx] at hcj
      have hxb := DX.out.getD j
      rw [hx] at hxb
      obtain ⟨x0, x1⟩ := hxb
      have hle := drop_le DX.out j
      have hlj := drop_le DX.out (j + 1)
      have hv := HV.out
      rw [drop_succ', hx] at hle
      have hbd : a ≤ 0 ∧ -9223372036854775808 ≤ a * 65536 - x := by unfold sg at he; simp at he; omega
      obtain ⟨a0, a1⟩ := hbd
      have E := Go.Lib.hid he
      have HX := Go.Lib.hid hx
      clear hcs he hx hle hlj hv
      go_wp2
      go_round
      case rel => exact ⟨j, a * 65536 - x, by omega, rfl, IntAt.next E.out (by rw [HX.out]; unfold sg; simp; try omega)⟩
      case measure => simp [intOf]

/-- The document's number as a number of 64 bits. -/
theorem bigint_any (L : Nat) (v : Value) (z : Int) (w : World) (h : Bg w L v z) (hL : L ≤ 1000) :
    Calls Tryd.prog 42 #[v] w fun e w' => e = .returned (.tuple #[.int .i64 (fitV z), .bool (fitB z)]) ∧ Below w.heap.size w w' := by
  obtain ⟨A, n, c, xs, neg, rfl, hi, dx, nx, zx, rfl, hn, hc⟩ := h
  have hb := (val_bd dx).1
  cases neg
  · by_cases hv : val xs ≤ 9223372036854775807
    · refine (int_pos A n c xs w hi dx nx (by omega) hv).mono ?_
      rintro e w' ⟨rfl, h⟩
      exact ⟨ret_yes (fitB_true (by unfold sg; simp; omega)) rfl, h⟩
    · refine (int_far_pos A n c xs w hi dx nx (by omega) (by omega)).mono ?_
      rintro e w' ⟨rfl, h⟩
      exact ⟨ret_no (fitB_false (by unfold sg; simp; omega)), h⟩
  · by_cases hv : val xs ≤ 9223372036854775808
    · refine (int_neg A n c xs w hi dx nx (by omega) hv).mono ?_
      rintro e w' ⟨rfl, h⟩
      exact ⟨ret_yes (fitB_true (by unfold sg; simp; omega)) rfl, h⟩
    · refine (int_far_neg A n c xs w hi dx nx (by omega) (by omega)).mono ?_
      rintro e w' ⟨rfl, h⟩
      exact ⟨ret_no (fitB_false (by unfold sg; simp; omega)), h⟩
theorem int_is {L : Nat} {v : Value} {z t : Int} {f : Bool} {w : World} (h : Bg w L v z) (hL : L ≤ 1000) (ht : fitV z = t) (hf : fitB z = f) :
    Calls Tryd.prog 42 #[v] w fun e w' => e = .returned (.tuple #[.int .i64 t, .bool f]) ∧ Below w.heap.size w w' := ht ▸ hf ▸ bigint_any L v z w h hL
end Go.Proofs.YtmjogpbdgbgkhaaDoor
