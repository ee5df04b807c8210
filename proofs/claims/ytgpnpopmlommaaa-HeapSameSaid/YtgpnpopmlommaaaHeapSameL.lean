/- HeapSame's walk. -/
import Derived.Test.YtgpnpopmlommaaaHeapTwo
namespace Go.Proofs.Ytgpnpopmlommaaa
open Go.RowKit Go.Maps
set_option linter.unusedVariables false
def SameFill (w : World) (ga gb : Nat) (xs : List Int) (n : Nat) (i : Value) (wr : World) : Prop := ∃ (k : Nat) (la lb : List (Thing Int)), i = .int .i64 k ∧ k ≤ n ∧ Filled la lb xs n k ∧ TwoI w ga gb la lb wr
def SameTake (w : World) (ga gb : Nat) (n : Nat) (i : Value) (wr : World) : Prop := ∃ (k : Nat) (l : List (Thing Int)), i = .int .i64 k ∧ k ≤ n + 1 ∧ l.length = n - k ∧ TwoI w ga gb l l wr
theorem TwoI.base {w w1 : World} {ga gb : Nat} {la lb : List (Thing Int)} (h : TwoI w ga gb la lb w1) : Below w.heap.size w w1 := by
  obtain ⟨_, _, _, _, h, _⟩ := h
  exact h
set_option maxHeartbeats 4000000 in
theorem same_short (A : Option Addr) (n c : Nat) (xs : List Int) (w : World) (h : Ints w A n xs) (hb : ∀ k, -9223372036854775808 ≤ xs.getD k 0 ∧ xs.getD k 0 ≤ 9223372036854775807) (hc : n ≤ c) (hn : n ≤ 30) :
    Calls Try.prog 8 #[.slice A n c] w fun e w' => e = .returned (.bool true) ∧ Below w.heap.size w w' := by
  have HX := Lib.hid h
  have HB := Lib.hid hb
  have HN1 := Lib.hid (new_own w)
  have HN2 : Hid (∀ ga w1, OwnI w ga [] w1 → Calls Try.prog 9 #[] w1 (NewTwo w ga)) := Lib.hid fun ga w1 h => new_two h
  clear h hb
  have hd : decide ((30 : Int) < (n : Int)) = false := decide_eq_false (by omega)
  go_enter Try.func8, Try.ntmps8
  go_wp2_with (first
    | (go_at_call 9; (with_reducible refine HN1.out.mono ?_); rintro e w1 ⟨ga, rfl, h0⟩; clear HN1)
    | (go_at_call 9; refine (HN2.out _ _ h0).mono ?_; rintro e w2 ⟨gb, rfl, h00⟩; clear h0 HN2))
  go_loopw [5] (fun i wr => SameFill w ga gb xs n i wr) (fun i _ => n - (intOf i).toNat)
  case atStart => exact ⟨0, [], [], rfl, by omega, ⟨Has.nil, Has.nil, List.Perm.refl _, List.Perm.refl _⟩, h00⟩
  case round =>
    clear h00 w1 w2
    obtain ⟨k, la, lb, rfl, hk, hF, hT⟩ := hrel
    by_cases hlt : k < n
    · obtain ⟨b, off, rfl, hcs⟩ := (HX.out.keep hT.base).2 (by omega)
      have c1 := hcs k hlt
      have c2 := hcs (n - 1 - k) (by omega)
      have hbk : Below w.heap.size w wr := hT.base
      obtain ⟨x, hx⟩ : ∃ x, x = xs.getD k 0 := ⟨_, rfl⟩
      obtain ⟨y, hy⟩ : ∃ y, y = xs.getD (n - 1 - k) 0 := ⟨_, rfl⟩
      obtain ⟨j, hj⟩ : ∃ j, j = n - 1 - k := ⟨_, rfl⟩
      have wx : (Lit.int .i64 x).wf = true := wf_iff.2 (hx ▸ HB.out k)
      have wy : (Lit.int .i64 y).wf = true := wf_iff.2 (hy ▸ HB.out _)
      have wk : (Lit.int .i64 (k : Int)).wf = true := wf_iff.2 ⟨by omega, by omega⟩
      have wj : (Lit.int .i64 (j : Int)).wf = true := wf_iff.2 ⟨by omega, by omega⟩
      have oa := hF.outA
      have ob := hF.outB hlt
      have hlen := hF.len
      have hF2 := hF.next hlt
      rw [← hx, ← hy, ← hj] at hF2
      rw [← hj] at ob
      rw [← hx] at c1
      rw [← hy, ← hj] at c2
      have ej : (n : Int) - 1 - (k : Int) = (j : Int) := by omega
      have jlt : (j : Int) < (n : Int) := by omega
      have HP1 : Hid (Calls Try.prog 22 #[.pointer (some ⟨ga, 0, none⟩), .int .i64 k, .int .i64 x] wr fun e w' => e = .returned (.bool true) ∧ TwoI w ga gb (ins LtI (k, x) la) lb w') := Lib.hid (put_two hT wk wx (by omega) oa)
      have HP2 : Hid (∀ w1, TwoI w ga gb (ins LtI (k, x) la) lb w1 → Calls Try.prog 22 #[.pointer (some ⟨gb, 0, none⟩), .int .i64 j, .int .i64 0] w1 fun e w' => e = .returned (.bool true) ∧ TwoI w ga gb (ins LtI (k, x) la) (ins LtI (j, 0) lb) w') :=
        Lib.hid fun w1 h => (put_two h.sym wj (by decide) (by omega) ob).mono fun e w' ⟨h1, h2⟩ => ⟨h1, h2.sym⟩
      have HP3 : Hid (∀ w1, TwoI w ga gb (ins LtI (k, x) la) (ins LtI (j, 0) lb) w1 → Calls Try.prog 23 #[.pointer (some ⟨gb, 0, none⟩), .int .i64 j, .int .i64 y] w1 fun e w' => e = .returned (.bool true) ∧ SameFill w ga gb xs n (.int .i64 ((k : Int) + 1)) w') :=
        Lib.hid fun w1 h => (change_two h.sym wj wy isIn_ins).mono fun e w' ⟨h1, h2⟩ => ⟨h1, k + 1, _, _, by go_num, by omega, hF2, h2.sym⟩
      have HC : Hid (∀ w1, Below w.heap.size w w1 → w1.cell? ⟨b, off + j, none⟩ = some (.int .i64 y)) := by
        refine Lib.hid fun w1 hb1 => ?_
        obtain ⟨b', off', e', hcs'⟩ := (HX.out.keep hb1).2 (by omega)
        injection e' with e'
        injection e' with e1 e2
        subst e1; subst e2
        rw [hy]
        have := hcs' j (by omega)
        rw [this, hj]
      clear hcs hx hy hj hF hT oa ob hlen hF2 hbk c2
      go_wp2_with (first
        | (go_at_call 22; with_reducible refine HP1.out.mono ?_; rintro e w3 ⟨rfl, h3⟩; clear HP1)
        | (go_at_call 22; refine (HP2.out _ h3).mono ?_; rintro e w4 ⟨rfl, h4⟩; have cj := HC.out _ h4.base; clear h3 HP2 HC)
        | (go_at_call 23; refine (HP3.out _ h4).mono ?_; rintro e w5 ⟨rfl, h5⟩; clear h4 HP3))
      go_roundw
      case rel => exact h5
      case measure => first | (simp [intOf]; done) | (simp [intOf]; omega)
    · have hkN : k = n := by omega
      have hF2 : Filled la lb xs n n := by rw [hkN] at hF; exact hF
      obtain rfl := hF2.same
      have hlen := hF2.len.1
      have hge : (n : Int) ≤ (k : Int) := by omega
      clear hkN hF2
      have h00 : SameTake w ga gb n (.int .i64 0) wr := ⟨0, la, rfl, by omega, by omega, hT⟩
      clear hF hT hlen
      go_wp2
      obtain ⟨wo, hwo⟩ : ∃ wo : World, wo = wr := ⟨_, rfl⟩
      go_loopw [7] (fun i wr => SameTake w ga gb n i wr) (fun i _ => n + 1 - (intOf i).toNat)
      case atStart => exact h00
      case round =>
        clear h00
        obtain ⟨k, l, rfl, hk, hl, hT⟩ := hrel
        rcases Nat.lt_trichotomy k n with hlt | heq | hgt
        · obtain ⟨x, l2, rfl⟩ : ∃ x l2, l = x :: l2 := by
            cases l with
            | nil => simp at hl; omega
            | cons x l2 => exact ⟨x, l2, rfl⟩
          have hl2 : l2.length = n - (k + 1) := by simp at hl; omega
          have H1 : Hid (∀ w1, TwoI w ga gb (x :: l2) (x :: l2) w1 → Calls Try.prog 17 #[.pointer (some ⟨ga, 0, none⟩)] w1 fun e w' => e = .returned (.tuple #[.int .i64 x.1, .int .i64 x.2, .bool true]) ∧ TwoI w ga gb l2 (x :: l2) w') := Lib.hid fun w1 h => take_two h
          have H2 : Hid (∀ w1, TwoI w ga gb l2 (x :: l2) w1 → Calls Try.prog 17 #[.pointer (some ⟨gb, 0, none⟩)] w1 fun e w' => e = .returned (.tuple #[.int .i64 x.1, .int .i64 x.2, .bool true]) ∧ SameTake w ga gb n (.int .i64 ((k : Int) + 1)) w') :=
            Lib.hid fun w1 h => (take_two h.sym).mono fun e w' ⟨h1, h2⟩ => ⟨h1, k + 1, l2, by go_num, by omega, hl2, h2.sym⟩
          have hlt' : (k : Int) < (n : Int) := by omega
          clear hl hl2
          go_wp2_with (first
            | (go_at_call 17; with_reducible refine (H1.out _ hT).mono ?_; rintro e w3 ⟨rfl, h3⟩; clear hT)
            | (go_at_call 17; with_reducible refine (H2.out _ h3).mono ?_; rintro e w4 ⟨rfl, h4⟩; clear h3))
          go_roundw
          case rel => exact h4
          case measure => first | (simp [intOf]; done) | (simp [intOf]; omega)
        · obtain rfl : n = k := heq.symm
          obtain rfl : l = [] := List.eq_nil_of_length_eq_zero (by omega)
          have H1 : Hid (∀ w1, TwoI w ga gb [] [] w1 → Calls Try.prog 17 #[.pointer (some ⟨ga, 0, none⟩)] w1 fun e w' => e = .returned (.tuple #[.int .i64 0, .int .i64 0, .bool false]) ∧ TwoI w ga gb [] [] w') := Lib.hid fun w1 h => take_two_none h
          have H2 : Hid (∀ w1, TwoI w ga gb [] [] w1 → Calls Try.prog 17 #[.pointer (some ⟨gb, 0, none⟩)] w1 fun e w' => e = .returned (.tuple #[.int .i64 0, .int .i64 0, .bool false]) ∧ SameTake w ga gb n (.int .i64 ((n : Int) + 1)) w') :=
            Lib.hid fun w1 h => (take_two_none h.sym).mono fun e w' ⟨h1, h2⟩ => ⟨h1, n + 1, [], by go_num, by omega, by simp, h2.sym⟩
          clear hl
          go_wp2_with (first
            | (go_at_call 17; with_reducible refine (H1.out _ hT).mono ?_; rintro e w3 ⟨rfl, h3⟩; clear hT)
            | (go_at_call 17; with_reducible refine (H2.out _ h3).mono ?_; rintro e w4 ⟨rfl, h4⟩; clear h3))
          go_roundw
          case rel => exact h4
          case measure => first | (simp [intOf]; done) | (simp [intOf]; omega)
        · have hgt' : (n : Int) < (k : Int) := by omega
          have hbw := hT.base
          have HBW := Lib.hid hbw
          clear hT hl hbw
          go_wp2_with (go_at_call 12; refine (lives_any _).mono ?_; rintro e w5 ⟨rfl, bl⟩)
          go_ret
          exact ⟨rfl, HBW.out.trans (bl.mono HBW.out.size)⟩
set_option maxHeartbeats 4000000 in
theorem same_long (A : Option Addr) (m c : Nat) (xs : List Int) (w : World) (h : Ints w A 30 xs) (hb : ∀ k, -9223372036854775808 ≤ xs.getD k 0 ∧ xs.getD k 0 ≤ 9223372036854775807) (hc : m ≤ c) (hm : 30 < m) :
    Calls Try.prog 8 #[.slice A m c] w fun e w' => e = .returned (.bool true) ∧ Below w.heap.size w w' := by
  have HX := Lib.hid h
  have HB := Lib.hid hb
  have HN1 := Lib.hid (new_own w)
  have HN2 : Hid (∀ ga w1, OwnI w ga [] w1 → Calls Try.prog 9 #[] w1 (NewTwo w ga)) := Lib.hid fun ga w1 h => new_two h
  clear h hb
  have hd : decide ((30 : Int) < (m : Int)) = true := decide_eq_true (by omega)
  have hmc : (30 : Int) ≤ (c : Int) := by omega
  go_enter Try.func8, Try.ntmps8
  go_wp2_with (first
    | (go_at_call 9; (with_reducible refine HN1.out.mono ?_); rintro e w1 ⟨ga, rfl, h0⟩; clear HN1)
    | (go_at_call 9; refine (HN2.out _ _ h0).mono ?_; rintro e w2 ⟨gb, rfl, h00⟩; clear h0 HN2))
  go_loopw [5] (fun i wr => SameFill w ga gb xs 30 i wr) (fun i _ => 30 - (intOf i).toNat)
  case atStart => exact ⟨0, [], [], rfl, by omega, ⟨Has.nil, Has.nil, List.Perm.refl _, List.Perm.refl _⟩, h00⟩
  case round =>
    clear h00 w1 w2
    obtain ⟨k, la, lb, rfl, hk, hF, hT⟩ := hrel
    by_cases hlt : k < 30
    · obtain ⟨b, off, rfl, hcs⟩ := (HX.out.keep hT.base).2 (by omega)
      have c1 := hcs k hlt
      have c2 := hcs (30 - 1 - k) (by omega)
      have hbk : Below w.heap.size w wr := hT.base
      obtain ⟨x, hx⟩ : ∃ x, x = xs.getD k 0 := ⟨_, rfl⟩
      obtain ⟨y, hy⟩ : ∃ y, y = xs.getD (30 - 1 - k) 0 := ⟨_, rfl⟩
      obtain ⟨j, hj⟩ : ∃ j, j = 30 - 1 - k := ⟨_, rfl⟩
      have wx : (Lit.int .i64 x).wf = true := wf_iff.2 (hx ▸ HB.out k)
      have wy : (Lit.int .i64 y).wf = true := wf_iff.2 (hy ▸ HB.out _)
      have wk : (Lit.int .i64 (k : Int)).wf = true := wf_iff.2 ⟨by omega, by omega⟩
      have wj : (Lit.int .i64 (j : Int)).wf = true := wf_iff.2 ⟨by omega, by omega⟩
      have oa := hF.outA
      have ob := hF.outB hlt
      have hlen := hF.len
      have hF2 := hF.next hlt
      rw [← hx, ← hy, ← hj] at hF2
      rw [← hj] at ob
      rw [← hx] at c1
      rw [← hy, ← hj] at c2
      have ej : (29 : Int) - (k : Int) = (j : Int) := by omega
      have jlt : (j : Int) < (30 : Int) := by omega
      have HP1 : Hid (Calls Try.prog 22 #[.pointer (some ⟨ga, 0, none⟩), .int .i64 k, .int .i64 x] wr fun e w' => e = .returned (.bool true) ∧ TwoI w ga gb (ins LtI (k, x) la) lb w') := Lib.hid (put_two hT wk wx (by omega) oa)
      have HP2 : Hid (∀ w1, TwoI w ga gb (ins LtI (k, x) la) lb w1 → Calls Try.prog 22 #[.pointer (some ⟨gb, 0, none⟩), .int .i64 j, .int .i64 0] w1 fun e w' => e = .returned (.bool true) ∧ TwoI w ga gb (ins LtI (k, x) la) (ins LtI (j, 0) lb) w') :=
        Lib.hid fun w1 h => (put_two h.sym wj (by decide) (by omega) ob).mono fun e w' ⟨h1, h2⟩ => ⟨h1, h2.sym⟩
      have HP3 : Hid (∀ w1, TwoI w ga gb (ins LtI (k, x) la) (ins LtI (j, 0) lb) w1 → Calls Try.prog 23 #[.pointer (some ⟨gb, 0, none⟩), .int .i64 j, .int .i64 y] w1 fun e w' => e = .returned (.bool true) ∧ SameFill w ga gb xs 30 (.int .i64 ((k : Int) + 1)) w') :=
        Lib.hid fun w1 h => (change_two h.sym wj wy isIn_ins).mono fun e w' ⟨h1, h2⟩ => ⟨h1, k + 1, _, _, by go_num, by omega, hF2, h2.sym⟩
      have HC : Hid (∀ w1, Below w.heap.size w w1 → w1.cell? ⟨b, off + j, none⟩ = some (.int .i64 y)) := by
        refine Lib.hid fun w1 hb1 => ?_
        obtain ⟨b', off', e', hcs'⟩ := (HX.out.keep hb1).2 (by omega)
        injection e' with e'
        injection e' with e1 e2
        subst e1; subst e2
        rw [hy]
        have := hcs' j (by omega)
        rw [this, hj]
      clear hcs hx hy hj hF hT oa ob hlen hF2 hbk c2
      go_wp2_with (first
        | (go_at_call 22; with_reducible refine HP1.out.mono ?_; rintro e w3 ⟨rfl, h3⟩; clear HP1)
        | (go_at_call 22; refine (HP2.out _ h3).mono ?_; rintro e w4 ⟨rfl, h4⟩; have cj := HC.out _ h4.base; clear h3 HP2 HC)
        | (go_at_call 23; refine (HP3.out _ h4).mono ?_; rintro e w5 ⟨rfl, h5⟩; clear h4 HP3))
      go_roundw
      case rel => exact h5
      case measure => first | (simp [intOf]; done) | (simp [intOf]; omega)
    · have hkN : k = 30 := by omega
      have hF2 : Filled la lb xs 30 30 := by rw [hkN] at hF; exact hF
      obtain rfl := hF2.same
      have hlen := hF2.len.1
      have hge : (30 : Int) ≤ (k : Int) := by omega
      clear hkN hF2
      have h00 : SameTake w ga gb 30 (.int .i64 0) wr := ⟨0, la, rfl, by omega, by omega, hT⟩
      clear hF hT hlen
      go_wp2
      obtain ⟨wo, hwo⟩ : ∃ wo : World, wo = wr := ⟨_, rfl⟩
      go_loopw [7] (fun i wr => SameTake w ga gb 30 i wr) (fun i _ => 30 + 1 - (intOf i).toNat)
      case atStart => exact h00
      case round =>
        clear h00
        obtain ⟨k, l, rfl, hk, hl, hT⟩ := hrel
        rcases Nat.lt_trichotomy k 30 with hlt | heq | hgt
        · obtain ⟨x, l2, rfl⟩ : ∃ x l2, l = x :: l2 := by
            cases l with
            | nil => simp at hl; omega
            | cons x l2 => exact ⟨x, l2, rfl⟩
          have hl2 : l2.length = 30 - (k + 1) := by simp at hl; omega
          have H1 : Hid (∀ w1, TwoI w ga gb (x :: l2) (x :: l2) w1 → Calls Try.prog 17 #[.pointer (some ⟨ga, 0, none⟩)] w1 fun e w' => e = .returned (.tuple #[.int .i64 x.1, .int .i64 x.2, .bool true]) ∧ TwoI w ga gb l2 (x :: l2) w') := Lib.hid fun w1 h => take_two h
          have H2 : Hid (∀ w1, TwoI w ga gb l2 (x :: l2) w1 → Calls Try.prog 17 #[.pointer (some ⟨gb, 0, none⟩)] w1 fun e w' => e = .returned (.tuple #[.int .i64 x.1, .int .i64 x.2, .bool true]) ∧ SameTake w ga gb 30 (.int .i64 ((k : Int) + 1)) w') :=
            Lib.hid fun w1 h => (take_two h.sym).mono fun e w' ⟨h1, h2⟩ => ⟨h1, k + 1, l2, by go_num, by omega, hl2, h2.sym⟩
          have hlt' : (k : Int) < (30 : Int) := by omega
          clear hl hl2
          go_wp2_with (first
            | (go_at_call 17; with_reducible refine (H1.out _ hT).mono ?_; rintro e w3 ⟨rfl, h3⟩; clear hT)
            | (go_at_call 17; with_reducible refine (H2.out _ h3).mono ?_; rintro e w4 ⟨rfl, h4⟩; clear h3))
          go_roundw
          case rel => exact h4
          case measure => first | (simp [intOf]; done) | (simp [intOf]; omega)
        · obtain rfl : 30 = k := heq.symm
          obtain rfl : l = [] := List.eq_nil_of_length_eq_zero (by omega)
          have H1 : Hid (∀ w1, TwoI w ga gb [] [] w1 → Calls Try.prog 17 #[.pointer (some ⟨ga, 0, none⟩)] w1 fun e w' => e = .returned (.tuple #[.int .i64 0, .int .i64 0, .bool false]) ∧ TwoI w ga gb [] [] w') := Lib.hid fun w1 h => take_two_none h
          have H2 : Hid (∀ w1, TwoI w ga gb [] [] w1 → Calls Try.prog 17 #[.pointer (some ⟨gb, 0, none⟩)] w1 fun e w' => e = .returned (.tuple #[.int .i64 0, .int .i64 0, .bool false]) ∧ SameTake w ga gb 30 (.int .i64 ((30 : Int) + 1)) w') :=
            Lib.hid fun w1 h => (take_two_none h.sym).mono fun e w' ⟨h1, h2⟩ => ⟨h1, 30 + 1, [], by go_num, by omega, by simp, h2.sym⟩
          clear hl
          go_wp2_with (first
            | (go_at_call 17; with_reducible refine (H1.out _ hT).mono ?_; rintro e w3 ⟨rfl, h3⟩; clear hT)
            | (go_at_call 17; with_reducible refine (H2.out _ h3).mono ?_; rintro e w4 ⟨rfl, h4⟩; clear h3))
          go_roundw
          case rel => exact h4
          case measure => first | (simp [intOf]; done) | (simp [intOf]; omega)
        · have hgt' : (30 : Int) < (k : Int) := by omega
          have hbw := hT.base
          have HBW := Lib.hid hbw
          clear hT hl hbw
          go_wp2_with (go_at_call 12; refine (lives_any _).mono ?_; rintro e w5 ⟨rfl, bl⟩)
          go_ret
          exact ⟨rfl, HBW.out.trans (bl.mono HBW.out.size)⟩
theorem same_any (A : Option Addr) (n c : Nat) (zs : List Int) (w : World) (h : Ints w A n (zs.take n) ∧ n ≤ c ∧ (∀ k, -9223372036854775808 ≤ zs.getD k 0 ∧ zs.getD k 0 ≤ 9223372036854775807) ∧ n ≤ zs.length) :
    Calls Try.prog 8 #[.slice A n c] w fun e w' => e = .returned (.bool true) ∧ Below w.heap.size w w' := by
  obtain ⟨h1, h2, h3, h4⟩ := h
  by_cases hn : 30 < n
  · have := h1.cut (k := 30) (by omega)
    rw [List.take_take, Nat.min_eq_left (by omega)] at this
    exact same_long A n c _ w this (take_bd h3 30) h2 hn
  · exact same_short A n c _ w h1 (take_bd h3 n) h2 (by omega)
end Go.Proofs.Ytgpnpopmlommaaa
