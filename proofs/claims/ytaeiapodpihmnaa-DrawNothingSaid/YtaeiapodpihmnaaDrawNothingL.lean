/- DrawNothing's walk. -/
import Derived.Test.YtaeiapodpihmnaaDrawRow
import Derived.Test.YtaeiapodpihmnaaDrawPick
import Derived.Test.YtaeiapodpihmnaaDrawTwo
namespace Go.Proofs.Ytaeiapodpihmnaa
open Go.RowKit
set_option linter.unusedVariables false
/-- A number without its worth. -/
def ng (x : Int) : Int := if 0 < x then -x else x
theorem ng_pos {x : Int} (h : 0 < x) : ng x = -x := if_pos h
theorem ng_neg {x : Int} (h : ¬ 0 < x) : ng x = x := if_neg h
theorem ng_le (x : Int) : ng x ≤ 0 := by unfold ng; split <;> omega
def ngs (xs : List Int) (k : Nat) : List Int := (xs.take k).map ng
theorem ngs_len {xs : List Int} {k : Nat} (h : k ≤ xs.length) : (ngs xs k).length = k := by unfold ngs; rw [List.length_map, List.length_take_of_le h]
theorem ngs_succ {xs : List Int} {k : Nat} (h : k < xs.length) : ngs xs (k + 1) = ngs xs k ++ [ng (xs.getD k 0)] := by
  unfold ngs
  rw [List.take_add_one, List.map_append, List.getD_eq_getElem?_getD, List.getElem?_eq_getElem h]; rfl
theorem ngs_none (xs : List Int) (k n : Nat) : cnts (ngs xs k) n = 0 := by
  refine cnts_none fun j _ => ?_
  rw [List.getD_eq_getElem?_getD]
  unfold ngs
  rw [List.getElem?_map]
  cases (xs.take k)[j]? with
  | none => simp
  | some y => exact ng_le y
def NoneRel (w2 : World) (xs : List Int) (N : Nat) (v i : Value) (wr : World) : Prop :=
  ∃ k : Nat, i = .int .i64 k ∧ k ≤ N ∧ wr.ownsRow w2.heap.size 3 1 v k ((ngs xs k).map (Value.int .i64)) ∧ Below w2.heap.size w2 wr
/-- A row of one number, which is 0. -/
def OneIs (w : World) (a b : Nat) (s : Int) (D : Nat) (wr : World) : Prop := Pair w a b s wr ∧ D ≠ a ∧ wr.cell? ⟨D, 0, none⟩ = some (.int .i64 0)
theorem row_one {w w1 : World} {a b : Nat} {s : Int} (h : Pair w a b s w1) :
    Calls Try.prog 10 #[.pointer (some ⟨a, 0, none⟩), .int .i64 1] w1 fun e w' => ∃ D, e = .returned (.slice (some ⟨D, 0, none⟩) 1 1) ∧ OneIs w a b s D w' ∧ Only [a] w1 w' := by
  obtain ⟨h1, h2, h3, h4, h5, h6⟩ := h
  refine (row_any (n := 1) h1 (by decide)).mono ?_
  rintro e w' ⟨D, d, s', rfl, g1, g2, g3, g4, g5, g6⟩
  obtain rfl := g5 (by decide)
  have hc := g2.cell (k := 0) (by decide)
  obtain ⟨p, hp, hd⟩ := g3.1 0 (by decide)
  obtain rfl : p = 0 := by omega
  rw [hd] at hc
  have := h1.lt
  exact ⟨D, rfl, ⟨⟨g4, h2.only g6 (by simpa using Ne.symm h3), h3, h4, h5, g6.over h6 (by simpa using h4)⟩, by omega, hc⟩, g6⟩
theorem OneIs.row {w w1 : World} {a b D : Nat} {s r : Int} (h : OneIs w a b s D w1) (hr : r ≤ 0) :
    Calls Try.prog 10 #[.pointer (some ⟨a, 0, none⟩), .int .i64 r] w1 fun e w' => ∃ E, e = .returned (.slice (some ⟨E, 0, none⟩) 0 0) ∧ OneIs w a b s D w' := by
  obtain ⟨⟨h1, h2, h3, h4, h5, h6⟩, k1, k2⟩ := h
  refine (row_any (n := 0) h1 (by omega)).mono ?_
  rintro e w' ⟨E, d, s', rfl, g1, g2, g3, g4, g5, g6⟩
  obtain rfl := g5 (by decide)
  have hl := World.block_lt_of_cell? w1 _ k2
  exact ⟨E, rfl, ⟨g4, h2.only g6 (by simpa using Ne.symm h3), h3, h4, h5, g6.over h6 (by simpa using h4)⟩, k1, (World.cell?_of_block (w := w1) (a := ⟨D, 0, none⟩) (g6.block D hl (by simpa using k1))).trans k2⟩
set_option maxHeartbeats 4000000 in
theorem nothing_any (x n : Int) (A : Option Addr) (n0 c : Nat) (zs : List Int) (wn : (Lit.int .i64 n).wf = true) (w : World)
    (h : Ints w A n0 (zs.take n0) ∧ n0 ≤ c ∧ (∀ k, -9223372036854775808 ≤ zs.getD k 0 ∧ zs.getD k 0 ≤ 9223372036854775807) ∧ n0 ≤ zs.length) :
    Calls Try.prog 7 #[.int .i64 x, .int .i64 n, .slice A n0 c] w fun e w' => e = .returned (.bool true) ∧ Below w.heap.size w w' := by
  obtain ⟨hI, hc, hz, hl⟩ := h
  rw [wf_iff] at wn
  have HN := Lib.hid (new_any x w)
  obtain ⟨i0, hi, hz0, hz1, hz2⟩ := info_parts info_i
  obtain ⟨xs, hxs⟩ : ∃ xs, xs = zs.take n0 := ⟨_, rfl⟩
  have HX := Lib.hid hI
  have hbd := fun k => take_bd hz n0 k
  rw [← hxs] at HX hbd
  have HBD := Lib.hid hbd
  clear hI hz hl hxs hbd
  by_cases hn : 0 < n
  case' pos =>
    go_enter Try.func7, Try.ntmps7
    go_wp2_with (first
      | (go_at_call 8; (with_reducible refine HN.out.mono ?_); rintro e w1 ⟨a, rfl, h1, h2, h3⟩)
      | (go_at_call 8; (with_reducible refine (pair_new h1 h2 h3).mono ?_); rintro e w2 ⟨b, rfl, h4⟩; have HP := Lib.hid h4; clear h1 h2 h3 h4))
    obtain ⟨q, hq⟩ : ∃ q, q = -n := ⟨_, rfl⟩
    rw [← hq]
    have hq0 : q ≤ 0 := by omega
    clear hq
  case' neg =>
    go_enter Try.func7, Try.ntmps7
    go_wp2_with (first
      | (go_at_call 8; (with_reducible refine HN.out.mono ?_); rintro e w1 ⟨a, rfl, h1, h2, h3⟩)
      | (go_at_call 8; (with_reducible refine (pair_new h1 h2 h3).mono ?_); rintro e w2 ⟨b, rfl, h4⟩; have HP := Lib.hid h4; clear h1 h2 h3 h4))
    obtain ⟨q, hq⟩ : ∃ q, q = n := ⟨_, rfl⟩
    rw [← hq]
    have hq0 : q ≤ 0 := by omega
    clear hq
  all_goals
    obtain ⟨N, hN⟩ : ∃ N, N = min n0 10 := ⟨_, rfl⟩
    have HX2 : Hid (Ints w2 A n0 xs) := Lib.hid (HX.out.keep HP.out.2.2.2.2.2)
    have H0 : NoneRel w2 xs N (.slice none 0 0) (.int .i64 0) w2 := ⟨0, rfl, Nat.zero_le _, World.ownsRow_nil _ _ _ _, Below.refl _ _⟩
    go_loopw [9, 10] (fun v i wr => NoneRel w2 xs N v i wr) (fun _ i _ => N - (intOf i).toNat)
    case atStart => exact H0
    case round =>
      clear H0
      obtain ⟨k, rfl, hk, hown, hb⟩ := hrel
      by_cases hlt : k < N
      · have l1 : (k : Int) < (n0 : Int) := by omega
        have l2 : (k : Int) < 10 := by omega
        obtain ⟨bb, off, rfl, hcs⟩ := (HX2.out.keep hb).2 (by omega)
        have c1 := hcs k (by omega)
        have hbx := HBD.out k
        obtain ⟨y, hy⟩ : ∃ y, y = xs.getD k 0 := ⟨_, rfl⟩
        rw [← hy] at c1 hbx
        have HL := Lib.hid (ngs_succ (xs := xs) (k := k) (by rw [HX.out.1]; omega))
        have HY := Lib.hid hy
        obtain ⟨L, hL⟩ : ∃ L, (ngs xs k).map (Value.int .i64) = L := ⟨_, rfl⟩
        rw [hL] at hown
        have HLL := Lib.hid hL
        have hbz := hb.size
        clear hcs hy hL
        by_cases hp : 0 < y
        · have ey : ng y = -y := ng_pos hp
          have HR : Hid (∀ v' w4, w4.ownsRow w2.heap.size 3 1 v' (k + 1) (L ++ [.int .i64 (-y)]) → Below w2.heap.size w2 w4 → NoneRel w2 xs N v' (.int .i64 ((k : Int) + 1)) w4) :=
            Lib.hid fun v' w4 g1 g2 => ⟨k + 1, by go_num, by omega, by rw [HL.out, List.map_append, HLL.out, ← HY.out, List.map_cons, ey]; exact g1, g2⟩
          clear ey
          go_wp2_with (at_builtin; refine wpList_append_own _ rfl _ _ 25 rfl w2.heap.size 3 i0 (.int .i64 0) 1 8 Try.underlying25 hi hz0 hz1 hz2 rfl (by decide) _ _ _ rfl (hown.alloc _) ⟨wr.heap.size, 0, none⟩ 1 1 [.int .i64 (-y)] rfl rfl (one_cell _ _ _) (one_ok _) (by unfold maxLen; omega) (by omega) (by simp; omega) ?_; intro v' w4 hown' hgrow _; have R := (hb.alloc hb.size _).grown hgrow (by simp; omega) (own_ge hown); clear hgrow hown hb)
          go_roundw
          case rel => exact HR.out _ _ hown' R
          case measure => simp [intOf]; omega
        · have ey : ng y = y := ng_neg hp
          have HR : Hid (∀ v' w4, w4.ownsRow w2.heap.size 3 1 v' (k + 1) (L ++ [.int .i64 y]) → Below w2.heap.size w2 w4 → NoneRel w2 xs N v' (.int .i64 ((k : Int) + 1)) w4) :=
            Lib.hid fun v' w4 g1 g2 => ⟨k + 1, by go_num, by omega, by rw [HL.out, List.map_append, HLL.out, ← HY.out, List.map_cons, ey]; exact g1, g2⟩
          clear ey
          go_wp2_with (at_builtin; refine wpList_append_own _ rfl _ _ 25 rfl w2.heap.size 3 i0 (.int .i64 0) 1 8 Try.underlying25 hi hz0 hz1 hz2 rfl (by decide) _ _ _ rfl (hown.alloc _) ⟨wr.heap.size, 0, none⟩ 1 1 [.int .i64 y] rfl rfl (one_cell _ _ _) (one_ok _) (by unfold maxLen; omega) (by omega) (by simp; omega) ?_; intro v' w4 hown' hgrow _; have R := (hb.alloc hb.size _).grown hgrow (by simp; omega) (own_ge hown); clear hgrow hown hb)
          go_roundw
          case rel => exact HR.out _ _ hown' R
          case measure => simp [intOf]; omega
      · obtain rfl : N = k := by omega
        obtain ⟨A2, c2, rfl, _⟩ := own_form hown
        have I2 : Hid (Ints wr A2 N (ngs xs N)) := Lib.hid (Ints.of_own hown)
        have P2 : Hid (Pair w a b (seedS x) wr) := Lib.hid (HP.out.only (F := []) (Only.of_below hb) (by simp) (by simp) (by simp))
        have N10 : Hid (N ≤ 10) := Lib.hid (by omega)
        clear hown hb HX2 HP
        rcases Nat.lt_or_ge N n0 with hNn | hNn
        case' inl =>
          have l1 : (N : Int) < (n0 : Int) := by omega
          have l2 : (10 : Int) ≤ (N : Int) := by omega
        case' inr =>
          have l1 : (n0 : Int) ≤ (N : Int) := by omega
        all_goals
          clear hN
          go_wp2_with (first
            | (go_at_call 10; (with_reducible refine (row_one P2.out).mono ?_); rintro e w4 ⟨D, rfl, o1, ho⟩; have OC := o1.2.2; have hDa := o1.2.1; have Q4 : Hid (StIs w4 a (seedS x) ∧ Ints w4 A2 N (ngs xs N)) := Lib.hid ⟨o1.1.1, I2.out.off P2.out.1 ho⟩; have O1 := Lib.hid o1; clear o1 ho)
            | (go_at_call 9; (with_reducible refine (below_none (n := q) (by omega) _ _).mono ?_); rintro e w5 ⟨rfl, rfl⟩)
            | (go_at_call 12; (with_reducible refine (pick_none (n := N) Q4.out.1 Q4.out.2 (by have := N10.out; omega) (ngs_none xs N N)).mono ?_); rintro e w6 ⟨rfl, rfl⟩)
            | (go_at_call 10; (with_reducible refine (O1.out.row (r := q) hq0).mono ?_); rintro e w7 ⟨E, rfl, o2⟩; have OC2 := o2.2.2; have HP7 := Lib.hid o2.1; clear o2)
            | (go_at_call 13; (with_reducible refine HP7.out.word.mono ?_); rintro e w8 ⟨rfl, h8⟩)
            | (go_at_call 13; (with_reducible refine h8.word.mono ?_); rintro e w9 ⟨rfl, h9⟩; have HB := Lib.hid h9.2.2.2.2.2)
            | (go_at_call 11; (with_reducible refine (lives_any _).mono ?_); rintro e w10 ⟨rfl, hl⟩))
          go_ret
          exact ⟨rfl, HB.out.trans (hl.mono HB.out.size)⟩
end Go.Proofs.Ytaeiapodpihmnaa
