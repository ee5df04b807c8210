/- What Pick answers: a place that has a worth. -/
import Derived.Test.YtaeiapodpihmnaaDraw
namespace Go.Proofs.Ytaeiapodpihmnaa
open Go.RowKit
set_option linter.unusedVariables false
/-- What a worth counts. -/
def cnt (x : Int) : Int := min (max x 0) 2147483648
theorem cnt_bd (x : Int) : 0 ≤ cnt x ∧ cnt x ≤ 2147483648 := by unfold cnt; omega
theorem cnt_pos {x : Int} (h : 0 < cnt x) : 0 < x := by unfold cnt at h; omega
/-- What the first k worths count together. -/
def cnts (xs : List Int) : Nat → Int | 0 => 0 | k + 1 => cnts xs k + cnt (xs.getD k 0)
theorem cnts_bd (xs : List Int) (k : Nat) : 0 ≤ cnts xs k ∧ cnts xs k ≤ 2147483648 * (k : Int) := by
  induction k with
  | zero => simp [cnts]
  | succ k ih => have := cnt_bd (xs.getD k 0); show 0 ≤ cnts xs k + cnt (xs.getD k 0) ∧ cnts xs k + cnt (xs.getD k 0) ≤ _; omega
theorem cnts_up (xs : List Int) (n : Nat) : ∀ k, k < n → cnts xs k + cnt (xs.getD k 0) ≤ cnts xs n := by
  induction n with
  | zero => intro k hk; omega
  | succ n ih =>
    intro k hk
    by_cases e : k = n
    · subst e; exact Int.le_refl _
    · have := ih k (by omega)
      have := cnt_bd (xs.getD n 0)
      show _ ≤ cnts xs n + cnt (xs.getD n 0)
      omega
theorem cnts_none {xs : List Int} {n : Nat} (h : ∀ k, k < n → xs.getD k 0 ≤ 0) : cnts xs n = 0 := by
  induction n with
  | zero => rfl
  | succ n ih => have := ih fun k hk => h k (by omega); have := h n (by omega); show cnts xs n + cnt (xs.getD n 0) = 0; unfold cnt; omega
theorem cnts_some {xs : List Int} {n k : Nat} (hk : k < n) (h : 0 < xs.getD k 0) : 0 < cnts xs n := by
  have := cnts_up xs n k hk
  have := (cnts_bd xs k).1
  have : 0 < cnt (xs.getD k 0) := by unfold cnt; omega
  omega
theorem counts_any (x : Int) (w : World) : Calls Try.prog 17 #[.int .i64 x] w fun e w' => e = .returned (.int .i64 (cnt x)) ∧ w = w' := by
  have HC : Hid (∀ w, Calls Try.prog 16 #[.int .i64 x, .int .i64 0, .int .i64 2147483648] w fun e w' => e = .returned (.int .i64 (cnt x)) ∧ w = w') := Lib.hid fun w => clip_any x 0 2147483648 w
  go_enter Try.func17, Try.ntmps17
  go_wp2_with (go_at_call 16; refine (HC.out _).mono ?_; rintro e w1 ⟨rfl, rfl⟩)
  go_ret
  exact ⟨rfl, rfl⟩
theorem counts_is {x y : Int} (h : cnt x = y) (w : World) : Calls Try.prog 17 #[.int .i64 x] w fun e w' => e = .returned (.int .i64 y) ∧ w = w' := h ▸ counts_any x w
/-- The sum of the first k worths, as it is reckoned. -/
def SumRel (w : World) (xs : List Int) (n : Nat) (v i : Value) (wr : World) : Prop := ∃ (k : Nat) (t : Int), v = .int .i64 t ∧ i = .int .i64 k ∧ k ≤ n ∧ cnts xs k = t ∧ w = wr
def LeftRel (w : World) (xs : List Int) (l : Int) (n : Nat) (v i : Value) (wr : World) : Prop := ∃ (k : Nat) (t : Int), v = .int .i64 t ∧ i = .int .i64 k ∧ k ≤ n ∧ l - cnts xs k = t ∧ 0 ≤ t ∧ w = wr
/-- What is picked. -/
def PickPost (w : World) (g : Nat) (s : Int) (xs : List Int) (n : Nat) (e : Ending) (w' : World) : Prop :=
  (cnts xs n = 0 ∧ e = .returned (.int .i64 (-1)) ∧ w = w') ∨ (0 < cnts xs n ∧ ∃ (i : Nat) (s' : Int), e = .returned (.int .i64 i) ∧ i < n ∧ 0 < xs.getD i 0 ∧ StIs w' g s' ∧ Only [g] w w')
set_option maxHeartbeats 4000000 in
theorem pick_any {w : World} {g n c : Nat} {s : Int} {A : Option Addr} {xs : List Int} (h : StIs w g s) (hx : Ints w A n xs) (hn : n ≤ 1073741824) :
    Calls Try.prog 12 #[.pointer (some ⟨g, 0, none⟩), .slice A n c] w (PickPost w g s xs n) := by
  have HX := Lib.hid hx
  have HS := Lib.hid h
  have H0 : SumRel w xs n (.int .i64 0) (.int .i64 0) w := ⟨0, 0, rfl, rfl, Nat.zero_le _, rfl, rfl⟩
  clear h hx
  go_enter Try.func12, Try.ntmps12
  go_wp2_with fail
  go_loopw [5, 13] (fun v i wr => SumRel w xs n v i wr) (fun _ i _ => n - (intOf i).toNat)
  case atStart => exact H0
  case round =>
    clear H0
    obtain ⟨k, t, rfl, rfl, hk, ht, rfl⟩ := hrel
    by_cases hlt : k < n
    · obtain ⟨b, off, rfl, hcs⟩ := HX.out.2 (by omega)
      have c1 := hcs k hlt
      have b1 := cnts_bd xs k
      have b2 := cnt_bd (xs.getD k 0)
      obtain ⟨x, hx⟩ : ∃ x, x = xs.getD k 0 := ⟨_, rfl⟩
      obtain ⟨y, hy⟩ : ∃ y, y = cnt (xs.getD k 0) := ⟨_, rfl⟩
      have PC := Lib.hid (counts_is (x := x) (y := y) (by rw [hx, hy]))
      have HR : Hid (SumRel w xs n (.int .i64 (t + y)) (.int .i64 ((k : Int) + 1)) w) := Lib.hid ⟨k + 1, t + y, rfl, by go_num, by omega, by rw [← ht, hy]; rfl, rfl⟩
      rw [← hx] at c1
      rw [← hy] at b2
      rw [ht] at b1
      have l1 : (k : Int) < (n : Int) := by omega
      clear hx hy ht hcs
      go_wp2_with (go_at_call 17; (with_reducible refine (PC.out _).mono ?_); rintro e w1 ⟨rfl, rfl⟩)
      go_roundw
      case rel => exact HR.out
      case measure => simp [intOf]; omega
    · obtain rfl : n = k := by omega
      have l1 : decide ((n : Int) < (n : Int)) = false := by simp
      have b1 := cnts_bd xs n
      rw [ht] at b1
      rcases Int.lt_or_le t 1 with ht1 | ht1
      · have HB := Lib.hid (below_none (n := t) ht1 g w)
        obtain rfl : t = 0 := by omega
        have htz := ht
        have H1 : LeftRel w xs 0 n (.int .i64 0) (.int .i64 0) w := ⟨0, 0, rfl, rfl, Nat.zero_le _, rfl, Int.le_refl _, rfl⟩
        go_wp2_with (go_at_call 9; (with_reducible refine HB.out.mono ?_); rintro e w1 ⟨rfl, rfl⟩)
        go_loopw [8, 27] (fun v i wr => LeftRel w xs 0 n v i wr) (fun _ i _ => n - (intOf i).toNat)
        case atStart => exact H1
        case round =>
          clear H1
          obtain ⟨k, t, rfl, rfl, hk, ht, ht0, rfl⟩ := hrel
          by_cases hlt : k < n
          · obtain ⟨b, off, rfl, hcs⟩ := HX.out.2 (by omega)
            have c1 := hcs k hlt
            have u1 := cnts_up xs n k hlt
            have u2 := cnts_bd xs k
            have u3 := cnt_bd (xs.getD k 0)
            have y0 : cnt (xs.getD k 0) = 0 := by omega
            obtain rfl : t = 0 := by omega
            obtain ⟨x, hx⟩ : ∃ x, x = xs.getD k 0 := ⟨_, rfl⟩
            have PC := Lib.hid (counts_is (x := x) (y := 0) (by rw [hx, y0]))
            have HR : Hid (LeftRel w xs 0 n (.int .i64 0) (.int .i64 ((k : Int) + 1)) w) := Lib.hid ⟨k + 1, 0, rfl, by go_num, by omega, by show 0 - (cnts xs k + cnt (xs.getD k 0)) = 0; omega, by omega, rfl⟩
            rw [← hx] at c1
            have l1 : (k : Int) < (n : Int) := by omega
            clear hx ht hcs u1 u2 u3 y0
            go_wp2_with (go_at_call 17; (with_reducible refine (PC.out _).mono ?_); rintro e w1 ⟨rfl, rfl⟩)
            go_roundw
            case rel => exact HR.out
            case measure => simp [intOf]; omega
          · obtain rfl : n = k := by omega
            have l1 : decide ((n : Int) < (n : Int)) = false := by simp
            have HE : Hid (PickPost w g s xs n (.returned (.int .i64 (-1))) w) := Lib.hid (.inl ⟨htz, rfl, rfl⟩)
            clear ht
            go_wp2
            go_ret
            exact HE.out
      · have HB := Lib.hid (below_some (n := t) HS.out ht1 (by omega))
        go_wp2_with (go_at_call 9; (with_reducible refine HB.out.mono ?_); rintro e w1 ⟨l, s', rfl, hl, h1, h2⟩)
        have HX1 := Lib.hid (HX.out.off HS.out h2)
        have htz := ht
        have H1 : LeftRel w1 xs l n (.int .i64 l) (.int .i64 0) w1 := ⟨0, l, rfl, rfl, Nat.zero_le _, by simp [cnts], by omega, rfl⟩
        go_loopw [8, 27] (fun v i wr => LeftRel w1 xs l n v i wr) (fun _ i _ => n - (intOf i).toNat)
        case atStart => exact H1
        case round =>
          clear H1
          obtain ⟨k, t, rfl, rfl, hk, ht, ht0, rfl⟩ := hrel
          by_cases hlt : k < n
          · obtain ⟨b, off, rfl, hcs⟩ := HX1.out.2 (by omega)
            have c1 := hcs k hlt
            have u2 := cnts_bd xs k
            have u3 := cnt_bd (xs.getD k 0)
            obtain ⟨x, hx⟩ : ∃ x, x = xs.getD k 0 := ⟨_, rfl⟩
            obtain ⟨y, hy⟩ : ∃ y, y = cnt (xs.getD k 0) := ⟨_, rfl⟩
            have PC := Lib.hid (counts_is (x := x) (y := y) (by rw [hx, hy]))
            rw [← hx] at c1
            have l1 : (k : Int) < (n : Int) := by omega
            have l2 : t ≤ 4611686018427387904 := by omega
            rw [← hy] at u3
            by_cases hty : t - y < 0
            · have HE : Hid (PickPost w g s xs n (.returned (.int .i64 (k : Int))) w1) := Lib.hid (.inr ⟨by omega, k, s', rfl, hlt, cnt_pos (by omega), h1, h2⟩)
              clear hx hy ht hcs u2 h1 h2
              go_wp2_with (go_at_call 17; (with_reducible refine (PC.out _).mono ?_); rintro e w4 ⟨rfl, rfl⟩)
              go_ret
              exact HE.out
            · have HR : Hid (LeftRel w1 xs l n (.int .i64 (t - y)) (.int .i64 ((k : Int) + 1)) w1) := Lib.hid ⟨k + 1, t - y, rfl, by go_num, by omega, by show (l : Int) - (cnts xs k + cnt (xs.getD k 0)) = t - y; omega, by omega, rfl⟩
              clear hx hy ht hcs u2 h1 h2
              go_wp2_with (go_at_call 17; (with_reducible refine (PC.out _).mono ?_); rintro e w4 ⟨rfl, rfl⟩)
              go_roundw
              case rel => exact HR.out
              case measure => simp [intOf]; omega
          · obtain rfl : n = k := by omega
            omega
theorem pick_none {w : World} {g n c : Nat} {s : Int} {A : Option Addr} {xs : List Int} (h : StIs w g s) (hx : Ints w A n xs) (hn : n ≤ 1073741824) (hz : cnts xs n = 0) :
    Calls Try.prog 12 #[.pointer (some ⟨g, 0, none⟩), .slice A n c] w fun e w' => e = .returned (.int .i64 (-1)) ∧ w = w' := by
  refine (pick_any h hx hn).mono ?_
  rintro e w' (⟨_, rfl, rfl⟩ | ⟨h1, _⟩)
  · exact ⟨rfl, rfl⟩
  · omega
/-- A place that has a worth, and what is there still. -/
def Picked (w : World) (g n : Nat) (A : Option Addr) (xs : List Int) (e : Ending) (w' : World) : Prop :=
  ∃ (i b off : Nat) (x : Int), e = .returned (.int .i64 i) ∧ A = some ⟨b, off, none⟩ ∧ w'.cell? ⟨b, off + i, none⟩ = some (.int .i64 x) ∧ (i : Int) < (n : Int) ∧ 0 < x ∧ Only [g] w w'
theorem pick_some {w : World} {g n c : Nat} {s : Int} {A : Option Addr} {xs : List Int} (h : StIs w g s) (hx : Ints w A n xs) (hn : n ≤ 1073741824) (hz : 0 < cnts xs n) :
    Calls Try.prog 12 #[.pointer (some ⟨g, 0, none⟩), .slice A n c] w (Picked w g n A xs) := by
  refine (pick_any h hx hn).mono ?_
  rintro e w' (⟨h1, _⟩ | ⟨_, i, s', rfl, h2, h3, h4, h5⟩)
  · omega
  · obtain ⟨b, off, e, hcs⟩ := (hx.off h h5).2 (by omega)
    exact ⟨i, b, off, _, rfl, e, hcs i h2, by omega, h3, h5⟩
end Go.Proofs.Ytaeiapodpihmnaa
