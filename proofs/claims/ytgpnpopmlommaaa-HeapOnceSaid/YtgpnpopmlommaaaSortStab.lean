/- Go's stable sort by a comparison, walked, for up to sixty places that stand in their row. -/
import Derived.Test.YtgpnpopmlommaaaSortSymD
namespace Go.Proofs.Ytgpnpopmlommaaa
open Go.RowKit
set_option linter.unusedVariables false
/-- Parts of s places are in order, each with its own places. -/
def Good20 (K : Int → Int) (n : Nat) (e : Nat → Int) : Prop := (∀ k, k < n → ((k / 20 * 20 : Nat) : Int) ≤ e k ∧ e k < ((k / 20 * 20 + 20 : Nat) : Int)) ∧ ∀ i j, i < j → j < n → i / 20 = j / 20 → T K (e i) (e j)
def Good40 (K : Int → Int) (n : Nat) (e : Nat → Int) : Prop := (∀ k, k < n → ((k / 40 * 40 : Nat) : Int) ≤ e k ∧ e k < ((k / 40 * 40 + 40 : Nat) : Int)) ∧ ∀ i j, i < j → j < n → i / 40 = j / 40 → T K (e i) (e j)
/-- The first t parts of twenty are in order. -/
def Ph1 (K : Int → Int) (n t : Nat) (e : Nat → Int) : Prop :=
  (∀ k, k < 20 * t → ((k / 20 * 20 : Nat) : Int) ≤ e k ∧ e k < ((k / 20 * 20 + 20 : Nat) : Int)) ∧ (∀ i j, i < j → j < 20 * t → i / 20 = j / 20 → T K (e i) (e j)) ∧ ∀ k, 20 * t ≤ k → k < n → e k = (k : Int)
section
variable {K : Int → Int} {n t : Nat} {e f : Nat → Int}
theorem Ph1.next (h : Ph1 K n t e) (hn : 20 * t + 20 ≤ n) (hm : Moved (20 * t) (20 * t + 20) e f) (hs : SortedOn K f (20 * t) (20 * t + 20)) : Ph1 K n (t + 1) f := by
  obtain ⟨h1, h2, h3⟩ := h
  refine ⟨fun k hk => ?_, fun i j hij hj he => ?_, fun k h1 h2 => ?_⟩
  · by_cases c : k < 20 * t
    · rw [hm.out k (.inl c)]; exact h1 k c
    · obtain ⟨j, j1, j2, e1⟩ := hm.back k (by omega) (by omega)
      rw [← e1, h3 j j1 (by omega)]; omega
  · by_cases c : j < 20 * t
    · rw [hm.out i (.inl (by omega)), hm.out j (.inl c)]; exact h2 i j hij c he
    · exact hs i j (by omega) hij (by omega)
  · rw [hm.out k (.inr (by omega))]; exact h3 k (by omega) h2
theorem Ph1.last (h : Ph1 K n t e) (h1n : 20 * t ≤ n) (h2n : n < 20 * t + 20) (hm : Moved (20 * t) n e f) (hs : SortedOn K f (20 * t) n) : Good20 K n f := by
  obtain ⟨h1, h2, h3⟩ := h
  refine ⟨fun k hk => ?_, fun i j hij hj he => ?_⟩
  · by_cases c : k < 20 * t
    · rw [hm.out k (.inl c)]; exact h1 k c
    · obtain ⟨j, j1, j2, e1⟩ := hm.back k (by omega) hk
      rw [← e1, h3 j j1 (by omega)]; omega
  · by_cases c : j < 20 * t
    · rw [hm.out i (.inl (by omega)), hm.out j (.inl c)]; exact h2 i j hij c he
    · exact hs i j (by omega) hij hj
theorem Good20.merge (h : Good20 K n e) {b : Nat} (h20 : 20 < n) (hb : b ≤ 40) (hbn : b ≤ n) : MergeIn K e 0 20 b := by
  obtain ⟨h1, h2⟩ := h
  refine ⟨fun i j i1 i2 i3 => h2 i j i2 (by omega) (by omega), fun i j i1 i2 i3 => h2 i j i2 (by omega) (by omega), fun i j i1 i2 j1 j2 => ?_⟩
  have a1 := h1 i (by omega)
  have a2 := h1 j (by omega)
  omega
theorem Good20.one (h : Good20 K n e) (hn : n ≤ 20) : SortedOn K e 0 n := fun i j i1 i2 i3 => h.2 i j i2 i3 (by omega)
theorem Good20.few (h : Good20 K n e) (h20 : 20 < n) (h40 : n < 40) (hm : Moved 0 n e f) (hs : SortedOn K f 0 n) : Good40 K n f := by
  refine ⟨fun k hk => ?_, fun i j hij hj he => hs i j (by omega) hij hj⟩
  obtain ⟨j, j1, j2, e1⟩ := hm.back k (by omega) hk
  have := h.1 j (by omega)
  rw [← e1]; omega
theorem Good20.many (h : Good20 K n e) (h40 : 40 ≤ n) (hn : n ≤ 60) (hm : Moved 0 40 e f) (hs : SortedOn K f 0 40) : Good40 K n f := by
  obtain ⟨h1, h2⟩ := h
  refine ⟨fun k hk => ?_, fun i j hij hj he => ?_⟩
  · by_cases c : k < 40
    · obtain ⟨j, j1, j2, e1⟩ := hm.back k (by omega) c
      have := h1 j (by omega)
      rw [← e1]; omega
    · rw [hm.out k (.inr (by omega))]
      have := h1 k hk
      omega
  · by_cases c : j < 40
    · exact hs i j (by omega) hij c
    · rw [hm.out i (.inr (by omega)), hm.out j (.inr (by omega))]
      exact h2 i j hij hj (by omega)
theorem Good40.merge (h : Good40 K n e) (h40 : 40 < n) (hn : n ≤ 60) : MergeIn K e 0 40 n := by
  obtain ⟨h1, h2⟩ := h
  refine ⟨fun i j i1 i2 i3 => h2 i j i2 (by omega) (by omega), fun i j i1 i2 i3 => h2 i j i2 (by omega) (by omega), fun i j i1 i2 j1 j2 => ?_⟩
  have a1 := h1 i (by omega)
  have a2 := h1 j (by omega)
  omega
theorem Good40.one (h : Good40 K n e) (hn : n ≤ 40) : SortedOn K e 0 n := fun i j i1 i2 i3 => h.2 i j i2 i3 (by omega)
end
theorem sym_ok (D C bx : Nat) (A : Option Addr) (n c : Nat) (xs : List Int) : ∀ t, SymOk D C bx A n c xs t
  | 0 => fun w d a m b h _ _ h1 h2 _ => by omega
  | t + 1 => fun w d a m b h hS hM h1 h2 hb => by
    by_cases c1 : m = a + 1
    · exact sym_one hS hM c1 h2 hb
    · by_cases c2 : b = m + 1
      · exact sym_last hS hM (by omega) c2 hb
      · exact sym_more (sym_ok D C bx A n c xs t) hS hM (by omega) (by omega) hb h
theorem sym_any {w : World} {D C bx : Nat} {A : Option Addr} {n c : Nat} {xs : List Int} {d : Nat → Int} {a m b : Nat} (hS : SortIs w D C bx A n c xs d) (hM : MergeIn (keyOfI xs) d a m b) (h1 : a < m) (h2 : m < b) (hb : b ≤ n) :
    Calls Try.prog 46 #[.slice (some ⟨D, 0, none⟩) n C, .int .i64 a, .int .i64 m, .int .i64 b, cmpV bx] w fun e w' => e = .returned (.tuple #[]) ∧ Sorted1 w D C bx A n c xs d a b w' :=
  sym_ok D C bx A n c xs (b - a) w d a m b (Nat.le_refl _) hS hM h1 h2 hb
section
variable {w : World} {D C bx : Nat} {A : Option Addr} {n c : Nat} {xs : List Int} {d : Nat → Int}
def StabA (w : World) (D C bx : Nat) (A : Option Addr) (n c : Nat) (xs : List Int) (d : Nat → Int) (i j : Value) (wr : World) : Prop :=
  ∃ (t a b : Nat) (e : Nat → Int), i = .int .i64 a ∧ j = .int .i64 b ∧ a = 20 * t ∧ b = 20 * t + 20 ∧ 20 * t ≤ n ∧ SortIs wr D C bx A n c xs e ∧ Moved 0 n d e ∧ Ph1 (keyOfI xs) n t e ∧ Only [D] w wr
def StabB (w : World) (D C bx : Nat) (A : Option Addr) (n c : Nat) (xs : List Int) (d : Nat → Int) (s : Value) (wr : World) : Prop :=
  ∃ (z : Int) (e : Nat → Int), s = .int .i64 z ∧ SortIs wr D C bx A n c xs e ∧ Moved 0 n d e ∧ ((z = 20 ∧ Good20 (keyOfI xs) n e) ∨ (z = 40 ∧ Good40 (keyOfI xs) n e) ∨ (z = 80 ∧ SortedOn (keyOfI xs) e 0 n)) ∧ Only [D] w wr
set_option maxHeartbeats 16000000 in
set_option maxRecDepth 100000 in
theorem stab_any (h : SortIs w D C bx A n c xs d) (hn60 : n ≤ 60) (hid : ∀ k, k < n → d k = (k : Int)) :
    Calls Try.prog 41 #[.slice (some ⟨D, 0, none⟩) n C, .int .i64 n, cmpV bx] w fun e w' => e = .returned (.tuple #[]) ∧ Sorted1 w D C bx A n c xs d 0 n w' := by
  have H0 : StabA w D C bx A n c xs d (.int .i64 0) (.int .i64 20) w := ⟨0, 0, 20, d, rfl, rfl, rfl, rfl, by omega, h, Moved.refl _ _ _, ⟨(fun k hk => by omega), (fun i j _ hj => by omega), fun k _ hk => hid k hk⟩, Only.refl _ _⟩
  clear h hid
  unfold cmpV
  go_enter Try.func41, Try.ntmps41
  go_wp2_with fail
  go_loopw [7, 8] (fun i j wr => StabA w D C bx A n c xs d i j wr) (fun i _ _ => n - (intOf i).toNat)
  case atStart => exact H0
  case round =>
    clear H0
    obtain ⟨t, a, b, e, rfl, rfl, ha, hb, htn, hS, hV, hP, hO⟩ := hrel
    by_cases hlt : 20 * t + 20 ≤ n
    · have l0 : (b : Int) ≤ (n : Int) := by omega
      have hI := ins_any hS (a := a) (b := b) (by omega) (by omega) (fun p q p1 p2 q1 => by rw [hP.2.2 p (by omega) (by omega), hP.2.2 q (by omega) (by omega)]; omega)
      have HI : Hid (Calls Try.prog 45 #[.slice (some ⟨D, 0, none⟩) n C, .int .i64 a, .int .i64 b, cmpV bx] wr fun e' w' => e' = .returned (.tuple #[]) ∧ StabA w D C bx A n c xs d (.int .i64 b) (.int .i64 ((b : Int) + 20)) w') := by
        refine Lib.hid (hI.mono ?_)
        rintro e' w' ⟨rfl, f, k1, k2, k3, k4⟩
        rw [ha, hb] at k2 k3
        exact ⟨rfl, t + 1, b, b + 20, f, rfl, by go_num, by omega, by omega, by omega, k1, hV.trans (k2.wide (by omega) (by omega)), hP.next hlt k2 k3, hO.trans' k4⟩
      unfold cmpV at HI
      have b5 : (b : Int) ≤ 100 := by omega
      have hab : a < b := by omega
      clear hI hS hV hP hO ha hb
      go_wp2_with (go_at_call 45; refine HI.out.mono ?_; rintro e' w1 ⟨rfl, hR⟩)
      go_roundw
      case rel => exact hR
      case measure => simp [intOf]; omega
    · have l0 : (n : Int) < (b : Int) := by omega
      have HI : Hid (Calls Try.prog 45 #[.slice (some ⟨D, 0, none⟩) n C, .int .i64 a, .int .i64 n, cmpV bx] wr fun e' w' => e' = .returned (.tuple #[]) ∧ StabB w D C bx A n c xs d (.int .i64 20) w') := by
        by_cases c1 : a < n
        · refine Lib.hid ((ins_any hS (a := a) (b := n) c1 (Nat.le_refl _) (fun p q p1 p2 q1 => by rw [hP.2.2 p (by omega) (by omega), hP.2.2 q (by omega) (by omega)]; omega)).mono ?_)
          rintro e' w' ⟨rfl, f, k1, k2, k3, k4⟩
          rw [ha] at k2 k3
          exact ⟨rfl, 20, f, rfl, k1, hV.trans (k2.wide (by omega) (Nat.le_refl _)), .inl ⟨rfl, hP.last htn (by omega) k2 k3⟩, hO.trans' k4⟩
        · have e1 : a = n := by omega
          rw [e1]
          refine Lib.hid ((ins_none_any hS (Nat.le_refl _)).mono ?_)
          rintro e' w' ⟨rfl, rfl⟩
          refine ⟨rfl, 20, e, rfl, hS, hV, .inl ⟨rfl, hP.last htn (by omega) ?_ ?_⟩, hO⟩
          · have : 20 * t = n := by omega
            rw [this]; exact Moved.refl _ _ _
          · intro i j i1 i2 i3; omega
      unfold cmpV at HI
      clear hS hV hP hO ha hb
      go_wp2_with (go_at_call 45; refine HI.out.mono ?_; rintro e' w1 ⟨rfl, hR⟩)
      clear HI
      obtain ⟨wo, hwo⟩ : ∃ wo : World, wo = w1 := ⟨_, rfl⟩
      go_loopw [6] (fun s wr => StabB w D C bx A n c xs d s wr) (fun s _ => 80 - (intOf s).toNat)
      case atStart => exact hR
      case round =>
        clear hR hwo
        obtain ⟨z, e, rfl, hS, hV, hG, hO⟩ := hrel
        rcases hG with ⟨rfl, hG⟩ | ⟨rfl, hG⟩ | ⟨rfl, hG⟩
        · by_cases c1 : n ≤ 20
          · have HE : Sorted1 w D C bx A n c xs d 0 n wr := ⟨e, hS, hV, hG.one c1, hO⟩
            have l1 : (n : Int) ≤ 20 := by omega
            clear hS hV hG hO
            go_wp2
            go_end0
            exact ⟨rfl, HE⟩
          · have l1 : (20 : Int) < (n : Int) := by omega
            by_cases c2 : n < 40
            · have HS : Hid (Calls Try.prog 46 #[.slice (some ⟨D, 0, none⟩) n C, .int .i64 0, .int .i64 20, .int .i64 n, cmpV bx] wr fun e' w' => e' = .returned (.tuple #[]) ∧ StabB w D C bx A n c xs d (.int .i64 40) w') := by
                refine Lib.hid ((sym_any hS (a := 0) (m := 20) (b := n) (hG.merge (by omega) (by omega) (Nat.le_refl _)) (by omega) (by omega) (Nat.le_refl _)).mono ?_)
                rintro e' w' ⟨rfl, f, k1, k2, k3, k4⟩
                exact ⟨rfl, 40, f, rfl, k1, hV.trans k2, .inr (.inl ⟨rfl, hG.few (by omega) c2 k2 k3⟩), hO.trans' k4⟩
              unfold cmpV at HS
              have l2 : (n : Int) < 40 := by omega
              clear hS hV hG hO
              go_wp2_with fail
              refine wp_loop_rounds 1 ?_
              rw [rounds_succ]
              go_wp2_with (go_at_call 46; refine HS.out.mono ?_; rintro e' w2 ⟨rfl, hR⟩)
              go_roundw
              case rel => exact hR
              case measure => first | (simp [intOf]; done) | (simp [intOf]; omega)
            · have HS : Hid (Calls Try.prog 46 #[.slice (some ⟨D, 0, none⟩) n C, .int .i64 0, .int .i64 20, .int .i64 40, cmpV bx] wr fun e' w' => e' = .returned (.tuple #[]) ∧ StabB w D C bx A n c xs d (.int .i64 40) w') := by
                refine Lib.hid ((sym_any hS (a := 0) (m := 20) (b := 40) (hG.merge (by omega) (by omega) (by omega)) (by omega) (by omega) (by omega)).mono ?_)
                rintro e' w' ⟨rfl, f, k1, k2, k3, k4⟩
                exact ⟨rfl, 40, f, rfl, k1, hV.trans (k2.wide (Nat.le_refl _) (by omega)), .inr (.inl ⟨rfl, hG.many (by omega) hn60 k2 k3⟩), hO.trans' k4⟩
              unfold cmpV at HS
              have l2 : (40 : Int) ≤ (n : Int) := by omega
              have l3 : (n : Int) < 80 := by omega
              have l4 : (n : Int) ≤ 60 := by omega
              clear hS hV hG hO
              go_wp2_with fail
              refine wp_loop_rounds 2 ?_
              rw [rounds_succ]
              go_wp2_with (go_at_call 46; refine HS.out.mono ?_; rintro e' w2 ⟨rfl, hR⟩)
              rw [rounds_succ]
              go_wp2
              go_roundw
              case rel => exact hR
              case measure => first | (simp [intOf]; done) | (simp [intOf]; omega)
        · by_cases c1 : n ≤ 40
          · have HE : Sorted1 w D C bx A n c xs d 0 n wr := ⟨e, hS, hV, hG.one c1, hO⟩
            have l1 : (n : Int) ≤ 40 := by omega
            clear hS hV hG hO
            go_wp2
            go_end0
            exact ⟨rfl, HE⟩
          · have l1 : (40 : Int) < (n : Int) := by omega
            have HS : Hid (Calls Try.prog 46 #[.slice (some ⟨D, 0, none⟩) n C, .int .i64 0, .int .i64 40, .int .i64 n, cmpV bx] wr fun e' w' => e' = .returned (.tuple #[]) ∧ StabB w D C bx A n c xs d (.int .i64 80) w') := by
              refine Lib.hid ((sym_any hS (a := 0) (m := 40) (b := n) (hG.merge (by omega) hn60) (by omega) (by omega) (Nat.le_refl _)).mono ?_)
              rintro e' w' ⟨rfl, f, k1, k2, k3, k4⟩
              exact ⟨rfl, 80, f, rfl, k1, hV.trans k2, .inr (.inr ⟨rfl, k3⟩), hO.trans' k4⟩
            unfold cmpV at HS
            have l3 : (n : Int) < 80 := by omega
            clear hS hV hG hO
            go_wp2_with fail
            refine wp_loop_rounds 1 ?_
            rw [rounds_succ]
            go_wp2_with (go_at_call 46; refine HS.out.mono ?_; rintro e' w2 ⟨rfl, hR⟩)
            go_roundw
            case rel => exact hR
            case measure => first | (simp [intOf]; done) | (simp [intOf]; omega)
        · have HE : Sorted1 w D C bx A n c xs d 0 n wr := ⟨e, hS, hV, hG, hO⟩
          have l1 : (n : Int) ≤ 80 := by omega
          clear hS hV hG hO
          go_wp2
          go_end0
          exact ⟨rfl, HE⟩
end
end Go.Proofs.Ytgpnpopmlommaaa
