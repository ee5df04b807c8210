/- HeapOrders' walk. -/
import Derived.Test.YtgpnpopmlommaaaHeapPlaysL
namespace Go.Proofs.Ytgpnpopmlommaaa
open Go.RowKit Go.Maps
set_option linter.unusedVariables false
/-- How far the takes have come: k of N are taken; the last one was (d, s). -/
def OrderRel (w : World) (g N : Nat) (had lastId lastW i : Value) (wr : World) : Prop :=
  ∃ (k : Nat) (l : List (Thing Int)) (d s : Int), had = .int .i64 k ∧ lastId = .int .i64 d ∧ lastW = .int .i64 s ∧ i = .int .i64 k ∧ k ≤ N ∧ l.length = N - k ∧ (k = 0 ∨ ∀ y ∈ l, Bef LtI (d, s) y) ∧ OwnI w g l wr
theorem PlayMid.own {w0 w : World} {g n c : Nat} {l r : List (Thing Int)} {A : Option Addr} (h : PlayMid w0 g l r A n c w) : OwnI w0 g l w := by
  obtain ⟨F, h1, h2, h3, h4⟩ := h
  exact ⟨F, h1, h3, h4⟩
theorem OwnI.base {w w1 : World} {g : Nat} {l : List (Thing Int)} (h : OwnI w g l w1) : Below w.heap.size w w1 := by
  obtain ⟨F, _, h, _⟩ := h
  exact h
theorem OwnI.has {w w1 : World} {g : Nat} {l : List (Thing Int)} (h : OwnI w g l w1) : Has LtI l := by
  obtain ⟨F, h, _⟩ := h
  exact h.has
set_option maxHeartbeats 4000000 in
theorem orders_any (A : Option Addr) (n c : Nat) (f : Nat → Nat → Int) (w : World) (h : Recs 3 w A n f) (hc : n ≤ c) (hcm : c ≤ maxLen) :
    Calls Try.prog 5 #[.slice A n c] w fun e w' => e = .returned (.bool true) ∧ Below w.heap.size w w' := by
  unfold maxLen at hcm
  have HX := Lib.hid h
  have HN := Lib.hid (new_play w)
  clear h
  go_enter Try.func5, Try.ntmps5
  go_wp2_with (go_at_call 9; refine HN.out.mono ?_; rintro e w1 ⟨g, rfl, h0⟩; clear HN)
  go_loopw [4, 5] (fun r i wr => PlayRel w g n r i wr) (fun _ i _ => n - (intOf i).toNat)
  case atStart => exact ⟨0, none, 0, 0, [], rfl, rfl, by omega, by omega, by simp, h0⟩
  case round =>
    clear h0 w1
    obtain ⟨k, A1, m, c1, l, rfl, rfl, hk, hk60, hl, hM⟩ := hrel
    by_cases hgo : k < n ∧ k < 60
    · obtain ⟨hlt, h60⟩ := hgo
      obtain ⟨b, off, rfl, hcs⟩ := (HX.out.keep hM.base).1 (by omega)
      have d0 := hcs k 0 hlt (by omega)
      have d1 := hcs k 1 hlt (by omega)
      have d2 := hcs k 2 hlt (by omega)
      have wi := HX.out.2 k 1 hlt (by omega)
      have ww := HX.out.2 k 2 hlt (by omega)
      obtain ⟨kd, hkd⟩ : ∃ kd, kd = f k 0 := ⟨_, rfl⟩
      obtain ⟨id, hid⟩ : ∃ id, id = f k 1 := ⟨_, rfl⟩
      obtain ⟨wv, hwv⟩ : ∃ wv, wv = f k 2 := ⟨_, rfl⟩
      rw [← hkd] at d0
      rw [← hid] at d1 wi
      rw [← hwv] at d2 ww
      rw [Nat.add_zero] at d0
      have HD : Hid (∀ w1, PlayMid w g l l A1 m c1 w1 → Calls Try.prog 10 #[.pointer (some ⟨g, 0, none⟩), .slice A1 m c1, .agg #[.int .i64 kd, .int .i64 id, .int .i64 wv]] w1 fun e w' => ∃ A2 m2 c2, e = .returned (.tuple #[.slice A2 m2 c2, .bool true]) ∧ PlayRel w g n (.slice A2 m2 c2) (.int .i64 ((k : Int) + 1)) w') :=
        Lib.hid fun w1 h1 => (does_any h1 wi ww (by omega)).mono fun e w' ⟨A2, m2, c2, l2, e1, h2, h3⟩ => ⟨A2, m2, c2, e1, .next hlt h60 hl h3 h2⟩
      have k1 : (k : Int) < (n : Int) := by omega
      have k2 : (k : Int) < 60 := by omega
      clear hcs hkd hid hwv
      go_wp2_with (go_at_call 10; refine (HD.out _ hM).mono ?_; rintro e w2 ⟨A2, m2, c2, rfl, h5⟩; clear d0 d1 d2 hM)
      go_roundw
      case rel => exact h5
      case measure => simp [intOf]; omega
    · have hO := hM.own
      obtain ⟨N, hN⟩ : ∃ N, N = l.length := ⟨_, rfl⟩
      have hNb : N ≤ 60 := by omega
      have HL : Hid (Calls Try.prog 16 #[.pointer (some ⟨g, 0, none⟩)] wr fun e w' => e = .returned (.int .i64 N) ∧ wr = w') := Lib.hid (by rw [hN]; exact len_own hO)
      have H0 : OrderRel w g N (.int .i64 0) (.int .i64 0) (.int .i64 0) (.int .i64 0) wr := ⟨0, l, 0, 0, rfl, rfl, rfl, rfl, by omega, by omega, .inl rfl, hO⟩
      have hstop : ((k : Int) < (n : Int) ∧ (60 : Int) ≤ (k : Int)) ∨ (n : Int) ≤ (k : Int) := by omega
      clear hM hO hN hl hgo
      rcases hstop with ⟨k1, k2⟩ | k1
      all_goals
        go_wp2_with (go_at_call 16; refine HL.out.mono ?_; rintro e w3 ⟨rfl, rfl⟩)
        obtain ⟨wo, hwo⟩ : ∃ wo : World, wo = wr := ⟨_, rfl⟩
        go_loopw [7, 8, 9, 10] (fun had lastId lastW i wr => OrderRel w g N had lastId lastW i wr) (fun _ _ _ i _ => N - (intOf i).toNat)
        case atStart => exact H0
        case round =>
          clear H0 HL
          obtain ⟨j, l, d, s, rfl, rfl, rfl, rfl, hj, hjl, hA, hO⟩ := hrel
          by_cases hlt : j < N
          · obtain ⟨x, l2, rfl⟩ : ∃ x l2, l = x :: l2 := by
              cases l with
              | nil => simp at hjl; omega
              | cons x l2 => exact ⟨x, l2, rfl⟩
            have a3 := (List.pairwise_cons.1 hO.has.1).1
            have hl2 : l2.length = N - (j + 1) := by simp at hjl; omega
            have hA1 : j = 0 ∨ Bef LtI (d, s) x := hA.imp id fun h => h x (by simp)
            obtain ⟨xi, xw⟩ := x
            have HT : Hid (Calls Try.prog 17 #[.pointer (some ⟨g, 0, none⟩)] wr fun e w' => e = .returned (.tuple #[.int .i64 xi, .int .i64 xw, .bool true]) ∧ OrderRel w g N (.int .i64 ((j : Int) + 1)) (.int .i64 xi) (.int .i64 xw) (.int .i64 ((j : Int) + 1)) w') :=
              Lib.hid ((take_own hO).mono fun e w' ⟨h1, h2⟩ => ⟨h1, j + 1, l2, xi, xw, by go_num, rfl, rfl, by go_num, by omega, hl2, .inr a3, h2⟩)
            have kk : (j : Int) < (N : Int) := by omega
            clear hl2 a3 hO hA hjl
            rcases Nat.eq_zero_or_pos j with rfl | hj0
            · clear hA1
              go_wp2_with (go_at_call 17; refine HT.out.mono ?_; rintro e w3 ⟨rfl, h5⟩; clear HT)
              go_roundw
              case rel => exact h5
              case measure => simp [intOf]; omega
            · have j0 : (0 : Int) < (j : Int) := by omega
              have hA2 : Bef LtI (d, s) (xi, xw) := hA1.resolve_left (by omega)
              clear hA1
              rcases hA2 with hb | ⟨hb1, hb2⟩
              · have hb' : s < xw := hb
                have t1 : decide (xw < s) = false := by simp; omega
                have t2 : (xw == s) = false := by simp; omega
                clear hb
                go_wp2_with (go_at_call 17; refine HT.out.mono ?_; rintro e w3 ⟨rfl, h5⟩; clear HT)
                go_roundw
                case rel => exact h5
                case measure => simp [intOf]; omega
              · have hb1' : s = xw := hb1
                subst hb1'
                have hb2' : d < xi := hb2
                have t1 : decide (xi ≤ d) = false := by simp; omega
                clear hb1 hb2
                go_wp2_with (go_at_call 17; refine HT.out.mono ?_; rintro e w3 ⟨rfl, h5⟩; clear HT)
                go_roundw
                case rel => exact h5
                case measure => simp [intOf]; omega
          · obtain rfl : l = [] := List.eq_nil_of_length_eq_zero (by omega)
            obtain rfl : N = j := by omega
            have HT : Hid (Calls Try.prog 17 #[.pointer (some ⟨g, 0, none⟩)] wr fun e w' => e = .returned (.tuple #[.int .i64 0, .int .i64 0, .bool false]) ∧ OwnI w g [] w') := Lib.hid (take_own_none hO)
            have HL2 : Hid (∀ w1, OwnI w g [] w1 → Calls Try.prog 16 #[.pointer (some ⟨g, 0, none⟩)] w1 fun e w' => e = .returned (.int .i64 0) ∧ w1 = w') := Lib.hid fun w1 h => len_own h
            clear hjl hA hO
            go_wp2_with (first
              | (go_at_call 17; refine HT.out.mono ?_; rintro e w3 ⟨rfl, h5⟩; clear HT)
              | (go_at_call 16; refine (HL2.out _ h5).mono ?_; rintro e w4 ⟨rfl, rfl⟩)
              | (go_at_call 12; refine (lives_any _).mono ?_; rintro e w5 ⟨rfl, bl⟩; have b5 := h5.base))
            go_ret
            exact ⟨rfl, b5.trans (bl.mono b5.size)⟩
theorem orders_frame {H : Type} {enc : TypeId × Value → H} {base b0 : Nat} {v : Value} {d : DataW H} {p : List MemPlace} (W : World) (h : DataW.Trod enc Try.prog W base (fun _ => true) true 22 v d p) (o : Value.okWide Try.prog W .any b0 22 v) :
    Calls Try.prog 5 #[v] W fun e w' => e = .returned (.bool true) ∧ Below W.heap.size W w' := by
  obtain ⟨A, n, c, f, rfl, h1, h2, h3⟩ := deeds_open h o
  exact orders_any A n c f W h3 h1 h2
end Go.Proofs.Ytgpnpopmlommaaa
