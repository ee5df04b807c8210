/- HeapPlays' and HeapOrders' walks. -/
import Derived.Test.YtgpnpopmlommaaaHeapPlayC
import Derived.Test.YtgpnpopmlommaaaOpen
namespace Go.Proofs.Ytgpnpopmlommaaa
open Go.RowKit Go.Maps
set_option linter.unusedVariables false
def PlayRel (w : World) (g n : Nat) (r i : Value) (wr : World) : Prop :=
  ∃ (k : Nat) (A : Option Addr) (m c : Nat) (l : List (Thing Int)), r = .slice A m c ∧ i = .int .i64 k ∧ k ≤ n ∧ k ≤ 60 ∧ l.length ≤ k ∧ PlayMid w g l l A m c wr
theorem PlayRel.next {w w' : World} {g n k : Nat} {A : Option Addr} {m c : Nat} {l l' : List (Thing Int)} (hk : k < n) (h60 : k < 60) (hl : l.length ≤ k) (hl' : l'.length ≤ l.length + 1) (h : PlayMid w g l' l' A m c w') : PlayRel w g n (.slice A m c) (.int .i64 ((k : Int) + 1)) w' :=
  ⟨k + 1, A, m, c, l', rfl, by go_num, by omega, by omega, by omega, h⟩
def NewPlay (w : World) (e : Ending) (w' : World) : Prop := ∃ g, e = .returned (.pointer (some ⟨g, 0, none⟩)) ∧ PlayMid w g [] [] none 0 0 w'
theorem new_play (w : World) : Calls Try.prog 9 #[] w (NewPlay w) := by
  refine (new_I w).mono ?_
  rintro e w' ⟨g, F, rfl, h1, h2, h3⟩
  exact ⟨g, rfl, F, h1, Items.nil _ _, h2, h3⟩
set_option maxHeartbeats 4000000 in
theorem plays_any (A : Option Addr) (n c : Nat) (f : Nat → Nat → Int) (w : World) (h : Recs 3 w A n f) (hc : n ≤ c) (hcm : c ≤ maxLen) :
    Calls Try.prog 3 #[.slice A n c] w fun e w' => e = .returned (.bool true) ∧ Below w.heap.size w w' := by
  unfold maxLen at hcm
  have HX := Lib.hid h
  have HN := Lib.hid (new_play w)
  clear h
  go_enter Try.func3, Try.ntmps3
  go_wp2_with (go_at_call 9; refine HN.out.mono ?_; rintro e w1 ⟨g, rfl, h0⟩; clear HN)
  go_loopw [4, 5] (fun r i wr => PlayRel w g n r i wr) (fun _ i _ => n - (intOf i).toNat)
  case atStart => exact ⟨0, none, 0, 0, [], rfl, rfl, by omega, by omega, by simp, h0⟩
  case round =>
    clear h0 w1
    obtain ⟨k, A1, m, c1, l, rfl, rfl, hk, hk60, hl, hM⟩ := hrel
    by_cases hlt : k < n
    · by_cases h60 : k < 60
      · obtain ⟨b, off, rfl, hcs⟩ := (HX.out.keep hM.base).1 (by omega)
        have d0 := hcs k 0 hlt (by omega)
        have d1 := hcs k 1 hlt (by omega)
        have d2 := hcs k 2 hlt (by omega)
        have wi := HX.out.2 k 1 hlt (by omega)
        have ww := HX.out.2 k 2 hlt (by omega)
        have HC : Hid (∀ w1, Below w.heap.size w w1 → w1.cell? ⟨b, off + k * 3 + 1, none⟩ = some (.int .i64 (f k 1))) := by
          refine Lib.hid fun w1 hb => ?_
          obtain ⟨b', off', e', hcs'⟩ := (HX.out.keep hb).1 (by omega)
          injection e' with e'; injection e' with e1 e2
          subst e1; subst e2
          exact hcs' k 1 hlt (by omega)
        obtain ⟨kd, hkd⟩ : ∃ kd, kd = f k 0 := ⟨_, rfl⟩
        obtain ⟨id, hid⟩ : ∃ id, id = f k 1 := ⟨_, rfl⟩
        obtain ⟨wv, hwv⟩ : ∃ wv, wv = f k 2 := ⟨_, rfl⟩
        rw [← hkd] at d0
        rw [← hid] at d1 wi HC
        rw [← hwv] at d2 ww
        rw [Nat.add_zero] at d0
        have HD : Hid (∀ w1, PlayMid w g l l A1 m c1 w1 → Calls Try.prog 10 #[.pointer (some ⟨g, 0, none⟩), .slice A1 m c1, .agg #[.int .i64 kd, .int .i64 id, .int .i64 wv]] w1 (DoesPost w g l)) := Lib.hid fun w1 h1 => does_any h1 wi ww (by omega)
        have HL : Hid (∀ w1 A2 m2 c2 l2, PlayMid w g l2 l2 A2 m2 c2 w1 → l2.length ≤ l.length + 1 → Calls Try.prog 11 #[.pointer (some ⟨g, 0, none⟩), .slice A2 m2 c2, .int .i64 id] w1 fun e w' => e = .returned (.bool true) ∧ PlayRel w g n (.slice A2 m2 c2) (.int .i64 ((k : Int) + 1)) w') :=
          Lib.hid fun w1 A2 m2 c2 l2 h1 h2 => (like_any h1 wi (by omega)).mono fun e w' ⟨h3, h4⟩ => ⟨h3, .next hlt h60 hl h2 h4⟩
        have k1 : (k : Int) < (n : Int) := by omega
        have k2 : (k : Int) < 60 := by omega
        clear hcs hkd hid hwv
        go_wp2_with (first
          | (go_at_call 10; refine (HD.out _ hM).mono ?_; rintro e w2 ⟨A2, m2, c2, l2, rfl, h2, h3⟩; have cj := HC.out _ h2.base; clear d0 d1 d2 hM)
          | (go_at_call 11; refine (HL.out _ _ _ _ _ h2 h3).mono ?_; rintro e w3 ⟨rfl, h5⟩; clear h2 h3))
        go_roundw
        case rel => exact h5
        case measure => simp [intOf]; omega
      · have k1 : (k : Int) < (n : Int) := by omega
        have k2 : (60 : Int) ≤ (k : Int) := by omega
        have HB := Lib.hid hM.base
        clear hM hl
        go_wp2_with (go_at_call 12; refine (lives_any _).mono ?_; rintro e w5 ⟨rfl, bl⟩)
        go_ret
        exact ⟨rfl, HB.out.trans (bl.mono HB.out.size)⟩
    · have k1 : (n : Int) ≤ (k : Int) := by omega
      have HB := Lib.hid hM.base
      clear hM hl
      go_wp2_with (go_at_call 12; refine (lives_any _).mono ?_; rintro e w5 ⟨rfl, bl⟩)
      go_ret
      exact ⟨rfl, HB.out.trans (bl.mono HB.out.size)⟩
theorem deeds_open {H : Type} {enc : TypeId × Value → H} {base b0 : Nat} {v : Value} {d : DataW H} {p : List MemPlace} {W : World} (h : DataW.Trod enc Try.prog W base (fun _ => true) true 22 v d p) (o : Value.okWide Try.prog W .any b0 22 v) :
    ∃ A n c f, v = .slice A n c ∧ n ≤ c ∧ c ≤ maxLen ∧ Recs 3 W A n f := by
  refine recs_of_trod Try.underlying22 Try.underlying29 (by kernel_rfl) (by decide) (fun j f hj => ?_) h (Go.WideShapes.okWide_slice Try.underlying22 o)
  rcases j with _ | _ | _ | j
  · simp at hj; subst hj; exact ⟨Try.underlying3, rfl, by kernel_rfl⟩
  · simp at hj; subst hj; exact ⟨Try.underlying3, rfl, by kernel_rfl⟩
  · simp at hj; subst hj; exact ⟨Try.underlying3, rfl, by kernel_rfl⟩
  · simp at hj
theorem plays_frame {H : Type} {enc : TypeId × Value → H} {base b0 : Nat} {v : Value} {d : DataW H} {p : List MemPlace} (W : World) (h : DataW.Trod enc Try.prog W base (fun _ => true) true 22 v d p) (o : Value.okWide Try.prog W .any b0 22 v) :
    Calls Try.prog 3 #[v] W fun e w' => e = .returned (.bool true) ∧ Below W.heap.size W w' := by
  obtain ⟨A, n, c, f, rfl, h1, h2, h3⟩ := deeds_open h o
  exact plays_any A n c f W h3 h1 h2
end Go.Proofs.Ytgpnpopmlommaaa
