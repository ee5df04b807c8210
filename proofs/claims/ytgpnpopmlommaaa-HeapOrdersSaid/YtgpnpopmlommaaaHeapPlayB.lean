/- does' other ways, and like. -/
import Derived.Test.YtgpnpopmlommaaaHeapPlay
namespace Go.Proofs.Ytgpnpopmlommaaa
open Go.RowKit Go.Maps
set_option linter.unusedVariables false
section
variable {w0 w : World} {g n c : Nat} {l : List (Thing Int)} {A : Option Addr} {kd id wv : Int}
theorem does_other (h : PlayMid w0 g l l A n c w) (h0 : ¬ kd = 0) (h1 : ¬ kd = 1) (h2 : ¬ kd = 2) (h3 : ¬ kd = 3) :
    Calls Try.prog 10 #[.pointer (some ⟨g, 0, none⟩), .slice A n c, .agg #[.int .i64 kd, .int .i64 id, .int .i64 wv]] w (DoesPost w0 g l) := by
  have HM := Lib.hid (h.below (below_alloc w (.cells #[.int .i64 kd, .int .i64 id, .int .i64 wv] 29)))
  have e0 : (kd == 0) = false := by simpa using h0
  have e1 : (kd == 1) = false := by simpa using h1
  have e2 : (kd == 2) = false := by simpa using h2
  have e3 : (kd == 3) = false := by simpa using h3
  clear h h0 h1 h2 h3
  go_enter Try.func10, Try.ntmps10
  go_wp2
  go_ret2
  exact ⟨_, _, _, _, rfl, HM.out, by omega⟩
theorem does_3_none (h : PlayMid w0 g [] [] A n c w) :
    Calls Try.prog 10 #[.pointer (some ⟨g, 0, none⟩), .slice A n c, .agg #[.int .i64 3, .int .i64 id, .int .i64 wv]] w (DoesPost w0 g []) := by
  have HM := Lib.hid (h.below (below_alloc w (.cells #[.int .i64 3, .int .i64 id, .int .i64 wv] 29)))
  have hn : n = 0 := by obtain ⟨F, _, h2, _⟩ := h; exact h2.1.symm
  subst hn
  have HT : Hid (∀ w1, PlayMid w0 g [] [] A 0 c w1 → Calls Try.prog 17 #[.pointer (some ⟨g, 0, none⟩)] w1 fun e w' => e = .returned (.tuple #[.int .i64 0, .int .i64 0, .bool false]) ∧ w1 = w') :=
    Lib.hid fun w1 ⟨F, h1, _⟩ => take_none_I h1
  clear h
  go_enter Try.func10, Try.ntmps10
  go_wp2_with (go_at_call 17; refine (HT.out _ HM.out).mono ?_; rintro e w2 ⟨rfl, rfl⟩)
  go_ret2
  exact ⟨_, _, _, _, rfl, HM.out, by simp⟩
theorem Items.tail {F : List Nat} {b off m : Nat} {x : Thing Int} (h : Items w (some ⟨b, off, none⟩) (m + 1) c (x :: l) F) : Items w (some (if c = 1 then ⟨b, off, none⟩ else ⟨b, off + 2, none⟩)) m (c - 1) l F := by
  obtain ⟨h1, h2, h3, h4, h5⟩ := h
  simp at h1
  refine ⟨h1, by omega, by omega, fun y hy => h4 y (by simp [hy]), fun hm => ?_⟩
  obtain ⟨b', off', e, hb, hlt, hc⟩ := h5 (by omega)
  injection e with e; injection e with e1 e2
  subst e1; subst e2
  rw [if_neg (by omega)]
  refine ⟨b, off + 2, rfl, hb, hlt, fun k y hy => ?_⟩
  have := hc (k + 1) y (by simpa using hy)
  have e3 : off + (k + 1) * 2 = off + 2 + k * 2 := by omega
  rw [e3] at this
  exact this
theorem does_3_some {x : Thing Int} (h : PlayMid w0 g (x :: l) (x :: l) A n c w) :
    Calls Try.prog 10 #[.pointer (some ⟨g, 0, none⟩), .slice A n c, .agg #[.int .i64 3, .int .i64 id, .int .i64 wv]] w (DoesPost w0 g (x :: l)) := by
  have HM := Lib.hid (h.below (below_alloc w (.cells #[.int .i64 3, .int .i64 id, .int .i64 wv] 29)))
  obtain ⟨b, off, m, rfl, rfl, hmc⟩ : ∃ b off m, A = some ⟨b, off, none⟩ ∧ n = m + 1 ∧ m + 1 ≤ c := by
    obtain ⟨F, _, h2, _⟩ := h
    obtain ⟨b, off, m, e1, e2, _, _, e3⟩ := h2.head
    exact ⟨b, off, m, e1, e2, e3⟩
  have hcm : c ≤ 9223372036854775807 := by
    obtain ⟨F, _, h2, _⟩ := h
    have := h2.2.2.1
    unfold maxLen at this
    omega
  have hmm : (m : Int) + 1 ≤ 9223372036854775807 := by omega
  have HT : Hid (∀ w1, PlayMid w0 g (x :: l) (x :: l) (some ⟨b, off, none⟩) (m + 1) c w1 → Calls Try.prog 17 #[.pointer (some ⟨g, 0, none⟩)] w1 fun e w' => e = .returned (.tuple #[.int .i64 x.1, .int .i64 x.2, .bool true]) ∧ PlayMid w0 g l (x :: l) (some ⟨b, off, none⟩) (m + 1) c w') := by
    refine Lib.hid fun w1 h1 => ?_
    obtain ⟨F, h1, h2, h3, h4⟩ := h1
    refine (take_some_I h1).mono ?_
    rintro e w' ⟨rfl, g1, g2⟩
    exact ⟨rfl, .turn (l := x :: l) h2 h3 h4 g1 (.of_only g2)⟩
  have HC : Hid (∀ w1, PlayMid w0 g l (x :: l) (some ⟨b, off, none⟩) (m + 1) c w1 → w1.cell? ⟨b, off, none⟩ = some (.int .i64 x.1) ∧ w1.cell? ⟨b, off + 1, none⟩ = some (.int .i64 x.2)) := by
    refine Lib.hid fun w1 ⟨F, _, h2, _⟩ => ?_
    obtain ⟨b', off', m', e1, _, c1, c2, _⟩ := h2.head
    injection e1 with e1; injection e1 with e1 e2
    subst e1; subst e2
    exact ⟨c1, c2⟩
  have HE : Hid (∀ w1 w2, PlayMid w0 g l (x :: l) (some ⟨b, off, none⟩) (m + 1) c w1 → Below w1.heap.size w1 w2 → PlayMid w0 g l l (some (if c = 1 then ⟨b, off, none⟩ else ⟨b, off + 2, none⟩)) m (c - 1) w2) := by
    refine Lib.hid fun w1 w2 h1 hb => ?_
    obtain ⟨F, h1, h2, h3, h4⟩ := h1.below hb
    exact ⟨F, h1, h2.tail, h3, h4⟩
  have hne : ((m : Int) + 1 == 0) = false := by simp; omega
  have hlt : (0 : Int) < (m : Int) + 1 := by omega
  have h1c : (1 : Int) ≤ (c : Int) := by omega
  clear h
  by_cases hc1 : c = 1
  · subst hc1
    obtain rfl : m = 0 := by omega
    go_enter Try.func10, Try.ntmps10
    go_wp2_with (go_at_call 17; refine (HT.out _ HM.out).mono ?_; rintro e w2 ⟨rfl, h2⟩; obtain ⟨x1, x2⟩ := HC.out _ h2)
    go_quiet (fail)
    go_wp2
    go_ret2
    have h5 := fun k => HE.out w2 (w2.drewN k) h2 ⟨rfl, rfl, rfl, Nat.le_refl _, fun _ _ => rfl⟩
    rw [if_pos trivial] at h5
    exact ⟨some ⟨b, off, none⟩, 0, 0, l, rfl, h5 _, by simp; omega⟩
  · go_enter Try.func10, Try.ntmps10
    go_wp2_with (go_at_call 17; refine (HT.out _ HM.out).mono ?_; rintro e w2 ⟨rfl, h2⟩; obtain ⟨x1, x2⟩ := HC.out _ h2)
    go_quiet (fail)
    go_wp2
    go_ret2
    have h5 := fun k => HE.out w2 (w2.drewN k) h2 ⟨rfl, rfl, rfl, Nat.le_refl _, fun _ _ => rfl⟩
    rw [if_neg hc1] at h5
    exact ⟨some ⟨b, off + 2, none⟩, m, c - 1, l, rfl, h5 _, by simp; omega⟩
end
end Go.Proofs.Ytgpnpopmlommaaa
