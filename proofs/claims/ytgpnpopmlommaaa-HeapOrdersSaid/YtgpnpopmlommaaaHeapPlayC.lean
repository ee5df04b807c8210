/- like, and does in one. -/
import Derived.Test.YtgpnpopmlommaaaHeapPlayB
namespace Go.Proofs.Ytgpnpopmlommaaa
open Go.RowKit Go.Maps
set_option linter.unusedVariables false
section
variable {w0 w : World} {g n c : Nat} {l : List (Thing Int)} {A : Option Addr} {kd id wv : Int}
theorem does_any (h : PlayMid w0 g l l A n c w) (hid : (Lit.int .i64 id).wf = true) (hwv : (Lit.int .i64 wv).wf = true) (hroom : l.length < 1000000) :
    Calls Try.prog 10 #[.pointer (some ⟨g, 0, none⟩), .slice A n c, .agg #[.int .i64 kd, .int .i64 id, .int .i64 wv]] w (DoesPost w0 g l) := by
  by_cases h0 : kd = 0
  · subst h0; exact does_0 h hid hwv hroom
  by_cases h1 : kd = 1
  · subst h1; exact does_1 h hid hwv hroom
  by_cases h2 : kd = 2
  · subst h2; exact does_2 h hid hwv hroom
  by_cases h3 : kd = 3
  · subst h3
    cases l with
    | nil => exact does_3_none h
    | cons x l => exact does_3_some h
  exact does_other h h0 h1 h2 h3
def LikePost (w0 : World) (g : Nat) (l : List (Thing Int)) (A : Option Addr) (n c : Nat) (e : Ending) (w' : World) : Prop := e = .returned (.bool true) ∧ PlayMid w0 g l l A n c w'
theorem like_any (h : PlayMid w0 g l l A n c w) (hid : (Lit.int .i64 id).wf = true) (hroom : l.length < 1000000) :
    Calls Try.prog 11 #[.pointer (some ⟨g, 0, none⟩), .slice A n c, .int .i64 id] w (LikePost w0 g l A n c) := by
  have HM := Lib.hid h
  obtain ⟨a, b, hab⟩ : ∃ a b, worthOf (0 : Int) l id = (a, b) := ⟨_, _, rfl⟩
  have HW : Hid (∀ w1, PlayMid w0 g l l A n c w1 → Calls Try.prog 29 #[.pointer (some ⟨g, 0, none⟩), .int .i64 id] w1 fun e w' => e = .returned (.tuple #[.int .i64 a, .bool b]) ∧ w1 = w') := by
    refine Lib.hid fun w1 ⟨F, h1, _⟩ => ?_
    have := worth_I h1 hid
    rw [hab] at this
    exact this
  have HV : Hid (∀ w1, PlayMid w0 g l l A n c w1 → Calls Try.prog 30 #[.slice A n c, .int .i64 id] w1 fun e w' => e = .returned (.tuple #[.int .i64 a, .bool b]) ∧ w1 = w') := by
    refine Lib.hid fun w1 ⟨F, h1, h2, _⟩ => ?_
    have := ref_worth h2 (id := id) h1.has.2 hroom
    unfold WorthPost at this
    rw [hab] at this
    exact this
  have HL : Hid (∀ w1, PlayMid w0 g l l A n c w1 → Calls Try.prog 16 #[.pointer (some ⟨g, 0, none⟩)] w1 fun e w' => e = .returned (.int .i64 n) ∧ w1 = w') := by
    refine Lib.hid fun w1 ⟨F, h1, h2, _⟩ => ?_
    have := hlen_I h1
    rw [h2.1] at this
    exact this
  have hln : l.length = n := by obtain ⟨F, _, h2, _⟩ := h; exact h2.1
  have hnb : n < 1000000 := by omega
  clear hab
  cases l with
  | nil =>
    have HF : Hid (∀ w1, PlayMid w0 g [] [] A n c w1 → Calls Try.prog 28 #[.pointer (some ⟨g, 0, none⟩)] w1 fun e w' => e = .returned (.tuple #[.int .i64 0, .int .i64 0, .bool false]) ∧ w1 = w') :=
      Lib.hid fun w1 ⟨F, h1, _⟩ => first_none_I h1
    obtain rfl : n = 0 := by simpa using hln.symm
    clear h hln
    go_enter Try.func11, Try.ntmps11
    go_wp2_with (first
      | (go_at_call 28; refine (HF.out _ HM.out).mono ?_; rintro e w1 ⟨rfl, rfl⟩)
      | (go_at_call 29; refine (HW.out _ HM.out).mono ?_; rintro e w2 ⟨rfl, rfl⟩)
      | (go_at_call 30; refine (HV.out _ HM.out).mono ?_; rintro e w2 ⟨rfl, rfl⟩)
      | (go_at_call 16; refine (HL.out _ HM.out).mono ?_; rintro e w2 ⟨rfl, rfl⟩))
    go_ret
    exact ⟨rfl, HM.out⟩
  | cons x l =>
    have HF : Hid (∀ w1, PlayMid w0 g (x :: l) (x :: l) A n c w1 → Calls Try.prog 28 #[.pointer (some ⟨g, 0, none⟩)] w1 fun e w' => e = .returned (.tuple #[.int .i64 x.1, .int .i64 x.2, .bool true]) ∧ PlayMid w0 g (x :: l) (x :: l) A n c w') := by
      refine Lib.hid fun w1 h0 => ?_
      have h0' := h0
      obtain ⟨F, h1, h2, _⟩ := h0
      refine (first_some_I h1).mono ?_
      rintro e w' ⟨rfl, hb⟩
      exact ⟨rfl, h0'.below hb⟩
    obtain ⟨b1, off, m, rfl, rfl, hmc⟩ : ∃ b off m, A = some ⟨b, off, none⟩ ∧ n = m + 1 ∧ m + 1 ≤ c := by
      obtain ⟨F, _, h2, _⟩ := h
      obtain ⟨b, off, m, e1, e2, _, _, e3⟩ := h2.head
      exact ⟨b, off, m, e1, e2, e3⟩
    have HC : Hid (∀ w1, PlayMid w0 g (x :: l) (x :: l) (some ⟨b1, off, none⟩) (m + 1) c w1 → w1.cell? ⟨b1, off, none⟩ = some (.int .i64 x.1) ∧ w1.cell? ⟨b1, off + 1, none⟩ = some (.int .i64 x.2)) := by
      refine Lib.hid fun w1 ⟨F, _, h2, _⟩ => ?_
      obtain ⟨b', off', m', e1, _, c1, c2, _⟩ := h2.head
      injection e1 with e1; injection e1 with e1 e2
      subst e1; subst e2
      exact ⟨c1, c2⟩
    have hlt : (0 : Int) < (m : Int) + 1 := by omega
    clear h hln
    go_enter Try.func11, Try.ntmps11
    go_wp2_with (first
      | (go_at_call 28; refine (HF.out _ HM.out).mono ?_; rintro e w1 ⟨rfl, h1⟩; obtain ⟨x1, x2⟩ := HC.out _ h1)
      | (go_at_call 29; refine (HW.out _ h1).mono ?_; rintro e w2 ⟨rfl, rfl⟩)
      | (go_at_call 30; refine (HV.out _ h1).mono ?_; rintro e w2 ⟨rfl, rfl⟩)
      | (go_at_call 16; refine (HL.out _ h1).mono ?_; rintro e w2 ⟨rfl, rfl⟩))
    go_ret
    exact ⟨rfl, h1⟩
end
end Go.Proofs.Ytgpnpopmlommaaa
