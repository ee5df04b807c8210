/- What the functions of package days answer, off their code: one, Has, With, Without. -/
import Derived.Test.YtmjogpbdgbgkhaaDoorDaysApi
import Derived.Test.YtmjogpbdgbgkhaaDoorOneBits
namespace Go.Proofs.YtmjogpbdgbgkhaaDoor
open Go.RowKit
set_option linter.unusedVariables false

theorem one_code (d : Int) (wd : (Lit.int .i64 d).wf = true) (w : World) :
    Calls Tryd.prog 33 #[.int .i64 d] w fun e w' => e = .returned (.int .u64 (oneN d : Int)) ∧ w' = w := by
  by_cases hd : 0 ≤ d ∧ d ≤ 63
  · obtain ⟨d0, d1⟩ := hd
    obtain ⟨k, rfl⟩ : ∃ k : Nat, d = (k : Int) := ⟨d.toNat, by omega⟩
    go_enter Tryd.func33, Tryd.ntmps33
    go_wp2
    go_ret
    exact ⟨ret_u64 (by rw [pow_wrap (by omega), oneN_in (by omega)]), rfl⟩
  · rw [oneN_out hd]
    by_cases h0 : d < 0
    · go_enter Tryd.func33, Tryd.ntmps33
      go_wp2
      go_ret
      exact ⟨rfl, rfl⟩
    · have h1 : 64 ≤ d := by omega
      go_enter Tryd.func33, Tryd.ntmps33
      go_wp2
      go_ret
      exact ⟨rfl, rfl⟩
theorem has_quiet (s : Nat) (d : Int) (hs : s < 2 ^ 64) (wd : (Lit.int .i64 d).wf = true) (w : World) :
    Calls Tryd.prog 14 #[.int .u64 s, .int .i64 d] w fun e w' => e = .returned (.bool (hasB s d)) ∧ w' = w := by
  have c1 := fun W => one_code d wd W
  have h1 := one_has hs d
  have h2 := oneN_pos (s := s) (d := d)
  generalize oneN d = o at *
  cases hb : hasB s d
  · rw [hb] at h1
    rw [if_neg (by decide)] at h1
    clear h2 hb hs wd
    go_enter Tryd.func14, Tryd.ntmps14
    go_wp2_with (go_at_call 33; refine (c1 _).mono ?_; rintro e x1 ⟨rfl, rfl⟩)
    go_ret
    exact ⟨rfl, rfl⟩
  · rw [hb] at h1
    rw [if_pos rfl] at h1
    have h3 := h2 hb
    clear h2 hb hs wd
    have h4 : ((o : Int) != 0) = true := by simp; omega
    go_enter Tryd.func14, Tryd.ntmps14
    go_wp2_with (go_at_call 33; refine (c1 _).mono ?_; rintro e x1 ⟨rfl, rfl⟩)
    go_ret
    exact ⟨rfl, rfl⟩
theorem has_code : HasOk := fun s d w hs wd => (has_quiet s d hs wd w).mono fun e w' ⟨he, hw⟩ => ⟨he, hw ▸ Below.refl _ _⟩
theorem with_code : WithOk := by
  intro s d w hs wd
  have c1 := fun W => one_code d wd W
  have h1 := one_with hs d
  generalize oneN d = o at *
  generalize putN s d 1 = p at *
  clear hs wd
  go_enter Tryd.func16, Tryd.ntmps16
  go_wp2_with (go_at_call 33; refine (c1 _).mono ?_; rintro e x1 ⟨rfl, rfl⟩)
  go_ret
  exact ⟨rfl, Below.refl _ _⟩
theorem without_code : WithoutOk := by
  intro s d w hs wd
  have c1 := fun W => one_code d wd W
  have h1 := one_without hs d
  generalize oneN d = o at *
  generalize putN s d 0 = p at *
  clear hs wd
  go_enter Tryd.func18, Tryd.ntmps18
  go_wp2_with (go_at_call 33; refine (c1 _).mono ?_; rintro e x1 ⟨rfl, rfl⟩)
  go_ret
  exact ⟨rfl, Below.refl _ _⟩
end Go.Proofs.YtmjogpbdgbgkhaaDoor
