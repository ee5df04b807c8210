/- What the functions of package days answer, off their code: All, Of and Text. -/
import Derived.Test.YtmjogpbdgbgkhaaDoorDaysCode
namespace Go.Proofs.YtmjogpbdgbgkhaaDoor
open Go.RowKit
set_option linter.unusedVariables false

/-- Has, as a value: the method of one set. -/
def hasV (s : Nat) : Value := .func (.func 14) #[.int .u64 s] #[]
set_option maxHeartbeats 1000000 in
theorem those_code (s : Nat) (hs : s < 2 ^ 64) (w : World) : Calls Tryd.prog 31 #[hasV s] w (IntsEnd w (allI s)) := by
  obtain ⟨i0, hi, hz0, hz1, hz2⟩ := info_parts info_int
  have HH := Go.Lib.hid (fun (d : Nat) (hd : d < 64) W => has_quiet s (d : Int) hs (wf_iff.2 (by omega)) W)
  clear hs
  unfold hasV
  go_enter Tryd.func31, Tryd.ntmps31
  go_wp2
  go_loopw [3, 5] (fun v iv wr => ∃ d : Nat, d ≤ 64 ∧ iv = .int .i64 d ∧ wr.ownsRow w.heap.size 3 1 v (upTo s d).length ((upTo s d).map (Value.int .i64)) ∧ Below w.heap.size w wr) (fun _ iv _ => 64 - (intOf iv).toNat)
  case atStart => exact ⟨0, Nat.zero_le _, rfl, World.ownsRow_nil _ _ _ _, Below.refl _ _⟩
  case round =>
    obtain ⟨d, hd, rfl, hown, hbl⟩ := hrel
    have hbz := hbl.size
    have hlen := upTo_len s d
    by_cases hlt : d < 64
    · have HU := Go.Lib.hid (upTo_succ s d)
      have hc := HH.out d hlt
      have eh : hasB s (d : Int) = s.testBit d := by unfold hasB; rw [decide_eq_true (by omega), Int.toNat_natCast]; rfl
      rw [eh] at hc
      obtain ⟨L, hL⟩ : ∃ L, (upTo s d).map (Value.int .i64) = L := ⟨_, rfl⟩
      obtain ⟨m, hm⟩ : ∃ m, (upTo s d).length = m := ⟨_, rfl⟩
      rw [hL, hm] at hown
      rw [hm] at hlen
      have HL := Go.Lib.hid hL
      have HM := Go.Lib.hid hm
      clear hL hm eh
      cases hbit : s.testBit d
      · have HT := Go.Lib.hid hbit
        rw [hbit] at hc
        clear hbit
        go_wp2_with (go_at_call 14; (with_reducible refine (hc _).mono ?_); rintro e w2 ⟨rfl, rfl⟩)
        go_roundw
        case rel => exact ⟨d + 1, by omega, by go_num, by rw [HU.out, HT.out, if_neg (by decide), List.append_nil, HL.out, HM.out]; exact hown, hbl⟩
        case measure => simp [intOf]; omega
      · have HT := Go.Lib.hid hbit
        rw [hbit] at hc
        clear hbit
        go_wp2_with (first
          | (go_at_call 14; (with_reducible refine (hc _).mono ?_); rintro e w2 ⟨rfl, rfl⟩)
          | (at_builtin; refine wpList_append_own _ rfl _ _ 25 rfl w.heap.size 3 i0 (.int .i64 0) 1 8 Tryd.underlying25 hi hz0 hz1 hz2 rfl (by decide) _ _ _ rfl (hown.alloc _) ⟨w2.heap.size, 0, none⟩ 1 1 [.int .i64 d] rfl rfl (one_cell _ _ _) (one_ok _) (by unfold maxLen; omega) (by omega) (by simp; omega) ?_; intro v' w3 hown' hgrow _; have R := (hbl.alloc hbl.size _).grown hgrow (by simp; omega) (own_ge hown); clear hgrow hown hbl))
        go_roundw
        case rel => exact ⟨d + 1, by omega, by go_num, by rw [HU.out, HT.out, if_pos rfl, List.length_append, List.map_append, HL.out, HM.out]; exact hown', R⟩
        case measure => simp [intOf]; omega
    · obtain rfl : d = 64 := by omega
      obtain ⟨A, cp, rfl, hcp⟩ := own_form hown
      have hi2 := Ints.of_own hown
      go_wp2
      go_ret
      exact ⟨A, cp, rfl, hi2, hcp, hbl⟩
theorem all_code : AllOk := by
  intro s w hs
  have hmf : ∀ (fn : Fn) (first cap : Array Value) (w : World), (Instr.makeFunc fn first cap).run Tryd.prog w = .ok (.func fn first cap) w := fun _ _ _ _ => rfl
  have c1 := fun W => those_code s hs W
  unfold hasV at c1
  clear hs
  generalize allI s = xs at *
  go_enter Tryd.func12, Tryd.ntmps12
  go_wp2_with (go_at_call 31; refine (c1 _).mono ?_; rintro e x1 ⟨A1, k1, rfl, M1, hk, hb⟩)
  go_ret
  exact ⟨A1, k1, rfl, M1, hk, hb⟩
set_option maxHeartbeats 1000000 in
theorem of_code : OfOk := by
  intro A n c xs w hx hn hb
  have HX := Go.Lib.hid hx
  have HB := Go.Lib.hid hb
  clear hx hb
  go_enter Tryd.func23, Tryd.ntmps23
  go_wp2
  go_loopw [3, 8] (fun sv iv wr => ∃ k : Nat, k ≤ n ∧ iv = .int .i64 k ∧ sv = .int .u64 ((ofN (xs.take k) : Nat) : Int) ∧ Below w.heap.size w wr) (fun _ iv _ => n - (intOf iv).toNat)
  case atStart => exact ⟨0, Nat.zero_le _, rfl, rfl, Below.refl _ _⟩
  case round =>
    obtain ⟨k, hk, rfl, rfl, CW⟩ := hrel
    by_cases hlt : k < n
    · obtain ⟨b, off, rfl, hcs⟩ := (HX.out.keep CW).2 (by omega)
      have hck := hcs k hlt
      have HS := Go.Lib.hid (ofN_succ (xs := xs) (k := k) (by rw [HX.out.1]; exact hlt))
      have hw := HB.out k
      obtain ⟨x, hx⟩ : ∃ x, xs.getD k 0 = x := ⟨_, rfl⟩
      rw [hx] at hck HS hw
      obtain ⟨s, hs⟩ : ∃ s, ofN (xs.take k) = s := ⟨_, rfl⟩
      have hsl : s < 2 ^ 64 := hs ▸ ofN_lt _
      have PR := fun W => with_code s x W hsl (wf_iff.2 hw)
      rw [hs] at HS ⊢
      clear hcs hx hs hsl hw
      go_wp2_with (go_at_call 16; refine (PR _).mono ?_; rintro e w2 ⟨rfl, hb2⟩; replace CW := CW.trans (hb2.mono CW.size); clear hb2)
      go_roundw
      case rel => exact ⟨k + 1, by omega, by go_num, by rw [HS.out], CW⟩
      case measure => simp [intOf]; omega
    · obtain rfl : k = n := by omega
      have e : xs.take k = xs := List.take_of_length_le (by rw [HX.out.1]; omega)
      rw [e]
      go_wp2
      go_ret
      exact ⟨rfl, CW⟩
end Go.Proofs.YtmjogpbdgbgkhaaDoor
