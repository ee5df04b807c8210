/- What the document's functions on instances answer, off their code: round, Arc, Way. -/
import Derived.Test.YtmfahjghfpckeaaDoorInstCode
namespace Go.Proofs.YtmfahjghfpckeaaDoor
open Go.RowKit
set_option linter.unusedVariables false
/-- A number counted round. -/
def roundD (n l m : Int) : Int := l + (if n < 0 then -(n + 1) else n) % (m - l + 1)
theorem roundD_bd (n : Int) {l m : Int} (h : l ≤ m) : l ≤ roundD n l m ∧ roundD n l m ≤ m := by
  unfold roundD
  generalize (if n < 0 then -(n + 1) else n) = q
  have h1 := Int.emod_nonneg q (b := m - l + 1) (by omega)
  have h2 := Int.emod_lt_of_pos q (b := m - l + 1) (by omega)
  omega
set_option maxHeartbeats 1000000 in
theorem round_any (n l m : Int) (wn : W64 n) (h0 : 0 ≤ l) (h1 : l ≤ m) (h2 : m ≤ 1000) (w : World) :
    Calls Tryd.prog 27 #[.int .i64 n, .int .i64 l, .int .i64 m] w fun e w' => e = .returned (.int .i64 (roundD n l m)) ∧ w = w' := by
  obtain ⟨b0, b1⟩ := wn
  have hr := roundD_bd n h1
  by_cases hn : n < 0
  · have e : roundD n l m = l + (-(n + 1)) % (m - l + 1) := by unfold roundD; rw [if_pos hn]
    have h3 := Int.emod_nonneg (-(n + 1)) (b := m - l + 1) (by omega)
    have h4 := Int.emod_lt_of_pos (-(n + 1)) (b := m - l + 1) (by omega)
    rw [e]
    clear e hr
    go_enter Tryd.func27, Tryd.ntmps27
    go_wp2
    go_ret
    exact ⟨ret_int (by rw [← Int.neg_tmod, Int.tmod_eq_emod_of_nonneg (by omega), IntWalk.wrap64_in _ ⟨by omega, by omega⟩]), rfl⟩
  · have e : roundD n l m = l + n % (m - l + 1) := by unfold roundD; rw [if_neg hn]
    have h3 := Int.emod_nonneg n (b := m - l + 1) (by omega)
    have h4 := Int.emod_lt_of_pos n (b := m - l + 1) (by omega)
    rw [e]
    clear e hr
    go_enter Tryd.func27, Tryd.ntmps27
    go_wp2
    go_ret
    exact ⟨ret_int (by rfl), rfl⟩
set_option maxHeartbeats 1000000 in
theorem arc_ref (x : Inst) (A : Option Addr) (c : Nat) (B : Option Addr) (d : Nat) (a b : Int) (w : World) (h : InstIs w x A B) :
    Calls Tryd.prog 15 #[instV x A c B d, .int .i64 a, .int .i64 b] w fun e w' => e = .returned (.int .i64 (arcD x a b)) ∧ Below w.heap.size w w' := by
  have hm := h.wf.m
  have HB := Go.Lib.hid (below_alloc w (.cells #[.int .i64 x.days, .int .i64 x.veh, .int .i64 x.cap, .int .i64 x.len, .slice A x.custs.length c, .slice B x.dist.length d] 25))
  unfold instV at *
  unfold maxLen at hm
  by_cases ha : a < 0
  · rw [arcD_neg (.inl ha)]
    go_enter Tryd.func15, Tryd.ntmps15
    go_wp2
    go_ret
    exact ⟨rfl, HB.out⟩
  by_cases hb : b < 0
  · rw [arcD_neg (.inr hb)]
    go_enter Tryd.func15, Tryd.ntmps15
    go_wp2
    go_ret
    exact ⟨rfl, HB.out⟩
  obtain ⟨i, rfl⟩ : ∃ i : Nat, a = (i : Int) := ⟨a.toNat, by omega⟩
  obtain ⟨k, rfl⟩ : ∃ k : Nat, b = (k : Int) := ⟨b.toNat, by omega⟩
  by_cases hi : i < x.dist.length
  · obtain ⟨g, off, P, rl, r, rfl, h1, h2, h3, h4, h5, h6, h7⟩ := h.arc hi
    clear h3
    unfold maxLen at h4
    have k1 := keep_cell HB.out h1
    by_cases hk : k < rl
    · obtain ⟨g2, off2, rfl, g3, g4, g5⟩ := h7 k hk
      have k2 := keep_cell HB.out g3
      clear h6 h7 h
      generalize arcD x i k = v at *
      go_enter Tryd.func15, Tryd.ntmps15
      go_wp2
      go_ret
      exact ⟨rfl, HB.out⟩
    · rw [h6 k (by omega)]
      clear h6 h7 h
      go_enter Tryd.func15, Tryd.ntmps15
      go_wp2
      go_ret
      exact ⟨rfl, HB.out⟩
  · rw [arcD_row (by omega)]
    clear h
    go_enter Tryd.func15, Tryd.ntmps15
    go_wp2
    go_ret
    exact ⟨rfl, HB.out⟩
theorem arc_code_from {w : World} {x : Inst} {A B : Option Addr} (h : InstIs w x A B) (hs : Square x) (c d : Nat) (a b : Int) (W : World) (hb : Below w.heap.size w W) :
    Calls Tryd.prog 14 #[instV x A c B d, .int .i64 a, .int .i64 b] W fun e w' => e = .returned (.int .i64 (arcD x a b)) ∧ Below W.heap.size W w' ∧ Below w.heap.size w w' :=
  (arc_code x A c B d a b W (h.keep hb) hs).mono fun _ _ ⟨e, hb'⟩ => ⟨e, hb', hb.trans (hb'.mono hb.size)⟩
theorem arc_ref_from {w : World} {x : Inst} {A B : Option Addr} (h : InstIs w x A B) (c d : Nat) (a b : Int) (W : World) (hb : Below w.heap.size w W) :
    Calls Tryd.prog 15 #[instV x A c B d, .int .i64 a, .int .i64 b] W fun e w' => e = .returned (.int .i64 (arcD x a b)) ∧ Below W.heap.size W w' ∧ Below w.heap.size w w' :=
  (arc_ref x A c B d a b W (h.keep hb)).mono fun _ _ ⟨e, hb'⟩ => ⟨e, hb', hb.trans (hb'.mono hb.size)⟩
end Go.Proofs.YtmfahjghfpckeaaDoor
