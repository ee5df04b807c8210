/- What the document's functions on prices of sets answer. -/
import Derived.Test.YtmjogpbdgbgkhaaDoorDaysRefB
import Derived.Test.YtmjogpbdgbgkhaaDoorPrice
import Derived.Test.YtmjogpbdgbgkhaaDoorInt
namespace Go.Proofs.YtmjogpbdgbgkhaaDoor
open Go.RowKit
set_option linter.unusedVariables false

set_option maxHeartbeats 1000000 in
theorem sat_ref (a b : Int) (wa : (Lit.int .i64 a).wf = true) (wb : (Lit.int .i64 b).wf = true) (w : World) :
    Calls Tryd.prog 40 #[.int .i64 a, .int .i64 b] w fun e w' => e = .returned (.int .i64 (satV a b)) ∧ Below w.heap.size w w' := by
  have OA := of_any a wa
  have OB := of_any b wb
  cases hf : fitB (a + b)
  · have HF := Go.Lib.hid hf
    by_cases ha : a < 0
    · have e : satV a b = -9223372036854775808 := by unfold satV; rw [hf, if_neg (by decide), if_pos ha]
      rw [e]
      clear wa wb hf e
      go_enter Tryd.func40, Tryd.ntmps40
      go_wp2_with (first
        | (go_at_call 44; refine (OA _).mono ?_; rintro e w1 ⟨va, rfl, ga, ba⟩; clear OA)
        | (go_at_call 44; refine (OB _).mono ?_; rintro e w2 ⟨vb, rfl, gb, bb⟩; have ga2 := ga.keep bb; have b2 := ba.trans (bb.mono ba.size))
        | (go_at_call 43; refine (bigadd_any 4 _ _ _ _ _ ga2 gb (by decide)).mono ?_; rintro e w3 ⟨vr, rfl, gr, br⟩; have b3 := b2.trans (br.mono b2.size))
        | (go_at_call 42; refine (int_is gr (by decide) (fitV_false HF.out) HF.out).mono ?_; rintro e w4 ⟨rfl, bi⟩; have b4 := b3.trans (bi.mono b3.size)))
      go_ret
      exact ⟨rfl, b4⟩
    · have e : satV a b = 9223372036854775807 := by unfold satV; rw [hf, if_neg (by decide), if_neg ha]
      rw [e]
      clear wa wb hf e
      go_enter Tryd.func40, Tryd.ntmps40
      go_wp2_with (first
        | (go_at_call 44; refine (OA _).mono ?_; rintro e w1 ⟨va, rfl, ga, ba⟩; clear OA)
        | (go_at_call 44; refine (OB _).mono ?_; rintro e w2 ⟨vb, rfl, gb, bb⟩; have ga2 := ga.keep bb; have b2 := ba.trans (bb.mono ba.size))
        | (go_at_call 43; refine (bigadd_any 4 _ _ _ _ _ ga2 gb (by decide)).mono ?_; rintro e w3 ⟨vr, rfl, gr, br⟩; have b3 := b2.trans (br.mono b2.size))
        | (go_at_call 42; refine (int_is gr (by decide) (fitV_false HF.out) HF.out).mono ?_; rintro e w4 ⟨rfl, bi⟩; have b4 := b3.trans (bi.mono b3.size)))
      go_ret
      exact ⟨rfl, b4⟩
  · have HF := Go.Lib.hid hf
    obtain ⟨t, ht⟩ : ∃ t, satV a b = t := ⟨_, rfl⟩
    have e : fitV (a + b) = t := by rw [← ht]; unfold satV; rw [if_pos hf, fitV_true hf]
    have HE := Go.Lib.hid e
    rw [ht]
    clear wa wb hf e ht
    go_enter Tryd.func40, Tryd.ntmps40
    go_wp2_with (first
      | (go_at_call 44; refine (OA _).mono ?_; rintro e w1 ⟨va, rfl, ga, ba⟩; clear OA)
      | (go_at_call 44; refine (OB _).mono ?_; rintro e w2 ⟨vb, rfl, gb, bb⟩; have ga2 := ga.keep bb; have b2 := ba.trans (bb.mono ba.size))
      | (go_at_call 43; refine (bigadd_any 4 _ _ _ _ _ ga2 gb (by decide)).mono ?_; rintro e w3 ⟨vr, rfl, gr, br⟩; have b3 := b2.trans (br.mono b2.size))
      | (go_at_call 42; refine (int_is gr (by decide) HE.out HF.out).mono ?_; rintro e w4 ⟨rfl, bi⟩; have b4 := b3.trans (bi.mono b3.size)))
    go_ret
    exact ⟨rfl, b4⟩

set_option maxHeartbeats 1000000 in
theorem price_ref (s : Nat) (hs : s < 2 ^ 64) (A : Option Addr) (n c : Nat) (ps : List Int) (w : World) (hp : Ints w A n ps) (hn : n ≤ maxLen) (hw : ∀ k, -9223372036854775808 ≤ ps.getD k 0 ∧ ps.getD k 0 ≤ 9223372036854775807) :
    Calls Tryd.prog 30 #[.int .u64 s, .slice A n c] w fun e w' => e = .returned (.int .i64 (priceI s ps)) ∧ Below w.heap.size w w' := by
  unfold maxLen at hn
  have HA := Go.Lib.hid (all_ref s hs)
  have hlen := upTo_len s 64
  have hmem : ∀ x ∈ allI s, 0 ≤ x ∧ x < 64 := fun x hx => ⟨(mem_upTo.1 hx).1, (mem_upTo.1 hx).2.1⟩
  have e : priceI s ps = sumPrice ps (allI s) := rfl
  rw [e]
  obtain ⟨xs, hxs⟩ : ∃ xs, allI s = xs := ⟨_, rfl⟩
  rw [hxs] at HA hmem ⊢
  have hl : xs.length ≤ 64 := by rw [← hxs]; exact hlen
  have HP := Go.Lib.hid hp
  have HW := Go.Lib.hid hw
  have HMEM := Go.Lib.hid hmem
  clear hs hlen hxs hp hw hmem e
  go_enter Tryd.func30, Tryd.ntmps30
  go_wp2_with (go_at_call 13; refine (HA.out _).mono ?_; rintro e w1 ⟨C, cc, rfl, M, hc, B⟩; obtain ⟨m, hm⟩ : ∃ m, xs.length = m := ⟨_, rfl⟩; rw [hm] at M hc hl ⊢; have HM := Go.Lib.hid hm; clear hm)
  have MM := Go.Lib.hid M
  clear M
  go_loopw [6, 7] (fun sv iv wr => ∃ k : Nat, k ≤ m ∧ iv = .int .i64 k ∧ sv = .int .i64 (sumPrice ps (xs.take k)) ∧ Below w1.heap.size w1 wr) (fun _ iv _ => m - (intOf iv).toNat)
  case atStart => exact ⟨0, Nat.zero_le _, rfl, rfl, Below.refl _ _⟩
  case round =>
    obtain ⟨k, hk, rfl, rfl, hbl⟩ := hrel
    have hrg := sumPrice_rng ps (xs.take k)
    by_cases hlt : k < m
    · have HS := Go.Lib.hid (sumPrice_succ ps xs (k := k) (by rw [HM.out]; exact hlt))
      obtain ⟨acc, hacc⟩ : ∃ acc, sumPrice ps (xs.take k) = acc := ⟨_, rfl⟩
      rw [hacc] at HS hrg ⊢
      have wacc : (Lit.int .i64 acc).wf = true := wf_iff.2 hrg
      obtain ⟨b, off, rfl, hcs⟩ := (MM.out.keep hbl).2 (by omega)
      have hck := hcs k hlt
      obtain ⟨x, hx⟩ : ∃ x : Nat, xs.getD k 0 = (x : Int) := by
        have : xs.getD k 0 ∈ xs := by
          rw [List.getD_eq_getElem?_getD, List.getElem?_eq_getElem (by rw [HM.out]; exact hlt)]; exact List.getElem_mem _
        exact ⟨(xs.getD k 0).toNat, by have := HMEM.out _ this; omega⟩
      rw [hx] at hck HS
      have hpl : ps.length = n := HP.out.1
      clear hcs hx hacc hrg
      by_cases hxn : x < n
      · obtain ⟨b2, o2, rfl, hps⟩ := ((HP.out.keep B).keep hbl).2 (by omega)
        have hpx := hps x hxn
        obtain ⟨y, hy⟩ : ∃ y, ps.getD x 0 = y := ⟨_, rfl⟩
        rw [hy] at hpx
        have wy : (Lit.int .i64 y).wf = true := wf_iff.2 (hy ▸ HW.out x)
        have HE : Hid (addPrice ps acc (x : Int) = satV acc y) := by
          show addPrice ps acc (x : Int) = satV acc y
          unfold addPrice
          rw [if_pos (by rw [hpl]; omega), Int.toNat_natCast, hy]
        clear hps hy hpl
        go_wp2_with (go_at_call 40; refine (sat_ref _ _ wacc wy _).mono ?_; rintro e w2 ⟨rfl, hb2⟩; have hbl2 := hbl.trans (hb2.mono hbl.size))
        go_roundw
        case rel => exact ⟨k + 1, by omega, by go_num, by rw [HS.out, HE.out], hbl2⟩
        case measure => simp [intOf]; omega
      · have HE : Hid (addPrice ps acc (x : Int) = acc) := by
          show addPrice ps acc (x : Int) = acc
          unfold addPrice
          rw [if_neg (by rw [hpl]; omega)]
        clear hpl
        go_wp2
        go_roundw
        case rel => exact ⟨k + 1, by omega, by go_num, by rw [HS.out, HE.out], hbl⟩
        case measure => simp [intOf]; omega
    · have HS : Hid (sumPrice ps (xs.take k) = sumPrice ps xs) := by
        show _ = _
        rw [List.take_of_length_le (by rw [HM.out]; omega)]
      go_wp2
      go_ret
      exact ⟨ret_int HS.out, B.trans (hbl.mono B.size)⟩
end Go.Proofs.YtmjogpbdgbgkhaaDoor
