/- InstWays, off its code. -/
import Derived.Test.YtmfahjghfpckeaaDoorInstCheapL
namespace Go.Proofs.YtmfahjghfpckeaaDoor
open Go.RowKit Go.WideShapes
set_option linter.unusedVariables false
theorem tparts12 (a : Int) : a.tmod 12 < 12 ∧ -12 < a.tmod 12 := by
  have h := tparts a 12 (by omega)
  omega
set_option maxRecDepth 100000 in
set_option maxHeartbeats 8000000 in
theorem instWays_any (x : Inst) (A : Option Addr) (c : Nat) (B : Option Addr) (d : Nat) (a b : Int) (L : Option Addr) (n r : Nat) (l : List Int) (w : World) (hT : Tab w) (h : InstIs w x A B) (hl : Ints w L n l) (hlw : ∀ z ∈ l, W64 z) (hnr : n ≤ r) (hr : r ≤ maxLen) :
    Calls Tryd.prog 4 #[instV x A c B d, .int .i64 a, .int .i64 b, .slice L n r] w fun e w' => e = .returned (.bool true) ∧ Below w.heap.size w w' := by
  obtain ⟨i0, hi, hz0, hz1, hz2⟩ := info_parts info_int
  obtain ⟨y, hy⟩ : ∃ y, Made x y := ⟨_, made_of x⟩
  have hb0 := below_alloc w (.cells #[.int .i64 x.days, .int .i64 x.veh, .int .i64 x.cap, .int .i64 x.len, .slice A x.custs.length c, .slice B x.dist.length d] 25)
  have HB0 := Go.Lib.hid hb0
  have CG := fun W hb => Good_from h hy c d W hb
  have HM := Go.Lib.hid hy
  have HT := Go.Lib.hid hT
  have HLI := Go.Lib.hid hl
  have HLW := Go.Lib.hid hlw
  unfold maxLen at hr
  unfold instV
  clear h hT hy hb0 hl hlw
  by_cases hgt : 8 < n
  · have hgi : (8 : Int) < (n : Int) := by omega
    go_enter Tryd.func4, Tryd.ntmps4
    go_wp2_with (first
      | (go_at_call 12; refine (CG _ HB0.out).mono ?_; rintro e w1 ⟨A2, c2, B2, d2, rfl, hO, hY, hb1, hb1'⟩; have HYA := Go.Lib.hid hY; have HB1 := Go.Lib.hid (HB0.out.trans (hb1.mono HB0.out.size)); clear hO hb1 hb1'))
    obtain ⟨G, hG⟩ : ∃ G, G = w1.heap.size := ⟨_, rfl⟩
    obtain ⟨W1, hW1⟩ : ∃ W, W = w1.alloc (.cells #[.int .i64 y.days, .int .i64 y.veh, .int .i64 y.cap, .int .i64 y.len, .slice A2 y.custs.length c2, .slice B2 y.dist.length d2] 25) := ⟨_, rfl⟩
    rw [← hW1, ← hG] at HYA
    rw [← hW1] at HB1
    rw [← hW1, ← hG]
    clear hW1 hG hY CG
    go_loopw [10, 11] (fun ov iv wr => ∃ (k : Nat) (os : List Int), k ≤ 8 ∧ iv = .int .i64 k ∧ os.length = k ∧ (∀ z ∈ os, 0 ≤ z ∧ z ≤ 1000) ∧ wr.ownsRow W1.heap.size 3 1 ov k (os.map (Value.int .i64)) ∧ Below W1.heap.size W1 wr) (fun _ iv _ => 8 - (intOf iv).toNat)
    case atStart => exact ⟨0, [], Nat.zero_le _, rfl, rfl, (fun z hz => by simp at hz), World.ownsRow_nil _ _ _ _, Below.refl _ _⟩
    case round =>
      obtain ⟨k, os, hk, rfl, hol, hob, hown, hB⟩ := hrel
      have HOL := Go.Lib.hid hol
      have HOB := Go.Lib.hid hob
      have HB := Go.Lib.hid hB
      obtain ⟨Ao, co, rfl, hco⟩ := own_form hown
      clear hol hob hB
      by_cases hlt : k < 8
      · have hltI : (k : Int) < 8 := by omega
        have hkn : k < n := by omega
        have hkl : k < l.length := by rw [HLI.out.1]; exact hkn
        obtain ⟨bb, off, rfl, hce⟩ := HLI.out.2 (by omega)
        have HBw := Go.Lib.hid (HB1.out.trans (HB.out.mono HB1.out.size))
        have c0 := keep_cell HBw.out (hce k hkn)
        have hz := HLW.out _ (List.getElem_mem hkl)
        rw [getD_in _ _ hkl] at c0
        obtain ⟨z, hze⟩ : ∃ z, z = l[k] := ⟨_, rfl⟩
        rw [← hze] at c0 hz
        obtain ⟨z0, z1⟩ := hz
        have hbs := HB.out.size
        have hm1 := Int.emod_nonneg z (b := 12) (by omega)
        have hm2 := Int.emod_lt_of_pos z (b := 12) (by omega)
        have ht := tparts12 z
        obtain ⟨q, hq⟩ : ∃ q, q = z.tmod 12 := ⟨_, rfl⟩
        rw [← hq] at ht
        have HQ := Go.Lib.hid hq
        have hq2 : z.tmod 12 = q := hq.symm
        clear hce hkl hze hm1 hm2 hq
        by_cases hqn : q < 0
        · have HRow : Hid (∀ v' w3, w3.ownsRow W1.heap.size 3 1 v' (k + 1) (os.map (Value.int .i64) ++ [.int .i64 (-q)]) → Below W1.heap.size W1 w3 → ∃ os' : List Int, os'.length = k + 1 ∧ (∀ z ∈ os', 0 ≤ z ∧ z ≤ 1000) ∧ w3.ownsRow W1.heap.size 3 1 v' (k + 1) (os'.map (Value.int .i64))) := fun v' w3 h3 _ =>
            ⟨os ++ [-q], by simp [HOL.out], fun u hu => (List.mem_append.1 hu).elim (HOB.out u) (fun e => by simp at e; omega), by simpa using h3⟩
          go_wp2_with (at_builtin; refine wpList_append_own _ rfl _ _ 33 rfl W1.heap.size 3 i0 (.int .i64 0) 1 8 Tryd.underlying33 hi hz0 hz1 hz2 rfl (by decide) _ _ _ rfl (hown.alloc _) ⟨wr.heap.size, 0, none⟩ 1 1 [.int .i64 (-q)] rfl rfl (one_cell _ _ _) (one_okK _ _) (by unfold maxLen; omega) (by omega) (by have := HB.out.size; simp; omega) ?_; intro v' w3 hown' hgrow _; have R := (HB.out.alloc HB.out.size _).grown hgrow (by have := HB.out.size; simp; omega) (own_ge hown); clear hgrow)
          obtain ⟨os', e1, e2, e3⟩ := HRow.out v' w3 hown' R
          exact ⟨⟨k + 1, os', by omega, by go_num, e1, e2, e3, R⟩, by simp [intOf]; omega⟩
        · have HRow : Hid (∀ v' w3, w3.ownsRow W1.heap.size 3 1 v' (k + 1) (os.map (Value.int .i64) ++ [.int .i64 q]) → Below W1.heap.size W1 w3 → ∃ os' : List Int, os'.length = k + 1 ∧ (∀ z ∈ os', 0 ≤ z ∧ z ≤ 1000) ∧ w3.ownsRow W1.heap.size 3 1 v' (k + 1) (os'.map (Value.int .i64))) := fun v' w3 h3 _ =>
            ⟨os ++ [q], by simp [HOL.out], fun u hu => (List.mem_append.1 hu).elim (HOB.out u) (fun e => by simp at e; omega), by simpa using h3⟩
          go_wp2_with (at_builtin; refine wpList_append_own _ rfl _ _ 33 rfl W1.heap.size 3 i0 (.int .i64 0) 1 8 Tryd.underlying33 hi hz0 hz1 hz2 rfl (by decide) _ _ _ rfl (hown.alloc _) ⟨wr.heap.size, 0, none⟩ 1 1 [.int .i64 q] rfl rfl (one_cell _ _ _) (one_okK _ _) (by unfold maxLen; omega) (by omega) (by have := HB.out.size; simp; omega) ?_; intro v' w3 hown' hgrow _; have R := (HB.out.alloc HB.out.size _).grown hgrow (by have := HB.out.size; simp; omega) (own_ge hown); clear hgrow)
          obtain ⟨os', e1, e2, e3⟩ := HRow.out v' w3 hown' R
          exact ⟨⟨k + 1, os', by omega, by go_num, e1, e2, e3, R⟩, by simp [intOf]; omega⟩
      · obtain rfl : k = 8 := by omega
        have HYr := Go.Lib.hid (HYA.out.keep HB.out)
        obtain ⟨j0, j1, j2, j3, j4, j5⟩ := HYr.out.box.cells
        have HYd := Go.Lib.hid (HYr.out.keep (below_drew _))
        have HLd := Go.Lib.hid ((Ints.of_own hown).keep (below_drew _))
        have HBd := Go.Lib.hid ((HB1.out.trans (HB.out.mono HB1.out.size)).drew)
        have ht : TourL os := ⟨by rw [HOL.out]; omega, HOB.out⟩
        have CA := fun W (h : InstIs W y A2 B2) => arc_code y A2 c2 B2 d2 a b W h HM.out.sq
        have CR := fun W (h : InstIs W y A2 B2) => arc_ref y A2 c2 B2 d2 a b W h
        have CW := fun W (h : InstIs W y A2 B2) hl => way_code y A2 c2 B2 d2 Ao (8) co os W h HM.out.sq HM.out.small hl ht
        have CV := fun W (h : InstIs W y A2 B2) hl => way_ref y A2 c2 B2 d2 Ao (8) co os W h HM.out.small hl ht
        unfold instV at CA CR CW CV
        have CL := fun W hb => lives6_any W (HT.out.keep hb)
        clear ht hown
        generalize arcD y a b = av at *
        generalize wayD y os = wv at *
        go_wp2_with fail
        go_region_held3 (fun w' => w'.cell? ⟨G, 0, none⟩ = some (.int .i64 y.days) ∧ w'.cell? ⟨G, 1, none⟩ = some (.int .i64 y.veh) ∧ w'.cell? ⟨G, 2, none⟩ = some (.int .i64 y.cap) ∧ w'.cell? ⟨G, 3, none⟩ = some (.int .i64 y.len) ∧ w'.cell? ⟨G, 4, none⟩ = some (.slice A2 y.custs.length c2) ∧ w'.cell? ⟨G, 5, none⟩ = some (.slice B2 y.dist.length d2))
          (first | exact ⟨j0, j1, j2, j3, j4, j5⟩ | exact HYd.out.box.cells | go_keep)
          (first
            | (go_at_call 14; (with_reducible refine (CA _ HYd.out.inst).mono ?_); rintro e w6 ⟨rfl, hb6⟩; have HY6 := Go.Lib.hid (HYd.out.keep hb6); have HL6 := Go.Lib.hid (HLd.out.keep hb6); have HB6 := Go.Lib.hid (HBd.out.trans (hb6.mono HBd.out.size)); clear HYd HLd HBd; have HYd := HY6; have HLd := HL6; have HBd := HB6; clear HY6 HL6 HB6 hb6)
            | (go_at_call 15; (with_reducible refine (CR _ HYd.out.inst).mono ?_); rintro e w6 ⟨rfl, hb6⟩; have HY6 := Go.Lib.hid (HYd.out.keep hb6); have HL6 := Go.Lib.hid (HLd.out.keep hb6); have HB6 := Go.Lib.hid (HBd.out.trans (hb6.mono HBd.out.size)); clear HYd HLd HBd; have HYd := HY6; have HLd := HL6; have HBd := HB6; clear HY6 HL6 HB6 hb6)
            | (go_at_call 16; (with_reducible refine (CW _ HYd.out.inst HLd.out).mono ?_); rintro e w6 ⟨rfl, hb6⟩; have HY6 := Go.Lib.hid (HYd.out.keep hb6); have HL6 := Go.Lib.hid (HLd.out.keep hb6); have HB6 := Go.Lib.hid (HBd.out.trans (hb6.mono HBd.out.size)); clear HYd HLd HBd; have HYd := HY6; have HLd := HL6; have HBd := HB6; clear HY6 HL6 HB6 hb6)
            | (go_at_call 17; (with_reducible refine (CV _ HYd.out.inst HLd.out).mono ?_); rintro e w6 ⟨rfl, hb6⟩; have HY6 := Go.Lib.hid (HYd.out.keep hb6); have HL6 := Go.Lib.hid (HLd.out.keep hb6); have HB6 := Go.Lib.hid (HBd.out.trans (hb6.mono HBd.out.size)); clear HYd HLd HBd; have HYd := HY6; have HLd := HL6; have HBd := HB6; clear HY6 HL6 HB6 hb6)
            | (go_at_call 13; (with_reducible refine (CL _ HBd.out).mono ?_); rintro e w6 ⟨rfl, hb6⟩; have HY6 := Go.Lib.hid (HYd.out.keep hb6); have HL6 := Go.Lib.hid (HLd.out.keep hb6); have HB6 := Go.Lib.hid (HBd.out.trans (hb6.mono HBd.out.size)); clear HYd HLd HBd; have HYd := HY6; have HLd := HL6; have HBd := HB6; clear HY6 HL6 HB6 hb6))
        all_goals
          go_wp2
          go_ret
          exact ⟨rfl, HBd.out⟩
  · have hgi : ¬ (8 : Int) < (n : Int) := by omega
    have hn8 : n ≤ 8 := by omega
    go_enter Tryd.func4, Tryd.ntmps4
    go_wp2_with (first
      | (go_at_call 12; refine (CG _ HB0.out).mono ?_; rintro e w1 ⟨A2, c2, B2, d2, rfl, hO, hY, hb1, hb1'⟩; have HYA := Go.Lib.hid hY; have HB1 := Go.Lib.hid (HB0.out.trans (hb1.mono HB0.out.size)); clear hO hb1 hb1'))
    obtain ⟨G, hG⟩ : ∃ G, G = w1.heap.size := ⟨_, rfl⟩
    obtain ⟨W1, hW1⟩ : ∃ W, W = w1.alloc (.cells #[.int .i64 y.days, .int .i64 y.veh, .int .i64 y.cap, .int .i64 y.len, .slice A2 y.custs.length c2, .slice B2 y.dist.length d2] 25) := ⟨_, rfl⟩
    rw [← hW1, ← hG] at HYA
    rw [← hW1] at HB1
    rw [← hW1, ← hG]
    clear hW1 hG hY CG
    go_loopw [10, 11] (fun ov iv wr => ∃ (k : Nat) (os : List Int), k ≤ n ∧ iv = .int .i64 k ∧ os.length = k ∧ (∀ z ∈ os, 0 ≤ z ∧ z ≤ 1000) ∧ wr.ownsRow W1.heap.size 3 1 ov k (os.map (Value.int .i64)) ∧ Below W1.heap.size W1 wr) (fun _ iv _ => n - (intOf iv).toNat)
    case atStart => exact ⟨0, [], Nat.zero_le _, rfl, rfl, (fun z hz => by simp at hz), World.ownsRow_nil _ _ _ _, Below.refl _ _⟩
    case round =>
      obtain ⟨k, os, hk, rfl, hol, hob, hown, hB⟩ := hrel
      have HOL := Go.Lib.hid hol
      have HOB := Go.Lib.hid hob
      have HB := Go.Lib.hid hB
      obtain ⟨Ao, co, rfl, hco⟩ := own_form hown
      clear hol hob hB
      by_cases hlt : k < n
      · have hltI : (k : Int) < (n : Int) := by omega
        have hkn : k < n := by omega
        have hkl : k < l.length := by rw [HLI.out.1]; exact hkn
        obtain ⟨bb, off, rfl, hce⟩ := HLI.out.2 (by omega)
        have HBw := Go.Lib.hid (HB1.out.trans (HB.out.mono HB1.out.size))
        have c0 := keep_cell HBw.out (hce k hkn)
        have hz := HLW.out _ (List.getElem_mem hkl)
        rw [getD_in _ _ hkl] at c0
        obtain ⟨z, hze⟩ : ∃ z, z = l[k] := ⟨_, rfl⟩
        rw [← hze] at c0 hz
        obtain ⟨z0, z1⟩ := hz
        have hbs := HB.out.size
        have hm1 := Int.emod_nonneg z (b := 12) (by omega)
        have hm2 := Int.emod_lt_of_pos z (b := 12) (by omega)
        have ht := tparts12 z
        obtain ⟨q, hq⟩ : ∃ q, q = z.tmod 12 := ⟨_, rfl⟩
        rw [← hq] at ht
        have HQ := Go.Lib.hid hq
        have hq2 : z.tmod 12 = q := hq.symm
        clear hce hkl hze hm1 hm2 hq
        by_cases hqn : q < 0
        · have HRow : Hid (∀ v' w3, w3.ownsRow W1.heap.size 3 1 v' (k + 1) (os.map (Value.int .i64) ++ [.int .i64 (-q)]) → Below W1.heap.size W1 w3 → ∃ os' : List Int, os'.length = k + 1 ∧ (∀ z ∈ os', 0 ≤ z ∧ z ≤ 1000) ∧ w3.ownsRow W1.heap.size 3 1 v' (k + 1) (os'.map (Value.int .i64))) := fun v' w3 h3 _ =>
            ⟨os ++ [-q], by simp [HOL.out], fun u hu => (List.mem_append.1 hu).elim (HOB.out u) (fun e => by simp at e; omega), by simpa using h3⟩
          go_wp2_with (at_builtin; refine wpList_append_own _ rfl _ _ 33 rfl W1.heap.size 3 i0 (.int .i64 0) 1 8 Tryd.underlying33 hi hz0 hz1 hz2 rfl (by decide) _ _ _ rfl (hown.alloc _) ⟨wr.heap.size, 0, none⟩ 1 1 [.int .i64 (-q)] rfl rfl (one_cell _ _ _) (one_okK _ _) (by unfold maxLen; omega) (by omega) (by have := HB.out.size; simp; omega) ?_; intro v' w3 hown' hgrow _; have R := (HB.out.alloc HB.out.size _).grown hgrow (by have := HB.out.size; simp; omega) (own_ge hown); clear hgrow)
          obtain ⟨os', e1, e2, e3⟩ := HRow.out v' w3 hown' R
          exact ⟨⟨k + 1, os', by omega, by go_num, e1, e2, e3, R⟩, by simp [intOf]; omega⟩
        · have HRow : Hid (∀ v' w3, w3.ownsRow W1.heap.size 3 1 v' (k + 1) (os.map (Value.int .i64) ++ [.int .i64 q]) → Below W1.heap.size W1 w3 → ∃ os' : List Int, os'.length = k + 1 ∧ (∀ z ∈ os', 0 ≤ z ∧ z ≤ 1000) ∧ w3.ownsRow W1.heap.size 3 1 v' (k + 1) (os'.map (Value.int .i64))) := fun v' w3 h3 _ =>
            ⟨os ++ [q], by simp [HOL.out], fun u hu => (List.mem_append.1 hu).elim (HOB.out u) (fun e => by simp at e; omega), by simpa using h3⟩
          go_wp2_with (at_builtin; refine wpList_append_own _ rfl _ _ 33 rfl W1.heap.size 3 i0 (.int .i64 0) 1 8 Tryd.underlying33 hi hz0 hz1 hz2 rfl (by decide) _ _ _ rfl (hown.alloc _) ⟨wr.heap.size, 0, none⟩ 1 1 [.int .i64 q] rfl rfl (one_cell _ _ _) (one_okK _ _) (by unfold maxLen; omega) (by omega) (by have := HB.out.size; simp; omega) ?_; intro v' w3 hown' hgrow _; have R := (HB.out.alloc HB.out.size _).grown hgrow (by have := HB.out.size; simp; omega) (own_ge hown); clear hgrow)
          obtain ⟨os', e1, e2, e3⟩ := HRow.out v' w3 hown' R
          exact ⟨⟨k + 1, os', by omega, by go_num, e1, e2, e3, R⟩, by simp [intOf]; omega⟩
      · obtain rfl : n = k := by omega
        have HYr := Go.Lib.hid (HYA.out.keep HB.out)
        obtain ⟨j0, j1, j2, j3, j4, j5⟩ := HYr.out.box.cells
        have HYd := Go.Lib.hid (HYr.out.keep (below_drew _))
        have HLd := Go.Lib.hid ((Ints.of_own hown).keep (below_drew _))
        have HBd := Go.Lib.hid ((HB1.out.trans (HB.out.mono HB1.out.size)).drew)
        have ht : TourL os := ⟨by rw [HOL.out]; omega, HOB.out⟩
        have CA := fun W (h : InstIs W y A2 B2) => arc_code y A2 c2 B2 d2 a b W h HM.out.sq
        have CR := fun W (h : InstIs W y A2 B2) => arc_ref y A2 c2 B2 d2 a b W h
        have CW := fun W (h : InstIs W y A2 B2) hl => way_code y A2 c2 B2 d2 Ao (n) co os W h HM.out.sq HM.out.small hl ht
        have CV := fun W (h : InstIs W y A2 B2) hl => way_ref y A2 c2 B2 d2 Ao (n) co os W h HM.out.small hl ht
        unfold instV at CA CR CW CV
        have CL := fun W hb => lives6_any W (HT.out.keep hb)
        clear ht hown
        generalize arcD y a b = av at *
        generalize wayD y os = wv at *
        go_wp2_with fail
        go_region_held3 (fun w' => w'.cell? ⟨G, 0, none⟩ = some (.int .i64 y.days) ∧ w'.cell? ⟨G, 1, none⟩ = some (.int .i64 y.veh) ∧ w'.cell? ⟨G, 2, none⟩ = some (.int .i64 y.cap) ∧ w'.cell? ⟨G, 3, none⟩ = some (.int .i64 y.len) ∧ w'.cell? ⟨G, 4, none⟩ = some (.slice A2 y.custs.length c2) ∧ w'.cell? ⟨G, 5, none⟩ = some (.slice B2 y.dist.length d2))
          (first | exact ⟨j0, j1, j2, j3, j4, j5⟩ | exact HYd.out.box.cells | go_keep)
          (first
            | (go_at_call 14; (with_reducible refine (CA _ HYd.out.inst).mono ?_); rintro e w6 ⟨rfl, hb6⟩; have HY6 := Go.Lib.hid (HYd.out.keep hb6); have HL6 := Go.Lib.hid (HLd.out.keep hb6); have HB6 := Go.Lib.hid (HBd.out.trans (hb6.mono HBd.out.size)); clear HYd HLd HBd; have HYd := HY6; have HLd := HL6; have HBd := HB6; clear HY6 HL6 HB6 hb6)
            | (go_at_call 15; (with_reducible refine (CR _ HYd.out.inst).mono ?_); rintro e w6 ⟨rfl, hb6⟩; have HY6 := Go.Lib.hid (HYd.out.keep hb6); have HL6 := Go.Lib.hid (HLd.out.keep hb6); have HB6 := Go.Lib.hid (HBd.out.trans (hb6.mono HBd.out.size)); clear HYd HLd HBd; have HYd := HY6; have HLd := HL6; have HBd := HB6; clear HY6 HL6 HB6 hb6)
            | (go_at_call 16; (with_reducible refine (CW _ HYd.out.inst HLd.out).mono ?_); rintro e w6 ⟨rfl, hb6⟩; have HY6 := Go.Lib.hid (HYd.out.keep hb6); have HL6 := Go.Lib.hid (HLd.out.keep hb6); have HB6 := Go.Lib.hid (HBd.out.trans (hb6.mono HBd.out.size)); clear HYd HLd HBd; have HYd := HY6; have HLd := HL6; have HBd := HB6; clear HY6 HL6 HB6 hb6)
            | (go_at_call 17; (with_reducible refine (CV _ HYd.out.inst HLd.out).mono ?_); rintro e w6 ⟨rfl, hb6⟩; have HY6 := Go.Lib.hid (HYd.out.keep hb6); have HL6 := Go.Lib.hid (HLd.out.keep hb6); have HB6 := Go.Lib.hid (HBd.out.trans (hb6.mono HBd.out.size)); clear HYd HLd HBd; have HYd := HY6; have HLd := HL6; have HBd := HB6; clear HY6 HL6 HB6 hb6)
            | (go_at_call 13; (with_reducible refine (CL _ HBd.out).mono ?_); rintro e w6 ⟨rfl, hb6⟩; have HY6 := Go.Lib.hid (HYd.out.keep hb6); have HL6 := Go.Lib.hid (HLd.out.keep hb6); have HB6 := Go.Lib.hid (HBd.out.trans (hb6.mono HBd.out.size)); clear HYd HLd HBd; have HYd := HY6; have HLd := HL6; have HBd := HB6; clear HY6 HL6 HB6 hb6))
        all_goals
          go_wp2
          go_ret
          exact ⟨rfl, HBd.out⟩
section
variable {H : Type} {enc : TypeId × Value → H} {base : Nat}
theorem ints_open {W : World} {v : Value} {d : DataW H} {p : List MemPlace} (k : DataW.Trod enc Tryd.prog W 0 (fun _ => true) true 33 v d p) (o : Value.okWide Tryd.prog W .any base 33 v) :
    ∃ L n r l, v = .slice L n r ∧ Ints W L n l ∧ (∀ z ∈ l, W64 z) ∧ n ≤ r ∧ r ≤ maxLen := by
  obtain ⟨A, n, c, rfl⟩ := okWide_slice Tryd.underlying33 o
  obtain ⟨fuel, h⟩ := k
  obtain ⟨L, m, r, l, e, h1, h2, h3, h4⟩ := nums_open Tryd.underlying33 Tryd.underlying3 (by kernel_rfl) (show DataW.trod enc Tryd.prog W 0 (fun _ => true) true fuel 33 [.slice A n c] = some (d, p) from h)
  exact ⟨L, m, r, l, e, h3, fun z hz => wf_iff.1 (h4 z hz), h1, h2⟩
theorem instWays_frame (W : World) {v0 v1 v2 v3 : Value} {d0 d3 : DataW H} {p0 p3 : List MemPlace} (k0 : DataW.Trod enc Tryd.prog W 0 (fun _ => true) true 25 v0 d0 p0) (o0 : Value.okWide Tryd.prog W .any base 25 v0)
    (o1 : Value.okWide Tryd.prog W .any base 3 v1) (o2 : Value.okWide Tryd.prog W .any base 3 v2) (k3 : DataW.Trod enc Tryd.prog W 0 (fun _ => true) true 33 v3 d3 p3) (o3 : Value.okWide Tryd.prog W .any base 33 v3) (hT : Tab W) :
    Calls Tryd.prog 4 #[v0, v1, v2, v3] W fun e w' => e = .returned (.bool true) ∧ Below W.heap.size W w' := by
  obtain ⟨x, A, c, B, e, rfl, hI⟩ := inst_open k0 o0
  obtain ⟨a, rfl⟩ := okWide_int Tryd.underlying3 o1
  obtain ⟨b, rfl⟩ := okWide_int Tryd.underlying3 o2
  obtain ⟨L, n, r, l, rfl, h1, h2, h3, h4⟩ := ints_open k3 o3
  exact instWays_any x A c B e a b L n r l W hT hI h1 h2 h3 h4
end
end Go.Proofs.YtmfahjghfpckeaaDoor
