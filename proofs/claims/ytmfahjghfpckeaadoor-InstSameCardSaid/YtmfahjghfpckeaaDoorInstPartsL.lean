/- InstParts: a tour's way is that of its parts; and off its code. -/
import Derived.Test.YtmfahjghfpckeaaDoorInstWaysL
namespace Go.Proofs.YtmfahjghfpckeaaDoor
open Go.RowKit Go.WideShapes
set_option linter.unusedVariables false
theorem wayF_app (y : Inst) : ∀ (l : List Int) (p a b : Int) (r : List Int), wayF y p (l ++ a :: b :: r) = wayF y p (l ++ [a]) + wayF y 0 (b :: r) - arcD y (a + 1) 0 - arcD y 0 (b + 1) + arcD y (a + 1) (b + 1)
  | [], p, a, b, r => by simp only [List.nil_append, wayF]; omega
  | c :: l, p, a, b, r => by
    simp only [List.cons_append, wayF]
    rw [wayF_app y l (c + 1) a b r]
    simp only [wayF]
    omega
theorem way_parts (y : Inst) {l : List Int} {k : Nat} (h0 : 0 < k) (h1 : k < l.length) :
    wayD y l = wayD y (l.take k) + wayD y (l.drop k) - arcD y (l.getD (k - 1) 0 + 1) 0 - arcD y 0 (l.getD k 0 + 1) + arcD y (l.getD (k - 1) 0 + 1) (l.getD k 0 + 1) := by
  have e1 : wayD y l = wayF y 0 l := if_neg (fun e => by rw [e] at h1; simp at h1)
  have e2 : wayD y (l.take k) = wayF y 0 (l.take k) := if_neg (fun e => by have := congrArg List.length e; rw [List.length_take] at this; simp only [List.length_nil] at this; omega)
  have e3 : wayD y (l.drop k) = wayF y 0 (l.drop k) := if_neg (fun e => by have := congrArg List.length e; rw [List.length_drop] at this; simp only [List.length_nil] at this; omega)
  rw [e1, e2, e3]
  have t1 : l.take k = l.take (k - 1) ++ [l.getD (k - 1) 0] := by
    have := List.take_succ_eq_append_getElem (l := l) (i := k - 1) (by omega)
    rw [show k - 1 + 1 = k by omega] at this
    rw [this, getD_in _ _ (by omega)]
  have t2 : l.drop k = l.getD k 0 :: l.drop (k + 1) := drop_getD h1
  have t3 : l = l.take (k - 1) ++ l.getD (k - 1) 0 :: l.getD k 0 :: l.drop (k + 1) := by
    conv => lhs; rw [← List.take_append_drop k l, t1, t2]
    simp
  have h := wayF_app y (l.take (k - 1)) 0 (l.getD (k - 1) 0) (l.getD k 0) (l.drop (k + 1))
  rw [← t3] at h
  rw [t1, t2]
  exact h
theorem ints_drop {w : World} {b o n : Nat} {xs : List Int} (h : Ints w (some ⟨b, o, none⟩) n xs) (k : Nat) (hk : k ≤ n) : Ints w (some ⟨b, o + k, none⟩) (n - k) (xs.drop k) := by
  refine ⟨by rw [List.length_drop, h.1], fun h0 => ⟨b, o + k, rfl, fun j hj => ?_⟩⟩
  obtain ⟨b', off, e, hc⟩ := h.2 (by omega)
  injection e with e
  injection e with e1 e2
  subst e1
  subst e2
  have := hc (k + j) (by omega)
  rw [← Nat.add_assoc] at this
  rw [this, getD_in _ _ (by rw [h.1]; omega), getD_in _ _ (by rw [List.length_drop, h.1]; omega), List.getElem_drop]
theorem tour_take {l : List Int} (h : TourL l) (k : Nat) : TourL (l.take k) := ⟨by rw [List.length_take]; have := h.1; omega, fun c hc => h.2 c (List.mem_of_mem_take hc)⟩
theorem tour_drop {l : List Int} (h : TourL l) (k : Nat) : TourL (l.drop k) := ⟨by rw [List.length_drop]; have := h.1; omega, fun c hc => h.2 c (List.mem_of_mem_drop hc)⟩
set_option maxRecDepth 100000 in
set_option maxHeartbeats 8000000 in
theorem instParts_any (x : Inst) (A : Option Addr) (c : Nat) (B : Option Addr) (d : Nat) (L : Option Addr) (n r : Nat) (l : List Int) (at' : Int) (w : World) (hT : Tab w) (h : InstIs w x A B) (hl : Ints w L n l) (hlw : ∀ z ∈ l, W64 z) (hnr : n ≤ r) (hr : r ≤ maxLen) (hat : W64 at') :
    Calls Tryd.prog 8 #[instV x A c B d, .slice L n r, .int .i64 at'] w fun e w' => e = .returned (.bool true) ∧ Below w.heap.size w w' := by
  obtain ⟨i0, hi, hz0, hz1, hz2⟩ := info_parts info_int
  obtain ⟨y, hy⟩ : ∃ y, Made x y := ⟨_, made_of x⟩
  have hb0 := below_alloc w (.cells #[.int .i64 x.days, .int .i64 x.veh, .int .i64 x.cap, .int .i64 x.len, .slice A x.custs.length c, .slice B x.dist.length d] 25)
  have HB0 := Go.Lib.hid hb0
  have CG := fun W hb => Good_from h hy c d W hb
  have HM := Go.Lib.hid hy
  have HT := Go.Lib.hid hT
  have HLI := Go.Lib.hid hl
  have HLW := Go.Lib.hid hlw
  have hyn := hy.n
  obtain ⟨at0, at1⟩ := hat
  unfold maxLen at hr
  unfold instV
  clear h hT hy hb0 hl hlw
  go_enter Tryd.func8, Tryd.ntmps8
  go_wp2_with (first
    | (go_at_call 12; refine (CG _ HB0.out).mono ?_; rintro e w1 ⟨A2, c2, B2, d2, rfl, hO, hY, hb1, hb1'⟩; have HYA := Go.Lib.hid hY; have HB1 := Go.Lib.hid (HB0.out.trans (hb1.mono HB0.out.size)); clear hO hb1 hb1'))
  obtain ⟨G, hG⟩ : ∃ G, G = w1.heap.size := ⟨_, rfl⟩
  obtain ⟨W1, hW1⟩ : ∃ W, W = w1.alloc (.cells #[.int .i64 y.days, .int .i64 y.veh, .int .i64 y.cap, .int .i64 y.len, .slice A2 y.custs.length c2, .slice B2 y.dist.length d2] 25) := ⟨_, rfl⟩
  rw [← hW1, ← hG] at HYA
  rw [← hW1] at HB1
  rw [← hW1, ← hG]
  clear hW1 hG hY CG
  go_loopw [8, 9] (fun ov iv wr => ∃ (k m : Nat) (os : List Int), k ≤ n ∧ k ≤ 8 ∧ m ≤ k ∧ iv = .int .i64 k ∧ os.length = m ∧ (∀ z ∈ os, 0 ≤ z ∧ z < y.custs.length) ∧ wr.ownsRow W1.heap.size 3 1 ov m (os.map (Value.int .i64)) ∧ Below W1.heap.size W1 wr) (fun _ iv _ => n - (intOf iv).toNat)
  case atStart => exact ⟨0, 0, [], Nat.zero_le _, by omega, by omega, rfl, rfl, (fun z hz => by simp at hz), World.ownsRow_nil _ _ _ _, Below.refl _ _⟩
  case round =>
    obtain ⟨k, m, os, hkn, hk8, hmk, rfl, hol, hob, hown, hB⟩ := hrel
    have HOL := Go.Lib.hid hol
    have HOB := Go.Lib.hid hob
    have HB := Go.Lib.hid hB
    obtain ⟨Ao, co, rfl, hco⟩ := own_form hown
    have HYr := Go.Lib.hid (HYA.out.keep HB.out)
    obtain ⟨j0, j1, j2, j3, j4, j5⟩ := HYr.out.box.cells
    clear hol hob hB
    by_cases hgo : k < n ∧ k < 8
    · obtain ⟨hlt, h8⟩ := hgo
      have h8' : (k : Int) < 8 := by omega
      have hltI : (k : Int) < (n : Int) := by omega
      have hkl : k < l.length := by rw [HLI.out.1]; exact hlt
      obtain ⟨bb, off, rfl, hce⟩ := HLI.out.2 (by omega)
      have HBw := Go.Lib.hid (HB1.out.trans (HB.out.mono HB1.out.size))
      have c0 := keep_cell HBw.out (hce k hlt)
      have hz := HLW.out _ (List.getElem_mem hkl)
      rw [getD_in _ _ hkl] at c0
      obtain ⟨z, hze⟩ : ∃ z, z = l[k] := ⟨_, rfl⟩
      rw [← hze] at c0 hz
      obtain ⟨z0, z1⟩ := hz
      clear hce hkl hze
      by_cases hz0' : 0 ≤ z
      · by_cases hzn : z < (y.custs.length : Int)
        · have H7 : Hid (∀ (v' : Value) (w3 : World), w3.ownsRow W1.heap.size 3 1 v' (m + 1) (os.map (Value.int .i64) ++ [.int .i64 z]) → w3.ownsRow W1.heap.size 3 1 v' (m + 1) ((os ++ [z]).map (Value.int .i64))) := fun v' w3 h3 => by simpa using h3
          have H4 : Hid (∀ u ∈ os ++ [z], 0 ≤ u ∧ u < y.custs.length) := fun u hu => (List.mem_append.1 hu).elim (HOB.out u) (fun e => by simp at e; omega)
          have H5 : Hid ((os ++ [z]).length = m + 1) := by show _ = _; rw [List.length_append, HOL.out]; rfl
          go_wp2
          go_quiet (fail)
          have hownq := own_keep hown (below_drewN (Below.refl _ _) nq)
          have HBq := Go.Lib.hid (below_drewN HB.out nq)
          have hsq : W1.heap.size ≤ wr.heap.size := HB.out.size
          go_wp2_with (at_builtin; refine wpList_append_own _ rfl _ _ 33 rfl W1.heap.size 3 i0 (.int .i64 0) 1 8 Tryd.underlying33 hi hz0 hz1 hz2 rfl (by decide) _ _ _ rfl (hownq.alloc _) ⟨(wr.drewN nq).heap.size, 0, none⟩ 1 1 [.int .i64 z] rfl rfl (one_cell _ _ _) (one_okK _ _) (by unfold maxLen; omega) (by omega) (by have := HBq.out.size; simp; omega) ?_; intro v' w3 hown' hgrow _; have R := (HBq.out.alloc HBq.out.size _).grown hgrow (by have := HBq.out.size; simp; omega) (own_ge hown); clear hgrow)
          exact ⟨⟨k + 1, m + 1, os ++ [z], by omega, by omega, by omega, by go_num, H5.out, H4.out, H7.out _ _ hown', R⟩, by simp [intOf]; omega⟩
        · have hd0 : decide (z < (y.custs.length : Int)) = false := decide_eq_false hzn
          go_wp2
          go_quiet (fail)
          go_wp2
          go_roundw
          case rel => exact ⟨k + 1, m, os, by omega, by omega, by omega, by go_num, HOL.out, HOB.out, own_keep hown (below_drewN (Below.refl _ _) _), below_drewN HB.out _⟩
          case measure => simp [intOf]; omega
      · have hd0 : decide (0 ≤ z) = false := decide_eq_false hz0'
        go_wp2
        go_quiet (fail)
        go_wp2
        go_roundw
        case rel => exact ⟨k + 1, m, os, by omega, by omega, by omega, by go_num, HOL.out, HOB.out, own_keep hown (below_drewN (Below.refl _ _) _), below_drewN HB.out _⟩
        case measure => simp [intOf]; omega
    · have hst : (¬ k < n ∧ k ≤ 8) ∨ (k < n ∧ (8 : Int) ≤ (k : Int) ∧ k ≤ 8) := by
        by_cases h : k < n
        · exact .inr ⟨h, by have : ¬ k < 8 := fun h2 => hgo ⟨h, h2⟩; omega, hk8⟩
        · exact .inl ⟨h, hk8⟩
      have HBr := Go.Lib.hid (HB1.out.trans (HB.out.mono HB1.out.size))
      have CL := fun W hb => lives6_any W (HT.out.keep hb)
      clear hgo
      by_cases ha1 : at' < 1
      · clear hown
        rcases hst with ⟨a1, a2⟩ | ⟨a1, a2, a3⟩
        all_goals
          go_wp2_with (go_at_call 13; refine (CL _ HBr.out).mono ?_; rintro e w6 ⟨rfl, hb6⟩; have HB6 := Go.Lib.hid (HBr.out.trans (hb6.mono HBr.out.size)); clear hb6)
          go_ret
          exact ⟨rfl, HB6.out⟩
      · by_cases ha2 : (m : Int) ≤ at'
        · clear hown
          rcases hst with ⟨a1, a2⟩ | ⟨a1, a2, a3⟩
          all_goals
            go_wp2_with (go_at_call 13; refine (CL _ HBr.out).mono ?_; rintro e w6 ⟨rfl, hb6⟩; have HB6 := Go.Lib.hid (HBr.out.trans (hb6.mono HBr.out.size)); clear hb6)
            go_ret
            exact ⟨rfl, HB6.out⟩
        · obtain ⟨q, rfl⟩ : ∃ q : Nat, at' = (q : Int) := ⟨at'.toNat, by omega⟩
          have hq0 : 0 < q := by omega
          have hqm : q < m := by omega
          have HOw := Ints.of_own hown
          obtain ⟨bo, oo, rfl, hce⟩ := HOw.2 (by omega)
          have c1 := hce (q - 1) (by omega)
          have c2' := hce q hqm
          have hol := HOL.out
          have hv0 := HOB.out _ (List.getElem_mem (show q - 1 < os.length by omega))
          have hv1 := HOB.out _ (List.getElem_mem (show q < os.length by omega))
          rw [← getD_in _ 0 (by omega)] at hv0 hv1
          have hpt := way_parts y hq0 (by omega : q < os.length)
          have hw0 : ∀ l : List Int, l.length ≤ 8 → 0 ≤ wayD y l ∧ wayD y l ≤ 540 := fun l hl => by
            unfold wayD
            split
            · omega
            · have := wayF_bd HM.out.small l 0
              omega
          have e1 := hw0 (os.take q) (by rw [List.length_take]; omega)
          have e2 := hw0 (os.drop q) (by rw [List.length_drop]; omega)
          have ht : TourL os := ⟨by rw [HOL.out]; omega, fun u hu => by have := HOB.out u hu; omega⟩
          have HYd := Go.Lib.hid (HYr.out.keep (below_drew _))
          have HLd := Go.Lib.hid (HOw.keep (below_drew _))
          have HBd := Go.Lib.hid (HBr.out.drew)
          have CA := fun W a b (h : InstIs W y A2 B2) => arc_code y A2 c2 B2 d2 a b W h HM.out.sq
          have C1 := fun W (h : InstIs W y A2 B2) (hl : Ints W (some ⟨bo, oo, none⟩) m os) => way_code y A2 c2 B2 d2 (some ⟨bo, oo, none⟩) q co (os.take q) W h HM.out.sq HM.out.small (Ints.cut hl (by omega)) (tour_take ht q)
          have C2 := fun W (h : InstIs W y A2 B2) (hl : Ints W (some ⟨bo, oo, none⟩) m os) => way_code y A2 c2 B2 d2 (some ⟨bo, oo + q, none⟩) (m - q) (co - q) (os.drop q) W h HM.out.sq HM.out.small (ints_drop hl q (by omega)) (tour_drop ht q)
          have CW := fun W (h : InstIs W y A2 B2) hl => way_code y A2 c2 B2 d2 (some ⟨bo, oo, none⟩) m co os W h HM.out.sq HM.out.small hl ht
          unfold instV at CA C1 C2 CW
          have f1 := HM.out.small (os.getD (q - 1) 0 + 1) 0
          have f2 := HM.out.small 0 (os.getD q 0 + 1)
          have f3 := HM.out.small (os.getD (q - 1) 0 + 1) (os.getD q 0 + 1)
          clear ht hown hce HOw hw0
          generalize os.getD (q - 1) 0 = v0 at *
          generalize os.getD q 0 = v1 at *
          have CA1 := fun W => CA W (v0 + 1) 0
          have CA2 := fun W => CA W 0 (v1 + 1)
          have CA3 := fun W => CA W (v0 + 1) (v1 + 1)
          clear CA
          generalize arcD y (v0 + 1) 0 = r1 at *
          generalize arcD y 0 (v1 + 1) = r2 at *
          generalize arcD y (v0 + 1) (v1 + 1) = r3 at *
          generalize wayD y (os.take q) = p1 at *
          generalize wayD y (os.drop q) = p2 at *
          generalize wayD y os = p0 at *
          have s1 : IntKind.i64.wrap (p1 + p2) = p1 + p2 := IntWalk.i64_in _ (by omega)
          have s2 : IntKind.i64.wrap (p1 + p2 - r1) = p1 + p2 - r1 := IntWalk.i64_in _ (by omega)
          have s3 : IntKind.i64.wrap (p1 + p2 - r1 - r2) = p1 + p2 - r1 - r2 := IntWalk.i64_in _ (by omega)
          have s4 : IntKind.i64.wrap (p1 + p2 - r1 - r2 + r3) = p0 := (IntWalk.i64_in _ (by omega)).trans (by omega)
          have u1 : oo + ((q : Int) - 1).toNat = oo + (q - 1) := by omega
          have u2 : (0 : Int) ≤ (q : Int) - 1 := by omega
          have u3 : (q : Int) - 1 < m := by omega
          have u4 : (q : Int) ≤ m := by omega
          have u5 : (0 : Int) ≤ (q : Int) := by omega
          have u6 : (q : Int) < (m : Int) := by omega
          have hcq : ¬ co = q := by omega
          have tt : (p0 == p1 + p2 - r1 - r2 + r3) = true := beq_iff_eq.2 hpt
          have u7 : (q : Int) ≤ (co : Int) := by omega
          have u8 : (m : Int) ≤ (co : Int) := by omega
          rcases hst with ⟨a1, a2⟩ | ⟨a1, a2, a3⟩
          all_goals
            go_wp2_with fail
            go_region_held3 (fun w' => w'.cell? ⟨G, 0, none⟩ = some (.int .i64 y.days) ∧ w'.cell? ⟨G, 1, none⟩ = some (.int .i64 y.veh) ∧ w'.cell? ⟨G, 2, none⟩ = some (.int .i64 y.cap) ∧ w'.cell? ⟨G, 3, none⟩ = some (.int .i64 y.len) ∧ w'.cell? ⟨G, 4, none⟩ = some (.slice A2 y.custs.length c2) ∧ w'.cell? ⟨G, 5, none⟩ = some (.slice B2 y.dist.length d2))
              (first | exact ⟨j0, j1, j2, j3, j4, j5⟩ | exact HYd.out.box.cells | go_keep)
              (first
                | (go_at_call 14; (with_reducible refine (CA1 _ HYd.out.inst).mono ?_); rintro e w6 ⟨rfl, hb6⟩; have HY6 := Go.Lib.hid (HYd.out.keep hb6); have HL6 := Go.Lib.hid (HLd.out.keep hb6); have HB6 := Go.Lib.hid (HBd.out.trans (hb6.mono HBd.out.size)); clear HYd HLd HBd; have HYd := HY6; have HLd := HL6; have HBd := HB6; clear HY6 HL6 HB6 hb6)
                | (go_at_call 14; (with_reducible refine (CA2 _ HYd.out.inst).mono ?_); rintro e w6 ⟨rfl, hb6⟩; have HY6 := Go.Lib.hid (HYd.out.keep hb6); have HL6 := Go.Lib.hid (HLd.out.keep hb6); have HB6 := Go.Lib.hid (HBd.out.trans (hb6.mono HBd.out.size)); clear HYd HLd HBd; have HYd := HY6; have HLd := HL6; have HBd := HB6; clear HY6 HL6 HB6 hb6)
                | (go_at_call 14; (with_reducible refine (CA3 _ HYd.out.inst).mono ?_); rintro e w6 ⟨rfl, hb6⟩; have HY6 := Go.Lib.hid (HYd.out.keep hb6); have HL6 := Go.Lib.hid (HLd.out.keep hb6); have HB6 := Go.Lib.hid (HBd.out.trans (hb6.mono HBd.out.size)); clear HYd HLd HBd; have HYd := HY6; have HLd := HL6; have HBd := HB6; clear HY6 HL6 HB6 hb6)
                | (go_at_call 16; (with_reducible refine (C1 _ HYd.out.inst HLd.out).mono ?_); rintro e w6 ⟨rfl, hb6⟩; have HY6 := Go.Lib.hid (HYd.out.keep hb6); have HL6 := Go.Lib.hid (HLd.out.keep hb6); have HB6 := Go.Lib.hid (HBd.out.trans (hb6.mono HBd.out.size)); clear HYd HLd HBd; have HYd := HY6; have HLd := HL6; have HBd := HB6; clear HY6 HL6 HB6 hb6)
                | (go_at_call 16; (with_reducible refine (C2 _ HYd.out.inst HLd.out).mono ?_); rintro e w6 ⟨rfl, hb6⟩; have HY6 := Go.Lib.hid (HYd.out.keep hb6); have HL6 := Go.Lib.hid (HLd.out.keep hb6); have HB6 := Go.Lib.hid (HBd.out.trans (hb6.mono HBd.out.size)); clear HYd HLd HBd; have HYd := HY6; have HLd := HL6; have HBd := HB6; clear HY6 HL6 HB6 hb6))
            all_goals
              clear j0 j1 j2 j3 j4 j5
              obtain ⟨j0, j1, j2, j3, j4, j5⟩ := HYd.out.box.cells
              go_wp2_with (first
                | (go_at_call 16; (with_reducible refine (CW _ HYd.out.inst HLd.out).mono ?_); rintro e w6 ⟨rfl, hb6⟩; have HY6 := Go.Lib.hid (HYd.out.keep hb6); have HL6 := Go.Lib.hid (HLd.out.keep hb6); have HB6 := Go.Lib.hid (HBd.out.trans (hb6.mono HBd.out.size)); clear HYd HLd HBd; have HYd := HY6; have HLd := HL6; have HBd := HB6; clear HY6 HL6 HB6 hb6)
                | (go_at_call 13; (with_reducible refine (CL _ HBd.out).mono ?_); rintro e w6 ⟨rfl, hb6⟩; have HY6 := Go.Lib.hid (HYd.out.keep hb6); have HL6 := Go.Lib.hid (HLd.out.keep hb6); have HB6 := Go.Lib.hid (HBd.out.trans (hb6.mono HBd.out.size)); clear HYd HLd HBd; have HYd := HY6; have HLd := HL6; have HBd := HB6; clear HY6 HL6 HB6 hb6))
              go_ret
              exact ⟨rfl, HBd.out⟩
section
variable {H : Type} {enc : TypeId × Value → H} {base : Nat}
theorem int_open {w : World} {v : Value} {d : DataW H} {p : List MemPlace} (k : DataW.Trod enc Tryd.prog w 0 (fun _ => true) true 3 v d p) (o : Value.okWide Tryd.prog w .any base 3 v) : ∃ z, v = .int .i64 z ∧ W64 z := by
  obtain ⟨a, rfl⟩ := okWide_int Tryd.underlying3 o
  obtain ⟨m, hm⟩ := k
  obtain ⟨z, e1, _, e3⟩ := DataW.trod_int (k := .i64) rfl hm
  obtain rfl : a = z := by simpa [Value.cells] using e1
  exact ⟨a, rfl, wf_iff.1 e3⟩
theorem instParts_frame (W : World) {v0 v1 v2 : Value} {d0 d1 d2 : DataW H} {p0 p1 p2 : List MemPlace} (k0 : DataW.Trod enc Tryd.prog W 0 (fun _ => true) true 25 v0 d0 p0) (o0 : Value.okWide Tryd.prog W .any base 25 v0)
    (k1 : DataW.Trod enc Tryd.prog W 0 (fun _ => true) true 33 v1 d1 p1) (o1 : Value.okWide Tryd.prog W .any base 33 v1) (k2 : DataW.Trod enc Tryd.prog W 0 (fun _ => true) true 3 v2 d2 p2) (o2 : Value.okWide Tryd.prog W .any base 3 v2) (hT : Tab W) :
    Calls Tryd.prog 8 #[v0, v1, v2] W fun e w' => e = .returned (.bool true) ∧ Below W.heap.size W w' := by
  obtain ⟨x, A, c, B, e, rfl, hI⟩ := inst_open k0 o0
  obtain ⟨L, n, r, l, rfl, h1, h2, h3, h4⟩ := ints_open k1 o1
  obtain ⟨a, rfl, h5⟩ := int_open k2 o2
  exact instParts_any x A c B e L n r l a W hT hI h1 h2 h3 h4 h5
end
end Go.Proofs.YtmfahjghfpckeaaDoor
