/- What a tour's way is, off the code and off the document's. -/
import Derived.Test.YtmfahjghfpckeaaDoorInstRef
import Derived.IntWalk
namespace Go.Proofs.YtmfahjghfpckeaaDoor
open Go.RowKit
set_option linter.unusedVariables false
/-- The way on from a place, and back to the depot. -/
def wayF (x : Inst) : Int → List Int → Int
  | at', [] => arcD x at' 0
  | at', c :: r => arcD x at' (c + 1) + wayF x (c + 1) r
/-- A tour's way. -/
def wayD (x : Inst) (l : List Int) : Int := if l = [] then 0 else wayF x 0 l
theorem wayF_bd {x : Inst} (h : SmallD x) : ∀ (l : List Int) (p : Int), 0 ≤ wayF x p l ∧ wayF x p l ≤ 60 * l.length + 60
  | [], p => by have := h p 0; simp only [wayF, List.length_nil]; omega
  | c :: r, p => by
    have := h p (c + 1)
    have := wayF_bd h r (c + 1)
    simp only [wayF, List.length_cons]
    omega
/-- The customers of a tour: few, and numbers from 0 on. -/
def TourL (l : List Int) : Prop := l.length ≤ 100 ∧ ∀ c ∈ l, 0 ≤ c ∧ c ≤ 1000
theorem TourL.at {l : List Int} (h : TourL l) {k : Nat} (hk : k < l.length) : 0 ≤ l.getD k 0 ∧ l.getD k 0 ≤ 1000 := by
  rw [getD_in _ _ hk]; exact h.2 _ (List.getElem_mem hk)
theorem drop_getD {l : List Int} {k : Nat} (hk : k < l.length) : l.drop k = l.getD k 0 :: l.drop (k + 1) := by
  rw [getD_in _ _ hk]; exact List.drop_eq_getElem_cons hk
set_option maxHeartbeats 2000000 in
theorem way_code (x : Inst) (A : Option Addr) (c : Nat) (B : Option Addr) (d : Nat) (L : Option Addr) (n r : Nat) (l : List Int) (w : World) (h : InstIs w x A B) (hs : Square x) (hd : SmallD x) (hl : Ints w L n l) (ht : TourL l) :
    Calls Tryd.prog 16 #[instV x A c B d, .slice L n r] w fun e w' => e = .returned (.int .i64 (wayD x l)) ∧ Below w.heap.size w w' := by
  have CA := fun a b W hb => arc_code_from h hs c d a b W hb
  have HJ := Go.Lib.hid (InstBox.fresh w x A c B d)
  have HB := Go.Lib.hid (below_alloc w (.cells #[.int .i64 x.days, .int .i64 x.veh, .int .i64 x.cap, .int .i64 x.len, .slice A x.custs.length c, .slice B x.dist.length d] 25))
  unfold instV at *
  have HL := Go.Lib.hid hl
  have HT := Go.Lib.hid ht
  have HD := Go.Lib.hid hd
  have HN := Go.Lib.hid hl.1
  have hn : n ≤ 100 := by have := ht.1; have := hl.1; omega
  by_cases h0 : n = 0
  · have e0 : wayD x l = 0 := if_pos (List.eq_nil_of_length_eq_zero (by rw [hl.1]; exact h0))
    rw [e0]
    clear hl ht hd h hs e0
    subst h0
    go_enter Tryd.func16, Tryd.ntmps16
    go_wp2
    go_ret
    exact ⟨rfl, HB.out⟩
  have e0 : wayD x l = wayF x 0 l := if_neg (fun e => h0 (by rw [← hl.1, e]; rfl))
  rw [e0]
  have HW : Hid (0 + wayF x 0 (l.drop 0) = wayF x 0 l) := by show _ = _; rw [List.drop_zero]; omega
  obtain ⟨T, hT⟩ : ∃ T, wayF x 0 l = T := ⟨_, rfl⟩
  rw [hT] at HW ⊢
  have hz : ((n : Int) == 0) = false := beq_eq_false_iff_ne.2 (by omega)
  clear hl ht hd h hs e0 h0 hT
  go_enter Tryd.func16, Tryd.ntmps16
  go_wp2
  go_loopw [5, 6, 14] (fun sv av iv wr => ∃ (k : Nat) (s a : Int), k ≤ n ∧ iv = .int .i64 k ∧ sv = .int .i64 s ∧ av = .int .i64 a ∧ 0 ≤ a ∧ a ≤ 1001 ∧ 0 ≤ s ∧ s ≤ 60 * k ∧ s + wayF x a (l.drop k) = T ∧ InstBox wr w.heap.size x A c B d ∧ Below w.heap.size w wr) (fun _ _ iv _ => n - (intOf iv).toNat)
  case atStart => exact ⟨0, 0, 0, Nat.zero_le _, rfl, rfl, rfl, by omega, by omega, by omega, by omega, HW.out, HJ.out, HB.out⟩
  case round =>
    clear HW HJ HB
    obtain ⟨k, s, a, hk, rfl, rfl, rfl, ha0, ha1, hs0, hs1, hw, hJ, hB⟩ := hrel
    have HJ := Go.Lib.hid hJ
    have HB := Go.Lib.hid hB
    have HW := Go.Lib.hid hw
    obtain ⟨j0, j1, j2, j3, j4, j5⟩ := hJ.cells
    clear hJ hB hw
    by_cases hlt : k < n
    · have hkl : k < l.length := by rw [HN.out]; exact hlt
      obtain ⟨g, off, rfl, hc⟩ := HL.out.2 (by omega)
      have c0 := keep_cell HB.out (hc k hlt)
      obtain ⟨v0, v1⟩ := HT.out.at hkl
      have HE := Go.Lib.hid (drop_getD hkl)
      have hr := HD.out a (l.getD k 0 + 1)
      have HX : Hid (s + arcD x a (l.getD k 0 + 1) + wayF x (l.getD k 0 + 1) (l.drop (k + 1)) = T) := by
        show _ = _
        rw [← HW.out, HE.out, wayF]
        omega
      clear hc hkl
      generalize l.getD k 0 = v at *
      have CP := fun W => place_any v (by omega) (by omega) W
      generalize hq : arcD x a (v + 1) = q at *
      obtain ⟨q0, q1⟩ := hr
      have CAv := fun W hb => CA a (v + 1) W hb
      simp only [hq] at CAv
      have HQ := Go.Lib.hid hq
      clear CA hq
      go_wp2_with fail
      go_region_held3 (fun w' => w'.cell? ⟨w.heap.size, 0, none⟩ = some (.int .i64 x.days) ∧ w'.cell? ⟨w.heap.size, 1, none⟩ = some (.int .i64 x.veh) ∧ w'.cell? ⟨w.heap.size, 2, none⟩ = some (.int .i64 x.cap) ∧ w'.cell? ⟨w.heap.size, 3, none⟩ = some (.int .i64 x.len) ∧ w'.cell? ⟨w.heap.size, 4, none⟩ = some (.slice A x.custs.length c) ∧ w'.cell? ⟨w.heap.size, 5, none⟩ = some (.slice B x.dist.length d))
        (first | exact ⟨j0, j1, j2, j3, j4, j5⟩ | exact ⟨u0, u1, u2, u3, u4, u5⟩ | go_keep)
        (first
          | (go_at_call 30; refine (CP _).mono ?_; rintro e w5 ⟨rfl, rfl⟩)
          | (go_at_call 14; refine (CAv _ (HB.out.trans ((below_drew _).mono HB.out.size))).mono ?_; rintro e w6 ⟨rfl, hb6, hb7⟩; have HJ6 := Go.Lib.hid (HJ.out.keep ((below_drew _).trans hb6)); obtain ⟨u0, u1, u2, u3, u4, u5⟩ := HJ6.out.cells; have HB6 := Go.Lib.hid hb7; clear hb6 hb7))
      go_wp2_with (go_at_call 30; refine (CP _).mono ?_; rintro e w8 ⟨rfl, rfl⟩)
      go_roundw
      case rel => exact ⟨k + 1, s + q, v + 1, by omega, by go_num, by rw [IntWalk.i64_in _ (by omega)], rfl, by omega, by omega, by omega, by omega, HX.out, HJ6.out, HB6.out⟩
      case measure => simp [intOf]; omega
    · obtain rfl : n = k := by omega
      have HE : Hid (l.drop n = []) := by show _ = _; rw [← HN.out]; simp
      have HX : Hid (s + arcD x a 0 = T) := by show _ = _; rw [← HW.out, HE.out, wayF]
      have hr := HD.out a 0
      have CAv := fun W hb => CA a 0 W hb
      generalize hq : arcD x a 0 = q at *
      have HQ := Go.Lib.hid hq
      obtain ⟨q0, q1⟩ := hr
      clear CA hq
      go_wp2_with (go_at_call 14; refine (CAv _ HB.out).mono ?_; rintro e w6 ⟨rfl, hb6, hb7⟩)
      go_ret
      exact ⟨ret_int HX.out, hb7⟩
theorem wayF_split {x : Inst} {l : List Int} {i : Nat} (h0 : 0 < i) (hi : i < l.length) : wayF x (l.getD (i - 1) 0 + 1) (l.drop i) = arcD x (l.getD (i - 1) 0 + 1) (l.getD i 0 + 1) + wayF x (l.getD i 0 + 1) (l.drop (i + 1)) := by
  rw [drop_getD hi, wayF]
set_option maxHeartbeats 8000000 in
theorem way_ref (x : Inst) (A : Option Addr) (c : Nat) (B : Option Addr) (d : Nat) (L : Option Addr) (n r : Nat) (l : List Int) (w : World) (h : InstIs w x A B) (hd : SmallD x) (hl : Ints w L n l) (ht : TourL l) :
    Calls Tryd.prog 17 #[instV x A c B d, .slice L n r] w fun e w' => e = .returned (.int .i64 (wayD x l)) ∧ Below w.heap.size w w' := by
  have CA := fun a b W hb => arc_ref_from h c d a b W hb
  have HJ := Go.Lib.hid (InstBox.fresh w x A c B d)
  have HB := Go.Lib.hid (below_alloc w (.cells #[.int .i64 x.days, .int .i64 x.veh, .int .i64 x.cap, .int .i64 x.len, .slice A x.custs.length c, .slice B x.dist.length d] 25))
  unfold instV at *
  have HL := Go.Lib.hid hl
  have HT := Go.Lib.hid ht
  have HD := Go.Lib.hid hd
  have HN := Go.Lib.hid hl.1
  have hn : n ≤ 100 := by have := ht.1; have := hl.1; omega
  by_cases h0 : n = 0
  · have e0 : wayD x l = 0 := if_pos (List.eq_nil_of_length_eq_zero (by rw [hl.1]; exact h0))
    rw [e0]
    clear hl ht hd h e0
    subst h0
    go_enter Tryd.func17, Tryd.ntmps17
    go_wp2
    go_ret
    exact ⟨rfl, HB.out⟩
  have e0 : wayD x l = wayF x 0 l := if_neg (fun e => h0 (by rw [← hl.1, e]; rfl))
  rw [e0]
  have hz : ((n : Int) == 0) = false := beq_eq_false_iff_ne.2 (by omega)
  have hn0 : 0 < n := by omega
  obtain ⟨g, off, rfl, hc⟩ := hl.2 hn0
  have c0 := keep_cell HB.out (hc 0 hn0)
  have cl := keep_cell HB.out (hc (n - 1) (by omega))
  obtain ⟨f0, f1⟩ := ht.at (k := 0) (by rw [hl.1]; omega)
  obtain ⟨l0, l1⟩ := ht.at (k := n - 1) (by rw [hl.1]; omega)
  have HW : Hid (arcD x 0 (l.getD 0 0 + 1) + arcD x (l.getD (n - 1) 0 + 1) 0 + wayF x (l.getD (1 - 1) 0 + 1) (l.drop 1) = wayF x 0 l + arcD x (l.getD (n - 1) 0 + 1) 0) := by
    show _ = _
    have : wayF x 0 l = arcD x 0 (l.getD 0 0 + 1) + wayF x (l.getD 0 0 + 1) (l.drop 1) := by
      conv => lhs; rw [← List.drop_zero (l := l), drop_getD (k := 0) (by rw [hl.1]; omega), wayF]
    rw [this]
    show _ + _ + wayF x (l.getD 0 0 + 1) (l.drop 1) = _
    omega
  have hcf := hc 0 hn0
  rw [Nat.add_zero] at hcf c0
  have hcl := hc (n - 1) (by omega)
  have hr0 := hd 0 (l.getD 0 0 + 1)
  have hr1 := hd (l.getD (n - 1) 0 + 1) 0
  obtain ⟨T, hT⟩ : ∃ T, wayF x 0 l = T := ⟨_, rfl⟩
  rw [hT] at HW ⊢
  have HEnd : Hid (∀ k, k = n → wayF x (l.getD (k - 1) 0 + 1) (l.drop k) = arcD x (l.getD (n - 1) 0 + 1) 0) := fun k hk => by
    subst hk
    rw [List.drop_eq_nil_of_le (by rw [hl.1]; exact Nat.le_refl _), wayF]
  have CP0 := fun W hb => CA 0 (l.getD 0 0 + 1) W hb
  have CP1 := fun W hb => CA (l.getD (n - 1) 0 + 1) 0 W hb
  have hidx : ((n : Int) - 1).toNat = n - 1 := by omega
  have hidx2 : off + ((n : Int) - 1).toNat = off + (n - 1) := by omega
  generalize hq0 : arcD x 0 (l.getD 0 0 + 1) = q0 at *
  generalize hq1 : arcD x (l.getD (n - 1) 0 + 1) 0 = q1 at *
  generalize hv0 : l.getD 0 0 = v0 at *
  generalize hv1 : l.getD (n - 1) 0 = v1 at *
  obtain ⟨r00, r01⟩ := hr0
  obtain ⟨r10, r11⟩ := hr1
  have HQ0 := Go.Lib.hid hq0
  have HQ1 := Go.Lib.hid hq1
  have HV0 := Go.Lib.hid hv0
  have HV1 := Go.Lib.hid hv1
  have HCF := Go.Lib.hid hcf
  have HCL := Go.Lib.hid hcl
  obtain ⟨j0, j1, j2, j3, j4, j5⟩ := HJ.out.cells
  clear hl ht hd h e0 h0 hT hq0 hq1 hv0 hv1 hc hcf hcl
  go_enter Tryd.func17, Tryd.ntmps17
  go_wp2_with fail
  obtain ⟨W0, hW0⟩ : ∃ W, W = w.alloc (.cells #[.int .i64 x.days, .int .i64 x.veh, .int .i64 x.cap, .int .i64 x.len, .slice A x.custs.length c, .slice B x.dist.length d] 25) := ⟨_, rfl⟩
  rw [← hW0] at HJ HB c0 cl j0 j1 j2 j3 j4 j5 ⊢
  clear hW0
  have HBd := Go.Lib.hid HB.out.drew
  have HJd := Go.Lib.hid (HJ.out.keep (below_drew _))
  have a0 : IntKind.i64.wrap ((n : Int) - 1) = (n : Int) - 1 := IntWalk.i64_in _ (by omega)
  have a1 : IntKind.i64.wrap (v0 + 1) = v0 + 1 := IntWalk.i64_in _ (by omega)
  have a2 : IntKind.i64.wrap (v1 + 1) = v1 + 1 := IntWalk.i64_in _ (by omega)
  have a3 : (0 : Int) ≤ (n : Int) - 1 := by omega
  have a4 : (n : Int) - 1 < (n : Int) := by omega
  have a5 : n - 1 < n := by omega
  have a6 : (1 : Int) ≤ (n : Int) := by omega
  have a7 : 1 ≤ n := by omega
  go_region_held3 (fun w' => w'.cell? ⟨w.heap.size, 0, none⟩ = some (.int .i64 x.days) ∧ w'.cell? ⟨w.heap.size, 1, none⟩ = some (.int .i64 x.veh) ∧ w'.cell? ⟨w.heap.size, 2, none⟩ = some (.int .i64 x.cap) ∧ w'.cell? ⟨w.heap.size, 3, none⟩ = some (.int .i64 x.len) ∧ w'.cell? ⟨w.heap.size, 4, none⟩ = some (.slice A x.custs.length c) ∧ w'.cell? ⟨w.heap.size, 5, none⟩ = some (.slice B x.dist.length d) ∧ w'.cell? ⟨g, off, none⟩ = some (.int .i64 v0) ∧ w'.cell? ⟨g, off + (n - 1), none⟩ = some (.int .i64 v1))
    (first | exact ⟨u0, u1, u2, u3, u4, u5, u6, u7⟩ | exact ⟨j0, j1, j2, j3, j4, j5, c0, cl⟩ | go_keep)
    (first
      | (go_at_call 15; (first | (with_reducible refine (CP0 _ HBd.out).mono ?_) | (with_reducible refine (CP1 _ HBd.out).mono ?_)); rintro e w6 ⟨rfl, hb6, hb7⟩; have HJ6 := Go.Lib.hid (HJd.out.keep hb6); obtain ⟨u0, u1, u2, u3, u4, u5⟩ := HJ6.out.cells; have u6 := keep_cell hb7 HCF.out; have u7 := keep_cell hb7 HCL.out; clear HJd HBd; have HJd := HJ6; have HBd := Go.Lib.hid hb7; clear HJ6 hb6 hb7))
  clear a0 a1 a2 a3 a4 a5 a6 a7 CP0 CP1 u0 u1 u2 u3 u4 u5 u6 u7 j0 j1 j2 j3 j4 j5 c0 cl hidx hidx2
  have HSt : Hid (q0 + q1 + wayF x (l.getD (1 - 1) 0 + 1) (l.drop 1) = T + q1) := by
    show _ = _
    rw [← HW.out]
    show _ + _ + wayF x (l.getD 0 0 + 1) _ = _
    rw [HV0.out]
  go_wp2
  go_loopw [5, 6] (fun sv iv wr => ∃ (k : Nat) (s : Int), 1 ≤ k ∧ k ≤ n ∧ iv = .int .i64 k ∧ sv = .int .i64 s ∧ 0 ≤ s ∧ s ≤ 60 * k + 60 ∧ s + wayF x (l.getD (k - 1) 0 + 1) (l.drop k) = T + q1 ∧ InstBox wr w.heap.size x A c B d ∧ Below w.heap.size w wr) (fun _ iv _ => n - (intOf iv).toNat)
  case atStart => exact ⟨1, q0 + q1, Nat.le_refl _, hn0, rfl, by rw [IntWalk.i64_in _ (by omega)], by omega, by omega, HSt.out, HJd.out, HBd.out⟩
  case round =>
    clear HW HJ HB HSt HJd HBd
    obtain ⟨k, s, hk1, hk, rfl, rfl, hs0, hs1, hw, hJ, hB⟩ := hrel
    have HJ := Go.Lib.hid (hJ.keep (below_drew _))
    have HB := Go.Lib.hid hB.drew
    have HW := Go.Lib.hid hw
    have HB0 := Go.Lib.hid hB
    obtain ⟨j0, j1, j2, j3, j4, j5⟩ := hJ.cells
    clear hJ hB hw
    by_cases hlt : k < n
    · have hkl : k < l.length := by rw [HN.out]; exact hlt
      obtain ⟨g', off', hgg, hc⟩ := HL.out.2 (by omega)
      obtain ⟨rfl, rfl⟩ : g = g' ∧ off = off' := by
        injection hgg with hgg
        injection hgg with e1 e2
        exact ⟨e1, e2⟩
      have HC0 := Go.Lib.hid (hc k hlt)
      have HC1 := Go.Lib.hid (hc (k - 1) (by omega))
      have c0 := keep_cell HB0.out HC0.out
      have c1 := keep_cell HB0.out HC1.out
      obtain ⟨v0, v1⟩ := HT.out.at hkl
      obtain ⟨z0, z1⟩ := HT.out.at (show k - 1 < l.length by omega)
      have hr := HD.out (l.getD (k - 1) 0 + 1) (l.getD k 0 + 1)
      have HX : Hid (s + arcD x (l.getD (k - 1) 0 + 1) (l.getD k 0 + 1) + wayF x (l.getD (k + 1 - 1) 0 + 1) (l.drop (k + 1)) = T + q1) := by
        show _ = _
        rw [← HW.out, wayF_split (by omega) hkl]
        show _ + _ + wayF x (l.getD k 0 + 1) _ = _
        omega
      have CAv := fun W hb => CA (l.getD (k - 1) 0 + 1) (l.getD k 0 + 1) W hb
      clear hc hkl hgg HW
      generalize l.getD (k - 1) 0 = z at *
      generalize l.getD k 0 = v at *
      generalize hq : arcD x (z + 1) (v + 1) = q at *
      obtain ⟨r0, r1⟩ := hr
      have HQ := Go.Lib.hid hq
      clear CA hq
      have a0 : IntKind.i64.wrap ((k : Int) - 1) = (k : Int) - 1 := IntWalk.i64_in _ (by omega)
      have a1 : IntKind.i64.wrap (z + 1) = z + 1 := IntWalk.i64_in _ (by omega)
      have a2 : IntKind.i64.wrap (v + 1) = v + 1 := IntWalk.i64_in _ (by omega)
      have a3 : (0 : Int) ≤ (k : Int) - 1 := by omega
      have a4 : (k : Int) - 1 < (n : Int) := by omega
      have a5 : k - 1 < n := by omega
      have a6 : (1 : Int) ≤ (k : Int) := by omega
      have a7 : (k : Int) < (n : Int) := by omega
      have a8 : ((k : Int) - 1).toNat = k - 1 := by omega
      have a9 : IntKind.i64.wrap (s + q) = s + q := IntWalk.i64_in _ (by omega)
      go_wp2_with fail
      go_region_held3 (fun w' => w'.cell? ⟨w.heap.size, 0, none⟩ = some (.int .i64 x.days) ∧ w'.cell? ⟨w.heap.size, 1, none⟩ = some (.int .i64 x.veh) ∧ w'.cell? ⟨w.heap.size, 2, none⟩ = some (.int .i64 x.cap) ∧ w'.cell? ⟨w.heap.size, 3, none⟩ = some (.int .i64 x.len) ∧ w'.cell? ⟨w.heap.size, 4, none⟩ = some (.slice A x.custs.length c) ∧ w'.cell? ⟨w.heap.size, 5, none⟩ = some (.slice B x.dist.length d) ∧ w'.cell? ⟨g, off + (k - 1), none⟩ = some (.int .i64 z) ∧ w'.cell? ⟨g, off + k, none⟩ = some (.int .i64 v))
        (first | exact ⟨u0, u1, u2, u3, u4, u5, u6, u7⟩ | exact ⟨j0, j1, j2, j3, j4, j5, c1, c0⟩ | go_keep)
        (first
          | (go_at_call 15; (with_reducible refine (CAv _ HB.out).mono ?_); rintro e w6 ⟨rfl, hb6, hb7⟩; have HJ6 := Go.Lib.hid (HJ.out.keep hb6); obtain ⟨u0, u1, u2, u3, u4, u5⟩ := HJ6.out.cells; have u6 := keep_cell hb7 HC1.out; have u7 := keep_cell hb7 HC0.out; have HB6 := Go.Lib.hid hb7; clear hb6 hb7))
      clear a0 a1 a2 a3 a4 a5 a6 a7 a8
      go_wp2
      go_roundw
      case rel => exact ⟨k + 1, s + q, by omega, by omega, by go_num, by first | rfl | rw [a9], by omega, by omega, HX.out, HJ6.out, HB6.out⟩
      case measure => simp [intOf]; omega
    · obtain rfl : n = k := by omega
      have HX : Hid (s = T) := by show _ = _; have h1 := HEnd.out n rfl; have h2 := HW.out; rw [h1] at h2; omega
      go_wp2
      go_ret
      exact ⟨ret_int HX.out, HB0.out⟩
end Go.Proofs.YtmfahjghfpckeaaDoor
