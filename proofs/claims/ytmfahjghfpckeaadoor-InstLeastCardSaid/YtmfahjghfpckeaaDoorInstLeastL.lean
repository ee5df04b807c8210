/- InstLeast: a way is never cheaper than the least arcs; and off its code. -/
import Derived.Test.YtmfahjghfpckeaaDoorInstWaysL
namespace Go.Proofs.YtmfahjghfpckeaaDoor
open Go.RowKit Go.WideShapes
set_option linter.unusedVariables false
/-- No two beside one another are the same, nor the first one p. -/
def diffL : Int → List Int → Prop
  | _, [] => True
  | p, c :: r => c ≠ p ∧ diffL c r
def lastL (p : Int) : List Int → Int
  | [] => p
  | c :: r => lastL c r
theorem diffL_snoc : ∀ {l : List Int} {p c : Int}, diffL p l → c ≠ lastL p l → diffL p (l ++ [c])
  | [], _, _, _, h => ⟨h, trivial⟩
  | _ :: _, _, _, h, h' => ⟨h.1, diffL_snoc h.2 h'⟩
theorem lastL_snoc : ∀ {l : List Int} {p c : Int}, lastL p (l ++ [c]) = c
  | [], _, _ => rfl
  | _ :: r, _, _ => lastL_snoc (l := r)
def sumL (f : Nat → Int) : List Int → Int
  | [] => 0
  | c :: r => f c.toNat + sumL f r
theorem sumL_snoc (f : Nat → Int) : ∀ (l : List Int) (c : Int), sumL f (l ++ [c]) = sumL f l + f c.toNat
  | [], c => by simp [sumL]
  | a :: r, c => by simp only [List.cons_append, sumL]; rw [sumL_snoc f r c]; omega
theorem sumL_bd {f : Nat → Int} (h : ∀ c, 0 ≤ f c ∧ f c ≤ 60) : ∀ l : List Int, 0 ≤ sumL f l ∧ sumL f l ≤ 60 * l.length
  | [] => by simp [sumL]
  | c :: r => by
    have := h c.toNat
    have := sumL_bd h r
    simp only [sumL, List.length_cons]
    omega
theorem come_le {y : Inst} (hd : SmallD y) : ∀ {l : List Int} {p : Int}, 0 ≤ p → p ≤ y.custs.length → (∀ c ∈ l, 0 ≤ c ∧ c < y.custs.length) → diffL (p - 1) l → sumL (comeD y) l ≤ wayF y p l
  | [], p, _, _, _, _ => (hd p 0).1
  | c :: r, p, h0, h1, hb, hdf => by
    obtain ⟨c0, c1⟩ := hb c (by simp)
    have h2 : comeD y c.toNat ≤ arcD y p (c + 1) := by
      obtain ⟨q, rfl⟩ : ∃ q : Nat, c = (q : Int) := ⟨c.toNat, by omega⟩
      obtain ⟨o, rfl⟩ : ∃ o : Nat, p = (o : Int) := ⟨p.toNat, by omega⟩
      rw [Int.toNat_natCast]
      exact leastD_le (f := fun o => arcD y o ((q : Int) + 1)) (at' := q + 1) (k := y.custs.length) (o := o) (by omega) (by have := hdf.1; omega)
    have h3 := come_le hd (l := r) (p := c + 1) (by omega) (by omega) (fun z hz => hb z (by simp [hz])) (by have := hdf.2; rw [show c + 1 - 1 = c by omega]; exact this)
    simp only [sumL, wayF]
    omega
theorem leave_le {y : Inst} (hd : SmallD y) : ∀ {r : List Int} {c : Int}, 0 ≤ c → c < y.custs.length → (∀ z ∈ r, 0 ≤ z ∧ z < y.custs.length) → diffL c r → leaveD y c.toNat + sumL (leaveD y) r ≤ wayF y (c + 1) r
  | [], c, h0, h1, _, _ => by
    obtain ⟨q, rfl⟩ : ∃ q : Nat, c = (q : Int) := ⟨c.toNat, by omega⟩
    have := leastD_le (f := fun o => arcD y ((q : Int) + 1) o) (at' := q + 1) (k := y.custs.length) (o := 0) (by omega) (.inr rfl)
    rw [Int.toNat_natCast]
    simp only [sumL, wayF]
    simp only [Int.natCast_zero] at this
    unfold leaveD
    omega
  | c' :: r, c, h0, h1, hb, hdf => by
    obtain ⟨c0, c1⟩ := hb c' (by simp)
    have h2 : leaveD y c.toNat ≤ arcD y (c + 1) (c' + 1) := by
      obtain ⟨q, rfl⟩ : ∃ q : Nat, c = (q : Int) := ⟨c.toNat, by omega⟩
      obtain ⟨o, rfl⟩ : ∃ o : Nat, c' = (o : Int) := ⟨c'.toNat, by omega⟩
      rw [Int.toNat_natCast]
      exact leastD_le (f := fun o => arcD y ((q : Int) + 1) o) (at' := q + 1) (k := y.custs.length) (o := o + 1) (by omega) (by have := hdf.1; omega)
    have h3 := leave_le hd (r := r) (c := c') c0 c1 (fun z hz => hb z (by simp [hz])) hdf.2
    simp only [sumL, wayF] at h3 ⊢
    omega
theorem way_least {y : Inst} (hd : SmallD y) {l : List Int} (hb : ∀ c ∈ l, 0 ≤ c ∧ c < y.custs.length) (hdf : diffL (-1) l) : sumL (comeD y) l ≤ wayD y l ∧ sumL (leaveD y) l ≤ wayD y l := by
  cases l with
  | nil => exact ⟨by simp [sumL, wayD], by simp [sumL, wayD]⟩
  | cons c r =>
    have e : wayD y (c :: r) = wayF y 0 (c :: r) := if_neg (by simp)
    rw [e]
    obtain ⟨c0, c1⟩ := hb c (by simp)
    refine ⟨come_le hd (by omega) (by omega) hb (by simpa using hdf), ?_⟩
    have h1 := leave_le hd (r := r) (c := c) c0 c1 (fun z hz => hb z (by simp [hz])) hdf.2
    have h2 := hd 0 (c + 1)
    simp only [sumL, wayF]
    omega
set_option maxRecDepth 100000 in
set_option maxHeartbeats 8000000 in
theorem instLeast_any (x : Inst) (A : Option Addr) (c : Nat) (B : Option Addr) (d : Nat) (L : Option Addr) (n r : Nat) (l : List Int) (w : World) (hT : Tab w) (h : InstIs w x A B) (hl : Ints w L n l) (hlw : ∀ z ∈ l, W64 z) (hnr : n ≤ r) (hr : r ≤ maxLen) :
    Calls Tryd.prog 6 #[instV x A c B d, .slice L n r] w fun e w' => e = .returned (.bool true) ∧ Below w.heap.size w w' := by
  obtain ⟨i0, hi, hz0, hz1, hz2⟩ := info_parts info_int
  obtain ⟨y, hy⟩ : ∃ y, Made x y := ⟨_, made_of x⟩
  have hb0 := below_alloc w (.cells #[.int .i64 x.days, .int .i64 x.veh, .int .i64 x.cap, .int .i64 x.len, .slice A x.custs.length c, .slice B x.dist.length d] 25)
  have HB0 := Go.Lib.hid hb0
  have CG := fun W hb => Good_from h hy c d W hb
  have HM := Go.Lib.hid hy
  have HT := Go.Lib.hid hT
  have HLI := Go.Lib.hid hl
  have HLW := Go.Lib.hid hlw
  have hyn := hy.n
  unfold maxLen at hr
  unfold instV
  clear h hT hy hb0 hl hlw
  go_enter Tryd.func6, Tryd.ntmps6
  go_wp2_with (first
    | (go_at_call 12; refine (CG _ HB0.out).mono ?_; rintro e w1 ⟨A2, c2, B2, d2, rfl, hO, hY, hb1, hb1'⟩; have HYA := Go.Lib.hid hY; have HB1 := Go.Lib.hid (HB0.out.trans (hb1.mono HB0.out.size)); obtain ⟨j0, j1, j2, j3, j4, j5⟩ := hY.box.cells; have CC := cheap_code y A2 c2 B2 d2 _ hY.inst HM.out.sq HM.out.small (by omega); unfold CheapEnd instV at CC; clear hO hY hb1 hb1')
    | (go_at_call 18; refine CC.mono ?_; rintro e w2 ⟨gc, gl, rfl, hc2, hl2, hb2⟩; have HYB := Go.Lib.hid (HYA.out.keep hb2); have HB2 := Go.Lib.hid (HB1.out.trans (hb2.mono HB1.out.size)); obtain ⟨k0, k1, k2, k3, k4, k5⟩ := HYB.out.box.cells; have HCO := Go.Lib.hid hc2; have HLE := Go.Lib.hid hl2; clear hc2 hl2 hb2))
  clear CC CG
  go_loopw [9, 10, 11, 12, 13] (fun ov cv lv tv iv wr => ∃ (k m : Nat) (os : List Int) (cm le la : Int), k ≤ n ∧ k ≤ 8 ∧ m ≤ k ∧ iv = .int .i64 k ∧ cv = .int .i64 cm ∧ lv = .int .i64 le ∧ tv = .int .i64 la ∧ 0 ≤ cm ∧ cm ≤ 60 * m ∧ 0 ≤ le ∧ le ≤ 60 * m ∧ os.length = m ∧ (∀ z ∈ os, 0 ≤ z ∧ z < y.custs.length) ∧ diffL (-1) os ∧ la = lastL (-1) os ∧ cm = sumL (comeD y) os ∧ le = sumL (leaveD y) os ∧ wr.ownsRow w2.heap.size 3 1 ov m (os.map (Value.int .i64)) ∧ Below w2.heap.size w2 wr) (fun _ _ _ _ iv _ => n - (intOf iv).toNat)
  case atStart => exact ⟨0, 0, [], 0, 0, -1, Nat.zero_le _, by omega, by omega, rfl, rfl, rfl, rfl, by omega, by omega, by omega, by omega, rfl, (fun z hz => by simp at hz), trivial, rfl, rfl, rfl, World.ownsRow_nil _ _ _ _, Below.refl _ _⟩
  case round =>
    clear j0 j1 j2 j3 j4 j5 k0 k1 k2 k3 k4 k5
    obtain ⟨k, m, os, cm, le, la, hkn, hk8, hmk, rfl, rfl, rfl, rfl, q0, q1, q2, q3, hol, hob, hdf, hla, hcm, hle, hown, hB⟩ := hrel
    have HOL := Go.Lib.hid hol
    have HOB := Go.Lib.hid hob
    have HDF := Go.Lib.hid hdf
    have HLA := Go.Lib.hid hla
    have HCM := Go.Lib.hid hcm
    have HLV := Go.Lib.hid hle
    have HB := Go.Lib.hid hB
    obtain ⟨Ao, co, rfl, hco⟩ := own_form hown
    clear hol hob hdf hla hcm hle hB
    by_cases hgo : k < n ∧ k < 8
    · obtain ⟨hlt, h8⟩ := hgo
      have h8' : (k : Int) < 8 := by omega
      have hkl : k < l.length := by rw [HLI.out.1]; exact hlt
      obtain ⟨bb, off, rfl, hce⟩ := HLI.out.2 (by omega)
      have HBw := Go.Lib.hid (HB2.out.trans (HB.out.mono HB2.out.size))
      have c0 := keep_cell HBw.out (hce k hlt)
      have hz := HLW.out _ (List.getElem_mem hkl)
      rw [getD_in _ _ hkl] at c0
      obtain ⟨z, hze⟩ : ∃ z, z = l[k] := ⟨_, rfl⟩
      rw [← hze] at c0 hz
      obtain ⟨z0, z1⟩ := hz
      clear hce hkl hze
      by_cases hz0' : z < 0
      · go_wp2
        exact ⟨⟨k + 1, m, os, cm, le, la, by omega, by omega, by omega, by go_num, rfl, rfl, rfl, q0, q1, q2, q3, HOL.out, HOB.out, HDF.out, HLA.out, HCM.out, HLV.out, hown, HB.out⟩, by simp [intOf]; omega⟩
      · by_cases hzn : (y.custs.length : Int) ≤ z
        · go_wp2
          exact ⟨⟨k + 1, m, os, cm, le, la, by omega, by omega, by omega, by go_num, rfl, rfl, rfl, q0, q1, q2, q3, HOL.out, HOB.out, HDF.out, HLA.out, HCM.out, HLV.out, hown, HB.out⟩, by simp [intOf]; omega⟩
        · by_cases hzl : z = la
          · have t1 : (z == la) = true := beq_iff_eq.2 hzl
            clear hzl
            go_wp2
            exact ⟨⟨k + 1, m, os, cm, le, la, by omega, by omega, by omega, by go_num, rfl, rfl, rfl, q0, q1, q2, q3, HOL.out, HOB.out, HDF.out, HLA.out, HCM.out, HLV.out, hown, HB.out⟩, by simp [intOf]; omega⟩
          · have t1 : (z == la) = false := beq_eq_false_iff_ne.2 hzl
            obtain ⟨zn, rfl⟩ : ∃ zn : Nat, z = (zn : Int) := ⟨z.toNat, by omega⟩
            have hznn : zn < y.custs.length := by omega
            have hcc := HCO.out.2 (by omega)
            obtain ⟨b1, off1, e1, hcell⟩ := hcc
            injection e1 with e1
            injection e1 with e1 e2
            subst e1
            subst e2
            have c1 := hcell zn hznn
            rw [Nat.zero_add, getD_in _ _ (by simpa using hznn), List.getElem_map, List.getElem_range] at c1
            have hll := HLE.out.2 (by omega)
            obtain ⟨b2, off2, e1, hcell2⟩ := hll
            injection e1 with e1
            injection e1 with e1 e2
            subst e1
            subst e2
            have c2' := hcell2 zn hznn
            rw [Nat.zero_add, getD_in _ _ (by simpa using hznn), List.getElem_map, List.getElem_range] at c2'
            have HCc := Go.Lib.hid c1
            have HCl := Go.Lib.hid c2'
            have hb1 := comeD_bd HM.out.small zn
            have hb2 := leaveD_bd HM.out.small zn
            have H1 : Hid (cm + comeD y zn = sumL (comeD y) (os ++ [(zn : Int)])) := by show _ = _; rw [sumL_snoc, HCM.out, Int.toNat_natCast]
            have H2 : Hid (le + leaveD y zn = sumL (leaveD y) (os ++ [(zn : Int)])) := by show _ = _; rw [sumL_snoc, HLV.out, Int.toNat_natCast]
            have H3 : Hid (diffL (-1) (os ++ [(zn : Int)])) := diffL_snoc HDF.out (by rw [← HLA.out]; exact hzl)
            have H4 : Hid (∀ u ∈ os ++ [(zn : Int)], 0 ≤ u ∧ u < y.custs.length) := fun u hu => (List.mem_append.1 hu).elim (HOB.out u) (fun e => by simp at e; omega)
            have H5 : Hid ((os ++ [(zn : Int)]).length = m + 1) := by show _ = _; rw [List.length_append, HOL.out]; rfl
            have H6 : Hid ((zn : Int) = lastL (-1) (os ++ [(zn : Int)])) := lastL_snoc.symm
            have H7 : Hid (∀ (v' : Value) (w3 : World), w3.ownsRow w2.heap.size 3 1 v' (m + 1) (os.map (Value.int .i64) ++ [.int .i64 (zn : Int)]) → w3.ownsRow w2.heap.size 3 1 v' (m + 1) ((os ++ [(zn : Int)]).map (Value.int .i64))) := fun v' w3 h3 => by simpa using h3
            have hznI : (zn : Int) < (y.custs.length : Int) := by omega
            clear hcell hcell2 c1 c2' hzl
            generalize comeD y zn = vc at *
            generalize leaveD y zn = vl at *
            obtain ⟨vc0, vc1⟩ := hb1
            obtain ⟨vl0, vl1⟩ := hb2
            go_wp2_with (at_builtin; refine wpList_append_own _ rfl _ _ 33 rfl w2.heap.size 3 i0 (.int .i64 0) 1 8 Tryd.underlying33 hi hz0 hz1 hz2 rfl (by decide) _ _ _ rfl (hown.alloc _) ⟨wr.heap.size, 0, none⟩ 1 1 [.int .i64 (zn : Int)] rfl rfl (one_cell _ _ _) (one_okK _ _) (by unfold maxLen; omega) (by omega) (by have := HB.out.size; simp; omega) ?_; intro v' w3 hown' hgrow _; have R := (HB.out.alloc HB.out.size _).grown hgrow (by have := HB.out.size; simp; omega) (own_ge hown); have c3 := keep_cell R HCc.out; have c4 := keep_cell R HCl.out; clear hgrow)
            exact ⟨⟨k + 1, m + 1, os ++ [(zn : Int)], cm + vc, le + vl, (zn : Int), by omega, by omega, by omega, by go_num, rfl, rfl, rfl, by omega, by omega, by omega, by omega, H5.out, H4.out, H3.out, H6.out, H1.out, H2.out, H7.out _ _ hown', R⟩, by simp [intOf]; omega⟩
    · have hst : (¬ k < n ∧ k ≤ 8) ∨ (k < n ∧ (8 : Int) ≤ (k : Int) ∧ k ≤ 8) := by
        by_cases h : k < n
        · exact .inr ⟨h, by have : ¬ k < 8 := fun h2 => hgo ⟨h, h2⟩; omega, hk8⟩
        · exact .inl ⟨h, hk8⟩
      have HYr := Go.Lib.hid (HYB.out.keep HB.out)
      obtain ⟨j0, j1, j2, j3, j4, j5⟩ := HYr.out.box.cells
      have HBr := Go.Lib.hid (HB2.out.trans (HB.out.mono HB2.out.size))
      have hyn' := hyn
      have ht : TourL os := ⟨by rw [HOL.out]; omega, fun u hu => by have := HOB.out u hu; omega⟩
      have CW := way_code y A2 c2 B2 d2 Ao m co os wr HYr.out.inst HM.out.sq HM.out.small (Ints.of_own hown) ht
      unfold instV at CW
      have CL := fun W hb => lives6_any W (HT.out.keep hb)
      obtain ⟨g1, g2⟩ := way_least HM.out.small HOB.out HDF.out
      rw [← HCM.out] at g1
      rw [← HLV.out] at g2
      clear ht hown hgo
      generalize wayD y os = wv at *
      rcases hst with ⟨a1, a2⟩ | ⟨a1, a2, a3⟩
      all_goals
        go_wp2_with (first
          | (go_at_call 16; refine CW.mono ?_; rintro e w5 ⟨rfl, hb5⟩; have HB5 := Go.Lib.hid (HBr.out.trans (hb5.mono HBr.out.size)); clear hb5)
          | (go_at_call 13; refine (CL _ HB5.out).mono ?_; rintro e w6 ⟨rfl, hb6⟩; have HB6 := Go.Lib.hid (HB5.out.trans (hb6.mono HB5.out.size)); clear hb6))
        go_ret
        exact ⟨rfl, HB6.out⟩
section
variable {H : Type} {enc : TypeId × Value → H} {base : Nat}
theorem instLeast_frame (W : World) {v0 v1 : Value} {d0 d1 : DataW H} {p0 p1 : List MemPlace} (k0 : DataW.Trod enc Tryd.prog W 0 (fun _ => true) true 25 v0 d0 p0) (o0 : Value.okWide Tryd.prog W .any base 25 v0)
    (k1 : DataW.Trod enc Tryd.prog W 0 (fun _ => true) true 33 v1 d1 p1) (o1 : Value.okWide Tryd.prog W .any base 33 v1) (hT : Tab W) :
    Calls Tryd.prog 6 #[v0, v1] W fun e w' => e = .returned (.bool true) ∧ Below W.heap.size W w' := by
  obtain ⟨x, A, c, B, e, rfl, hI⟩ := inst_open k0 o0
  obtain ⟨L, n, r, l, rfl, h1, h2, h3, h4⟩ := ints_open k1 o1
  exact instLeast_any x A c B e L n r l W hT hI h1 h2 h3 h4
end
end Go.Proofs.YtmfahjghfpckeaaDoor
