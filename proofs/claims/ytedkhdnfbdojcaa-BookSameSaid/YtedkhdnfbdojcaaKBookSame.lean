import Derived.Test.YtedkhdnfbdojcaaK07
import Derived.Test.YtedkhdnfbdojcaaK21
import Derived.Test.YtedkhdnfbdojcaaK20
import Derived.Deep.RegionHeld3
section
/- BookSame walked: two plans are the same just if all is, and a clone is the same, with lists of its own. -/
namespace Go.Proofs.Ytedkhdnfbdojcaa
open Go.RowKit Go.ChangeShapes Go.WideShapes
set_option linter.unusedVariables false
set_option maxRecDepth 20000
theorem cutT_idem (t : TourD) : cutT (cutT t) = cutT t := by unfold cutT; rw [List.take_take]; rfl
theorem cutD_idem (d : DayD) : cutD (cutD d) = cutD d := by
  unfold cutD
  rw [← List.map_take, List.take_take, List.map_map]
  refine List.map_congr_left fun t _ => ?_
  exact cutT_idem t
theorem cutP_idem (p : PlanD) : cutP (cutP p) = cutP p := by
  unfold cutP
  rw [← List.map_take, List.take_take, List.map_map]
  refine List.map_congr_left fun d _ => ?_
  exact cutD_idem d
theorem CutIn.far {w W : World} {g g' base : Nat} {q : PlanD} {P : Option Addr} {k : Nat} (h : CutIn w g base q P k W) (hg : g ≠ g') (hb : g' < base) (hw : w.heap.size ≤ g') (v : Value) : CutIn w g base q P k (W.setCell ⟨g', 0, none⟩ v) :=
  ⟨h.box.kept (grown_cell W ⟨g', 0, none⟩ v) (fun e => hg (Option.some.inj e)), h.own.far (by show g' < base; exact hb) v, h.low.setCell (by show w.heap.size ≤ g'; exact hw) v⟩
theorem sameC_from {w W : World} {p q : PlanD} {A C : Option Addr} {c e : Nat} {r : Bool} (hr : decide (p = q) = r) (hp : WfP p) (hq : WfP q) (h : PlanIs w A p) (h2 : PlanIs w C q) (hb : Below w.heap.size w W) :
    Calls Try.prog 8 #[planV p A c, planV q C e] W fun E w' => E = .returned (.bool r) ∧ Below w.heap.size w w' :=
  (bookSame_code p q A c C e W hp hq (h.keep hb) (h2.keep hb) r hr).mono fun E w' ⟨h1, h2⟩ => ⟨h1, hb.trans (h2.mono hb.size)⟩
theorem sameR_from {w W : World} {p q : PlanD} {A C : Option Addr} {c e : Nat} {r : Bool} (hr : decide (p = q) = r) (hp : WfP p) (hq : WfP q) (h : PlanIs w A p) (h2 : PlanIs w C q) (hb : Below w.heap.size w W) :
    Calls Try.prog 9 #[planV p A c, planV q C e] W fun E w' => E = .returned (.bool r) ∧ Below w.heap.size w w' := by
  subst hr
  exact (planSame_ref p q A c C e W hp hq (h.keep hb) (h2.keep hb)).mono fun E w' ⟨h1, h2⟩ => ⟨h1, hb.trans (h2.mono hb.size)⟩
theorem KDaysAt.cellIn {a b g n k i : Nat} {W : World} {us : List Value} (h : KDaysAt a b W (.slice (some ⟨g, 0, none⟩) n k) n us) (hi : i < us.length) : W.cell? ⟨g, i, none⟩ = some us[i] := by
  have := h.row.1
  rw [h.row.cellAt i (by omega), List.getElem?_eq_getElem hi]
theorem KToursAt.cellIn {a b g n k i : Nat} {W : World} {us : List Value} (h : KToursAt a b W (.slice (some ⟨g, 0, none⟩) n k) n us) (hi : i < us.length) : W.cell? ⟨g, i, none⟩ = some us[i] := by
  have := h.row.1
  rw [h.row.cellAt i (by omega), List.getElem?_eq_getElem hi]
set_option maxRecDepth 100000 in
set_option maxHeartbeats 16000000 in
theorem bookSame_law (p q : PlanD) (A : Option Addr) (c : Nat) (C : Option Addr) (e : Nat) (w : World) (hw1 : WfP p) (hw2 : WfP q) (h1 : PlanIs w A p) (h2 : PlanIs w C q) :
    Calls Try.prog 3 #[planV p A c, planV q C e] w fun e W' => e = .returned (.bool true) ∧ Below w.heap.size w W' := by
  have CL := fun W => lives8_any W
  have HB0 := Go.Lib.hid (two_boxes w (.slice A p.length c) (.slice C q.length e) 24)
  have K0 := (Boxed.new w 24 (.slice A p.length c)).alloc (.cells #[.slice C q.length e] 24)
  have K1 := Boxed.new (w.alloc (.cells #[.slice A p.length c] 24)) 24 (.slice C q.length e)
  rw [World.size_alloc] at K1
  have HKP := Go.Lib.hid K0
  have HKQ := Go.Lib.hid K1
  have CC1 := Cut_any p A c _ hw1 (h1.keep HB0.out)
  have CC2 := fun W (hb : Below w.heap.size w W) => Cut_any q C e W hw2 (h2.keep hb)
  have CC3 := fun P k W hI => Cut_any (cutP p) P k W (cutP_wf hw1) hI
  rw [cutP_idem] at CC3
  have HW1 := Go.Lib.hid (cutP_wf hw1)
  have HW2 := Go.Lib.hid (cutP_wf hw2)
  have HF1 := Go.Lib.hid (cutP_few p)
  have hn1 := cutP_n p
  generalize cutP p = q1 at *
  generalize cutP q = q2 at *
  have CLN := fun P k base W ho => bookClone_code q1 P k base W ho HF1.out
  obtain ⟨r, hr⟩ : ∃ r, decide (q1 = q2) = r := ⟨_, rfl⟩
  have hrr : (r != r) = false := by cases r <;> rfl
  have hs0 : ((w.alloc (.cells #[.slice A p.length c] 24)).alloc (.cells #[.slice C q.length e] 24)).heap.size = w.heap.size + 1 + 1 := by simp
  have HS0 := Go.Lib.hid hs0
  have HRR := Go.Lib.hid hr
  unfold planV at CC1 CC2 CC3 CLN ⊢
  clear h1 h2 hw1 hw2 K0 K1 hr hs0
  go_enter Try.func3, Try.ntmps3
  go_wp2_with (first
    | (go_at_call 6; (with_reducible refine CC1.mono ?_); rintro e w1 ⟨v, rfl, ho, hb1⟩; obtain ⟨P1, k1, rfl, _⟩ := OwnDays.len ho; have HX1 := Go.Lib.hid (CutIn.of HB0.out HKP.out (Nat.le_refl _) hb1 ho); have f1 := (box_below HKP.out hb1).frozen; have c1 := (box_below HKP.out hb1).cell; have HQ1 := Go.Lib.hid ((box_below HKQ.out hb1).kept (grown_cell w1 ⟨w.heap.size, 0, none⟩ (.slice P1 q1.length k1)) (fun e => by have e2 : w.heap.size + 1 = w.heap.size := Option.some.inj e; omega)); have y1 := HQ1.out.cell; clear ho hb1)
    | (go_at_call 6; (with_reducible refine (CC2 _ HX1.out.low).mono ?_); rintro e w2 ⟨v, rfl, ho, hb2⟩; obtain ⟨P2, k2, rfl, _⟩ := OwnDays.len ho; have HXq := Go.Lib.hid (CutIn.of HX1.out.low HQ1.out (Nat.le_succ _) hb2 ho); have HXp := Go.Lib.hid ((HX1.out.keep hb2).far (g' := w.heap.size + 1) (by omega) (by rw [HS0.out]; omega) (Nat.le_succ _) (.slice P2 q2.length k2)); have f2 := (box_below HQ1.out hb2).frozen; have c2 := (box_below HQ1.out hb2).cell; have y2 := HXp.out.box.cell; clear ho hb2)
    | (go_at_call 7; (with_reducible refine (CLN _ _ _ _ HXp.out.own).mono ?_); rintro e w3 ⟨P3, k3, rfl, ho3, hb3⟩; have HO3 := Go.Lib.hid ho3; have HB3 := Go.Lib.hid hb3; have HBA := Go.Lib.hid (below_alloc w3 (.cells #[.slice P3 q1.length k3] 24)); have y3 := ((HXp.out.keep hb3).keep HBA.out).box.cell; clear ho3 hb3)
    | (go_at_call 6; (with_reducible refine (CC3 _ _ _ ((HXp.out.keep HB3.out).keep HBA.out).own.reads).mono ?_); rintro e w4 ⟨v, rfl, ho4, hb4⟩; obtain ⟨P4, k4, rfl, _⟩ := OwnDays.len ho4; have HO4 := Go.Lib.hid ho4; have HB4 := Go.Lib.hid hb4; clear ho4 hb4))
  clear f1 c1 y1 f2 c2 y2 y3 CC1 CC2 CC3 CLN HX1 HQ1 HKP HKQ HB0
  generalize w2.setCell ⟨w.heap.size + 1, 0, none⟩ (.slice P2 q2.length k2) = W2 at *
  have hba4 := below_alloc w4 (.cells #[.slice P4 q1.length k4] 24)
  have HBX := Go.Lib.hid ((HBA.out.mono (Nat.le_refl _)).trans ((HB4.out.mono HBA.out.size).trans (hba4.mono (Nat.le_trans HBA.out.size HB4.out.size))))
  have HB2 := Go.Lib.hid (HB3.out.trans (HBX.out.mono HB3.out.size))
  have HCB := Go.Lib.hid (box_below (box_below (Boxed.new w3 24 (.slice P3 q1.length k3)) HB4.out) hba4)
  have HKB := Go.Lib.hid (Boxed.new w4 24 (.slice P4 q1.length k4))
  have HK4 := Go.Lib.hid (HO4.out.keep hba4)
  have HKC := Go.Lib.hid ((KDays.of HO3.out (Nat.le_refl _)).keep HBX.out)
  have HOC := Go.Lib.hid (HO3.out.keep HBX.out)
  have HXP := Go.Lib.hid (HXp.out.keep HB2.out)
  have HXQ := Go.Lib.hid (HXq.out.keep HB2.out)
  have hs3 : W2.heap.size ≤ w3.heap.size := HB3.out.size
  have hs4 : w3.heap.size < w4.heap.size := by have := HB4.out.size; rw [World.size_alloc] at this; omega
  have hsw : w.heap.size + 1 < W2.heap.size := HXq.out.box.lt
  have HXA : Hid (w3.heap.size ≤ (w3.alloc (.cells #[.slice P3 q1.length k3] 24)).heap.size) := HBA.out.size
  generalize (w3.alloc (.cells #[.slice P3 q1.length k3] 24)).heap.size = b4 at *
  clear hba4
  generalize w4.alloc (.cells #[.slice P4 q1.length k4] 24) = W4 at *
  have CS1 := fun W hb => sameC_from (c := k1) (e := k2) (W := W) HRR.out HW1.out HW2.out HXP.out.own.reads HXQ.out.own.reads hb
  have CR1 := fun W hb => sameR_from (c := k1) (e := k2) (W := W) HRR.out HW1.out HW2.out HXP.out.own.reads HXQ.out.own.reads hb
  have CS2 := fun W hb => sameC_from (p := q1) (q := q1) (c := k1) (e := k3) (W := W) (decide_eq_true rfl) HW1.out HW1.out HXP.out.own.reads HOC.out.reads hb
  have CR2 := fun W hb => sameR_from (p := q1) (q := q1) (c := k1) (e := k3) (W := W) (decide_eq_true rfl) HW1.out HW1.out HXP.out.own.reads HOC.out.reads hb
  unfold planV at CS1 CR1 CS2 CR2
  have hbx := Below.refl W4.heap.size W4
  have i0 := HXP.out.box.cell
  have i1 := HXQ.out.box.cell
  have i2 := HCB.out.cell
  have HCC := Go.Lib.hid (And.intro i0 (And.intro i1 i2))
  go_region_held3 (fun w' => w'.cell? ⟨w.heap.size, 0, none⟩ = some (.slice P1 q1.length k1) ∧ w'.cell? ⟨w.heap.size + 1, 0, none⟩ = some (.slice P2 q2.length k2) ∧ w'.cell? ⟨w3.heap.size, 0, none⟩ = some (.slice P3 q1.length k3))
    (first | exact ⟨i0, i1, i2⟩ | exact ⟨cell_keep HCC.out.1 hbx, cell_keep HCC.out.2.1 hbx, cell_keep HCC.out.2.2 hbx⟩ | exact ⟨cell_keep HCC.out.1 hbx.drew, cell_keep HCC.out.2.1 hbx.drew, cell_keep HCC.out.2.2 hbx.drew⟩ | go_keep)
    (first
      | (go_at_call 8; (first | (with_reducible refine (CS1 _ (by first | exact hbx | exact hbx.drew)).mono ?_) | (with_reducible refine (CS2 _ (by first | exact hbx | exact hbx.drew)).mono ?_)); rintro e w6 ⟨rfl, hb6⟩; replace hbx := hb6; clear hb6)
      | (go_at_call 9; (first | (with_reducible refine (CR1 _ (by first | exact hbx | exact hbx.drew)).mono ?_) | (with_reducible refine (CR2 _ (by first | exact hbx | exact hbx.drew)).mono ?_)); rintro e w6 ⟨rfl, hb6⟩; replace hbx := hb6; clear hb6))
  all_goals
    have HB6 := Go.Lib.hid (hbx : Below W4.heap.size W4 w6)
    obtain ⟨Wz, rfl⟩ : ∃ x, x = w6 := ⟨_, rfl⟩
    have HC6 := Go.Lib.hid (box_below HCB.out HB6.out)
    have HK6 := Go.Lib.hid (box_below HKB.out HB6.out)
    have HO6 := Go.Lib.hid (HK4.out.keep HB6.out)
    have HD6 := Go.Lib.hid (HKC.out.keep HB6.out)
    have HBa := Go.Lib.hid (HB2.out.trans (HB6.out.mono HB2.out.size))
    have c6 := HC6.out.cell
    clear CS1 CR1 CS2 CR2 HCC i0 i1 i2 hrr hbx HCB HKB HK4 HKC HXP HXQ HXq HOC HO3 HO4 HB3 HB4 HBX HBA HB2 HRR HS0
    obtain ⟨n, hn⟩ : ∃ n, n = q1.length := ⟨_, rfl⟩
    rw [← hn] at HC6 HD6 c6 hn1 ⊢
    have HN := Go.Lib.hid hn
    clear hn
    go_wp2
    clear c6
    go_loopw [7] (fun iv wr => ∃ j : Nat, j ≤ n ∧ iv = .int .i64 j ∧ KDays W2.heap.size w3.heap.size wr (.slice P3 n k3) n ∧ Mid W2.heap.size w3.heap.size Wz wr) (fun iv _ => n - (intOf iv).toNat)
    case atStart => exact ⟨0, Nat.zero_le _, rfl, HD6.out, .refl _ _ _⟩
    case round =>
      clear HD6
      obtain ⟨j, hj, rfl, hK, hM⟩ := hrel
      have HM := Go.Lib.hid hM
      have hbox := (box_mid HC6.out (.inr (Nat.le_refl _)) hM).cell
      clear hM
      by_cases hlt : j < n
      · obtain ⟨us, hKA⟩ := hK
        obtain ⟨g, rfl, ga, gb, hu, hcu, hfu⟩ := hKA.at hlt
        obtain ⟨m, hT⟩ := hKA.all j hu
        obtain ⟨Pt, kt, eu⟩ := hT.form
        rw [eu] at hcu hT
        have HKA := Go.Lib.hid hKA
        have HT := Go.Lib.hid hT
        have hml : m ≤ maxLen := by
          obtain ⟨vs, hv⟩ := hT
          rcases hv.row.2 with ⟨_, e0⟩ | ⟨_, _, _, _, _, _, _, e1, _, _⟩
          · rw [e0]; exact Nat.zero_le _
          · exact Nat.le_trans (by assumption) e1
        unfold maxLen at hml
        clear hKA hT
        go_wp2
        clear hbox hcu hfu
        go_loopw [8] (fun kv wk => ∃ t : Nat, t ≤ m ∧ kv = .int .i64 t ∧ KDaysAt W2.heap.size w3.heap.size wk (.slice (some ⟨g, 0, none⟩) n k3) n us ∧ KTours W2.heap.size w3.heap.size wk (.slice Pt m kt) m ∧ Mid W2.heap.size w3.heap.size Wz wk) (fun kv _ => m - (intOf kv).toNat)
        case atStart => exact ⟨0, Nat.zero_le _, rfl, HKA.out, HT.out, HM.out⟩
        case round =>
          clear HKA HT HM
          obtain ⟨t, ht, rfl, hKA, hT, hM⟩ := hrel
          have HM := Go.Lib.hid hM
          have HKA := Go.Lib.hid hKA
          have hbox := (box_mid HC6.out (.inr (Nat.le_refl _)) hM).cell
          have hcu := hKA.cellIn hu
          rw [eu] at hcu
          have hfu := hKA.row.frozenAt j
          clear hM hKA
          by_cases hlt2 : t < m
          · obtain ⟨vs, hVA⟩ := hT
            obtain ⟨g2, rfl, g2a, g2b, hv, hcv, hfv⟩ := hVA.at hlt2
            obtain ⟨s, hS⟩ := hVA.all t hv
            obtain ⟨Ps, ks, ev⟩ := hS.form
            rw [ev] at hcv hS
            have HVA := Go.Lib.hid hVA
            have HS := Go.Lib.hid hS
            have hsl : s ≤ maxLen := by
              obtain ⟨ts, hts, hv, _⟩ := hS
              rcases hv.2 with ⟨_, e0⟩ | ⟨_, _, _, _, _, _, _, e1, _, _⟩
              · rw [← hts, e0]; exact Nat.zero_le _
              · rw [← hts]; exact Nat.le_trans (by assumption) e1
            unfold maxLen at hsl
            clear hVA hS
            go_wp2
            clear hbox hcu hfu hcv hfv
            go_loopw [9] (fun kv wk => ∃ i : Nat, i ≤ s ∧ kv = .int .i64 i ∧ KDaysAt W2.heap.size w3.heap.size wk (.slice (some ⟨g, 0, none⟩) n k3) n us ∧ KToursAt W2.heap.size w3.heap.size wk (.slice (some ⟨g2, 0, none⟩) m kt) m vs ∧ KStops W2.heap.size w3.heap.size wk (.slice Ps s ks) s ∧ Mid W2.heap.size w3.heap.size Wz wk) (fun kv _ => s - (intOf kv).toNat)
            case atStart => exact ⟨0, Nat.zero_le _, rfl, HKA.out, HVA.out, HS.out, HM.out⟩
            case round =>
              clear HKA HVA HS HM
              obtain ⟨i, hi, rfl, hKA, hVA, hS, hM⟩ := hrel
              have HM := Go.Lib.hid hM
              have HKA := Go.Lib.hid hKA
              have HVA := Go.Lib.hid hVA
              have HS := Go.Lib.hid hS
              have hbox := (box_mid HC6.out (.inr (Nat.le_refl _)) hM).cell
              have hcu := hKA.cellIn hu
              rw [eu] at hcu
              have hcv := hVA.cellIn hv
              rw [ev] at hcv
              have hfv := hVA.row.frozenAt t
              clear hM hKA hVA
              by_cases hlt3 : i < s
              · obtain ⟨g3, rfl, g3a, g3b, z, hz, hfz, hst⟩ := hS.at hlt3
                have HST := Go.Lib.hid hst
                have HSH := Go.Lib.hid (fun y => ShapeP.store (y := .int .i64 y) hz (.inr (.inl ⟨_, _, _, rfl, rfl⟩)))
                clear hst hS
                go_wp2
                exact ⟨⟨i + 1, by omega, by go_num, HKA.out.same (HSH.out _) (HST.out _).1, HVA.out.same (HSH.out _) (HST.out _).2.1, HS.out.turn (HSH.out _), HM.out.store (by show _ ≤ g3; omega) (by show g3 < _; omega) _⟩, by simp [intOf]; omega⟩
              · obtain rfl : i = s := by omega
                have HSH := Go.Lib.hid (ShapeP.store (y := .slice none 0 0) hcv (.inr (.inr ⟨_, _, _, rfl, rfl⟩)))
                have HSD := Go.Lib.hid (same_store HVA.out.row (t := 29) (by decide) t (.slice none 0 0))
                clear hS
                go_wp2
                exact ⟨⟨t + 1, by omega, by go_num, HKA.out.same HSH.out HSD.out, KTours.turn ⟨_, HVA.out⟩ HSH.out, HM.out.store (by show _ ≤ g2; omega) (by show g2 < _; omega) _⟩, by simp [intOf]; omega⟩
          · obtain rfl : t = m := by omega
            have HSH := Go.Lib.hid (ShapeP.store (y := .slice none 0 0) hcu (.inr (.inr ⟨_, _, _, rfl, rfl⟩)))
            clear hT
            go_wp2
            exact ⟨⟨j + 1, by omega, by go_num, KDays.turn ⟨_, HKA.out⟩ HSH.out, HM.out.store (by show _ ≤ g; omega) (by show g < _; omega) _⟩, by simp [intOf]; omega⟩
      · obtain rfl : j = n := by omega
        have hba := Go.Lib.hid (HBa.out.trans HM.out.below)
        have HPE := Go.Lib.hid (HXp.out.keep hba.out)
        have hkb := box_mid HK6.out (.inr (by omega)) HM.out
        have HKE := Go.Lib.hid (HO6.out.above HXA.out HM.out)
        have p0 := HPE.out.box.cell
        have k0 := hkb.cell
        have CR := sameR_from (p := q1) (q := q1) (c := k1) (e := k4) (decide_eq_true rfl) HW1.out HW1.out HPE.out.own.reads HKE.out.reads (Below.refl _ _)
        unfold planV at CR
        have HLE := Go.Lib.hid HPE.out.low
        clear hK hkb
        go_wp2_with (first
          | (go_at_call 9; refine CR.mono ?_; rintro e w7 ⟨rfl, hb7⟩; have HB7 := Go.Lib.hid (HLE.out.trans (hb7.mono HLE.out.size)); clear hb7)
          | (go_at_call 10; refine (CL _).mono ?_; rintro e w8 ⟨rfl, hb8⟩; have HB8 := Go.Lib.hid (HB7.out.trans (hb8.mono HB7.out.size)); clear hb8))
        go_ret
        exact ⟨rfl, HB8.out⟩
section
variable {H : Type} {enc : TypeId × Value → H} {base : Nat}
theorem bookSame_frame (W : World) {v0 v1 : Value} {d0 d1 : DataW H} {p0 p1 : List MemPlace} (k0 : DataW.Trod enc Try.prog W 0 (fun _ => true) true 24 v0 d0 p0) (o0 : Value.okWide Try.prog W .any base 24 v0)
    (k1 : DataW.Trod enc Try.prog W 0 (fun _ => true) true 24 v1 d1 p1) (o1 : Value.okWide Try.prog W .any base 24 v1) :
    Calls Try.prog 3 #[v0, v1] W fun e w' => e = .returned (.bool true) ∧ Below W.heap.size W w' := by
  obtain ⟨p, A, c, rfl, hI, hw, _⟩ := plan_open k0 o0
  obtain ⟨q, C, e, rfl, hJ, hw2, _⟩ := plan_open k1 o1
  exact bookSame_law p q A c C e W hw hw2 hI hJ
end
end Go.Proofs.Ytedkhdnfbdojcaa
end
