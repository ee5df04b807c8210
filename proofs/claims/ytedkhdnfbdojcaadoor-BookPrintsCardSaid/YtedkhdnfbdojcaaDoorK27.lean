import Derived.Test.YtedkhdnfbdojcaaDoorK09
import Derived.Test.YtedkhdnfbdojcaaDoorK26
import Derived.Deep.CutRange
section
/- What the document's Print of plans answers, off its code. -/
namespace Go.Proofs.YtedkhdnfbdojcaaDoor
open Go.RowKit
set_option linter.unusedVariables false
set_option maxRecDepth 20000
theorem decP_from {w W : World} (n : Int) (hn : W64 n) (hb : Below w.heap.size w W) : Calls Tryd.prog 17 #[.int .i64 n] W fun e w' => e = .returned (.string (strL (decI n))) ∧ Below w.heap.size w w' :=
  (dec_ref n hn W).mono fun e w' ⟨h1, h2⟩ => ⟨h1, hb.trans (h2.mono hb.size)⟩
set_option maxHeartbeats 8000000 in
theorem planPrint_ref (p : PlanD) (A : Option Addr) (c : Nat) (w : World) (hw : WfP p) (hf : FewP p) (h : PlanIs w A p) :
    Calls Tryd.prog 6 #[planV p A c] w fun e w' => e = .returned (.tuple (if okPl p = true then #[.string (strL (planT p)), .bool true] else #[.string ⟨#[]⟩, .bool false])) ∧ Below w.heap.size w w' := by
  obtain ⟨R, hR⟩ : ∃ R : Array Value, R = (if okPl p = true then #[.string (strL (planT p)), .bool true] else #[.string ⟨#[]⟩, .bool false]) := ⟨_, rfl⟩
  rw [← hR]
  have HR := Go.Lib.hid hR
  have hb0 := below_alloc w (.cells #[.slice A p.length c] 24)
  have HB := Go.Lib.hid hb0
  have HP := Go.Lib.hid (h.keep hb0)
  have K0 := Boxed.new w 24 (.slice A p.length c)
  have hpn := hf.n
  have HW := Go.Lib.hid hw
  have HF := Go.Lib.hid hf
  have HWN : Hid (W64 (p.length : Int)) := len_w hpn
  have CD := fun W hb => decP_from (w := w.alloc (.cells #[.slice A p.length c] 24)) (W := W) (p.length : Int) HWN.out hb
  have hds : (strL (decI (p.length : Int))).size ≤ 20 := by rw [strL_size]; exact decI_bd HWN.out
  have HE0 := Go.Lib.hid (plan_head (decI (p.length : Int)))
  have hl1 := two_bd (a := wPlan) (by decide) hpn
  obtain ⟨L1, hL1⟩ : ∃ L, L = lineT [wPlan, decI (p.length : Int)] := ⟨_, rfl⟩
  rw [← hL1] at HE0 hl1
  have HL1 := Go.Lib.hid hL1
  have HLB : Hid (∀ j, (L1 ++ (p.take j).flatMap dayT).length ≤ 50000000000) := fun j => by
    have := days_bd hw hf j
    rw [List.length_append]
    omega
  generalize strL (decI (p.length : Int)) = s0 at *
  unfold planV
  obtain ⟨W0, hW0⟩ : ∃ W, W = w.alloc (.cells #[.slice A p.length c] 24) := ⟨_, rfl⟩
  clear hR h hw hf hb0 hL1 hl1
  go_enter Tryd.func6, Tryd.ntmps6
  go_wp2_with (go_at_call 17; refine (CD _ (Below.refl _ _)).mono ?_; rintro e w1 ⟨rfl, hb1⟩)
  rw [← hW0] at HB HP K0 hb1
  clear CD hW0
  have HB1 := Go.Lib.hid hb1
  clear hb1
  have x0 := cell_keep K0.cell HB1.out
  go_loopw [4, 5, 6] (fun ov sv iv wr => ∃ (j : Nat) (o : Bool) (S : ByteArray), j ≤ p.length ∧ iv = .int .i64 j ∧ ov = .bool o ∧ o = okPl (p.take j) ∧ sv = .string S ∧ S = strL (L1 ++ (p.take j).flatMap dayT) ∧ Below W0.heap.size W0 wr) (fun _ _ iv _ => p.length - (intOf iv).toNat)
  case atStart => exact ⟨0, _, _, Nat.zero_le _, rfl, rfl, rfl, rfl, by rw [HE0.out]; simp, HB1.out⟩
  case round =>
    clear x0 HB1
    obtain ⟨j, o, S, hj, rfl, rfl, ho, rfl, hS, hLo⟩ := hrel
    have HO := Go.Lib.hid ho
    have HS := Go.Lib.hid hS
    have HLO := Go.Lib.hid hLo
    have x0 := cell_keep K0.cell hLo
    have hsz : S.size ≤ 50000000000 := by rw [hS, strL_size]; exact HLB.out j
    clear ho hS hLo
    by_cases hlt : j < p.length
    · obtain ⟨b, off, rfl, P, k, c0, t0, n0⟩ := HP.out j hlt
      rw [Nat.mul_one] at c0
      have y0 := cell_keep c0 HLO.out
      have HT0 := Go.Lib.hid t0
      have HC0 := Go.Lib.hid c0
      have hdn := HF.out.day _ (List.getElem_mem hlt)
      have htn := HF.out.tour _ (List.getElem_mem hlt)
      have hst := HW.out.stop _ (List.getElem_mem hlt)
      have HN : Hid (p.take (j + 1) = p.take j ++ [p[j]]) := List.take_succ_eq_append_getElem hlt
      obtain ⟨d, hd⟩ : ∃ d, d = p[j] := ⟨_, rfl⟩
      rw [← hd] at y0 HT0 HC0 hdn htn hst HN
      have HTN := Go.Lib.hid htn
      have HST := Go.Lib.hid hst
      have HWD : Hid (W64 (d.length : Int)) := len_w hdn
      have CD := fun W hb => decP_from (w := wr) (W := W) (d.length : Int) HWD.out hb
      have hds : (strL (decI (d.length : Int))).size ≤ 20 := by rw [strL_size]; exact decI_bd HWD.out
      obtain ⟨L, hL⟩ : ∃ L, L = L1 ++ (p.take j).flatMap dayT := ⟨_, rfl⟩
      rw [← hL] at HS
      have HE1 : Hid (((S ++ ⟨#[100, 97, 121, 32]⟩) ++ strL (decI (d.length : Int))) ++ ⟨#[10]⟩ = strL (L ++ lineT [wDay, decI (d.length : Int)])) := by
        show _ = _
        rw [HS.out]; exact day_head _ _
      have hll : L.length ≤ 50000000000 := by rw [hL]; exact HLB.out j
      have hl2 := two_bd (a := wDay) (by decide) hdn
      obtain ⟨L2, hL2⟩ : ∃ L', L' = L ++ lineT [wDay, decI (d.length : Int)] := ⟨_, rfl⟩
      rw [← hL2] at HE1
      have HLB2 : Hid (∀ m, (L2 ++ linesT ((d.take m).map tourW)).length ≤ 60000000000) := fun m => by
        have := tours_bd hdn htn hst m
        rw [List.length_append, hL2, List.length_append]
        omega
      have HEN : Hid (L2 ++ linesT (d.map tourW) = L1 ++ (p.take (j + 1)).flatMap dayT) := by
        show _ = _
        rw [HN.out, List.flatMap_append, ← List.append_assoc, ← hL, hL2, List.append_assoc]
        simp [dayT]
      have HON : Hid (okPl (p.take (j + 1)) = (okPl (p.take j) && okD d)) := by
        show _ = _
        rw [HN.out]
        unfold okPl
        rw [List.all_append]
        simp
      generalize strL (decI (d.length : Int)) = s1 at *
      obtain ⟨wq, hwq⟩ : ∃ q, q = wr := ⟨_, rfl⟩
      rw [← hwq] at x0 y0 HLO CD ⊢
      clear hd c0 t0 n0 htn hst hL hll hl2 hL2 hwq
      go_wp2_with (go_at_call 17; refine (CD _ (Below.refl _ _)).mono ?_; rintro e w2 ⟨rfl, hb2⟩)
      have HB2 := Go.Lib.hid hb2
      have x2 := cell_keep x0 hb2
      have y2 := cell_keep y0 hb2
      clear hb2 CD x0 y0
      go_loopw [4, 5, 7] (fun ov sv kv wk => ∃ (m : Nat) (o2 : Bool) (T : ByteArray), m ≤ d.length ∧ kv = .int .i64 m ∧ ov = .bool o2 ∧ o2 = (o && okD (d.take m)) ∧ sv = .string T ∧ T = strL (L2 ++ linesT ((d.take m).map tourW)) ∧ Below wq.heap.size wq wk) (fun _ _ kv _ => d.length - (intOf kv).toNat)
      case atStart => exact ⟨0, _, _, Nat.zero_le _, rfl, rfl, by simp [okD], rfl, by rw [HE1.out]; simp [linesT], HB2.out⟩
      case round =>
        clear x2 y2 HB2
        obtain ⟨m, o2, T, hm, rfl, rfl, ho2, rfl, hT, hLo2⟩ := hrel
        have HO2 := Go.Lib.hid ho2
        have HT := Go.Lib.hid hT
        have HLO2 := Go.Lib.hid hLo2
        have hLW := HLO.out.trans (hLo2.mono HLO.out.size)
        have x0 := cell_keep K0.cell hLW
        have y0 := cell_keep HC0.out hLW
        have hsz2 : T.size ≤ 60000000000 := by rw [hT, strL_size]; exact HLB2.out m
        have HLW := Go.Lib.hid hLW
        clear ho2 hT hLo2 hLW
        by_cases hlt2 : m < d.length
        · obtain ⟨b2, off2, rfl, P2, k2, c2, t2, n2⟩ := HT0.out m hlt2
          rw [Nat.mul_one] at c2
          have z0 := cell_keep c2 HLW.out
          have HT2 := Go.Lib.hid t2
          have htn := HTN.out _ (List.getElem_mem hlt2)
          have hst := HST.out _ (List.getElem_mem hlt2)
          have HN2 : Hid (d.take (m + 1) = d.take m ++ [d[m]]) := List.take_succ_eq_append_getElem hlt2
          obtain ⟨t, ht⟩ : ∃ t, t = d[m] := ⟨_, rfl⟩
          rw [← ht] at z0 HT2 htn hst HN2
          have HWT : Hid (W64 (t.length : Int)) := len_w htn
          have hds : (strL (decI (t.length : Int))).size ≤ 20 := by rw [strL_size]; exact decI_bd HWT.out
          obtain ⟨L3, hL3⟩ : ∃ L, L = L2 ++ linesT ((d.take m).map tourW) := ⟨_, rfl⟩
          rw [← hL3] at HT
          have HE2 : Hid ((T ++ ⟨#[116, 111, 117, 114, 32]⟩) ++ strL (decI (t.length : Int)) = strL (L3 ++ Lib.join [wTour, decI (t.length : Int)] [32])) := by
            show _ = _
            rw [HT.out]; exact tour_head _ _
          have HLB3 : Hid (∀ i, (L3 ++ Lib.join (wTour :: decI (t.length : Int) :: (t.take i).flatMap stopW) [32]).length ≤ 70000000000) := fun i => by
            have h1 := part_bd htn hst i
            have h2 := join_le L3 (wTour :: decI (t.length : Int) :: (t.take i).flatMap stopW)
            have h3 : L3.length ≤ 60000000000 := by rw [hL3]; exact HLB2.out m
            omega
          have HEN2 : Hid (L3 ++ lineT (tourW t) = L2 ++ linesT ((d.take (m + 1)).map tourW)) := by
            show _ = _
            rw [HN2.out, List.map_append, hL3, List.append_assoc]
            congr 1
            exact (linesT_snoc _ _).symm
          have HON2 : Hid (okD (d.take (m + 1)) = (okD (d.take m) && okT t)) := by
            show _ = _
            rw [HN2.out]
            unfold okD
            rw [List.all_append]
            simp
          have HST2 := Go.Lib.hid hst
          obtain ⟨we, hwe⟩ : ∃ q, q = wr := ⟨_, rfl⟩
          rw [← hwe] at x0 y0 z0 HLO2 HLW ⊢
          have CD := fun W hb => decP_from (w := we) (W := W) (t.length : Int) HWT.out hb
          obtain ⟨s2, hs2⟩ : ∃ s, s = strL (decI (t.length : Int)) := ⟨_, rfl⟩
          rw [← hs2] at HE2 hds CD
          clear ht c2 t2 n2 hst hL3 hwe hs2
          go_wp2_with (go_at_call 17; refine (CD _ (Below.refl _ _)).mono ?_; rintro e w3 ⟨rfl, hb3⟩)
          have HB3 := Go.Lib.hid hb3
          clear hb3 CD x0 y0 z0
          go_loopw [4, 5, 9] (fun ov sv kv wk => ∃ (i : Nat) (o3 : Bool) (U : ByteArray), i ≤ t.length ∧ kv = .int .i64 i ∧ ov = .bool o3 ∧ o3 = (o2 && okT (t.take i)) ∧ sv = .string U ∧ U = strL (L3 ++ Lib.join (wTour :: decI (t.length : Int) :: (t.take i).flatMap stopW) [32]) ∧ Below we.heap.size we wk) (fun _ _ kv _ => t.length - (intOf kv).toNat)
          case atStart => exact ⟨0, _, _, Nat.zero_le _, rfl, rfl, by simp [okT], rfl, by rw [HE2.out]; simp, HB3.out⟩
          case round =>
            clear HB3
            obtain ⟨i, o3, U, hi, rfl, rfl, ho3, rfl, hU, hLo3⟩ := hrel
            have HO3 := Go.Lib.hid ho3
            have HU := Go.Lib.hid hU
            have HLO3 := Go.Lib.hid hLo3
            have hsz3 : U.size ≤ 70000000000 := by rw [hU, strL_size]; exact HLB3.out i
            have HLX := Go.Lib.hid (HLW.out.trans (hLo3.mono HLW.out.size))
            clear ho3 hU hLo3 hsz hsz2
            by_cases hlt3 : i < t.length
            · obtain ⟨b3, off3, rfl, c3, c4⟩ := HT2.out i hlt3
              have v0 := cell_keep c3 HLX.out
              have v1 := cell_keep c4 HLX.out
              obtain ⟨hw1, hw2⟩ := HST2.out _ (List.getElem_mem hlt3)
              have HN3 : Hid (t.take (i + 1) = t.take i ++ [t[i]]) := List.take_succ_eq_append_getElem hlt3
              obtain ⟨y, hy⟩ : ∃ y, y = t[i] := ⟨_, rfl⟩
              rw [← hy] at v0 v1 hw1 hw2 HN3
              obtain ⟨y1, y2⟩ := y
              have HV := Go.Lib.hid (And.intro hw1 hw2)
              obtain ⟨ya, hya⟩ : ∃ s, s = strL (decI y1) := ⟨_, rfl⟩
              obtain ⟨yb, hyb⟩ : ∃ s, s = strL (decI y2) := ⟨_, rfl⟩
              have ha : ya.size ≤ 20 := by rw [hya, strL_size]; exact decI_bd HV.out.1
              have hb : yb.size ≤ 20 := by rw [hyb, strL_size]; exact decI_bd HV.out.2
              have HE3 : Hid (U ++ ⟨#[32]⟩ ++ ya ++ ⟨#[32]⟩ ++ yb = strL (L3 ++ Lib.join (wTour :: decI (t.length : Int) :: (t.take (i + 1)).flatMap stopW) [32])) := by
                show _ = _
                rw [HU.out, hya, hyb, more_text _ _ (by simp), more_text _ _ (by simp), HN3.out, List.flatMap_append]
                simp [stopW]
              have HON3 : Hid (okT (t.take (i + 1)) = (okT (t.take i) && okS (y1, y2))) := by
                show _ = _
                rw [HN3.out]
                unfold okT
                rw [List.all_append]
                simp
              have CA := fun W hb => decP_from (w := wr) (W := W) y1 HV.out.1 hb
              have CB := fun W hb => decP_from (w := wr) (W := W) y2 HV.out.2 hb
              rw [← hya] at CA
              rw [← hyb] at CB
              obtain ⟨wz, hwz⟩ : ∃ q, q = wr := ⟨_, rfl⟩
              rw [← hwz] at v0 v1 HLO3 HLX CA CB ⊢
              clear hy c3 c4 hw1 hw2 hya hyb hwz
              go_upto_region 17 with fail
              go_cut [4] from 80 to 96 (fun ov wx => ov = .bool (o3 && okS (y1, y2)) ∧ wx = wz)
              case first =>
                clear CA CB v0 v1
                cases o3
                · go_wp2
                  go_meet
                  exact ⟨rfl, rfl⟩
                · by_cases h1 : 0 ≤ y1
                  · by_cases h2 : 0 ≤ y2
                    · by_cases h3 : y1 ≤ 1000000000000000000
                      · by_cases h4 : y2 ≤ 1000000000000000000
                        · go_wp2
                          go_meet
                          exact ⟨by simp [okS, h1, h2, h3, h4], rfl⟩
                        · go_wp2
                          go_meet
                          exact ⟨congrArg Value.bool (by show false = (true && (decide (0 ≤ y1) && (decide (0 ≤ y2) && (decide (y1 ≤ 1000000000000000000) && decide (y2 ≤ 1000000000000000000))))); rw [decide_eq_true h1, decide_eq_true h2, decide_eq_true h3, decide_eq_false (by omega)]; rfl), rfl⟩
                      · go_wp2
                        go_meet
                        exact ⟨congrArg Value.bool (by show false = (true && (decide (0 ≤ y1) && (decide (0 ≤ y2) && (decide (y1 ≤ 1000000000000000000) && decide (y2 ≤ 1000000000000000000))))); rw [decide_eq_true h1, decide_eq_true h2, decide_eq_false (by omega)]; rfl), rfl⟩
                    · go_wp2
                      go_meet
                      exact ⟨congrArg Value.bool (by show false = (true && (decide (0 ≤ y1) && (decide (0 ≤ y2) && (decide (y1 ≤ 1000000000000000000) && decide (y2 ≤ 1000000000000000000))))); rw [decide_eq_true h1, decide_eq_false (by omega)]; rfl), rfl⟩
                  · go_wp2
                    go_meet
                    exact ⟨congrArg Value.bool (by show false = (true && (decide (0 ≤ y1) && (decide (0 ≤ y2) && (decide (y1 ≤ 1000000000000000000) && decide (y2 ≤ 1000000000000000000))))); rw [decide_eq_false (by omega)]; rfl), rfl⟩
              case rest =>
                obtain ⟨rfl, rfl⟩ := hcut
                go_wp2_with (first
                  | (go_at_call 17; (with_reducible refine (CA _ (Below.refl _ _)).mono ?_); rintro e w4 ⟨rfl, hb4⟩; have HB4 := Go.Lib.hid hb4; clear hb4)
                  | (go_at_call 17; (with_reducible refine (CB _ HB4.out).mono ?_); rintro e w5 ⟨rfl, hb5⟩; have HB5 := Go.Lib.hid hb5; clear hb5))
                exact ⟨⟨i + 1, _, _, by omega, by go_num, rfl, by rw [HON3.out, HO3.out, Bool.and_assoc], rfl, HE3.out, HLO3.out.trans (HB5.out.mono HLO3.out.size)⟩, by simp [intOf]; omega⟩
            · obtain rfl : i = t.length := by omega
              have HO4 : Hid (o3 = (o2 && okT t)) := by have := HO3.out; rwa [List.take_length] at this
              have HU4 : Hid (U ++ ⟨#[10]⟩ = strL (L3 ++ lineT (tourW t))) := by
                show _ = _
                rw [HU.out, List.take_length, end_text]
                rfl
              go_wp2
              exact ⟨⟨m + 1, _, _, by omega, by go_num, rfl, by rw [HON2.out, HO4.out, HO2.out, Bool.and_assoc], rfl, by rw [← HEN2.out]; exact HU4.out, HLO2.out.trans (HLO3.out.mono HLO2.out.size)⟩, by simp [intOf]; omega⟩
        · obtain rfl : m = d.length := by omega
          have HO4 : Hid (o2 = (o && okD d)) := by have := HO2.out; rwa [List.take_length] at this
          have HT4 : Hid (T = strL (L1 ++ (p.take (j + 1)).flatMap dayT)) := by
            show _ = _
            rw [HT.out, List.take_length, HEN.out]
          go_wp2
          exact ⟨⟨j + 1, _, _, by omega, by go_num, rfl, by rw [HON.out, HO4.out, HO.out], rfl, HT4.out, HLO.out.trans (HLO2.out.mono HLO.out.size)⟩, by simp [intOf]; omega⟩
    · obtain rfl : j = p.length := by omega
      have HOE : Hid (o = okPl p) := by have := HO.out; rwa [List.take_length] at this
      have HSE : Hid (S = strL (planT p)) := by
        show _ = _
        rw [HS.out, List.take_length, HL1.out]
        rfl
      cases o
      · have hr : R = #[.string ⟨#[]⟩, .bool false] := by rw [HR.out, if_neg (by rw [← HOE.out]; decide)]
        have HRR := Go.Lib.hid hr
        clear hr
        go_wp2
        go_ret2
        refine ⟨?_, HB.out.trans (HLO.out.mono HB.out.size)⟩
        rw [HRR.out]
        rfl
      · have hr : R = #[.string S, .bool true] := by rw [HR.out, if_pos HOE.out.symm, HSE.out]
        have HRR := Go.Lib.hid hr
        clear hr
        go_wp2
        go_ret2
        refine ⟨?_, HB.out.trans (HLO.out.mono HB.out.size)⟩
        rw [HRR.out]
        rfl
end Go.Proofs.YtedkhdnfbdojcaaDoor
end
