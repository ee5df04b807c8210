import Derived.Test.YtedkhdnfbdojcaaDoorK19
import Derived.Test.YtedkhdnfbdojcaaDoorK16
import Derived.Test.YtedkhdnfbdojcaaDoorK20
import Derived.Test.YtedkhdnfbdojcaaDoorK15
import Derived.Test.YtedkhdnfbdojcaaDoorK10
section
/- What book's Print answers, off its code. -/
namespace Go.Proofs.YtedkhdnfbdojcaaDoor
open Go.RowKit Go.Shelf
set_option linter.unusedVariables false
set_option maxRecDepth 20000
/-- No list is longer than a hundred. -/
structure FewB (p : PlanD) : Prop where
  n : p.length ≤ 100
  day : ∀ d ∈ p, d.length ≤ 100
  tour : ∀ d ∈ p, ∀ t ∈ d, t.length ≤ 100
theorem FewB.few {p : PlanD} (h : FewB p) : FewP p := ⟨by have := h.n; omega, fun d hd => by have := h.day d hd; omega, fun d hd t ht => by have := h.tour d hd t ht; omega⟩
theorem tour_bdB {t : TourD} (hn : t.length ≤ 100) (h : ∀ s ∈ t, W64 s.1 ∧ W64 s.2) : (lineT (tourW t)).length ≤ 4242 := by
  have h1 := lineT_bdK (K := 20) (ws := tourW t) (by simp [tourW]) (tourW_mem (by omega) h)
  rw [tourW_len] at h1
  omega
theorem tours_bdB {d : DayD} (hn : d.length ≤ 100) (ht : ∀ t ∈ d, t.length ≤ 100) (h : ∀ t ∈ d, ∀ s ∈ t, W64 s.1 ∧ W64 s.2) (m : Nat) : (linesT ((d.take m).map tourW)).length ≤ 424200 := by
  have h1 := linesT_bd (K := 4242) (ls := (d.take m).map tourW) (fun l hl => by
    obtain ⟨t, hm, rfl⟩ := List.mem_map.1 hl
    exact tour_bdB (ht t (List.mem_of_mem_take hm)) (h t (List.mem_of_mem_take hm)))
  rw [List.length_map, List.length_take] at h1
  have : 4242 * min m d.length ≤ 4242 * 100 := Nat.mul_le_mul_left _ (by omega)
  omega
theorem day_bdB {d : DayD} (hn : d.length ≤ 100) (ht : ∀ t ∈ d, t.length ≤ 100) (h : ∀ t ∈ d, ∀ s ∈ t, W64 s.1 ∧ W64 s.2) : (dayT d).length ≤ 424242 := by
  have h1 := tours_bdB hn ht h d.length
  rw [List.take_length] at h1
  have h2 := two_bd (a := wDay) (by decide) (n := d.length) (by omega)
  unfold dayT
  rw [List.length_append]
  omega
theorem days_bdB {p : PlanD} (hw : WfP p) (hf : FewB p) (j : Nat) : ((p.take j).flatMap dayT).length ≤ 42424200 := by
  have h1 := flat_bd (K := 424242) (f := dayT) (l := p.take j) (fun d hd => day_bdB (hf.day d (List.mem_of_mem_take hd)) (hf.tour d (List.mem_of_mem_take hd)) (hw.stop d (List.mem_of_mem_take hd)))
  rw [List.length_take] at h1
  have := hf.n
  have : 424242 * min j p.length ≤ 424242 * 100 := Nat.mul_le_mul_left _ (by omega)
  omega
theorem planT_bdB {p : PlanD} (hw : WfP p) (hf : FewB p) : (planT p).length ≤ 50000000 := by
  have h1 := days_bdB hw hf p.length
  rw [List.take_length] at h1
  have h2 := two_bd (a := wPlan) (by decide) (n := p.length) (by have := hf.n; omega)
  unfold planT
  rw [List.length_append]
  omega
set_option maxHeartbeats 4000000 in
theorem bookPrint_no (p : PlanD) (A : Option Addr) (c : Nat) (w : World) (hw : WfP p) (h : PlanIs w A p) (hm : okPl p = false) :
    Calls Tryd.prog 5 #[planV p A c] w fun e w' => e = .returned (.tuple #[.string ⟨#[]⟩, .int .i64 1]) ∧ Below w.heap.size w w' := by
  have hb0 := below_alloc w (.cells #[.slice A p.length c] 24)
  have CM := bookMay_code p A c _ hw (h.keep hb0)
  rw [hm] at CM
  have HB := Go.Lib.hid hb0
  unfold planV at CM ⊢
  clear h hm hb0 hw
  go_enter Tryd.func5, Tryd.ntmps5
  go_wp2_with (go_at_call 10; refine CM.mono ?_; rintro e w1 ⟨rfl, hb1⟩)
  go_ret2
  exact ⟨rfl, HB.out.trans (hb1.mono HB.out.size)⟩
theorem two_w64 {a : List UInt8} (ha : a.length ≤ 64) {n : Nat} (hn : n ≤ 1000) : ∀ y ∈ [a, decI (n : Int)], y.length ≤ 64 := fun y hy => by
  simp only [List.mem_cons, List.not_mem_nil, or_false] at hy
  rcases hy with rfl | rfl
  · exact ha
  · exact Nat.le_trans (decI_bd (len_w hn)) (by decide)
set_option maxHeartbeats 8000000 in
theorem bookPrint_yes (p : PlanD) (A : Option Addr) (c : Nat) (w : World) (hw : WfP p) (hf : FewB p) (h : PlanIs w A p) (hm : okPl p = true) :
    Calls Tryd.prog 5 #[planV p A c] w fun e w' => e = .returned (.tuple #[.string (strL (planT p)), .int .i64 0]) ∧ Below w.heap.size w w' := by
  have hmf : ∀ (fn : Fn) (first cap : Array Value) (w : World), (Instr.makeFunc fn first cap).run Tryd.prog w = .ok (.func fn first cap) w := fun _ _ _ _ => rfl
  have hb0 := below_alloc w (.cells #[.slice A p.length c] 24)
  have CM := bookMay_code p A c _ hw (h.keep hb0)
  rw [hm] at CM
  have HB := Go.Lib.hid hb0
  have HI := Go.Lib.hid (h.keep hb0)
  have HK := Go.Lib.hid (Boxed.new w 24 (.slice A p.length c))
  have HF := Go.Lib.hid hf
  have HW := Go.Lib.hid hw
  unfold planV at CM ⊢
  clear h hm hb0 hw hf
  go_enter Tryd.func5, Tryd.ntmps5
  have hpn := HF.out.n
  have HWN : Hid (W64 (p.length : Int)) := len_w (by omega)
  have HT2 : Hid (∀ y ∈ [wPlan, decI (p.length : Int)], y.length ≤ 64) := two_w64 (by decide) (by omega)
  go_wp2_with (first
    | (go_at_call 10; refine CM.mono ?_; rintro e w1 ⟨rfl, hb1⟩; have HI1 := Go.Lib.hid (HI.out.keep hb1); have hk1 := box_below HK.out hb1; have HK1 := Go.Lib.hid hk1; have k0 := cell_keep hk1.cell (below_alloc w1 (.cells #[.pointer none, .slice none 0 0] 47)); have HB1 := Go.Lib.hid (HB.out.trans (hb1.mono HB.out.size)); have HD1 := Go.Lib.hid (BuildsF.fresh w1); have C1 := fun W hb => dec_from (w := w1.alloc (.cells #[.pointer none, .slice none 0 0] 47)) (W := W) (p.length : Int) HWN.out hb; clear hb1 hk1)
    | (go_at_call 14; refine (C1 _ (Below.refl _ _)).mono ?_; rintro e w2 ⟨rfl, hb2⟩; have HB2 := Go.Lib.hid hb2; clear hb2)
    | (go_at_call 11; refine (ptold_lit w1.heap.size _ 2 [] [wPlan, decI (p.length : Int)] w2 (HD1.out.keep HB2.out) rfl (by simp) rfl (by decide) (by decide) HT2.out).mono ?_; rintro e w3 ⟨rfl, hB3, hb3, ho3⟩; have HD3 := Go.Lib.hid hB3; have HB3 := Go.Lib.hid (((below_alloc w1 _).trans (HB2.out.mono (by simp))).trans hb3); have k3 := cell_keep HK1.out.cell HB3.out; clear hB3 hb3 ho3))
  clear k0 k3 HD1 HB2 C1 CM HI HK HT2
  obtain ⟨L1, hL1⟩ : ∃ L, L = lineT [wPlan, decI (p.length : Int)] := ⟨_, rfl⟩
  have HD4 : Hid (BuildsF w3 w1.heap.size L1) := by show BuildsF _ _ _; rw [hL1]; exact HD3.out
  have HL1 := Go.Lib.hid hL1
  have hl1 : L1.length ≤ 42 := by rw [hL1]; exact two_bd (a := wPlan) (by decide) (by omega)
  have HLB : Hid (∀ j, (L1 ++ (p.take j).flatMap dayT).length ≤ 50000000) := fun j => by
    have := days_bdB HW.out HF.out j
    rw [List.length_append]
    omega
  clear hL1 hl1 HD3
  go_loopw [24] (fun iv wr => ∃ j : Nat, j ≤ p.length ∧ iv = .int .i64 j ∧ BuildsF wr w1.heap.size (L1 ++ (p.take j).flatMap dayT) ∧ Below w1.heap.size w1 wr) (fun iv _ => p.length - (intOf iv).toNat)
  case atStart => exact ⟨0, Nat.zero_le _, rfl, by simpa using HD4.out, HB3.out⟩
  case round =>
    clear HD4 HB3
    obtain ⟨j, hj, rfl, hBj, hLj⟩ := hrel
    have HBj := Go.Lib.hid hBj
    have HLj := Go.Lib.hid hLj
    clear hBj hLj
    by_cases hlt : j < p.length
    · obtain ⟨b, off, rfl, P, k, c0, t0, n0⟩ := HI1.out j hlt
      rw [Nat.mul_one] at c0
      have y0 := cell_keep c0 HLj.out
      have HT0 := Go.Lib.hid t0
      have hdn := HF.out.day _ (List.getElem_mem hlt)
      have HTN := Go.Lib.hid (HF.out.tour _ (List.getElem_mem hlt))
      have HST := Go.Lib.hid (HW.out.stop _ (List.getElem_mem hlt))
      have HN : Hid (p.take (j + 1) = p.take j ++ [p[j]]) := List.take_succ_eq_append_getElem hlt
      obtain ⟨d, hd⟩ : ∃ d, d = p[j] := ⟨_, rfl⟩
      rw [← hd] at y0 HT0 hdn HTN HST HN
      have HWD : Hid (W64 (d.length : Int)) := len_w (by omega)
      have CD := fun W hb => dec_from (w := wr.alloc (.cells #[.slice P d.length k] 38)) (W := W) (d.length : Int) HWD.out hb
      have HTd : Hid (∀ y ∈ [wDay, decI (d.length : Int)], y.length ≤ 64) := two_w64 (by decide) (by omega)
      obtain ⟨L, hL⟩ : ∃ L, L = L1 ++ (p.take j).flatMap dayT := ⟨_, rfl⟩
      rw [← hL] at HBj
      have hll : L.length ≤ 50000000 := by rw [hL]; exact HLB.out j
      obtain ⟨L2, hL2⟩ : ∃ L', L' = L ++ lineT [wDay, decI (d.length : Int)] := ⟨_, rfl⟩
      have hl2 : L2.length ≤ 50000042 := by
        have := two_bd (a := wDay) (by decide) (n := d.length) (by omega)
        rw [hL2, List.length_append]
        omega
      have HLB2 : Hid (∀ m, (L2 ++ linesT ((d.take m).map tourW)).length ≤ 60000000) := fun m => by
        have := tours_bdB hdn HTN.out HST.out m
        rw [List.length_append]
        omega
      have HEN : Hid (L2 ++ linesT (d.map tourW) = L1 ++ (p.take (j + 1)).flatMap dayT) := by
        show _ = _
        rw [HN.out, List.flatMap_append, ← List.append_assoc, ← hL, hL2, List.append_assoc]
        simp [dayT]
      have HL2 := Go.Lib.hid hL2
      have hbd := below_alloc wr (.cells #[.slice P d.length k] 38)
      have HBD := Go.Lib.hid hbd
      have HKD := Go.Lib.hid (Boxed.new wr 38 (.slice P d.length k))
      have hne : Hid (wr.heap.size ≠ w1.heap.size) := by have := HBj.out.lt; show _ ≠ _; omega
      have hszw : w1.heap.size ≤ wr.heap.size := HLj.out.size
      clear hd c0 t0 n0 hL hl2 hL2 hbd
      go_wp2_with (first
        | (go_at_call 14; refine (CD _ (Below.refl _ _)).mono ?_; rintro e w4 ⟨rfl, hb4⟩; have HB4 := Go.Lib.hid hb4; clear hb4)
        | (go_at_call 11; refine (ptold_lit w1.heap.size _ 2 L [wDay, decI (d.length : Int)] w4 ((HBj.out.keep HBD.out).keep HB4.out) rfl (by omega) rfl (by decide) (by decide) HTd.out).mono ?_; rintro e w5 ⟨rfl, hB5, hb5, ho5⟩; have HB5 := Go.Lib.hid hB5; have HL5 := Go.Lib.hid ((HLj.out.trans ((HBD.out.trans (HB4.out.mono HBD.out.size)).mono hszw)).trans hb5); have k5 := (box_others ho5 (box_below HKD.out HB4.out) hne.out (by decide)).cell; clear hB5 hb5 ho5))
      have HB6 : Hid (BuildsF w5 w1.heap.size L2) := by show BuildsF _ _ _; rw [HL2.out]; exact HB5.out
      have HLk := Go.Lib.hid HL5.out
      clear k5 HB5 HL5 HL2 HKD HBD HB4 CD HTd HBj HLj hll y0
      go_loopw [38] (fun kv wk => ∃ m : Nat, m ≤ d.length ∧ kv = .int .i64 m ∧ BuildsF wk w1.heap.size (L2 ++ linesT ((d.take m).map tourW)) ∧ Below w1.heap.size w1 wk) (fun kv _ => d.length - (intOf kv).toNat)
      case atStart => exact ⟨0, Nat.zero_le _, rfl, by simpa [linesT] using HB6.out, HLk.out⟩
      case round =>
        clear HB6 HLk
        obtain ⟨m, hm, rfl, hBm, hLm⟩ := hrel
        have HBm := Go.Lib.hid hBm
        have HLm := Go.Lib.hid hLm
        clear hBm hLm
        by_cases hlt2 : m < d.length
        · obtain ⟨b2, off2, rfl, P2, k2, c2, t2, n2⟩ := HT0.out m hlt2
          rw [Nat.mul_one] at c2
          have z0 := cell_keep c2 HLm.out
          have htn := HTN.out _ (List.getElem_mem hlt2)
          have hst := HST.out _ (List.getElem_mem hlt2)
          have HN2 : Hid (d.take (m + 1) = d.take m ++ [d[m]]) := List.take_succ_eq_append_getElem hlt2
          obtain ⟨t, ht⟩ : ∃ t, t = d[m] := ⟨_, rfl⟩
          rw [← ht] at z0 t2 htn hst HN2
          obtain ⟨L3, hL3⟩ : ∃ L, L = L2 ++ linesT ((d.take m).map tourW) := ⟨_, rfl⟩
          rw [← hL3] at HBm
          have hl3 : L3.length ≤ 60000000 := by rw [hL3]; exact HLB2.out m
          have HEN2 : Hid (L3 ++ lineT (tourW t) = L2 ++ linesT ((d.take (m + 1)).map tourW)) := by
            show _ = _
            rw [HN2.out, List.map_append, hL3, List.append_assoc]
            congr 1
            exact (linesT_snoc _ _).symm
          have hbt := below_alloc wr (.cells #[.slice P2 t.length k2] 41)
          have HBT := Go.Lib.hid hbt
          have CW := bookWords_any t P2 k2 (wr.alloc (.cells #[.slice P2 t.length k2] 41)) ((t2.keep' StopAt.keep HLm.out).keep' StopAt.keep hbt) (by omega) hst
          have hwn : (tourW t).length ≤ 1000 := by rw [tourW_len]; omega
          have HMW := Go.Lib.hid (fun y hy => Nat.le_trans (tourW_mem (t := t) (by omega) hst y hy) (by decide : 20 ≤ 64))
          have HNE : Hid (tourW t ≠ []) := by show _ ≠ _; simp [tourW]
          have hszk : w1.heap.size ≤ wr.heap.size := HLm.out.size
          obtain ⟨ws, hws⟩ : ∃ ws, ws = tourW t := ⟨_, rfl⟩
          rw [← hws] at CW hwn HMW HNE HEN2
          have CT := fun v base W hB hr => ptold_row w1.heap.size base L3 v ws W hB hr (by omega) HNE.out hwn HMW.out
          clear ht c2 t2 n2 hst hL3 hws hbt hwn
          go_wp2_with (first
            | (go_at_call 15; refine CW.mono ?_; rintro e w7 ⟨v, rfl, hr7, hb7⟩; have HR7 := Go.Lib.hid hr7; have HB7 := Go.Lib.hid (HBT.out.trans (hb7.mono HBT.out.size)); clear hr7 hb7)
            | (go_at_call 11; refine (CT _ _ _ (HBm.out.keep HB7.out) HR7.out).mono ?_; rintro e w8 ⟨rfl, hB8, hb8, _⟩))
          refine ⟨⟨m + 1, by omega, by go_num, ?_, (HLm.out.trans (HB7.out.mono hszk)).trans hb8⟩, by simp [intOf]; omega⟩
          rw [← HEN2.out]
          exact hB8
        · obtain rfl : m = d.length := by omega
          have HB9 : Hid (BuildsF wr w1.heap.size (L1 ++ (p.take (j + 1)).flatMap dayT)) := by
            show BuildsF _ _ _
            have := HBm.out
            rw [List.take_length, HEN.out] at this
            exact this
          clear HBm
          go_wp2
          exact ⟨⟨j + 1, by omega, by go_num, HB9.out, HLm.out⟩, by simp [intOf]; omega⟩
    · obtain rfl : j = p.length := by omega
      have hB : BuildsF wr w1.heap.size (planT p) := by
        have := HBj.out
        rw [List.take_length, HL1.out] at this
        exact this
      have CS := Tryd.Builder_String_any_k w1.heap.size w1.heap.size (planT p) wr hB (Nat.le_of_lt hB.lt)
      have HFIN := Go.Lib.hid (HB1.out.trans (HLj.out.mono HB1.out.size))
      have hz : (⟨(planT p).toArray⟩ : ByteArray) = strL (planT p) := rfl
      obtain ⟨T, hTT⟩ : ∃ T, T = strL (planT p) := ⟨_, rfl⟩
      rw [hz, ← hTT] at CS
      have HTT := Go.Lib.hid hTT
      clear hB hz hTT
      go_wp2_with (go_at_call 16; refine CS.mono ?_; rintro e w17 ⟨rfl, _, hb17, _⟩)
      go_ret2
      exact ⟨by have h := HTT.out; subst h; rfl, HFIN.out.trans (hb17.mono HB1.out.size)⟩
/-- What Print answers: a text, or 1 and no text where the plan may not be told. -/
theorem bookPrint_code (p : PlanD) (A : Option Addr) (c : Nat) (w : World) (hw : WfP p) (hf : FewB p) (h : PlanIs w A p) :
    Calls Tryd.prog 5 #[planV p A c] w fun e w' => e = .returned (.tuple (if okPl p = true then #[.string (strL (planT p)), .int .i64 0] else #[.string ⟨#[]⟩, .int .i64 1])) ∧ Below w.heap.size w w' := by
  cases hm : okPl p with
  | true => rw [if_pos rfl]; exact bookPrint_yes p A c w hw hf h hm
  | false => rw [if_neg (by simp)]; exact bookPrint_no p A c w hw h hm
end Go.Proofs.YtedkhdnfbdojcaaDoor
end
section
/- What each law of plans asks at its end: the text of a plan of one day without tours, and that two plans of no days are the same. -/
namespace Go.Proofs.YtedkhdnfbdojcaaDoor
open Go.RowKit
set_option linter.unusedVariables false
set_option maxRecDepth 20000
theorem one_day (w : World) : PlanIs (w.alloc (.cells #[.slice none 0 0] 38)) (some ⟨w.heap.size, 0, none⟩) [[]] := fun i hi => by
  have : i = 0 := by simp at hi; omega
  subst this
  exact ⟨w.heap.size, 0, rfl, none, 0, (Boxed.new w _ _).cell, RowAt.nil, Nat.le_refl _⟩
theorem wf_day : WfP [[]] := ⟨by decide, by decide, by decide, fun d hd t ht => by simp at hd; subst hd; simp at ht⟩
theorem wf_none : WfP [] := ⟨by decide, by decide, by decide, fun d hd => by simp at hd⟩
theorem few_day : FewB [[]] := ⟨by decide, by decide, by decide⟩
theorem day_text : strL (planT [[]]) = ⟨#[112, 108, 97, 110, 32, 49, 10, 100, 97, 121, 32, 48, 10]⟩ := by kernel_rfl
set_option maxHeartbeats 2000000 in
theorem lives8_any (w : World) : Calls Tryd.prog 7 #[] w fun e w' => e = .returned (.bool true) ∧ Below w.heap.size w w' := by
  have hb := below_alloc w (.cells #[.slice none 0 0] 38)
  have CP := bookPrint_yes [[]] (some ⟨w.heap.size, 0, none⟩) 1 _ wf_day few_day (one_day w) (by kernel_rfl)
  rw [day_text] at CP
  have CS := fun W => bookSame_code [] [] none 0 none 0 W wf_none wf_none (fun i hi => absurd hi (by simp)) (fun i hi => absurd hi (by simp)) true (by decide)
  have HB := Go.Lib.hid hb
  unfold planV at CP CS
  simp only [List.length_cons, List.length_nil, Nat.zero_add] at CP CS
  clear hb
  go_enter Tryd.func7, Tryd.ntmps7
  go_wp2_with (first
    | (go_at_call 5; refine CP.mono ?_; rintro e w1 ⟨rfl, hb1⟩; have HB1 := Go.Lib.hid (HB.out.trans (hb1.mono HB.out.size)); clear hb1)
    | (go_at_call 18; refine (CS _).mono ?_; rintro e w2 ⟨rfl, hb2⟩; have HB2 := Go.Lib.hid (HB1.out.trans (hb2.mono HB1.out.size)); clear hb2))
  go_ret
  exact ⟨rfl, HB2.out⟩
end Go.Proofs.YtedkhdnfbdojcaaDoor
end
