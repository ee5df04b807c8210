import Derived.Test.YtliomhkgkabbbaaGreatDoorK30
import Derived.Test.YtliomhkgkabbbaaGreatDoorK24
import Derived.Test.YtliomhkgkabbbaaGreatDoorK18
import Derived.Test.YtliomhkgkabbbaaGreatDoorK12
import Derived.Test.YtliomhkgkabbbaaGreatDoorK15
import Derived.Test.YtliomhkgkabbbaaGreatDoorK14
import Derived.Deep.RegionHeld3
import Derived.Test.YtliomhkgkabbbaaGreatDoorK10
section
/- What Print answers, off its code. -/
namespace Go.Proofs.YtliomhkgkabbbaaGreatDoor
open Go.RowKit Go.Shelf
set_option linter.unusedVariables false
set_option maxRecDepth 20000
set_option maxHeartbeats 4000000 in
theorem print_not (x : Inst) (A : Option Addr) (c : Nat) (B : Option Addr) (d : Nat) (w : World) (hT : Tab w) (h : InstIs w x A B) (hm : mayI x = false) :
    Calls Tryz.prog 9 #[instV x A c B d] w fun e w' => e = .returned (.tuple #[.string ⟨#[]⟩, .int .i64 3]) ∧ Below w.heap.size w w' := by
  have hb0 := below_alloc w (.cells #[.int .i64 x.days, .int .i64 x.veh, .int .i64 x.cap, .int .i64 x.len, .slice A x.custs.length c, .slice B x.dist.length d] 25)
  have CM := May_code x A c B d _ (hT.keep hb0) (h.keep hb0)
  rw [hm, if_neg (by decide)] at CM
  have HB := Go.Lib.hid hb0
  unfold instV at CM ⊢
  clear hT h hm hb0
  go_enter Tryz.func9, Tryz.ntmps9
  go_wp2_with (go_at_call 18; refine CM.mono ?_; rintro e w1 ⟨rfl, hb1⟩)
  go_ret2
  exact ⟨rfl, HB.out.trans (hb1.mono HB.out.size)⟩
theorem linesT_bd {K : Nat} {ls : List (List (List UInt8))} (h : ∀ l ∈ ls, (lineT l).length ≤ K) : (linesT ls).length ≤ K * ls.length := by
  induction ls with
  | nil => simp [linesT]
  | cons l r ih =>
    rw [linesT_cons, List.length_append, List.length_cons, Nat.mul_succ]
    have h1 := h l (by simp)
    have h2 := ih fun x hx => h x (by simp [hx])
    omega
theorem linesT_snoc (a : List (List (List UInt8))) (l : List (List UInt8)) : linesT (a ++ [l]) = linesT a ++ lineT l := by rw [linesT_app, linesT_cons, linesT_nil, List.append_nil]
theorem dec_bd {n : Int} (h : 0 ≤ n) (h' : n ≤ 2147483648) : (decI n).length ≤ 64 := Nat.le_trans (dec_len (k := 9) h (by omega)) (by decide)
theorem cust_bd {c : Cust} {m : Nat} (h1 : 1 ≤ m) (h2 : m ≤ 64) (h : mayC c (m : Int) = true) : custW (m : Int) c ≠ [] ∧ (custW (m : Int) c).length ≤ 66 ∧ ∀ y ∈ custW (m : Int) c, y.length ≤ 64 := by
  rcases mayC_cases h with ⟨k1, k2, k3, k4, k5, k6, k7, k8, k9⟩ | ⟨k1, k2, k3, k4, k5, k6, k7, k8⟩
  · have e : custW (m : Int) c = wVisit :: decI c.demand :: c.pats.map (patW (m : Int)) := by unfold custW; rw [if_neg (by omega)]
    rw [e]
    refine ⟨by simp, by simp; omega, fun y hy => ?_⟩
    rcases List.mem_cons.1 hy with rfl | hy
    · decide
    · rcases List.mem_cons.1 hy with rfl | hy
      · exact dec_bd (by omega) (by omega)
      · obtain ⟨p, _, rfl⟩ := List.mem_map.1 hy
        rw [(pat_ok h1 h2 p).1]; exact h2
  · have e : custW (m : Int) c = [wTank, decI c.rate, decI c.size, decI c.start, ruleW c.rule, decI c.hold] := by unfold custW; rw [if_pos k1]
    rw [e]
    refine ⟨by simp, by simp, fun y hy => ?_⟩
    simp only [List.mem_cons, List.not_mem_nil, or_false] at hy
    rcases hy with rfl | rfl | rfl | rfl | rfl | rfl <;> first | decide | exact dec_bd (by omega) (by omega) | (unfold ruleW; split <;> decide)
theorem row_words_bd {x : Inst} (h : mayI x = true) (hn : x.custs.length ≤ 900) {r : List Int} (hr : r ∈ x.dist) : r.map decI ≠ [] ∧ (r.map decI).length ≤ 1000 ∧ ∀ y ∈ r.map decI, y.length ≤ 64 := by
  obtain ⟨a, b⟩ := rows_may h hr
  refine ⟨fun e => ?_, by rw [List.length_map]; omega, fun y hy => ?_⟩
  · have := congrArg List.length e
    rw [List.length_map, a] at this
    simp at this
  · obtain ⟨n, hn', rfl⟩ := List.mem_map.1 hy
    exact dec_bd (b n hn').1 (b n hn').2
set_option maxHeartbeats 4000000 in
theorem print_walk (x : Inst) (A : Option Addr) (c : Nat) (B : Option Addr) (d : Nat) (w : World) (hT : Tab w) (h : InstIs w x A B) (hm : mayI x = true) (hn : x.custs.length ≤ 900) :
    Calls Tryz.prog 9 #[instV x A c B d] w fun e w' => e = .returned (.tuple #[.string (strL (printI x)), .int .i64 0]) ∧ Below w.heap.size w w' := by
  have hmf : ∀ (fn : Fn) (first cap : Array Value) (w : World), (Instr.makeFunc fn first cap).run Tryz.prog w = .ok (.func fn first cap) w := fun _ _ _ _ => rfl
  have hb0 := below_alloc w (.cells #[.int .i64 x.days, .int .i64 x.veh, .int .i64 x.cap, .int .i64 x.len, .slice A x.custs.length c, .slice B x.dist.length d] 25)
  have CM := May_code x A c B d _ (hT.keep hb0) (h.keep hb0)
  rw [hm, if_pos rfl] at CM
  have HB := Go.Lib.hid hb0
  have HI := Go.Lib.hid (h.keep hb0)
  have HK := Go.Lib.hid (InstBox.fresh w x A c B d)
  unfold instV at CM ⊢
  clear hT h hb0
  go_enter Tryz.func9, Tryz.ntmps9
  go_wp2_with (first
    | (go_at_call 18; refine CM.mono ?_; rintro e w1 ⟨rfl, hb1⟩; have HI1 := Go.Lib.hid (HI.out.keep hb1); have HK1 := Go.Lib.hid (HK.out.keep hb1); have HB1 := Go.Lib.hid (HB.out.trans (hb1.mono HB.out.size)); have HD1 := Go.Lib.hid (BuildsAt.fresh w1); have lt1 := HK1.out.lt; clear hb1)
    | (go_at_call 19; refine (told_lit w1.heap.size _ 2 [] [wProgram, wEdition] _ HD1.out (by simp) (by decide) rfl (by decide) (by decide) (by decide)).mono ?_; rintro e w2 ⟨rfl, hB2, hb2⟩; have HD2 := Go.Lib.hid hB2; have HL2 := Go.Lib.hid (((below_alloc w1 _).mono (Nat.le_refl _)).trans hb2); clear hB2 hb2))
  have HK2 := Go.Lib.hid (HK1.out.keep HL2.out)
  obtain ⟨i0, i1, i2, i3, i4, i5⟩ := HK2.out.cells
  have HI2 := Go.Lib.hid (HI1.out.keep HL2.out)
  obtain ⟨W2, hW2⟩ : ∃ W2, W2 = w2 := ⟨_, rfl⟩
  have HC2 := Go.Lib.hid (And.intro i0 (And.intro i1 (And.intro i2 i3)))
  have C1 := fun W hb => dec_from (w := w2) (W := W) x.days HI.out.wf.days hb
  have C2 := fun W hb => dec_from (w := w2) (W := W) x.veh HI.out.wf.veh hb
  have C3 := fun W hb => dec_from (w := w2) (W := W) x.cap HI.out.wf.cap hb
  have C4 := fun W hb => dec_from (w := w2) (W := W) x.len HI.out.wf.len hb
  have hbx := Below.refl w2.heap.size w2
  clear hW2
  obtain ⟨z1, z2, z3, z4, z5, z6, z7, z8, z9, z10⟩ := (mayI_iff.1 hm).1
  have HWS : Hid (∀ y ∈ sizesW x, y.length ≤ 64) := by
    intro y hy
    have dl : ∀ n : Int, 0 ≤ n → n ≤ 2147483648 → (decI n).length ≤ 64 := fun n h0 h1 => Nat.le_trans (dec_len (k := 9) h0 (by omega)) (by decide)
    unfold sizesW at hy
    simp only [List.mem_cons, List.not_mem_nil, or_false] at hy
    rcases hy with rfl | rfl | rfl | rfl | rfl | rfl | rfl | rfl <;> first | decide | exact dl _ (by omega) (by omega)
  clear z1 z2 z3 z4 z5 z6 z7 z8 z9 z10
  go_region_held3 (fun w' => w'.cell? ⟨w.heap.size, 0, none⟩ = some (.int .i64 x.days) ∧ w'.cell? ⟨w.heap.size, 1, none⟩ = some (.int .i64 x.veh) ∧ w'.cell? ⟨w.heap.size, 2, none⟩ = some (.int .i64 x.cap) ∧ w'.cell? ⟨w.heap.size, 3, none⟩ = some (.int .i64 x.len))
    (first | exact ⟨i0, i1, i2, i3⟩ | exact ⟨keep_cell hbx HC2.out.1, keep_cell hbx HC2.out.2.1, keep_cell hbx HC2.out.2.2.1, keep_cell hbx HC2.out.2.2.2⟩ | exact ⟨keep_cell hbx.drew HC2.out.1, keep_cell hbx.drew HC2.out.2.1, keep_cell hbx.drew HC2.out.2.2.1, keep_cell hbx.drew HC2.out.2.2.2⟩ | exact ⟨t0, t1, t2, t3⟩ | go_keep)
    (first
      | (go_at_call 22; (first | (with_reducible refine (C1 _ (by first | exact hbx | exact hbx.drew)).mono ?_) | (with_reducible refine (C2 _ (by first | exact hbx | exact hbx.drew)).mono ?_) | (with_reducible refine (C3 _ (by first | exact hbx | exact hbx.drew)).mono ?_) | (with_reducible refine (C4 _ (by first | exact hbx | exact hbx.drew)).mono ?_)); rintro e w6 ⟨rfl, hb6⟩; replace hbx := hb6; clear hb6)
      | (go_at_call 19; refine (told_lit w1.heap.size _ 8 _ (sizesW x) _ (HD2.out.keep hbx) rfl (by decide) rfl (by decide) (by decide) HWS.out).mono ?_; rintro e w9 ⟨rfl, hB9, hb9⟩; have HD9 := Go.Lib.hid hB9; have k9 := (hbx.mono HL2.out.size).trans hb9; have t0 := (k9.cell (p := ⟨w.heap.size, 0, none⟩) lt1).trans HC2.out.1; have t1 := (k9.cell (p := ⟨w.heap.size, 1, none⟩) lt1).trans HC2.out.2.1; have t2 := (k9.cell (p := ⟨w.heap.size, 2, none⟩) lt1).trans HC2.out.2.2.1; have t3 := (k9.cell (p := ⟨w.heap.size, 3, none⟩) lt1).trans HC2.out.2.2.2; have HL9 := Go.Lib.hid (HL2.out.trans k9); clear hB9 hb9 k9))
  clear i0 i1 i2 i3 i4 i5 hbx C1 C2 C3 C4 t0 t1 t2 t3
  have HK9 := Go.Lib.hid (HK1.out.keep HL9.out)
  obtain ⟨i0, i1, i2, i3, i4, i5⟩ := HK9.out.cells
  have C5 := fun W hb => dec_from (w := w9) (W := W) (x.custs.length : Int) ⟨by omega, by omega⟩ hb
  have hbx := Below.refl w9.heap.size w9
  have HWC : Hid (∀ y ∈ [wCustomers, decI (x.custs.length : Int)], y.length ≤ 64) := by
    intro y hy
    simp only [List.mem_cons, List.not_mem_nil, or_false] at hy
    rcases hy with rfl | rfl
    · decide
    · exact Nat.le_trans (dec_len (k := 9) (by omega) (by omega)) (by decide)
  have HLS : Hid (([] ++ lineT [wProgram, wEdition] ++ lineT (sizesW x)).length ≤ 1000000000) := by
    show _ ≤ _
    have h1 := lineT_bdK (K := 64) (ws := sizesW x) (by simp [sizesW]) HWS.out
    have h2 : (lineT [wProgram, wEdition]).length = 10 := by decide
    have h3 : (sizesW x).length = 8 := rfl
    rw [List.nil_append, List.length_append]
    omega
  go_wp2_with (first
    | (go_at_call 22; refine (C5 _ (by first | exact hbx | exact hbx.drew)).mono ?_; rintro e w10 ⟨rfl, hb10⟩; replace hbx := hb10; clear hb10)
    | (go_at_call 19; go_loud (refine (told_lit w1.heap.size _ 2 _ [wCustomers, decI (x.custs.length : Int)] _ (HD9.out.keep hbx) rfl HLS.out rfl (by decide) (by decide) HWC.out).mono ?_; rintro e w11 ⟨rfl, hB11, hb11⟩; have HD11 := Go.Lib.hid hB11; have HL11 := Go.Lib.hid (HL9.out.trans ((hbx.mono HL9.out.size).trans hb11)); have HK11 := Go.Lib.hid (HK1.out.keep HL11.out); have m4 := HK11.out.cells.2.2.2.2.1; clear hB11 hb11 hbx)))
  obtain ⟨L3, hL3⟩ : ∃ L3, L3 = [] ++ lineT [wProgram, wEdition] ++ lineT (sizesW x) ++ lineT [wCustomers, decI (x.custs.length : Int)] := ⟨_, rfl⟩
  have HD12 : Hid (BuildsAt w11 w1.heap.size L3) := by show BuildsAt _ _ _; rw [hL3]; exact HD11.out
  have HL3 := Go.Lib.hid hL3
  have hL3b : L3.length ≤ 10000000 := by
    have h1 := lineT_bdK (K := 64) (ws := sizesW x) (by simp [sizesW]) HWS.out
    have h2 : (lineT [wProgram, wEdition]).length = 10 := by decide
    have h3 : (sizesW x).length = 8 := rfl
    have h4 := lineT_bdK (K := 64) (ws := [wCustomers, decI (x.custs.length : Int)]) (by simp) HWC.out
    have h5 : [wCustomers, decI (x.custs.length : Int)].length = 2 := rfl
    rw [hL3, List.nil_append, List.length_append, List.length_append]
    omega
  have HB3 := Go.Lib.hid hL3b
  obtain ⟨md, hmd, md1, md2⟩ := may_days hm
  have hcm := (mayI_iff.1 hm).2.1
  have HCB : Hid (∀ j (hj : j < x.custs.length), custW x.days x.custs[j] ≠ [] ∧ (custW x.days x.custs[j]).length ≤ 66 ∧ (∀ y ∈ custW x.days x.custs[j], y.length ≤ 64) ∧ x.custs[j].pats.length ≤ 900) := fun j hj => by
    have hmj := List.all_eq_true.1 hcm _ (List.getElem_mem hj)
    rw [hmd] at hmj ⊢
    obtain ⟨q1, q2, q3⟩ := cust_bd md1 md2 hmj
    refine ⟨q1, q2, q3, ?_⟩
    rcases mayC_cases hmj with ⟨_, _, k3, _⟩ | ⟨_, _, _, _, _, _, _, k8⟩
    · omega
    · rw [k8]; exact Nat.zero_le _
  have HLB : Hid (∀ j, j ≤ x.custs.length → (L3 ++ linesT ((x.custs.take j).map (custW x.days))).length ≤ 20000000) := fun j hj => by
    have h1 := linesT_bd (K := 4290) (ls := (x.custs.take j).map (custW x.days)) (fun l hl => by
      obtain ⟨ci, hci, rfl⟩ := List.mem_map.1 hl
      obtain ⟨i, hi, rfl⟩ := List.getElem_of_mem (List.mem_of_mem_take hci)
      obtain ⟨q1, q2, q3, _⟩ := HCB.out i hi
      have := lineT_bdK (K := 64) q1 q3
      omega)
    rw [List.length_map, List.length_take_of_le hj] at h1
    rw [List.length_append]
    have := HB3.out
    omega
  clear hL3 hL3b hmd hcm CM HC2 HD1 HD2 HD9 HD11 HL2 HL9 HK2 HK9 HI2 HLS i0 i1 i2 i3 i4 i5 C5 m4
  go_loopw [42] (fun iv wr => ∃ j : Nat, j ≤ x.custs.length ∧ iv = .int .i64 j ∧ BuildsAt wr w1.heap.size (L3 ++ linesT ((x.custs.take j).map (custW x.days))) ∧ Below w1.heap.size w1 wr) (fun iv _ => x.custs.length - (intOf iv).toNat)
  case atStart => exact ⟨0, Nat.zero_le _, rfl, by simpa [linesT] using HD12.out, HL11.out⟩
  case round =>
    obtain ⟨j, hj, rfl, hBj, hLj⟩ := hrel
    have HBj := Go.Lib.hid hBj
    have HLj := Go.Lib.hid hLj
    clear HD12
    by_cases hlt : j < x.custs.length
    · obtain ⟨b, off, P, kp, rfl, hca, hnp, hkp⟩ := (HI1.out.keep hLj).custs j hlt
      have hcw := HI.out.wf.custs _ (List.getElem_mem hlt)
      obtain ⟨q1, q2, q3, q4⟩ := HCB.out j hlt
      have hi0 := (HK1.out.keep hLj).cells.1
      have hwl := World.block_lt_of_cell? wr _ hi0
      have HS : Hid (linesT ((x.custs.take (j + 1)).map (custW x.days)) = linesT ((x.custs.take j).map (custW x.days)) ++ lineT (custW x.days x.custs[j])) := by
        show _ = _
        rw [List.take_succ_eq_append_getElem hlt, List.map_append]
        exact linesT_snoc _ _
      have CW := fun W hb => words_any2 x.custs[j] P kp x.days W hcw HI.out.wf.days (hnp.keep (w' := W) hb) q4
      have hlb := HLB.out j hj
      obtain ⟨ws, hws⟩ : ∃ ws, ws = custW x.days x.custs[j] := ⟨_, rfl⟩
      rw [← hws] at q1 q2 q3 HS CW
      obtain ⟨ci, hci⟩ : ∃ ci, ci = x.custs[j] := ⟨_, rfl⟩
      rw [← hci] at hca CW
      obtain ⟨L, hL⟩ : ∃ L, L = L3 ++ linesT ((x.custs.take j).map (custW x.days)) := ⟨_, rfl⟩
      rw [← hL] at HBj hlb
      have HLL := Go.Lib.hid hL
      have CT := fun v base W hB hr => told_row w1.heap.size base L v ws W hB hr (by omega) q1 (by omega) q3
      unfold custV at CW
      obtain ⟨c0, c1, c2, c3, c4, c5, c6, c7⟩ := hca
      clear hBj hLj hcw hnp hkp hws hci hL q1 q2 q3 q4
      go_wp2_with (first
        | (go_at_call 23; refine (CW _ (below_alloc _ _)).mono ?_; rintro e w12 ⟨v, rfl, hrow, hb12⟩; have HB12 := Go.Lib.hid ((below_alloc _ _).trans (hb12.mono (by simp))))
        | (go_at_call 19; refine (CT _ _ _ (HBj.out.keep HB12.out) hrow).mono ?_; rintro e w13 ⟨rfl, hB13, hb13⟩))
      refine ⟨⟨j + 1, by omega, by go_num, ?_, (HLj.out.trans (HB12.out.mono HLj.out.size)).trans hb13⟩, by simp [intOf]; omega⟩
      rw [HS.out, ← List.append_assoc, ← HLL.out]
      exact hB13
    · obtain rfl : j = x.custs.length := by omega
      rw [List.take_length] at HBj
      obtain ⟨L4, hL4⟩ : ∃ L4, L4 = L3 ++ linesT (x.custs.map (custW x.days)) := ⟨_, rfl⟩
      have hl4 := HLB.out x.custs.length (Nat.le_refl _)
      rw [List.take_length] at hl4
      rw [← hL4] at HBj hl4
      have HL4 := Go.Lib.hid hL4
      have HKj := Go.Lib.hid (HK1.out.keep HLj.out)
      have CD := told_lit w1.heap.size wr.heap.size 1 L4 [wDistances] wr HBj.out rfl (by omega) rfl (by decide) (by decide) (by decide)
      clear hBj hLj hL4 HLB HCB hlt
      go_wp2_with (first
        | (go_at_call 19; refine CD.mono ?_; rintro e w14 ⟨rfl, hB14, hb14⟩; have HB14 := Go.Lib.hid hB14; have HL14 := Go.Lib.hid (HLj.out.trans (hb14.mono (Nat.le_refl _))); have n5 := (HK1.out.keep HL14.out).cells.2.2.2.2.2; clear hB14 hb14))
      obtain ⟨L5, hL5⟩ : ∃ L5, L5 = L4 ++ lineT [wDistances] := ⟨_, rfl⟩
      rw [← hL5] at HB14
      have hl5 : L5.length ≤ 20000010 := by
        have h6 : (lineT [wDistances]).length = 10 := by decide
        rw [hL5, List.length_append]; omega
      have HPR : Hid (L5 ++ linesT (x.dist.map fun r => r.map decI) = printI x) := by
        show _ = _
        rw [hL5, HL4.out, HL3.out]
        unfold printI instW
        rw [linesT_cons, linesT_cons, linesT_cons, linesT_app, linesT_cons]
        simp
      have hm2 := (mayI_iff.1 hm).1
      have hdl : x.dist.length ≤ 901 := by obtain ⟨_, _, _, _, _, _, _, _, _, e⟩ := hm2; omega
      have HRB : Hid (∀ i (hi : i < x.dist.length), (x.dist[i]).map decI ≠ [] ∧ ((x.dist[i]).map decI).length ≤ 1000 ∧ ∀ y ∈ (x.dist[i]).map decI, y.length ≤ 64) := fun i hi => row_words_bd hm hn (List.getElem_mem hi)
      have HL5 : Hid (∀ i, i ≤ x.dist.length → (L5 ++ linesT ((x.dist.take i).map fun r => r.map decI)).length ≤ 200000000) := fun i hi => by
        have h1 := linesT_bd (K := 65000) (ls := (x.dist.take i).map fun r => r.map decI) (fun l hl => by
          obtain ⟨r, hr, rfl⟩ := List.mem_map.1 hl
          obtain ⟨q, hq, rfl⟩ := List.getElem_of_mem (List.mem_of_mem_take hr)
          obtain ⟨q1, q2, q3⟩ := HRB.out q hq
          have := lineT_bdK (K := 64) q1 q3
          omega)
        rw [List.length_map, List.length_take_of_le hi] at h1
        rw [List.length_append]
        omega
      clear hm2 hL5 hl4 hl5 CD
      go_loopw [59] (fun iv wr => ∃ i : Nat, i ≤ x.dist.length ∧ iv = .int .i64 i ∧ BuildsAt wr w1.heap.size (L5 ++ linesT ((x.dist.take i).map fun r => r.map decI)) ∧ Below w1.heap.size w1 wr) (fun iv _ => x.dist.length - (intOf iv).toNat)
      case atStart => exact ⟨0, Nat.zero_le _, rfl, by simpa [linesT] using HB14.out, HL14.out⟩
      case round =>
        obtain ⟨i, hi, rfl, hBi, hLi⟩ := hrel
        have HBi := Go.Lib.hid hBi
        have HLi := Go.Lib.hid hLi
        clear HB14 n5
        by_cases hlt : i < x.dist.length
        · obtain ⟨b, off, P, kp, rfl, hcell, hint, hkp⟩ := (HI1.out.keep hLi).dist i hlt
          have hwr := HI.out.wf.dist _ (List.getElem_mem hlt)
          obtain ⟨q1, q2, q3⟩ := HRB.out i hlt
          have HS : Hid (linesT ((x.dist.take (i + 1)).map fun r => r.map decI) = linesT ((x.dist.take i).map fun r => r.map decI) ++ lineT ((x.dist[i]).map decI)) := by
            show _ = _
            rw [List.take_succ_eq_append_getElem hlt, List.map_append]
            exact linesT_snoc _ _
          have hnin : NumsIn _ P x.dist[i] := fun h0 => by
            obtain ⟨b', off', e, hc⟩ := hint.2 h0
            refine ⟨b', off', e, fun j hj => ?_⟩
            rw [hc j hj, getD_in _ _ hj]
          have CW := words_code P x.dist[i] kp _ hnin (by rw [List.length_map] at q2; exact q2) hwr.2
          have hlb := HL5.out i hi
          obtain ⟨ws, hws⟩ : ∃ ws, ws = (x.dist[i]).map decI := ⟨_, rfl⟩
          rw [← hws] at q1 q2 q3 HS CW
          obtain ⟨rl, hrl⟩ : ∃ rl, rl = (x.dist[i]).length := ⟨_, rfl⟩
          rw [← hrl] at hcell CW
          obtain ⟨L, hL⟩ : ∃ L, L = L5 ++ linesT ((x.dist.take i).map fun r => r.map decI) := ⟨_, rfl⟩
          rw [← hL] at HBi hlb
          have HLL := Go.Lib.hid hL
          have CT := fun v base W hB hr => told_row w1.heap.size base L v ws W hB hr (by omega) q1 (by omega) q3
          clear hBi hLi hwr hint hkp hnin hws hrl hL q1 q2 q3
          go_wp2_with (first
            | (go_at_call 24; refine CW.mono ?_; rintro e w15 ⟨v, rfl, hrow, hb15⟩; have HB15 := Go.Lib.hid hb15)
            | (go_at_call 19; refine (CT _ _ _ (HBi.out.keep HB15.out) hrow).mono ?_; rintro e w16 ⟨rfl, hB16, hb16⟩))
          refine ⟨⟨i + 1, by omega, by go_num, ?_, (HLi.out.trans (HB15.out.mono HLi.out.size)).trans hb16⟩, by simp [intOf]; omega⟩
          rw [HS.out, ← List.append_assoc, ← HLL.out]
          exact hB16
        · obtain rfl : i = x.dist.length := by omega
          have hBi' : BuildsAt wr w1.heap.size (printI x) := by
            have := HBi.out
            rw [List.take_length, HPR.out] at this
            exact this
          have CS := Tryz.Builder_String_any w1.heap.size w1.heap.size (printI x) wr hBi' (Nat.le_of_lt hBi'.lt)
          have HFIN := Go.Lib.hid (HB1.out.trans (hLi.mono HB1.out.size))
          have hz : (⟨(printI x).toArray⟩ : ByteArray) = strL (printI x) := rfl
          obtain ⟨T, hTT⟩ : ∃ T, T = strL (printI x) := ⟨_, rfl⟩
          rw [hz, ← hTT] at CS
          have HTT := Go.Lib.hid hTT
          clear hBi hLi hBi' HL5 HRB hz hTT
          go_wp2_with (go_at_call 25; refine CS.mono ?_; rintro e w17 ⟨rfl, hb17⟩)
          go_ret2
          exact ⟨by have h := HTT.out; subst h; rfl, HFIN.out.trans (hb17.mono HB1.out.size)⟩
/-- What Print answers: a text, or 3 and no text where May does not hold. -/
theorem Print_code (x : Inst) (A : Option Addr) (c : Nat) (B : Option Addr) (d : Nat) (w : World) (hT : Tab w) (h : InstIs w x A B) (hn : x.custs.length ≤ 900) :
    Calls Tryz.prog 9 #[instV x A c B d] w fun e w' => e = .returned (.tuple (if mayI x = true then #[.string (strL (printI x)), .int .i64 0] else #[.string ⟨#[]⟩, .int .i64 3])) ∧ Below w.heap.size w w' := by
  cases hm : mayI x with
  | true => rw [if_pos rfl]; exact print_walk x A c B d w hT h hm hn
  | false => rw [if_neg (by simp)]; exact print_not x A c B d w hT h hm
end Go.Proofs.YtliomhkgkabbbaaGreatDoor
end
section
/- An instance that is made of any may be, and its text is short. -/
namespace Go.Proofs.YtliomhkgkabbbaaGreatDoor
open Go.RowKit
set_option linter.unusedVariables false
set_option maxRecDepth 20000
theorem cutN_bit (p : Nat) : ∀ d : Nat, d ≤ 64 → ∀ j : Nat, j < 64 → (cutN p d).testBit j = true → j < d
  | 0, _, j, _, h => by rw [show cutN p 0 = 0 from rfl, Nat.zero_testBit] at h; exact absurd h (by decide)
  | d + 1, hd, j, hj, h => by
    rw [cutN] at h
    split at h
    · rw [putN_bit hj ⟨by omega, by omega⟩] at h
      split at h
      · omega
      · have := cutN_bit p d (by omega) j hj h; omega
    · have := cutN_bit p d (by omega) j hj h; omega
theorem cutP_next {d p : Int} (h1 : 1 ≤ d) (h2 : d ≤ 64) : nextI (cutP d p).toNat d < 0 := by
  rw [nextI_no]
  · decide
  · intro y hy
    obtain ⟨y0, y1, y2⟩ := mem_allI.1 hy
    have e : (cutP d p).toNat = cutN p.toNat d.toNat := by unfold cutP; exact Int.toNat_natCast _
    rw [e] at y2
    have := cutN_bit p.toNat d.toNat (by omega) y.toNat (by omega) y2
    omega
theorem one_next {d : Int} (h1 : 1 ≤ d) : nextI (1 : Int).toNat d < 0 := by
  rw [nextI_no]
  · decide
  · intro y hy
    obtain ⟨y0, y1, y2⟩ := mem_allI.1 hy
    have e : (1 : Int).toNat = 1 := rfl
    rw [e] at y2
    have h0 : y.toNat = 0 := by
      cases hh : y.toNat with
      | zero => rfl
      | succ k => rw [hh, Nat.testBit_succ, show 1 / 2 = 0 from rfl, Nat.zero_testBit] at y2; exact absurd y2 (by decide)
    omega
theorem goodCu_kind (c : Cust) (d : Int) : (goodCu c d).kind = 1 ∨ (goodCu c d).kind = 2 := by
  unfold goodCu
  split
  · exact .inr rfl
  · exact .inl rfl
theorem goodCu_may (c : Cust) {d : Int} (h1 : 1 ≤ d) (h2 : d ≤ 64) : mayC (goodCu c d) d = true := by
  unfold goodCu
  split
  · have r1 := roundD_bd c.rate (l := 0) (m := 9) (by omega)
    have r2 := roundD_bd c.size (l := 1) (m := 30) (by omega)
    have r3 := roundD_bd c.start (l := 0) (m := roundD c.size 1 30) (by omega)
    have r4 := roundD_bd c.rule (l := 1) (m := 2) (by omega)
    have r5 := roundD_bd c.hold (l := 0) (m := 4) (by omega)
    rw [mayC_two (by show (2 : Int) ≠ 1; decide), decide_eq_true_iff]
    exact ⟨rfl, r1.1, by show roundD c.rate 0 9 ≤ _; omega, r2.1, by show roundD c.size 1 30 ≤ _; omega, r3.1, r3.2, by show roundD c.rule 1 2 = 1 ∨ roundD c.rule 1 2 = 2; omega, r5.1, by show roundD c.hold 0 4 ≤ _; omega, rfl, rfl⟩
  · have r1 := roundD_bd c.demand (l := 1) (m := 15) (by omega)
    rw [mayC_one (by rfl)]
    refine ⟨⟨r1.1, by show roundD c.demand 1 15 ≤ _; omega, ?_, ?_, rfl, rfl, rfl, rfl, rfl⟩, ?_⟩
    · show 1 ≤ (if c.pats = [] then [1] else (c.pats.take 4).map (cutP d)).length
      split
      · decide
      · rename_i hne
        have := List.length_pos_iff.2 hne
        rw [List.length_map, List.length_take]
        omega
    · show (if c.pats = [] then [1] else (c.pats.take 4).map (cutP d)).length ≤ 64
      split
      · decide
      · rw [List.length_map, List.length_take]
        omega
    · show timelyB (if c.pats = [] then [1] else (c.pats.take 4).map (cutP d)) d = true
      unfold timelyB
      rw [List.all_eq_true]
      intro p hp
      rw [decide_eq_true_iff]
      split at hp
      · rw [List.mem_singleton] at hp
        subst hp
        exact one_next h1
      · obtain ⟨q, _, rfl⟩ := List.mem_map.1 hp
        exact cutP_next h1 h2
theorem good_may (x : Inst) : mayI (goodI x) = true := by
  have r1 := roundD_bd x.days (l := 1) (m := 7) (by omega)
  have r2 := roundD_bd x.veh (l := 0) (m := 5) (by omega)
  have r3 := roundD_bd x.cap (l := 0) (m := 40) (by omega)
  have r4 := roundD_bd x.len (l := 0) (m := 300) (by omega)
  have hn := goodCs_len x
  refine mayI_iff.2 ⟨⟨r1.1, ?_, r2.1, ?_, r3.1, ?_, r4.1, ?_, ?_, ?_⟩, ?_, ?_⟩
  · show roundD x.days 1 7 ≤ _; omega
  · show roundD x.veh 0 5 ≤ _; omega
  · show roundD x.cap 0 40 ≤ _; omega
  · show roundD x.len 0 300 ≤ _; omega
  · show (goodCs x).length ≤ _; omega
  · show ((List.range ((goodCs x).length + 1)).map (goodRow x (goodCs x).length)).length = (goodCs x).length + 1
    rw [List.length_map, List.length_range]
  · rw [List.all_eq_true]
    intro c hc
    obtain ⟨c', _, rfl⟩ := List.mem_map.1 (show c ∈ (x.custs.take 6).map fun c => goodCu c (roundD x.days 1 7) from hc)
    exact goodCu_may c' r1.1 (by omega)
  · show rowsB (goodCs x).length ((List.range ((goodCs x).length + 1)).map (goodRow x (goodCs x).length)) _ = true
    have e : (goodI x).dist.length = (goodCs x).length + 1 := by
      show ((List.range ((goodCs x).length + 1)).map (goodRow x (goodCs x).length)).length = _
      rw [List.length_map, List.length_range]
    rw [e]
    unfold rowsB
    rw [List.all_eq_true]
    intro a ha
    have ha := List.mem_range.1 ha
    rw [getD_in _ _ (by rw [List.length_map, List.length_range]; exact ha), List.getElem_map, List.getElem_range]
    unfold rowB
    simp only [Bool.and_eq_true, beq_iff_eq, List.all_eq_true]
    refine ⟨⟨goodRow_len x _ a, ?_⟩, fun n hm => ?_⟩
    · rw [getD_in _ _ (by rw [goodRow_len]; exact ha)]
      unfold goodRow
      rw [List.getElem_map, List.getElem_range]
      unfold gd
      rw [if_pos rfl]
    · unfold goodRow at hm
      obtain ⟨k, _, rfl⟩ := List.mem_map.1 hm
      have := gd_bd x a k
      unfold sizeB
      exact within_iff.2 ⟨this.1, by omega⟩
/-! ### Its text is short -/
theorem goodCu_line (c : Cust) {m : Nat} (h1 : 1 ≤ m) (h2 : m ≤ 7) : (lineT (custW (m : Int) (goodCu c (m : Int)))).length ≤ 48 := by
  have key : custW (m : Int) (goodCu c (m : Int)) ≠ [] ∧ (custW (m : Int) (goodCu c (m : Int))).length ≤ 6 ∧ ∀ y ∈ custW (m : Int) (goodCu c (m : Int)), y.length ≤ 7 := by
    have dl : ∀ n : Int, 0 ≤ n → n ≤ 999 → (decI n).length ≤ 7 := fun n h0 h1 => Nat.le_trans (dec_len (k := 2) h0 (by omega)) (by decide)
    rcases goodCu_kind c (m : Int) with hk | hk
    · have e : custW (m : Int) (goodCu c (m : Int)) = wVisit :: decI (goodCu c (m : Int)).demand :: (goodCu c (m : Int)).pats.map (patW (m : Int)) := by unfold custW; rw [if_neg (by omega)]
      rw [e]
      unfold goodCu at hk ⊢
      split
      · rename_i hm; rw [if_pos hm] at hk; have hk : (2 : Int) = 1 := hk; omega
      · have r1 := roundD_bd c.demand (l := 1) (m := 15) (by omega)
        refine ⟨by simp, ?_, fun y hy => ?_⟩
        · show (if c.pats = [] then [1] else (c.pats.take 4).map (cutP (m : Int))).map (patW (m : Int)) |>.length |> (· + 1 + 1 ≤ 6)
          split
          · show 1 + 1 + 1 ≤ 6; decide
          · simp only [List.length_map, List.length_take]; omega
        · rcases List.mem_cons.1 hy with rfl | hy
          · decide
          · rcases List.mem_cons.1 hy with rfl | hy
            · exact dl _ (by show 0 ≤ roundD c.demand 1 15; omega) (by show roundD c.demand 1 15 ≤ 999; omega)
            · obtain ⟨p, _, rfl⟩ := List.mem_map.1 hy
              rw [(pat_ok h1 (by omega) p).1]; exact h2
    · have e : custW (m : Int) (goodCu c (m : Int)) = [wTank, decI (goodCu c (m : Int)).rate, decI (goodCu c (m : Int)).size, decI (goodCu c (m : Int)).start, ruleW (goodCu c (m : Int)).rule, decI (goodCu c (m : Int)).hold] := by unfold custW; rw [if_pos hk]
      rw [e]
      unfold goodCu at hk ⊢
      split
      · have r1 := roundD_bd c.rate (l := 0) (m := 9) (by omega)
        have r2 := roundD_bd c.size (l := 1) (m := 30) (by omega)
        have r3 := roundD_bd c.start (l := 0) (m := roundD c.size 1 30) (by omega)
        have r5 := roundD_bd c.hold (l := 0) (m := 4) (by omega)
        refine ⟨by simp, by simp, fun y hy => ?_⟩
        simp only [List.mem_cons, List.not_mem_nil, or_false] at hy
        rcases hy with rfl | rfl | rfl | rfl | rfl | rfl <;> first | decide | exact dl _ (by omega) (by omega) | (unfold ruleW; split <;> decide)
      · rename_i hm; rw [if_neg hm] at hk; have hk : (1 : Int) = 2 := hk; omega
  have := lineT_bdK (K := 7) key.1 key.2.2
  omega
theorem goodRow_line (x : Inst) (n i : Nat) (hn : n ≤ 6) : (lineT ((goodRow x n i).map decI)).length ≤ 21 := by
  have hl : ((goodRow x n i).map decI).length = n + 1 := by rw [List.length_map, goodRow_len]
  have := lineT_bdK (K := 2) (ws := (goodRow x n i).map decI) (fun e => by rw [e] at hl; simp at hl) (fun y hy => by
    obtain ⟨v, hv, rfl⟩ := List.mem_map.1 hy
    unfold goodRow at hv
    obtain ⟨k, _, rfl⟩ := List.mem_map.1 hv
    have := gd_bd x i k
    exact Nat.le_trans (dec_len (k := 1) this.1 (by omega)) (by decide))
  omega
theorem good_short (x : Inst) : (printI (goodI x)).length ≤ 600 := by
  have r1 := roundD_bd x.days (l := 1) (m := 7) (by omega)
  have r2 := roundD_bd x.veh (l := 0) (m := 5) (by omega)
  have r3 := roundD_bd x.cap (l := 0) (m := 40) (by omega)
  have r4 := roundD_bd x.len (l := 0) (m := 300) (by omega)
  have hn := goodCs_len x
  have dl : ∀ n : Int, 0 ≤ n → n ≤ 999 → (decI n).length ≤ 8 := fun n h0 h1 => Nat.le_trans (dec_len (k := 2) h0 (by omega)) (by decide)
  unfold printI instW
  rw [linesT_cons, linesT_cons, linesT_cons, linesT_app, linesT_cons]
  simp only [List.length_append]
  have a1 : (lineT [wProgram, wEdition]).length = 10 := by decide
  have a2 : (lineT (sizesW (goodI x))).length ≤ 72 := by
    have := lineT_bdK (K := 8) (ws := sizesW (goodI x)) (by simp [sizesW]) (fun y hy => by
      unfold sizesW at hy
      simp only [List.mem_cons, List.not_mem_nil, or_false] at hy
      rcases hy with rfl | rfl | rfl | rfl | rfl | rfl | rfl | rfl
      · decide
      · exact dl _ (by show 0 ≤ roundD x.days 1 7; omega) (by show roundD x.days 1 7 ≤ 999; omega)
      · decide
      · exact dl _ (by show 0 ≤ roundD x.veh 0 5; omega) (by show roundD x.veh 0 5 ≤ 999; omega)
      · decide
      · exact dl _ (by show 0 ≤ roundD x.cap 0 40; omega) (by show roundD x.cap 0 40 ≤ 999; omega)
      · decide
      · exact dl _ (by show 0 ≤ roundD x.len 0 300; omega) (by show roundD x.len 0 300 ≤ 999; omega))
    have h8 : (sizesW (goodI x)).length = 8 := rfl
    omega
  have hcl : (goodI x).custs.length ≤ 6 := by show (goodCs x).length ≤ 6; omega
  have a3 : (lineT [wCustomers, decI (goodI x).custs.length]).length ≤ 20 := by
    have := lineT_bdK (K := 9) (ws := [wCustomers, decI (goodI x).custs.length]) (by simp) (fun y hy => by
      simp only [List.mem_cons, List.not_mem_nil, or_false] at hy
      rcases hy with rfl | rfl
      · decide
      · exact Nat.le_trans (dl _ (by omega) (by omega)) (by decide))
    have h8 : [wCustomers, decI (goodI x).custs.length].length = 2 := rfl
    omega
  have a4 : (linesT ((goodI x).custs.map (custW (goodI x).days))).length ≤ 288 := by
    have hd : (goodI x).days = ((roundD x.days 1 7).toNat : Int) := by show roundD x.days 1 7 = _; omega
    have := linesT_bd (K := 48) (ls := (goodI x).custs.map (custW (goodI x).days)) (fun l hl => by
      obtain ⟨c, hc, rfl⟩ := List.mem_map.1 hl
      obtain ⟨c', _, rfl⟩ := List.mem_map.1 (show c ∈ (x.custs.take 6).map fun c => goodCu c (goodI x).days from hc)
      rw [hd]
      exact goodCu_line c' (by omega) (by omega))
    rw [List.length_map] at this
    omega
  have a5 : (lineT [wDistances]).length = 10 := by decide
  have a6 : (linesT ((goodI x).dist.map fun r => r.map decI)).length ≤ 147 := by
    have hdl : (goodI x).dist.length = (goodCs x).length + 1 := by
      show ((List.range ((goodCs x).length + 1)).map (goodRow x (goodCs x).length)).length = _
      rw [List.length_map, List.length_range]
    have := linesT_bd (K := 21) (ls := (goodI x).dist.map fun r => r.map decI) (fun l hl => by
      obtain ⟨r, hr, rfl⟩ := List.mem_map.1 hl
      obtain ⟨i, _, rfl⟩ := List.mem_map.1 (show r ∈ (List.range ((goodCs x).length + 1)).map (goodRow x (goodCs x).length) from hr)
      exact goodRow_line x _ i (by omega))
    rw [List.length_map] at this
    omega
  omega
end Go.Proofs.YtliomhkgkabbbaaGreatDoor
end
