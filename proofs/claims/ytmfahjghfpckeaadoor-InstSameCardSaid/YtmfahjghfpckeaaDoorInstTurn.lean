/- An instance of which a number is another one, off its code. -/
import Derived.Test.YtmfahjghfpckeaaDoorInstShape
namespace Go.Proofs.YtmfahjghfpckeaaDoor
open Go.RowKit
set_option linter.unusedVariables false
theorem turned_end {w w1 : World} {base : Nat} {y : Inst} {A : Option Addr} {c : Nat} {B : Option Addr} {d : Nat} (hO : OwnInst base w1 y A c B d) (hw : y.Wf) (hB : Below base w w1) (hs : base ≤ w1.heap.size) (o1 o2 : Obj) :
    InstIs ((w1.alloc o1).alloc o2) y A B ∧ Below base w ((w1.alloc o1).alloc o2) :=
  ⟨((hO.keep (below_alloc _ _)).keep (below_alloc _ _)).inst hw, (hB.alloc hs _).alloc (by simp; omega) _⟩
/-- The first customer's cells. -/
theorem OwnInst.cust0 {base : Nat} {W : World} {y : Inst} {A : Option Addr} {c : Nat} {B : Option Addr} {d : Nat} (h : OwnInst base W y A c B d) (hw : y.Wf) (hn : 0 < y.custs.length) :
    ∃ b q P k, A = some ⟨b, 0, none⟩ ∧ base ≤ b ∧ b < W.heap.size ∧ (∀ j, W.frozen? ⟨b, j, none⟩ = false) ∧ CustAt W b 0 q P k := by
  obtain ⟨b, off, P, k, e, h1, _, _⟩ := (h.inst hw).custs 0 hn
  obtain ⟨⟨l, g1, g2⟩, _⟩ := h
  have hl : l.length = y.custs.length := by rw [← g1, List.length_map]
  have hr := g2.row
  obtain ⟨g, cap, hv, hb, _⟩ := World.ownsRow.form hr (by omega)
  injection hv with hA hm hc
  subst hc
  rw [hA] at e
  injection e with e
  injection e with e1 e2
  subst e1
  subst e2
  rw [hA, hl] at hr
  rw [Nat.zero_mul, Nat.zero_add] at h1
  exact ⟨g, _, P, k, hA, hb, World.block_lt_of_cell? W _ h1.c0, hr.frozenAt, h1⟩
/-- A row's cells. -/
theorem OwnInst.rowAt {base : Nat} {W : World} {y : Inst} {A : Option Addr} {c : Nat} {B : Option Addr} {d : Nat} (h : OwnInst base W y A c B d) {i : Nat} (hi : i < y.dist.length) (hp : 0 < y.dist[i].length) :
    ∃ g b k, B = some ⟨g, 0, none⟩ ∧ g < W.heap.size ∧ W.cell? ⟨g, i, none⟩ = some (.slice (some ⟨b, 0, none⟩) y.dist[i].length k) ∧ base ≤ b ∧ b < W.heap.size ∧ (∀ j, W.frozen? ⟨b, j, none⟩ = false) ∧ ∀ j, j < y.dist[i].length → ∃ z, W.cell? ⟨b, j, none⟩ = some (.int .i64 z) := by
  obtain ⟨_, us, h3, h4⟩ := h
  obtain ⟨hu, hr⟩ := h4.at i hi
  obtain ⟨g, cap, hv, hb, _⟩ := World.ownsRow.form h3 (by omega)
  injection hv with hB hm hc
  subst hc
  obtain ⟨b, cap2, hv2, hb2, _⟩ := World.ownsRow.form hr hp
  rw [hB] at h3
  have hc := h3.cellAt i (by omega)
  rw [List.getElem?_eq_getElem hu, hv2] at hc
  rw [hv2] at hr
  have hz : ∀ j, j < y.dist[i].length → ∃ z, W.cell? ⟨b, j, none⟩ = some (.int .i64 z) := fun j hj => by
    refine ⟨(y.dist[i])[j], (hr.cellAt j (by omega)).trans ?_⟩
    rw [List.getElem?_map, List.getElem?_eq_getElem hj]
    rfl
  obtain ⟨z, hz0⟩ := hz 0 hp
  exact ⟨g, b, cap2, hB, World.block_lt_of_cell? W _ hc, hc, hb2, World.block_lt_of_cell? W _ hz0, hr.frozenAt, hz⟩
set_option maxRecDepth 100000 in
set_option maxHeartbeats 8000000 in
theorem turned_any (y : Inst) (A : Option Addr) (c : Nat) (B : Option Addr) (d base : Nat) (turn v : Int) (w : World) (h : OwnInst base w y A c B d) (hb : base ≤ w.heap.size) (hy : y.Wf) (hs : Square y) (hn6 : y.custs.length ≤ 6) (hv : W64 v) :
    Calls Tryd.prog 11 #[instV y A c B d, .int .i64 turn, .int .i64 v] w fun e w' => ∃ y' d', e = .returned (instV y' A c B d') ∧ InstIs w' y' A B ∧ Below base w w' := by
  have hm := hs.1
  have hrl := fun (r : List Int) hr => hs.2 r hr
  have HS := Go.Lib.hid hs
  have HH := Go.Lib.hid h
  have HY := Go.Lib.hid hy
  have HV := Go.Lib.hid hv
  have HB := Go.Lib.hid hb
  unfold instV
  clear h hy hs hv hb
  have hn0 : (0 : Int) ≤ (y.custs.length : Int) := by omega
  have hnm : (y.custs.length : Int) < (y.dist.length : Int) := by omega
  have hNm : y.custs.length < y.dist.length := by omega
  have hR : 0 < (y.dist[y.custs.length]'hNm).length ∧ y.custs.length < (y.dist[y.custs.length]'hNm).length := by
    rw [hrl _ (List.getElem_mem hNm)]; omega
  obtain ⟨g, bR, kR, rfl, g1, g2, g3, g4, g5, g6⟩ := OwnInst.rowAt HH.out hNm hR.1
  generalize (y.dist[y.custs.length]'hNm).length = rl at *
  obtain ⟨z0, g7⟩ := g6 0 hR.1
  obtain ⟨zn, g8⟩ := g6 _ hR.2
  have hr0 : (0 : Int) < (rl : Int) := by omega
  have hrn : (y.custs.length : Int) < (rl : Int) := by omega
  have HM := Go.Lib.hid hm
  have ng1 : ¬ g = w.heap.size := by omega
  have ng2 : ¬ g = w.heap.size + 1 := by omega
  have nb1 : ¬ bR = w.heap.size := by omega
  have nb2 : ¬ bR = w.heap.size + 1 := by omega
  clear hm hrl hR g6
  rcases Nat.eq_zero_or_pos y.custs.length with hz | hpos
  · have hzI : ((y.custs.length : Int) == 0) = true := beq_iff_eq.2 (by omega)
    clear hz
    by_cases h1 : turn = 1
    · subst h1
      go_enter Tryd.func11, Tryd.ntmps11
      go_wp2
      have E := fun o1 o2 => turned_end (w := w) (y := { y with days := v }) (⟨HH.out.custs, HH.out.dist⟩ : OwnInst base w { y with days := v } A c (some ⟨g, 0, none⟩) d) ⟨HV.out, HY.out.veh, HY.out.cap, HY.out.len, HY.out.custs, HY.out.dist, HY.out.n, HY.out.m⟩ (Below.refl _ _) HB.out o1 o2
      refine bodyPost_ret (v := .agg #[.int .i64 v, .int .i64 y.veh, .int .i64 y.cap, .int .i64 y.len, .slice A y.custs.length c, .slice (some ⟨g, 0, none⟩) y.dist.length d]) (by simp [results, Tryd.results11, go_sem]) rfl ⟨{ y with days := v }, d, rfl, (E _ _).1, (E _ _).2⟩
    · have t1 : (turn == 1) = false := beq_eq_false_iff_ne.2 h1
      clear h1
      by_cases h2 : turn = 2
      · subst h2
        go_enter Tryd.func11, Tryd.ntmps11
        go_wp2
        have E := fun o1 o2 => turned_end (w := w) (y := { y with veh := v }) (⟨HH.out.custs, HH.out.dist⟩ : OwnInst base w { y with veh := v } A c (some ⟨g, 0, none⟩) d) ⟨HY.out.days, HV.out, HY.out.cap, HY.out.len, HY.out.custs, HY.out.dist, HY.out.n, HY.out.m⟩ (Below.refl _ _) HB.out o1 o2
        refine bodyPost_ret (v := .agg #[.int .i64 y.days, .int .i64 v, .int .i64 y.cap, .int .i64 y.len, .slice A y.custs.length c, .slice (some ⟨g, 0, none⟩) y.dist.length d]) (by simp [results, Tryd.results11, go_sem]) rfl ⟨{ y with veh := v }, d, rfl, (E _ _).1, (E _ _).2⟩
      · have t2 : (turn == 2) = false := beq_eq_false_iff_ne.2 h2
        clear h2
        by_cases h3 : turn = 3
        · subst h3
          go_enter Tryd.func11, Tryd.ntmps11
          go_wp2
          have E := fun o1 o2 => turned_end (w := w) (y := { y with cap := v }) (⟨HH.out.custs, HH.out.dist⟩ : OwnInst base w { y with cap := v } A c (some ⟨g, 0, none⟩) d) ⟨HY.out.days, HY.out.veh, HV.out, HY.out.len, HY.out.custs, HY.out.dist, HY.out.n, HY.out.m⟩ (Below.refl _ _) HB.out o1 o2
          refine bodyPost_ret (v := .agg #[.int .i64 y.days, .int .i64 y.veh, .int .i64 v, .int .i64 y.len, .slice A y.custs.length c, .slice (some ⟨g, 0, none⟩) y.dist.length d]) (by simp [results, Tryd.results11, go_sem]) rfl ⟨{ y with cap := v }, d, rfl, (E _ _).1, (E _ _).2⟩
        · have t3 : (turn == 3) = false := beq_eq_false_iff_ne.2 h3
          clear h3
          by_cases h4 : turn = 4
          · subst h4
            go_enter Tryd.func11, Tryd.ntmps11
            go_wp2
            have E := fun o1 o2 => turned_end (w := w) (y := { y with len := v }) (⟨HH.out.custs, HH.out.dist⟩ : OwnInst base w { y with len := v } A c (some ⟨g, 0, none⟩) d) ⟨HY.out.days, HY.out.veh, HY.out.cap, HV.out, HY.out.custs, HY.out.dist, HY.out.n, HY.out.m⟩ (Below.refl _ _) HB.out o1 o2
            refine bodyPost_ret (v := .agg #[.int .i64 y.days, .int .i64 y.veh, .int .i64 y.cap, .int .i64 v, .slice A y.custs.length c, .slice (some ⟨g, 0, none⟩) y.dist.length d]) (by simp [results, Tryd.results11, go_sem]) rfl ⟨{ y with len := v }, d, rfl, (E _ _).1, (E _ _).2⟩
          · have t4 : (turn == 4) = false := beq_eq_false_iff_ne.2 h4
            clear h4
            by_cases h5 : turn = 5
            · subst h5
              obtain ⟨cs, ds, e1, e2, _, e4⟩ := (Shape.store g7 HV.out.wf).inst HH.out HY.out
              obtain ⟨e5, e6⟩ := e4 y.days y.veh y.cap y.len HY.out.days HY.out.veh HY.out.cap HY.out.len
              have HE1 := Go.Lib.hid e1
              have HE2 := Go.Lib.hid e2
              have HE5 := Go.Lib.hid e5
              have HE6 := Go.Lib.hid e6
              clear e1 e2 e4 e5 e6
              go_enter Tryd.func11, Tryd.ntmps11
              go_wp2
              have E := fun o1 o2 => turned_end (w := w) HE6.out HE5.out ((Below.refl base w).setCell (by first | exact g3 | exact hb1) _) (by simpa using HB.out) o1 o2
              refine bodyPost_ret (v := .agg #[.int .i64 y.days, .int .i64 y.veh, .int .i64 y.cap, .int .i64 y.len, .slice A y.custs.length c, .slice (some ⟨g, 0, none⟩) y.dist.length d]) (by simp [results, Tryd.results11, go_sem]) rfl ⟨{ days := y.days, veh := y.veh, cap := y.cap, len := y.len, custs := cs, dist := ds }, d, (by simp only [HE1.out, HE2.out]), (E _ _).1, (E _ _).2⟩
            · have t5 : (turn == 5) = false := beq_eq_false_iff_ne.2 h5
              clear h5
              by_cases h6 : turn = 6
              · subst h6
                obtain ⟨cs, ds, e1, e2, _, e4⟩ := (Shape.store g8 HV.out.wf).inst HH.out HY.out
                obtain ⟨e5, e6⟩ := e4 y.days y.veh y.cap y.len HY.out.days HY.out.veh HY.out.cap HY.out.len
                have HE1 := Go.Lib.hid e1
                have HE2 := Go.Lib.hid e2
                have HE5 := Go.Lib.hid e5
                have HE6 := Go.Lib.hid e6
                clear e1 e2 e4 e5 e6
                go_enter Tryd.func11, Tryd.ntmps11
                go_wp2
                have E := fun o1 o2 => turned_end (w := w) HE6.out HE5.out ((Below.refl base w).setCell (by first | exact g3 | exact hb1) _) (by simpa using HB.out) o1 o2
                refine bodyPost_ret (v := .agg #[.int .i64 y.days, .int .i64 y.veh, .int .i64 y.cap, .int .i64 y.len, .slice A y.custs.length c, .slice (some ⟨g, 0, none⟩) y.dist.length d]) (by simp [results, Tryd.results11, go_sem]) rfl ⟨{ days := y.days, veh := y.veh, cap := y.cap, len := y.len, custs := cs, dist := ds }, d, (by simp only [HE1.out, HE2.out]), (E _ _).1, (E _ _).2⟩
              · have t6 : (turn == 6) = false := beq_eq_false_iff_ne.2 h6
                clear h6
                go_enter Tryd.func11, Tryd.ntmps11
                go_wp2
                have E := fun o1 o2 => turned_end (w := w) HH.out HY.out (Below.refl _ _) HB.out o1 o2
                refine bodyPost_ret (v := .agg #[.int .i64 y.days, .int .i64 y.veh, .int .i64 y.cap, .int .i64 y.len, .slice A y.custs.length c, .slice (some ⟨g, 0, none⟩) y.dist.length d]) (by simp [results, Tryd.results11, go_sem]) rfl ⟨y, d, rfl, (E _ _).1, (E _ _).2⟩
  · have hzI : ((y.custs.length : Int) == 0) = false := beq_eq_false_iff_ne.2 (by omega)
    obtain ⟨b, q, P, k, rfl, hb1, hb2, hfr, hq⟩ := OwnInst.cust0 HH.out HY.out hpos
    obtain ⟨q0, q1, q2, q3, q4, q5, q6, q7⟩ := hq
    have n1 : ¬ b = w.heap.size := by omega
    have n2 : ¬ b = w.heap.size + 1 := by omega
    have hposI : (0 : Int) < (y.custs.length : Int) := by omega
    have hdl := (HH.out.inst HY.out).wf.m
    have hcap : y.dist.length ≤ d := by
      obtain ⟨_, us, h3, _⟩ := HH.out
      obtain ⟨_, k2, e, hk⟩ := own_form h3
      injection e with _ _ e
      omega
    have HCL : Hid ((y.dist.take y.custs.length).length = y.custs.length) := by show _ = _; rw [List.length_take]; omega
    have HC : Hid (OwnInst base w { y with dist := y.dist.take y.custs.length } (some ⟨b, 0, none⟩) c (some ⟨g, 0, none⟩) d) := by
      obtain ⟨hcs, us, h3, h4⟩ := HH.out
      have hul := fit_len h4
      refine Go.Lib.hid ⟨hcs, us.take y.custs.length, ?_, fit_of (by show (y.dist.take y.custs.length).length = _; rw [List.length_take, List.length_take]; omega) fun i h1 h2 => ?_⟩
      · show w.ownsRow base 33 1 (.slice (some ⟨g, 0, none⟩) (y.dist.take y.custs.length).length d) (y.dist.take y.custs.length).length _
        rw [HCL.out]
        refine ⟨by rw [List.length_take]; omega, ?_⟩
        rcases h3.2 with ⟨e, _⟩ | ⟨g', cap, cur, hv, x1, x2, x3, x4, x5, x6⟩
        · simp at e
        · injection hv with e1 _ e2
          injection e1 with e1
          injection e1 with e1
          subst e1
          subst e2
          refine .inr ⟨g, d, cur, rfl, x1, x2, by omega, x4, x5, ?_⟩
          rw [← x6, List.take_take, Nat.min_eq_left (by omega), Nat.mul_one]
      · have hi : i < y.dist.length := by have : (y.dist.take y.custs.length).length = _ := HCL.out; have : i < (y.dist.take y.custs.length).length := h1; omega
        obtain ⟨hu, hr⟩ := h4.at i hi
        show w.ownsRow base 3 1 (us.take y.custs.length)[i] ((y.dist.take y.custs.length)[i]).length (((y.dist.take y.custs.length)[i]).map (Value.int .i64))
        rw [List.getElem_take, List.getElem_take]
        exact hr
    have HCW : Hid ({ y with dist := y.dist.take y.custs.length } : Inst).Wf := Go.Lib.hid ⟨HY.out.days, HY.out.veh, HY.out.cap, HY.out.len, HY.out.custs, fun r hr => HY.out.dist r (List.mem_of_mem_take hr), HY.out.n, by show (y.dist.take y.custs.length).length ≤ _; rw [List.length_take]; omega⟩
    have hcI : (y.custs.length : Int) ≤ (d : Int) := by omega
    by_cases h1 : turn = 1
    · subst h1
      go_enter Tryd.func11, Tryd.ntmps11
      go_wp2
      have E := fun o1 o2 => turned_end (w := w) (y := { y with days := v }) (⟨HH.out.custs, HH.out.dist⟩ : OwnInst base w { y with days := v } (some ⟨b, 0, none⟩) c (some ⟨g, 0, none⟩) d) ⟨HV.out, HY.out.veh, HY.out.cap, HY.out.len, HY.out.custs, HY.out.dist, HY.out.n, HY.out.m⟩ (Below.refl _ _) HB.out o1 o2
      refine bodyPost_ret (v := .agg #[.int .i64 v, .int .i64 y.veh, .int .i64 y.cap, .int .i64 y.len, .slice (some ⟨b, 0, none⟩) y.custs.length c, .slice (some ⟨g, 0, none⟩) y.dist.length d]) (by simp [results, Tryd.results11, go_sem]) rfl ⟨{ y with days := v }, d, rfl, (E _ _).1, (E _ _).2⟩
    · have t1 : (turn == 1) = false := beq_eq_false_iff_ne.2 h1
      clear h1
      by_cases h2 : turn = 2
      · subst h2
        go_enter Tryd.func11, Tryd.ntmps11
        go_wp2
        have E := fun o1 o2 => turned_end (w := w) (y := { y with veh := v }) (⟨HH.out.custs, HH.out.dist⟩ : OwnInst base w { y with veh := v } (some ⟨b, 0, none⟩) c (some ⟨g, 0, none⟩) d) ⟨HY.out.days, HV.out, HY.out.cap, HY.out.len, HY.out.custs, HY.out.dist, HY.out.n, HY.out.m⟩ (Below.refl _ _) HB.out o1 o2
        refine bodyPost_ret (v := .agg #[.int .i64 y.days, .int .i64 v, .int .i64 y.cap, .int .i64 y.len, .slice (some ⟨b, 0, none⟩) y.custs.length c, .slice (some ⟨g, 0, none⟩) y.dist.length d]) (by simp [results, Tryd.results11, go_sem]) rfl ⟨{ y with veh := v }, d, rfl, (E _ _).1, (E _ _).2⟩
      · have t2 : (turn == 2) = false := beq_eq_false_iff_ne.2 h2
        clear h2
        by_cases h3 : turn = 3
        · subst h3
          go_enter Tryd.func11, Tryd.ntmps11
          go_wp2
          have E := fun o1 o2 => turned_end (w := w) (y := { y with cap := v }) (⟨HH.out.custs, HH.out.dist⟩ : OwnInst base w { y with cap := v } (some ⟨b, 0, none⟩) c (some ⟨g, 0, none⟩) d) ⟨HY.out.days, HY.out.veh, HV.out, HY.out.len, HY.out.custs, HY.out.dist, HY.out.n, HY.out.m⟩ (Below.refl _ _) HB.out o1 o2
          refine bodyPost_ret (v := .agg #[.int .i64 y.days, .int .i64 y.veh, .int .i64 v, .int .i64 y.len, .slice (some ⟨b, 0, none⟩) y.custs.length c, .slice (some ⟨g, 0, none⟩) y.dist.length d]) (by simp [results, Tryd.results11, go_sem]) rfl ⟨{ y with cap := v }, d, rfl, (E _ _).1, (E _ _).2⟩
        · have t3 : (turn == 3) = false := beq_eq_false_iff_ne.2 h3
          clear h3
          by_cases h4 : turn = 4
          · subst h4
            go_enter Tryd.func11, Tryd.ntmps11
            go_wp2
            have E := fun o1 o2 => turned_end (w := w) (y := { y with len := v }) (⟨HH.out.custs, HH.out.dist⟩ : OwnInst base w { y with len := v } (some ⟨b, 0, none⟩) c (some ⟨g, 0, none⟩) d) ⟨HY.out.days, HY.out.veh, HY.out.cap, HV.out, HY.out.custs, HY.out.dist, HY.out.n, HY.out.m⟩ (Below.refl _ _) HB.out o1 o2
            refine bodyPost_ret (v := .agg #[.int .i64 y.days, .int .i64 y.veh, .int .i64 y.cap, .int .i64 v, .slice (some ⟨b, 0, none⟩) y.custs.length c, .slice (some ⟨g, 0, none⟩) y.dist.length d]) (by simp [results, Tryd.results11, go_sem]) rfl ⟨{ y with len := v }, d, rfl, (E _ _).1, (E _ _).2⟩
          · have t4 : (turn == 4) = false := beq_eq_false_iff_ne.2 h4
            clear h4
            by_cases h5 : turn = 5
            · subst h5
              obtain ⟨cs, ds, e1, e2, _, e4⟩ := (Shape.store g7 HV.out.wf).inst HH.out HY.out
              obtain ⟨e5, e6⟩ := e4 y.days y.veh y.cap y.len HY.out.days HY.out.veh HY.out.cap HY.out.len
              have HE1 := Go.Lib.hid e1
              have HE2 := Go.Lib.hid e2
              have HE5 := Go.Lib.hid e5
              have HE6 := Go.Lib.hid e6
              clear e1 e2 e4 e5 e6
              go_enter Tryd.func11, Tryd.ntmps11
              go_wp2
              have E := fun o1 o2 => turned_end (w := w) HE6.out HE5.out ((Below.refl base w).setCell (by first | exact g3 | exact hb1) _) (by simpa using HB.out) o1 o2
              refine bodyPost_ret (v := .agg #[.int .i64 y.days, .int .i64 y.veh, .int .i64 y.cap, .int .i64 y.len, .slice (some ⟨b, 0, none⟩) y.custs.length c, .slice (some ⟨g, 0, none⟩) y.dist.length d]) (by simp [results, Tryd.results11, go_sem]) rfl ⟨{ days := y.days, veh := y.veh, cap := y.cap, len := y.len, custs := cs, dist := ds }, d, (by simp only [HE1.out, HE2.out]), (E _ _).1, (E _ _).2⟩
            · have t5 : (turn == 5) = false := beq_eq_false_iff_ne.2 h5
              clear h5
              by_cases h6 : turn = 6
              · subst h6
                obtain ⟨cs, ds, e1, e2, _, e4⟩ := (Shape.store g8 HV.out.wf).inst HH.out HY.out
                obtain ⟨e5, e6⟩ := e4 y.days y.veh y.cap y.len HY.out.days HY.out.veh HY.out.cap HY.out.len
                have HE1 := Go.Lib.hid e1
                have HE2 := Go.Lib.hid e2
                have HE5 := Go.Lib.hid e5
                have HE6 := Go.Lib.hid e6
                clear e1 e2 e4 e5 e6
                go_enter Tryd.func11, Tryd.ntmps11
                go_wp2
                have E := fun o1 o2 => turned_end (w := w) HE6.out HE5.out ((Below.refl base w).setCell (by first | exact g3 | exact hb1) _) (by simpa using HB.out) o1 o2
                refine bodyPost_ret (v := .agg #[.int .i64 y.days, .int .i64 y.veh, .int .i64 y.cap, .int .i64 y.len, .slice (some ⟨b, 0, none⟩) y.custs.length c, .slice (some ⟨g, 0, none⟩) y.dist.length d]) (by simp [results, Tryd.results11, go_sem]) rfl ⟨{ days := y.days, veh := y.veh, cap := y.cap, len := y.len, custs := cs, dist := ds }, d, (by simp only [HE1.out, HE2.out]), (E _ _).1, (E _ _).2⟩
              · have t6 : (turn == 6) = false := beq_eq_false_iff_ne.2 h6
                clear h6
                by_cases h7 : turn = 7
                · subst h7
                  obtain ⟨cs, ds, e1, e2, _, e4⟩ := (Shape.store q1 HV.out.wf).inst HH.out HY.out
                  obtain ⟨e5, e6⟩ := e4 y.days y.veh y.cap y.len HY.out.days HY.out.veh HY.out.cap HY.out.len
                  have HE1 := Go.Lib.hid e1
                  have HE2 := Go.Lib.hid e2
                  have HE5 := Go.Lib.hid e5
                  have HE6 := Go.Lib.hid e6
                  clear e1 e2 e4 e5 e6
                  go_enter Tryd.func11, Tryd.ntmps11
                  go_wp2
                  have E := fun o1 o2 => turned_end (w := w) HE6.out HE5.out ((Below.refl base w).setCell hb1 _) (by simpa using HB.out) o1 o2
                  refine bodyPost_ret (v := .agg #[.int .i64 y.days, .int .i64 y.veh, .int .i64 y.cap, .int .i64 y.len, .slice (some ⟨b, 0, none⟩) y.custs.length c, .slice (some ⟨g, 0, none⟩) y.dist.length d]) (by simp [results, Tryd.results11, go_sem]) rfl ⟨{ days := y.days, veh := y.veh, cap := y.cap, len := y.len, custs := cs, dist := ds }, d, (by simp only [HE1.out, HE2.out]), (E _ _).1, (E _ _).2⟩
                · have t7 : (turn == 7) = false := beq_eq_false_iff_ne.2 h7
                  clear h7
                  by_cases h8 : turn = 8
                  · subst h8
                    obtain ⟨cs, ds, e1, e2, _, e4⟩ := (Shape.store q3 HV.out.wf).inst HH.out HY.out
                    obtain ⟨e5, e6⟩ := e4 y.days y.veh y.cap y.len HY.out.days HY.out.veh HY.out.cap HY.out.len
                    have HE1 := Go.Lib.hid e1
                    have HE2 := Go.Lib.hid e2
                    have HE5 := Go.Lib.hid e5
                    have HE6 := Go.Lib.hid e6
                    clear e1 e2 e4 e5 e6
                    go_enter Tryd.func11, Tryd.ntmps11
                    go_wp2
                    have E := fun o1 o2 => turned_end (w := w) HE6.out HE5.out ((Below.refl base w).setCell hb1 _) (by simpa using HB.out) o1 o2
                    refine bodyPost_ret (v := .agg #[.int .i64 y.days, .int .i64 y.veh, .int .i64 y.cap, .int .i64 y.len, .slice (some ⟨b, 0, none⟩) y.custs.length c, .slice (some ⟨g, 0, none⟩) y.dist.length d]) (by simp [results, Tryd.results11, go_sem]) rfl ⟨{ days := y.days, veh := y.veh, cap := y.cap, len := y.len, custs := cs, dist := ds }, d, (by simp only [HE1.out, HE2.out]), (E _ _).1, (E _ _).2⟩
                  · have t8 : (turn == 8) = false := beq_eq_false_iff_ne.2 h8
                    clear h8
                    by_cases h9 : turn = 9
                    · subst h9
                      obtain ⟨cs, ds, e1, e2, _, e4⟩ := (Shape.store q4 HV.out.wf).inst HH.out HY.out
                      obtain ⟨e5, e6⟩ := e4 y.days y.veh y.cap y.len HY.out.days HY.out.veh HY.out.cap HY.out.len
                      have HE1 := Go.Lib.hid e1
                      have HE2 := Go.Lib.hid e2
                      have HE5 := Go.Lib.hid e5
                      have HE6 := Go.Lib.hid e6
                      clear e1 e2 e4 e5 e6
                      go_enter Tryd.func11, Tryd.ntmps11
                      go_wp2
                      have E := fun o1 o2 => turned_end (w := w) HE6.out HE5.out ((Below.refl base w).setCell hb1 _) (by simpa using HB.out) o1 o2
                      refine bodyPost_ret (v := .agg #[.int .i64 y.days, .int .i64 y.veh, .int .i64 y.cap, .int .i64 y.len, .slice (some ⟨b, 0, none⟩) y.custs.length c, .slice (some ⟨g, 0, none⟩) y.dist.length d]) (by simp [results, Tryd.results11, go_sem]) rfl ⟨{ days := y.days, veh := y.veh, cap := y.cap, len := y.len, custs := cs, dist := ds }, d, (by simp only [HE1.out, HE2.out]), (E _ _).1, (E _ _).2⟩
                    · have t9 : (turn == 9) = false := beq_eq_false_iff_ne.2 h9
                      clear h9
                      by_cases h10 : turn = 10
                      · subst h10
                        obtain ⟨cs, ds, e1, e2, _, e4⟩ := (Shape.store q5 HV.out.wf).inst HH.out HY.out
                        obtain ⟨e5, e6⟩ := e4 y.days y.veh y.cap y.len HY.out.days HY.out.veh HY.out.cap HY.out.len
                        have HE1 := Go.Lib.hid e1
                        have HE2 := Go.Lib.hid e2
                        have HE5 := Go.Lib.hid e5
                        have HE6 := Go.Lib.hid e6
                        clear e1 e2 e4 e5 e6
                        go_enter Tryd.func11, Tryd.ntmps11
                        go_wp2
                        have E := fun o1 o2 => turned_end (w := w) HE6.out HE5.out ((Below.refl base w).setCell hb1 _) (by simpa using HB.out) o1 o2
                        refine bodyPost_ret (v := .agg #[.int .i64 y.days, .int .i64 y.veh, .int .i64 y.cap, .int .i64 y.len, .slice (some ⟨b, 0, none⟩) y.custs.length c, .slice (some ⟨g, 0, none⟩) y.dist.length d]) (by simp [results, Tryd.results11, go_sem]) rfl ⟨{ days := y.days, veh := y.veh, cap := y.cap, len := y.len, custs := cs, dist := ds }, d, (by simp only [HE1.out, HE2.out]), (E _ _).1, (E _ _).2⟩
                      · have t10 : (turn == 10) = false := beq_eq_false_iff_ne.2 h10
                        clear h10
                        by_cases h11 : turn = 11
                        · subst h11
                          obtain ⟨cs, ds, e1, e2, _, e4⟩ := (Shape.store q6 HV.out.wf).inst HH.out HY.out
                          obtain ⟨e5, e6⟩ := e4 y.days y.veh y.cap y.len HY.out.days HY.out.veh HY.out.cap HY.out.len
                          have HE1 := Go.Lib.hid e1
                          have HE2 := Go.Lib.hid e2
                          have HE5 := Go.Lib.hid e5
                          have HE6 := Go.Lib.hid e6
                          clear e1 e2 e4 e5 e6
                          go_enter Tryd.func11, Tryd.ntmps11
                          go_wp2
                          have E := fun o1 o2 => turned_end (w := w) HE6.out HE5.out ((Below.refl base w).setCell hb1 _) (by simpa using HB.out) o1 o2
                          refine bodyPost_ret (v := .agg #[.int .i64 y.days, .int .i64 y.veh, .int .i64 y.cap, .int .i64 y.len, .slice (some ⟨b, 0, none⟩) y.custs.length c, .slice (some ⟨g, 0, none⟩) y.dist.length d]) (by simp [results, Tryd.results11, go_sem]) rfl ⟨{ days := y.days, veh := y.veh, cap := y.cap, len := y.len, custs := cs, dist := ds }, d, (by simp only [HE1.out, HE2.out]), (E _ _).1, (E _ _).2⟩
                        · have t11 : (turn == 11) = false := beq_eq_false_iff_ne.2 h11
                          clear h11
                          by_cases h12 : turn = 12
                          · subst h12
                            obtain ⟨cs, ds, e1, e2, _, e4⟩ := (Shape.store q7 HV.out.wf).inst HH.out HY.out
                            obtain ⟨e5, e6⟩ := e4 y.days y.veh y.cap y.len HY.out.days HY.out.veh HY.out.cap HY.out.len
                            have HE1 := Go.Lib.hid e1
                            have HE2 := Go.Lib.hid e2
                            have HE5 := Go.Lib.hid e5
                            have HE6 := Go.Lib.hid e6
                            clear e1 e2 e4 e5 e6
                            go_enter Tryd.func11, Tryd.ntmps11
                            go_wp2
                            have E := fun o1 o2 => turned_end (w := w) HE6.out HE5.out ((Below.refl base w).setCell hb1 _) (by simpa using HB.out) o1 o2
                            refine bodyPost_ret (v := .agg #[.int .i64 y.days, .int .i64 y.veh, .int .i64 y.cap, .int .i64 y.len, .slice (some ⟨b, 0, none⟩) y.custs.length c, .slice (some ⟨g, 0, none⟩) y.dist.length d]) (by simp [results, Tryd.results11, go_sem]) rfl ⟨{ days := y.days, veh := y.veh, cap := y.cap, len := y.len, custs := cs, dist := ds }, d, (by simp only [HE1.out, HE2.out]), (E _ _).1, (E _ _).2⟩
                          · have t12 : (turn == 12) = false := beq_eq_false_iff_ne.2 h12
                            clear h12
                            by_cases h13 : turn = 13
                            · subst h13
                              obtain ⟨cs, ds, e1, e2, _, e4⟩ := (Shape.store q0 HV.out.wf).inst HH.out HY.out
                              obtain ⟨e5, e6⟩ := e4 y.days y.veh y.cap y.len HY.out.days HY.out.veh HY.out.cap HY.out.len
                              have HE1 := Go.Lib.hid e1
                              have HE2 := Go.Lib.hid e2
                              have HE5 := Go.Lib.hid e5
                              have HE6 := Go.Lib.hid e6
                              clear e1 e2 e4 e5 e6
                              go_enter Tryd.func11, Tryd.ntmps11
                              go_wp2
                              have E := fun o1 o2 => turned_end (w := w) HE6.out HE5.out ((Below.refl base w).setCell hb1 _) (by simpa using HB.out) o1 o2
                              refine bodyPost_ret (v := .agg #[.int .i64 y.days, .int .i64 y.veh, .int .i64 y.cap, .int .i64 y.len, .slice (some ⟨b, 0, none⟩) y.custs.length c, .slice (some ⟨g, 0, none⟩) y.dist.length d]) (by simp [results, Tryd.results11, go_sem]) rfl ⟨{ days := y.days, veh := y.veh, cap := y.cap, len := y.len, custs := cs, dist := ds }, d, (by simp only [HE1.out, HE2.out]), (E _ _).1, (E _ _).2⟩
                            · have t13 : (turn == 13) = false := beq_eq_false_iff_ne.2 h13
                              clear h13
                              by_cases h14 : turn = 14
                              · subst h14
                                go_enter Tryd.func11, Tryd.ntmps11
                                go_wp2
                                have E := fun o1 o2 => turned_end (w := w) HC.out HCW.out (Below.refl _ _) HB.out o1 o2
                                refine bodyPost_ret (v := .agg #[.int .i64 y.days, .int .i64 y.veh, .int .i64 y.cap, .int .i64 y.len, .slice (some ⟨b, 0, none⟩) y.custs.length c, .slice (some ⟨g, 0, none⟩) y.custs.length d]) (by simp [results, Tryd.results11, go_sem]) rfl ⟨{ y with dist := y.dist.take y.custs.length }, d, (by simp only [HCL.out]), (E _ _).1, (E _ _).2⟩
                              · have t14 : (turn == 14) = false := beq_eq_false_iff_ne.2 h14
                                clear h14
                                go_enter Tryd.func11, Tryd.ntmps11
                                go_wp2
                                have E := fun o1 o2 => turned_end (w := w) HH.out HY.out (Below.refl _ _) HB.out o1 o2
                                refine bodyPost_ret (v := .agg #[.int .i64 y.days, .int .i64 y.veh, .int .i64 y.cap, .int .i64 y.len, .slice (some ⟨b, 0, none⟩) y.custs.length c, .slice (some ⟨g, 0, none⟩) y.dist.length d]) (by simp [results, Tryd.results11, go_sem]) rfl ⟨y, d, rfl, (E _ _).1, (E _ _).2⟩
end Go.Proofs.YtmfahjghfpckeaaDoor
