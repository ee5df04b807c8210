import Derived.Test.YtedkhdnfbdojcaaDoorK05
import Derived.Deep.CutRange
import Derived.IntWalk
section
/- A plan cut short, off the document's code: few days, tours and stops, in lists of its own. -/
namespace Go.Proofs.YtedkhdnfbdojcaaDoor
open Go.RowKit
set_option linter.unusedVariables false
set_option maxRecDepth 20000
def cutT (t : TourD) : TourD := t.take 8
def cutD (d : DayD) : DayD := (d.take 6).map cutT
def cutP (p : PlanD) : PlanD := (p.take 8).map cutD
theorem cutP_n (p : PlanD) : (cutP p).length ≤ 8 := by unfold cutP; rw [List.length_map, List.length_take]; omega
theorem cutP_day {p : PlanD} {d : DayD} (h : d ∈ cutP p) : ∃ e ∈ p, d = cutD e := by
  obtain ⟨e, he, rfl⟩ := List.mem_map.1 h
  exact ⟨e, List.mem_of_mem_take he, rfl⟩
theorem cutD_n (d : DayD) : (cutD d).length ≤ 6 := by unfold cutD; rw [List.length_map, List.length_take]; omega
theorem cutD_tour {d : DayD} {t : TourD} (h : t ∈ cutD d) : ∃ e ∈ d, t = cutT e := by
  obtain ⟨e, he, rfl⟩ := List.mem_map.1 h
  exact ⟨e, List.mem_of_mem_take he, rfl⟩
theorem cutT_n (t : TourD) : (cutT t).length ≤ 8 := by unfold cutT; rw [List.length_take]; omega
theorem cutP_wf {p : PlanD} (h : WfP p) : WfP (cutP p) := by
  refine ⟨Nat.le_trans (cutP_n p) (by decide), fun d hd => ?_, fun d hd t ht => ?_, fun d hd t ht s hs => ?_⟩
  · obtain ⟨e, _, rfl⟩ := cutP_day hd
    exact Nat.le_trans (cutD_n e) (by decide)
  · obtain ⟨e, _, rfl⟩ := cutP_day hd
    obtain ⟨f, _, rfl⟩ := cutD_tour ht
    exact Nat.le_trans (cutT_n f) (by decide)
  · obtain ⟨e, he, rfl⟩ := cutP_day hd
    obtain ⟨f, hf, rfl⟩ := cutD_tour ht
    exact h.stop e he f hf s (List.mem_of_mem_take hs)
theorem cut_all {α : Type} {l : List α} {j m : Nat} (h : (¬ j < l.length ∧ j ≤ m) ∨ (j < l.length ∧ (m : Int) ≤ (j : Int) ∧ j ≤ m)) : l.take j = l.take m := by
  rcases h with ⟨h1, h2⟩ | ⟨_, h1, h2⟩
  · rw [List.take_of_length_le (by omega), List.take_of_length_le (by omega)]
  · obtain rfl : j = m := by omega
    rfl
theorem cut_stop {α : Type} {l : List α} {j m : Nat} (hj : j ≤ m) (h : ¬ (j < l.length ∧ j < m)) : (¬ j < l.length ∧ j ≤ m) ∨ (j < l.length ∧ (m : Int) ≤ (j : Int) ∧ j ≤ m) := by
  by_cases h1 : j < l.length
  · exact .inr ⟨h1, by have : ¬ j < m := fun h2 => h ⟨h1, h2⟩; omega, hj⟩
  · exact .inl ⟨h1, hj⟩
/-- Between two days. -/
structure CutAt (w : World) (p : PlanD) (A : Option Addr) (c : Nat) (v : Value) (l : PlanD) (X : World) : Prop where
  box : Boxed X w.heap.size 24 (.slice A p.length c)
  res : Boxed X (w.heap.size + 1) 24 (.slice none 0 0)
  out : Boxed X (w.heap.size + 1 + 1) 24 v
  own : OwnDays (w.heap.size + 1 + 1 + 1) X v l
  low : Below w.heap.size w X
theorem boxed_keep {w w' : World} {g B : Nat} {t : TypeId} {v : Value} (h : Boxed w g t v) (hb : Below B w w') (hg : g < B) : Boxed w' g t v := (hb.block g hg).trans h
theorem CutAt.size {w : World} {p : PlanD} {A : Option Addr} {c : Nat} {v : Value} {l : PlanD} {X : World} (h : CutAt w p A c v l X) : w.heap.size + 1 + 1 + 1 ≤ X.heap.size := h.out.lt
theorem CutAt.keep {w : World} {p : PlanD} {A : Option Addr} {c : Nat} {v : Value} {l : PlanD} {X Y : World} (h : CutAt w p A c v l X) (hb : Below X.heap.size X Y) : CutAt w p A c v l Y :=
  ⟨boxed_keep h.box hb h.box.lt, boxed_keep h.res hb h.res.lt, boxed_keep h.out hb h.out.lt, h.own.keep hb, h.low.trans (hb.mono h.low.size)⟩
/-- The day that has been made goes to the rest. -/
theorem CutAt.push {w : World} {p : PlanD} {A : Option Addr} {c : Nat} {v v' : Value} {l l' : PlanD} {X Y : World} (h : CutAt w p A c v l X) (hb : Below (w.heap.size + 1 + 1 + 1) X Y) (hown : OwnDays (w.heap.size + 1 + 1 + 1) Y v' l') :
    CutAt w p A c v' l' (Y.setCell ⟨w.heap.size + 1 + 1, 0, none⟩ v') :=
  ⟨(boxed_keep h.box hb (by omega)).other (by omega) v', (boxed_keep h.res hb (by omega)).other (by omega) v', (boxed_keep h.out hb (by omega)).set v', hown.far (by show w.heap.size + 1 + 1 < _; omega) v', (h.low.trans (hb.mono (by omega))).setCell (by show w.heap.size ≤ w.heap.size + 1 + 1; omega) v'⟩
theorem CutAt.start (w : World) (p : PlanD) (A : Option Addr) (c : Nat) : CutAt w p A c (.slice none 0 0) [] (((w.alloc (.cells #[.slice A p.length c] 24)).alloc (.cells #[.slice none 0 0] 24)).alloc (.cells #[.slice none 0 0] 24)) := by
  have a1 := Boxed.new (w.alloc (.cells #[.slice A p.length c] 24)) 24 (.slice none 0 0)
  rw [World.size_alloc] at a1
  have a2 := Boxed.new ((w.alloc (.cells #[.slice A p.length c] 24)).alloc (.cells #[.slice none 0 0] 24)) 24 (.slice none 0 0)
  rw [World.size_alloc, World.size_alloc] at a2
  exact ⟨((Boxed.new w _ _).alloc _).alloc _, a1.alloc _, a2, .nil _ _, ((below_alloc w _).alloc (by simp) _).alloc (by simp; omega) _⟩
/-- What Cut hands back. -/
def CutEnd (w : World) (q : PlanD) (e : Ending) (w' : World) : Prop := ∃ v, e = .returned (.agg #[v]) ∧ OwnDays w.heap.size w' v q ∧ Below w.heap.size w w'
set_option maxHeartbeats 8000000 in
theorem Cut_any (p : PlanD) (A : Option Addr) (c : Nat) (w : World) (hw : WfP p) (h : PlanIs w A p) :
    Calls Tryd.prog 4 #[planV p A c] w (CutEnd w (cutP p)) := by
  have hpn := hw.n
  unfold maxLen at hpn
  have HH := Go.Lib.hid h
  have HW := Go.Lib.hid hw
  have H0 := Go.Lib.hid (CutAt.start w p A c)
  unfold planV
  clear h hw
  go_enter Tryd.func4, Tryd.ntmps4
  go_wp2
  go_loopw [4] (fun iv wr => ∃ (j : Nat) (v : Value), j ≤ p.length ∧ j ≤ 8 ∧ iv = .int .i64 j ∧ CutAt w p A c v ((p.take j).map cutD) wr) (fun iv _ => 8 - (intOf iv).toNat)
  case atStart => exact ⟨0, _, Nat.zero_le _, by omega, rfl, H0.out⟩
  case round =>
    clear H0
    obtain ⟨j, v, hj1, hj8, rfl, hM⟩ := hrel
    obtain ⟨ps, hps⟩ : ∃ l, l = (p.take j).map cutD := ⟨_, rfl⟩
    rw [← hps] at hM
    have hjl : ps.length ≤ 8 := by rw [hps, List.length_map, List.length_take]; omega
    have HPS := Go.Lib.hid hps
    clear hps
    have HM := Go.Lib.hid hM
    have bx := hM.box.cell
    by_cases hgo : j < p.length ∧ j < 8
    · obtain ⟨h1, h2⟩ := hgo
      have h2' : (j : Int) < 8 := by omega
      obtain ⟨b, off, rfl, P, k, hc, hd, hk⟩ := HH.out j h1
      have HT : Hid ((p.take (j + 1)).map cutD = ps ++ [cutD p[j]]) := by
        show _ = _
        rw [HPS.out, List.take_succ_eq_append_getElem h1, List.map_append]; rfl
      have hdn := HW.out.day _ (List.getElem_mem h1)
      have HTN := Go.Lib.hid (HW.out.tour _ (List.getElem_mem h1))
      obtain ⟨d, hd'⟩ : ∃ d, d = p[j] := ⟨_, rfl⟩
      rw [← hd'] at hc hd hk HT hdn HTN
      clear hd'
      rw [Nat.mul_one] at hc
      unfold maxLen at hdn
      have HD := Go.Lib.hid hd
      have HC := Go.Lib.hid hc
      have HLJ := hM.low
      have hsz := hM.size
      have dx := cell_keep hc hM.low
      clear hM hd
      obtain ⟨wq, hwq⟩ : ∃ q, q = wr := ⟨_, rfl⟩
      rw [← hwq] at bx HM HLJ hsz dx ⊢
      clear hwq
      have HB0 : Hid (Boxed (wq.alloc (.cells #[.slice none 0 0] 38)) wq.heap.size 38 (.slice none 0 0)) := Boxed.new wq _ _
      have HBq := Go.Lib.hid (below_alloc wq (.cells #[.slice none 0 0] 38))
      go_wp2
      go_loopw [6] (fun kv wk => ∃ (m : Nat) (u : Value), m ≤ d.length ∧ m ≤ 6 ∧ kv = .int .i64 m ∧ Boxed wk wq.heap.size 38 u ∧ OwnTours (wq.heap.size + 1) wk u ((d.take m).map cutT) ∧ Below wq.heap.size wq wk) (fun kv _ => 6 - (intOf kv).toNat)
      case atStart => exact ⟨0, _, Nat.zero_le _, by omega, rfl, HB0.out, .nil _ _, HBq.out⟩
      case round =>
        clear HB0 HBq
        obtain ⟨m, u, hm1, hm6, rfl, hBx, hOw, hLo⟩ := hrel
        have HBX := Go.Lib.hid hBx
        have HOW := Go.Lib.hid hOw
        have HLO := Go.Lib.hid hLo
        obtain ⟨ds, hds⟩ : ∃ l, l = (d.take m).map cutT := ⟨_, rfl⟩
        rw [← hds] at HOW
        have hml : ds.length ≤ 6 := by rw [hds, List.length_map, List.length_take]; omega
        have HDS := Go.Lib.hid hds
        clear hBx hOw hLo hds
        have bx2 := cell_keep bx HLO.out
        have dx2 := cell_keep dx HLO.out
        have gx2 := HBX.out.cell
        have hsz2 := HBX.out.lt
        obtain ⟨we, hwe⟩ : ∃ q, q = wr := ⟨_, rfl⟩
        rw [← hwe] at bx2 dx2 gx2 HBX HOW HLO hsz2 ⊢
        clear hwe
        by_cases hgo2 : m < d.length ∧ m < 6
        · obtain ⟨h3, h4⟩ := hgo2
          have h4' : (m : Int) < 6 := by omega
          obtain ⟨b2, off2, rfl, P2, k2, hc2, ht2, hk2⟩ := HD.out m h3
          have HT2 : Hid ((d.take (m + 1)).map cutT = ds ++ [cutT d[m]]) := by
            show _ = _
            rw [HDS.out, List.take_succ_eq_append_getElem h3, List.map_append]; rfl
          have htn := HTN.out _ (List.getElem_mem h3)
          obtain ⟨t, ht'⟩ : ∃ t, t = d[m] := ⟨_, rfl⟩
          rw [← ht'] at hc2 ht2 hk2 HT2 htn
          clear ht'
          rw [Nat.mul_one] at hc2
          unfold maxLen at htn
          have tx2 := cell_keep (cell_keep hc2 HLJ) HLO.out
          have HT2d := Go.Lib.hid ht2
          clear hc2 ht2
          go_wp2
          go_loopw [7, 8] (fun sv iv wk => ∃ i : Nat, i ≤ t.length ∧ i ≤ 8 ∧ iv = .int .i64 i ∧ OwnStops we.heap.size wk sv (t.take i) ∧ Below we.heap.size we wk) (fun _ iv _ => 8 - (intOf iv).toNat)
          case atStart => exact ⟨0, Nat.zero_le _, by omega, rfl, .nil _ _, Below.refl _ _⟩
          case round =>
            obtain ⟨i, hi1, hi8, rfl, hOs, hLs⟩ := hrel
            have HOS := Go.Lib.hid hOs
            have HLS := Go.Lib.hid hLs
            have bx3 := cell_keep bx2 hLs
            have dx3 := cell_keep dx2 hLs
            have tx3 := cell_keep tx2 hLs
            have hz3 := hLs.size
            have hil : (t.take i).length ≤ 8 := by rw [List.length_take]; omega
            obtain ⟨ts, hts⟩ : ∃ l, l = t.take i := ⟨_, rfl⟩
            rw [← hts] at hil HOS hOs
            have HTS := Go.Lib.hid hts
            obtain ⟨Pv, kv, rfl, _⟩ := OwnStops.len hOs
            clear bx2 dx2 tx2 gx2 hOs hLs bx dx hts
            by_cases hgo3 : i < t.length ∧ i < 8
            · obtain ⟨h5, h6⟩ := hgo3
              have h6' : (i : Int) < 8 := by omega
              obtain ⟨b3, off3, rfl, e0, e1⟩ := HT2d.out i h5
              have HT3 : Hid (t.take (i + 1) = ts ++ [t[i]]) := by show _ = _; rw [HTS.out]; exact List.take_succ_eq_append_getElem h5
              obtain ⟨y, hy⟩ : ∃ y, y = t[i] := ⟨_, rfl⟩
              rw [← hy] at e0 e1 HT3
              clear hy
              have y0 := cell_keep (cell_keep (cell_keep e0 HLJ) HLO.out) HLS.out
              have y1 := cell_keep (cell_keep (cell_keep e1 HLJ) HLO.out) HLS.out
              clear e0 e1
              go_wp2_with (at_builtin; refine wpList_app_stop HOS.out hz3 (by omega) rfl _ _ rfl rfl rfl ?_; intro Px kx w3 hown3 hb3; have HO3 := Go.Lib.hid hown3; have HB3 := Go.Lib.hid hb3; clear hown3 hb3)
              exact ⟨⟨i + 1, by omega, by omega, by go_num, by rw [HT3.out]; exact HO3.out, HLS.out.trans HB3.out⟩, by simp [intOf]; omega⟩
            · have hst := cut_stop hi8 hgo3
              have HAL : Hid (ts = cutT t) := by show _ = _; rw [HTS.out]; exact cut_all hst
              have hgx := boxed_keep HBX.out HLS.out HBX.out.lt
              have gx3 := hgx.cell
              have HTW := Go.Lib.hid (HOW.out.keep HLS.out)
              have HST : Hid (OwnStops (wq.heap.size + 1) wr (.slice Pv ts.length kv) (cutT t)) := by rw [← HAL.out]; exact OwnStops.down HOS.out hsz2
              have hz4 : wq.heap.size + 1 ≤ wr.heap.size := Nat.le_trans hsz2 hz3
              obtain ⟨Pu, ku, rfl, _⟩ := OwnTours.len HTW.out
              have HGX := Go.Lib.hid hgx
              clear hgo3 hgx HAL
              rcases hst with ⟨a1, a2⟩ | ⟨a1, a2, a3⟩
              all_goals
                go_wp2_with (at_builtin; refine wpList_app_tour HTW.out HST.out hz4 (by omega) rfl _ _ rfl rfl rfl ?_; intro Px kx w3 hown3 hb3; have HO3 := Go.Lib.hid hown3; have HB3 := Go.Lib.hid hb3; have hg3 := boxed_keep HGX.out hb3 (Nat.lt_succ_self _); have g3c := hg3.cell; have g3f := hg3.frozen; have HG3 := Go.Lib.hid hg3; clear hown3 hb3 hg3)
                exact ⟨⟨m + 1, _, by omega, by omega, by go_num, HG3.out.set _, by rw [HT2.out]; exact HO3.out.far (Nat.lt_succ_self _) _, ((HLO.out.trans (HLS.out.mono (by omega))).trans (HB3.out.mono (by omega))).setCell (Nat.le_refl _) _⟩, by simp [intOf]; omega⟩
        · have hst := cut_stop hm6 hgo2
          have HAL : Hid (ds = cutD d) := by
            show _ = _
            unfold cutD
            rw [HDS.out, cut_all hst]
          have HMk := Go.Lib.hid (HM.out.keep HLO.out)
          have HTW : Hid (OwnTours (w.heap.size + 1 + 1 + 1) we u (cutD d)) := by rw [← HAL.out]; exact OwnTours.down HOW.out (by omega)
          obtain ⟨Pu, ku, rfl, _⟩ := OwnTours.len HTW.out
          obtain ⟨Pv, kv, rfl, _⟩ := OwnDays.len HMk.out.own
          have ox := HMk.out.out.cell
          have hz4 := HMk.out.size
          clear hgo2 HAL bx dx
          rcases hst with ⟨a1, a2⟩ | ⟨a1, a2, a3⟩
          all_goals
            go_wp2_with (at_builtin; refine wpList_app_day HMk.out.own HTW.out hz4 (by omega) rfl _ _ rfl rfl rfl ?_; intro Px kx w3 hown3 hb3; have HO3 := Go.Lib.hid hown3; have HB3 := Go.Lib.hid hb3; have hg3 := boxed_keep HMk.out.out hb3 (by omega); have g3c := hg3.cell; have g3f := hg3.frozen; clear hown3 hb3 hg3)
            exact ⟨⟨j + 1, _, by omega, by omega, by go_num, by rw [HT.out]; exact HMk.out.push HB3.out HO3.out⟩, by simp [intOf]; omega⟩
    · have hst := cut_stop hj8 hgo
      have HAL : Hid (ps = cutP p) := by
        show _ = _
        unfold cutP
        rw [HPS.out, cut_all hst]
      obtain ⟨Pv, kv, rfl, _⟩ := OwnDays.len hM.own
      have ox := hM.out.cell
      have rx := hM.res.cell
      have rf := hM.res.frozen
      clear hgo hM
      rcases hst with ⟨a1, a2⟩ | ⟨a1, a2, a3⟩
      all_goals
        go_wp2
        have q0 := (HM.out.res.set (.slice Pv ps.length kv)).cell
        refine bodyPost_ret (v := .agg #[.slice Pv ps.length kv]) (by simp [results, Tryd.results4, go_sem, q0]) rfl ⟨_, rfl, ?_, HM.out.low.setCell (by show w.heap.size ≤ w.heap.size + 1; omega) _⟩
        rw [← HAL.out]
        exact (HM.out.own.far (by show w.heap.size + 1 < w.heap.size + 1 + 1 + 1; omega) _).down (by omega)
end Go.Proofs.YtedkhdnfbdojcaaDoor
end
