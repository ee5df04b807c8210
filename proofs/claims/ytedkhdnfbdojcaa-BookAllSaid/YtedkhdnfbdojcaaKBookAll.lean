import Derived.Test.YtedkhdnfbdojcaaK07
import Derived.Test.YtedkhdnfbdojcaaK21
import Derived.Test.YtedkhdnfbdojcaaK20
import Derived.Test.YtedkhdnfbdojcaaK19
section
/- BookAll walked: the visits of all customers are all stops, each once. -/
namespace Go.Proofs.Ytedkhdnfbdojcaa
open Go.RowKit Go.ChangeShapes Go.WideShapes
set_option linter.unusedVariables false
set_option maxRecDepth 20000
/-- A stop of the first customers, and how many there are. -/
def upB (k : Nat) (z : Int) : Bool := decide (0 ≤ z) && decide (z < (k : Int))
theorem upB_iff {k : Nat} {z : Int} : upB k z = true ↔ 0 ≤ z ∧ z < (k : Int) := by unfold upB; simp
def cT (t : TourD) : Nat := t.countP fun s => upB 10 s.1
def cD (d : DayD) : Nat := (d.map cT).sum
def cP (p : PlanD) : Nat := (p.map cD).sum
theorem sum_succ {α : Type} {l : List α} {j : Nat} (f : α → Nat) (h : j < l.length) : ((l.take (j + 1)).map f).sum = ((l.take j).map f).sum + f l[j] := by
  rw [List.take_succ_eq_append_getElem h, List.map_append, List.sum_append]
  simp
theorem sum_le {α : Type} {l : List α} {f : α → Nat} {K : Nat} (h : ∀ a ∈ l, f a ≤ K) : (l.map f).sum ≤ K * l.length := by
  induction l with
  | nil => simp
  | cons a r ih =>
    have h1 := ih fun x hx => h x (List.mem_cons_of_mem _ hx)
    have h2 := h a (by simp)
    rw [List.map_cons, List.sum_cons, List.length_cons, Nat.mul_succ]
    omega
theorem cT_succ {t : TourD} {i : Nat} (h : i < t.length) : cT (t.take (i + 1)) = cT (t.take i) + if upB 10 t[i].1 = true then 1 else 0 := by
  unfold cT
  rw [List.take_succ_eq_append_getElem h, List.countP_append]
  congr 1
  rw [List.countP_singleton]
theorem count_stops (i : Nat) (p : PlanD) : (stopsFrom i p).countP (fun x => upB 10 x.1.1) = cP p := by
  induction p generalizing i with
  | nil => rfl
  | cons d r ih =>
    rw [stopsFrom, List.countP_append, ih]
    unfold cP
    rw [List.map_cons, List.sum_cons]
    congr 1
    unfold stopX cD
    rw [List.countP_flatMap]
    congr 1
    refine List.map_congr_left fun t _ => ?_
    show ((t.map fun s => (s, (i : Int))).countP fun x => upB 10 x.1.1) = _
    rw [List.countP_map]
    rfl
/-- The visits of the first customers together. -/
def visUp (l : List StopX) : Nat → Nat
  | 0 => 0
  | k + 1 => visUp l k + (visitsX (k : Int) l).length
theorem visUp_cons (x : StopX) (r : List StopX) (k : Nat) : visUp (x :: r) k = visUp r k + if upB k x.1.1 = true then 1 else 0 := by
  induction k with
  | zero =>
    rw [if_neg (fun e => by have := upB_iff.1 e; omega)]
    rfl
  | succ k ih =>
    have e : (visitsX (k : Int) (x :: r)).length = (if x.1.1 = (k : Int) then 1 else 0) + (visitsX (k : Int) r).length := by
      show (visit1 (k : Int) x ++ visitsX (k : Int) r).length = _
      rw [List.length_append]
      congr 1
      unfold visit1
      split <;> rfl
    rw [visUp, visUp, ih, e]
    have h : (if upB (k + 1) x.1.1 = true then 1 else 0 : Nat) = (if upB k x.1.1 = true then 1 else 0) + if x.1.1 = (k : Int) then 1 else 0 := by
      have a : upB (k + 1) x.1.1 = true ↔ 0 ≤ x.1.1 ∧ x.1.1 < (k : Int) + 1 := upB_iff
      simp only [a, upB_iff]
      repeat' split
      all_goals omega
    rw [h]
    omega
theorem visUp_nil (k : Nat) : visUp [] k = 0 := by
  induction k with
  | zero => rfl
  | succ k ih => rw [visUp, ih]; rfl
theorem visUp_count (l : List StopX) (k : Nat) : visUp l k = l.countP fun x => upB k x.1.1 := by
  induction l with
  | nil => rw [visUp_nil]; rfl
  | cons x r ih => rw [visUp_cons, ih, List.countP_cons]
theorem visUp_le (l : List StopX) (k : Nat) : visUp l k ≤ l.length := by rw [visUp_count]; exact List.countP_le_length
/-- Stops come day by day. -/
theorem stops_ge (i : Nat) (p : PlanD) : ∀ x ∈ stopsFrom i p, (i : Int) ≤ x.2 := by
  induction p generalizing i with
  | nil => intro x hx; simp [stopsFrom] at hx
  | cons d r ih =>
    intro x hx
    rw [stopsFrom] at hx
    rcases List.mem_append.1 hx with h | h
    · unfold stopX at h
      obtain ⟨t, _, h⟩ := List.mem_flatMap.1 h
      obtain ⟨s, _, rfl⟩ := List.mem_map.1 h
      exact Int.le_refl _
    · have := ih (i + 1) x h
      omega
theorem stops_sorted (i : Nat) (p : PlanD) : (stopsFrom i p).Pairwise fun x y => x.2 ≤ y.2 := by
  induction p generalizing i with
  | nil => exact List.Pairwise.nil
  | cons d r ih =>
    rw [stopsFrom, List.pairwise_append]
    have hX : ∀ x ∈ stopX d i, x.2 = (i : Int) := fun x h => by
      unfold stopX at h
      obtain ⟨t, _, h⟩ := List.mem_flatMap.1 h
      obtain ⟨s, _, rfl⟩ := List.mem_map.1 h
      rfl
    refine ⟨List.pairwise_of_forall_mem_list fun x hx y hy => by rw [hX x hx, hX y hy]; exact Int.le_refl _, ih (i + 1), fun x hx y hy => ?_⟩
    have := stops_ge (i + 1) r y hy
    rw [hX x hx]
    omega
theorem visits_of {c : Int} {l : List StopX} {v : Int × Int} (h : v ∈ visitsX c l) : ∃ x ∈ l, x.2 = v.1 := by
  unfold visitsX at h
  obtain ⟨x, hx, h⟩ := List.mem_flatMap.1 h
  unfold visit1 at h
  split at h
  · simp at h
    exact ⟨x, hx, by rw [h]⟩
  · simp at h
theorem visits_sorted {c : Int} : ∀ {l : List StopX}, (l.Pairwise fun x y => x.2 ≤ y.2) → (visitsX c l).Pairwise fun a b => a.1 ≤ b.1
  | [], _ => List.Pairwise.nil
  | x :: r, h => by
    rw [List.pairwise_cons] at h
    show (visit1 c x ++ visitsX c r).Pairwise _
    rw [List.pairwise_append]
    refine ⟨?_, visits_sorted h.2, fun a ha b hb => ?_⟩
    · unfold visit1
      split
      · exact List.pairwise_singleton _ _
      · exact List.Pairwise.nil
    · obtain ⟨y, hy, e⟩ := visits_of hb
      unfold visit1 at ha
      split at ha
      · simp at ha
        have := h.1 y hy
        rw [ha, ← e]
        exact this
      · simp at ha
theorem visits_up {p : PlanD} {c : Int} {k : Nat} (h : k + 1 < (visitsX c (stopsP p)).length) : (visitsX c (stopsP p))[k].1 ≤ (visitsX c (stopsP p))[k + 1].1 :=
  List.pairwise_iff_getElem.1 (visits_sorted (l := stopsP p) (stops_sorted 0 p)) k (k + 1) (by omega) h (by omega)
theorem stops_few {p : PlanD} (hf : FewB p) : (stopsP p).length ≤ 1000000 := by
  have h : ∀ (i : Nat) (p : PlanD), (∀ d ∈ p, d.length ≤ 100 ∧ ∀ t ∈ d, t.length ≤ 100) → (stopsFrom i p).length ≤ 10000 * p.length := fun i p hd => by
    induction p generalizing i with
    | nil => simp [stopsFrom]
    | cons d r ih =>
      have h1 := ih (i + 1) fun x hx => hd x (List.mem_cons_of_mem _ hx)
      obtain ⟨h2, h3⟩ := hd d (by simp)
      have h4 : (stopX d i).length ≤ 100 * d.length := by
        unfold stopX
        rw [List.length_flatMap]
        exact sum_le fun t ht => by rw [List.length_map]; exact h3 t ht
      rw [stopsFrom, List.length_append, List.length_cons, Nat.mul_succ]
      omega
  have := h 0 p fun d hd => ⟨hf.day d hd, hf.tour d hd⟩
  have h2 := hf.n
  unfold stopsP
  omega
theorem cP_stops (p : PlanD) : visUp (stopsP p) 10 = cP p := by rw [visUp_count]; exact count_stops 0 p
theorem cT_le (t : TourD) : cT t ≤ t.length := List.countP_le_length
theorem cD_le {d : DayD} (h : ∀ t ∈ d, t.length ≤ 100) : cD d ≤ 100 * d.length := sum_le fun t ht => Nat.le_trans (cT_le t) (h t ht)
theorem cP_le {p : PlanD} (hf : FewB p) : cP p ≤ 10000 * p.length := sum_le fun d hd => by
  have h1 := cD_le (hf.tour d hd)
  have h2 := hf.day d hd
  omega
set_option maxHeartbeats 8000000 in
theorem bookAll_law (p : PlanD) (A : Option Addr) (c : Nat) (w : World) (hw : WfP p) (h : PlanIs w A p) :
    Calls Try.prog 4 #[planV p A c] w fun e W' => e = .returned (.bool true) ∧ Below w.heap.size w W' := by
  have CL := fun W => lives8_any W
  have HB0 := Go.Lib.hid (below_alloc w (.cells #[.slice A p.length c] 24))
  have CC := Cut_any p A c _ hw (h.keep HB0.out)
  have HK := Go.Lib.hid (Boxed.new w 24 (.slice A p.length c))
  have HQW := Go.Lib.hid (cutP_wf hw)
  have HQF := Go.Lib.hid (cutP_few p)
  generalize cutP p = q at *
  have hqn := HQF.out.n
  have HSF := Go.Lib.hid (stops_few HQF.out)
  have CV := fun P k c W hI => bookVisits_code q P k c W HQW.out hI HSF.out
  unfold planV at CC CV ⊢
  clear h hw
  go_enter Try.func4, Try.ntmps4
  go_wp2_with (go_at_call 6; refine CC.mono ?_; rintro e w1 ⟨v, rfl, ho, hb1⟩; obtain ⟨P, k, rfl, hk⟩ := OwnDays.len ho; have HX := Go.Lib.hid (CutIn.of HB0.out HK.out (Nat.le_refl _) hb1 ho); have f1 := (box_below HK.out hb1).frozen; have c1 := (box_below HK.out hb1).cell; clear ho hb1)
  generalize w1.setCell ⟨w.heap.size, 0, none⟩ (.slice P q.length k) = W2 at *
  have c2 := HX.out.box.cell
  clear f1 c1 CC HB0 HK
  go_loop [3, 4] (fun nv iv => ∃ j : Nat, j ≤ q.length ∧ iv = .int .i64 j ∧ nv = .int .i64 ((cP (q.take j) : Nat) : Int)) (fun _ iv => q.length - (intOf iv).toNat)
  case atStart => exact ⟨0, Nat.zero_le _, rfl, rfl⟩
  case round =>
    obtain ⟨j, hj, rfl, rfl⟩ := hrel
    by_cases hlt : j < q.length
    · obtain ⟨b, off, rfl, P2, k2, hc, ht, hk2⟩ := HX.out.own.reads j hlt
      rw [Nat.mul_one] at hc
      have HN : Hid (cP (q.take (j + 1)) = cP (q.take j) + cD q[j]) := sum_succ cD hlt
      have hdn := HQF.out.day _ (List.getElem_mem hlt)
      have HTN := Go.Lib.hid (HQF.out.tour _ (List.getElem_mem hlt))
      have hup : cP (q.take j) ≤ 1000000 := by
        have := cP_le (p := q.take j) ⟨by rw [List.length_take]; omega, fun d hd => HQF.out.day d (List.mem_of_mem_take hd), fun d hd => HQF.out.tour d (List.mem_of_mem_take hd)⟩
        rw [List.length_take] at this
        omega
      obtain ⟨d, hd⟩ : ∃ d, d = q[j] := ⟨_, rfl⟩
      rw [← hd] at hc ht hdn HTN HN
      obtain ⟨M, hM⟩ : ∃ M, M = cP (q.take j) := ⟨_, rfl⟩
      rw [← hM] at HN hup ⊢
      have HT := Go.Lib.hid ht
      clear hd hM ht
      go_wp2
      go_loop [3, 5] (fun nv kv => ∃ m : Nat, m ≤ d.length ∧ kv = .int .i64 m ∧ nv = .int .i64 ((M + cD (d.take m) : Nat) : Int)) (fun _ kv => d.length - (intOf kv).toNat)
      case atStart => exact ⟨0, Nat.zero_le _, rfl, rfl⟩
      case round =>
        obtain ⟨m, hm, rfl, rfl⟩ := hrel
        by_cases hlt2 : m < d.length
        · obtain ⟨b2, off2, rfl, P3, k3, hc2, ht2, hk3⟩ := HT.out m hlt2
          rw [Nat.mul_one] at hc2
          have HN2 : Hid (M + cD (d.take (m + 1)) = M + cD (d.take m) + cT d[m]) := by show _ = _; rw [show cD (d.take (m + 1)) = cD (d.take m) + cT d[m] from sum_succ cT hlt2]; omega
          have htn := HTN.out _ (List.getElem_mem hlt2)
          have hup2 : M + cD (d.take m) ≤ 1010000 := by
            have := cD_le (d := d.take m) fun t ht => HTN.out t (List.mem_of_mem_take ht)
            rw [List.length_take] at this
            omega
          obtain ⟨t, ht⟩ : ∃ t, t = d[m] := ⟨_, rfl⟩
          rw [← ht] at hc2 ht2 htn HN2
          obtain ⟨N, hN⟩ : ∃ N, N = M + cD (d.take m) := ⟨_, rfl⟩
          rw [← hN] at HN2 hup2 ⊢
          have HT2 := Go.Lib.hid ht2
          clear ht hN ht2
          go_wp2
          go_loop [3, 7] (fun nv kv => ∃ i : Nat, i ≤ t.length ∧ kv = .int .i64 i ∧ nv = .int .i64 ((N + cT (t.take i) : Nat) : Int)) (fun _ kv => t.length - (intOf kv).toNat)
          case atStart => exact ⟨0, Nat.zero_le _, rfl, rfl⟩
          case round =>
            obtain ⟨i, hi, rfl, rfl⟩ := hrel
            by_cases hlt3 : i < t.length
            · obtain ⟨b3, off3, rfl, c3, c4⟩ := HT2.out i hlt3
              have hnn := cT_succ hlt3
              have hup3 : N + cT (t.take i) ≤ 1010100 := by
                have := cT_le (t.take i)
                rw [List.length_take] at this
                omega
              obtain ⟨⟨y1, y2⟩, hy⟩ : ∃ y, y = t[i] := ⟨_, rfl⟩
              rw [← hy] at c3 c4 hnn
              obtain ⟨K, hK⟩ : ∃ K, K = N + cT (t.take i) := ⟨_, rfl⟩
              rw [← hK] at hup3 ⊢
              have hnn3 : cT (t.take (i + 1)) = cT (t.take i) + if upB 10 y1 = true then 1 else 0 := hnn
              have hnn2 : N + cT (t.take (i + 1)) = K + if upB 10 y1 = true then 1 else 0 := by rw [hnn3, hK]; omega
              have HNN := Go.Lib.hid hnn2
              clear hnn hnn2 hnn3 hy hK c4
              by_cases h1 : 0 ≤ y1
              · by_cases h2 : y1 < 10
                · have hu : Hid (N + cT (t.take (i + 1)) = K + 1) := by show _ = _; rw [HNN.out, if_pos (upB_iff.2 ⟨h1, by omega⟩)]
                  go_wp2
                  go_round
                  case rel => exact ⟨i + 1, by omega, by go_num, by rw [hu.out]; go_num⟩
                  case measure => simp [intOf]; omega
                · have hu : Hid (N + cT (t.take (i + 1)) = K) := by show _ = _; rw [HNN.out, if_neg (fun e => by have := upB_iff.1 e; omega)]; rfl
                  have h3 : (10 : Int) ≤ y1 := by omega
                  go_wp2
                  go_round
                  case rel => exact ⟨i + 1, by omega, by go_num, by rw [hu.out]⟩
                  case measure => simp [intOf]; omega
              · have hu : Hid (N + cT (t.take (i + 1)) = K) := by show _ = _; rw [HNN.out, if_neg (fun e => by have := upB_iff.1 e; omega)]; rfl
                have h3 : y1 < 0 := by omega
                go_wp2
                go_round
                case rel => exact ⟨i + 1, by omega, by go_num, by rw [hu.out]⟩
                case measure => simp [intOf]; omega
            · obtain rfl : i = t.length := by omega
              rw [List.take_length]
              go_wp2
              go_round
              case rel => exact ⟨m + 1, by omega, by go_num, by rw [HN2.out]⟩
              case measure => simp [intOf]; omega
        · obtain rfl : m = d.length := by omega
          rw [List.take_length]
          go_wp2
          go_round
          case rel => exact ⟨j + 1, by omega, by go_num, by rw [HN.out]⟩
          case measure => simp [intOf]; omega
    · obtain rfl : j = q.length := by omega
      rw [List.take_length]
      have HCP := Go.Lib.hid (cP_stops q)
      have hup : cP q ≤ 1000000 := by
        have := cP_le HQF.out
        omega
      obtain ⟨T, hT⟩ : ∃ T, T = cP q := ⟨_, rfl⟩
      rw [← hT] at HCP hup ⊢
      clear hT
      go_wp2
      go_loopw [8, 9] (fun sv cv wr => ∃ k2 : Nat, k2 ≤ 10 ∧ cv = .int .i64 k2 ∧ sv = .int .i64 ((visUp (stopsP q) k2 : Nat) : Int) ∧ CutIn w w.heap.size (w.alloc (.cells #[.slice A p.length c] 24)).heap.size q P k wr) (fun _ cv _ => 10 - (intOf cv).toNat)
      case atStart => exact ⟨0, by omega, rfl, rfl, HX.out⟩
      case round =>
        obtain ⟨k2, hk2, rfl, rfl, hX⟩ := hrel
        have HXr := Go.Lib.hid hX
        clear hX
        by_cases hlt2 : k2 < 10
        · have hk10 : (k2 : Int) < 10 := by omega
          have d2 := HXr.out.box.cell
          have HS : Hid (visUp (stopsP q) (k2 + 1) = visUp (stopsP q) k2 + (visitsX (k2 : Int) (stopsP q)).length) := rfl
          have HSO := Go.Lib.hid (fun i hi => visits_up (p := q) (c := (k2 : Int)) (k := i) hi)
          have hvl : (visitsX (k2 : Int) (stopsP q)).length ≤ 1000000 := Nat.le_trans (visitsX_le _ _) HSF.out
          have hul : visUp (stopsP q) k2 ≤ 1000000 := Nat.le_trans (visUp_le _ _) HSF.out
          have CV2 := CV P k (k2 : Int)
          obtain ⟨l, hl⟩ : ∃ l, l = visitsX (k2 : Int) (stopsP q) := ⟨_, rfl⟩
          rw [← hl] at HS hvl
          have HSO2 : Hid (∀ i (hi : i + 1 < l.length), l[i].1 ≤ l[i + 1].1) := by subst hl; exact HSO.out
          simp only [← hl] at CV2
          obtain ⟨U, hU⟩ : ∃ U, U = visUp (stopsP q) k2 := ⟨_, rfl⟩
          rw [← hU] at HS hul ⊢
          clear HSO hl hU
          go_wp2_with (go_at_call 11; refine (CV2 _ HXr.out.own.reads).mono ?_; rintro e w5 ⟨v, rfl, ho5, hb5⟩; obtain ⟨P5, k5, rfl, _⟩ := OwnVisits.len ho5; have HR5 := Go.Lib.hid (OwnVisits.reads ho5); have HX5 := Go.Lib.hid (HXr.out.keep hb5); clear ho5 hb5)
          go_loopw [11] (fun iv wk => ∃ i : Nat, (i + 1 ≤ l.length ∨ i = 0) ∧ iv = .int .i64 ((i : Int) + 1) ∧ Below w5.heap.size w5 wk) (fun iv _ => l.length + 1 - (intOf iv).toNat)
          case atStart => exact ⟨0, .inr rfl, rfl, Below.refl _ _⟩
          case round =>
            obtain ⟨i, hi, rfl, hLo⟩ := hrel
            have HLo := Go.Lib.hid hLo
            clear hLo
            by_cases hlt3 : i + 1 < l.length
            · have hg : (i : Int) + 1 < (l.length : Int) := by omega
              obtain ⟨b, off, rfl, a0, _⟩ := HR5.out i (by omega)
              obtain ⟨b', off', e, a1, _⟩ := HR5.out (i + 1) hlt3
              injection e with e
              injection e with e1 e2
              subst e1; subst e2
              have v0 := cell_keep a0 HLo.out
              have v1 := cell_keep a1 HLo.out
              have hle := HSO2.out i hlt3
              obtain ⟨x0, hx0⟩ : ∃ x, x = l[i].1 := ⟨_, rfl⟩
              obtain ⟨x1, hx1⟩ : ∃ x, x = l[i + 1].1 := ⟨_, rfl⟩
              rw [← hx0] at v0 hle
              rw [← hx1] at v1 hle
              clear a0 a1 hx0 hx1 hi
              go_wp2_with fail
              go_region
              all_goals
                go_wp2
                exact ⟨⟨i + 1, .inl (by omega), by go_num, HLo.out.drew⟩, by simp [intOf]; omega⟩
            · have hg : (l.length : Int) ≤ (i : Int) + 1 := by omega
              go_wp2
              exact ⟨⟨k2 + 1, by omega, by go_num, by rw [HS.out]; go_num, HX5.out.keep HLo.out⟩, by simp [intOf]; omega⟩
        · obtain rfl : k2 = 10 := by omega
          have HXe := HXr.out.low
          rw [HCP.out]
          go_wp2_with (go_at_call 10; refine (CL _).mono ?_; rintro e w3 ⟨rfl, hb3⟩; have HB3 := Go.Lib.hid (HXe.trans (hb3.mono HXe.size)); clear hb3)
          go_ret
          exact ⟨rfl, HB3.out⟩
section
variable {H : Type} {enc : TypeId × Value → H} {base : Nat}
theorem bookAll_frame (W : World) {v0 : Value} {d0 : DataW H} {p0 : List MemPlace} (k0 : DataW.Trod enc Try.prog W 0 (fun _ => true) true 24 v0 d0 p0) (o0 : Value.okWide Try.prog W .any base 24 v0) :
    Calls Try.prog 4 #[v0] W fun e w' => e = .returned (.bool true) ∧ Below W.heap.size W w' := by
  obtain ⟨q, A, c, rfl, hI, hw, _⟩ := plan_open k0 o0
  exact bookAll_law q A c W hw hI
end
end Go.Proofs.Ytedkhdnfbdojcaa
end
