import Derived.Test.YtedkhdnfbdojcaaDoorK06
import Derived.Test.YtedkhdnfbdojcaaDoorK09
section
/- Whether a plan may be told, off the code's may: a loop over its stops that may end early. -/
namespace Go.Proofs.YtedkhdnfbdojcaaDoor
open Go.RowKit Go.Shelf
set_option linter.unusedVariables false
attribute [local go_sem] Oper.semAt_some
theorem tell_any (z : Int) (b : Bool) (hb : (decide (0 ≤ z) && decide (z ≤ 1000000000000000000)) = b) (w : World) :
    Calls Tryd.prog 22 #[.int .i64 z] w fun e w' => e = .returned (.bool b) ∧ w' = w := by
  by_cases h1 : 0 ≤ z
  · by_cases h2 : z ≤ 1000000000000000000
    · rw [decide_eq_true h1, decide_eq_true h2] at hb
      subst hb
      go_enter Tryd.func22, Tryd.ntmps22
      go_wp2
      go_ret
      exact ⟨rfl, rfl⟩
    · rw [decide_eq_true h1, decide_eq_false h2] at hb
      subst hb
      have h3 : 1000000000000000000 < z := by omega
      go_enter Tryd.func22, Tryd.ntmps22
      go_wp2
      go_ret
      exact ⟨rfl, rfl⟩
  · rw [decide_eq_false h1] at hb
    subst hb
    have h3 : z < 0 := by omega
    go_enter Tryd.func22, Tryd.ntmps22
    go_wp2
    go_ret
    exact ⟨rfl, rfl⟩
def tellB (z : Int) : Bool := decide (0 ≤ z) && decide (z ≤ 1000000000000000000)
theorem okS_tell (s : StopD) : okS s = (tellB s.1 && tellB s.2) := by
  unfold okS tellB
  cases decide (0 ≤ s.1) <;> cases decide (0 ≤ s.2) <;> simp
/-- Between two rounds: all so far may be told. -/
structure MayI (w : World) (B : Nat) (pre : List StopX) (W : World) : Prop where
  res : Boxed W (w.heap.size + 1) 4 (.bool false)
  good : ∀ x ∈ pre, okS x.1 = true
  only : Only [] w W
  siz : B ≤ W.heap.size
/-- One may not. -/
structure MayX (w : World) (c : Code) (pre : List StopX) (W : World) : Prop where
  ret : c = .ret
  res : Boxed W (w.heap.size + 1) 4 (.bool false)
  bad : ∃ x ∈ pre, okS x.1 = false
  only : Only [] w W
theorem MayI.stays {w : World} {B B' : Nat} (hB : w.heap.size ≤ B') : Stays [] B' (MayI w B) := fun pre A A' h hr =>
  ⟨box_rest h.res hr (by simp), h.good, h.only.rest hr (by simp) hB, Nat.le_trans h.siz hr.size⟩
theorem MayX.stays {w : World} {B' : Nat} (hB : w.heap.size ≤ B') (c : Code) : Stays [] B' (MayX w c) := fun pre A A' h hr =>
  ⟨h.ret, box_rest h.res hr (by simp), h.bad, h.only.rest hr (by simp) hB⟩
theorem MayI.below {w : World} {B : Nat} {pre : List StopX} {W W' : World} (h : MayI w B pre W) (hb : Below W.heap.size W W') : MayI w B pre W' :=
  ⟨box_below h.res hb, h.good, h.only.below hb, Nat.le_trans h.siz hb.size⟩
theorem MayI.more {w : World} {B : Nat} {pre : List StopX} {W : World} {x : StopX} (h : MayI w B pre W) (hx : okS x.1 = true) : MayI w B (pre ++ [x]) W :=
  ⟨h.res, fun y hy => (List.mem_append.1 hy).elim (h.good y) (fun e => by simp at e; subst e; exact hx), h.only, h.siz⟩
theorem only_to {w W : World} {p : Addr} (h : Only [] w W) (hp : w.heap.size ≤ p.block) (v : Value) : Only [] w (W.setCell p v) :=
  h.trans ((Only.refl [p.block] W).setCell (p := p) (by simp) v) fun x hx => .inr (by simp at hx; subst hx; exact hp)
theorem MayI.bad {w : World} {B : Nat} {pre : List StopX} {W : World} {x : StopX} (h : MayI w B pre W) (hx : okS x.1 = false) :
    KeepsOthers W (W.setCell ⟨w.heap.size + 1, 0, none⟩ (.bool false)) ∧ MayX w .ret (pre ++ [x]) (W.setCell ⟨w.heap.size + 1, 0, none⟩ (.bool false)) :=
  ⟨KeepsOthers.setCell _ _ _, rfl, h.res.set _, ⟨x, by simp, hx⟩, only_to h.only (by simp) _⟩
set_option maxRecDepth 100000 in
set_option maxHeartbeats 8000000 in
theorem bookMay_code (p : PlanD) (A : Option Addr) (c : Nat) (w : World) (hw : WfP p) (h : PlanIs w A p) :
    Calls Tryd.prog 10 #[planV p A c] w fun e w' => e = .returned (.bool (okPl p)) ∧ Below w.heap.size w w' := by
  have CM := fun W => stops_make p A c W
  obtain ⟨w3, hw3⟩ : ∃ w3, w3 = ((w.alloc (.cells #[.slice A p.length c] 24)).alloc (.cells #[.bool false] 4)).alloc (.cells #[.slice A p.length c] 24) := ⟨_, rfl⟩
  have hb3 : Below w.heap.size w w3 := by rw [hw3]; exact below3 w _ _ _
  have hsz : w3.heap.size = w.heap.size + 1 + 1 + 1 := by rw [hw3]; simp
  have bR : Boxed w3 (w.heap.size + 1) 4 (.bool false) := by
    have a1 := Boxed.new (w.alloc (.cells #[.slice A p.length c] 24)) 4 (.bool false)
    rw [World.size_alloc] at a1
    rw [hw3]; exact a1.alloc _
  have bP : Boxed w3 (w.heap.size + 1 + 1) 24 (.slice A p.length c) := by
    have a2 := Boxed.new ((w.alloc (.cells #[.slice A p.length c] 24)).alloc (.cells #[.bool false] 4)) 24 (.slice A p.length c)
    rw [World.size_alloc, World.size_alloc] at a2
    rw [hw3]; exact a2
  have hseq := stops_seq 8 (by omega) (w.heap.size + 1 + 1) p A c w hw h
  have eg : ∀ args w, (callFunc 35 args).run Tryd.prog w = .ok (.enter 35 args) w := enters_of Tryd.func35 (by kernel_rfl) rfl
  have hI0 : MayI w w.heap.size [] w3 := ⟨bR, fun x hx => by simp at hx, Only.of_below hb3, hb3.size⟩
  unfold planV at CM ⊢
  clear h hw
  refine (callsIn_wide (n := 9)).1 ?_
  refine callsIn_of_wp_marks Tryd.func10 rfl trivial ?_ rfl
  simp only [Tryd.ntmps10, List.size_toArray, List.length_cons, List.length_nil, Nat.reduceAdd, Nat.reduceSub, Array.replicate_succ, Array.replicate_zero, List.push_toArray, List.append_toArray, List.nil_append, List.cons_append]
  gi_wp2_with (refine ⟨trivial, ?_⟩; gi_at_call 21; refine (callsIn_wide.2 (CM _)).mono ?_; rintro e w' ⟨rfl, rfl⟩)
  rw [← hw3]
  have hle : w.heap.size ≤ w3.heap.size := by omega
  clear CM bR hw3
  refine range_k rfl (by omega) (gf := 35) (lb := #[.pointer (some ⟨w.heap.size + 1 + 1, 0, none⟩)]) (by rfl) trivial eg hseq hb3 hle (by simp) (fun _ => rfl) (fun W hr => (box_rest bP hr (by simp)).cell)
    (MayI w w.heap.size) (MayX w) (MayI.stays hle) (MayX.stays hle) hI0
    (fun x a' W => ∃ g, a' = { tmps := #[.agg #[.slice A p.length c], .pointer (some ⟨w.heap.size, 0, none⟩), .pointer (some ⟨w.heap.size + 1, 0, none⟩), .pointer (some ⟨g, 0, none⟩), .agg #[.slice A p.length c], .func (.func 35) #[] #[.pointer (some ⟨w.heap.size + 1 + 1, 0, none⟩)], stopV x, undef, undef, undef, undef, undef, undef, undef, undef, undef, undef, undef, undef], defers := [] } ∧ BlkIs W g 70 #[.int .i64 x.1.1, .int .i64 x.1.2, .int .i64 x.2])
    (fun x a' _ A A' ⟨g, e, hg⟩ hr => ⟨g, e, hr.cells hg (by simp)⟩) ?assign ?body ?done ?stop
  case assign =>
    intro l pre x W K hpre hI hK
    have HK := Go.Lib.hid (fun g h => hK _ (W.alloc (.cells #[.int .i64 x.1.1, .int .i64 x.1.2, .int .i64 x.2] 70)) ((keeps_below (below_alloc W _)).from _) ((below_alloc W _).mono hI.siz) (hI.below (below_alloc W _)) ⟨g, rfl, h⟩)
    clear hK
    unfold stopV
    gi_wp2
    exact HK.out _ (BlkIs.fresh W _ _)
  case body =>
    rintro l pre x a' W hl hr hpre hI ⟨g, rfl, hg⟩
    obtain ⟨⟨a, b⟩, d⟩ := x
    have c0 : W.cell? ⟨g, 0, none⟩ = some (.int .i64 a) := hg.cellAt 0
    have c1 : W.cell? ⟨g, 1, none⟩ = some (.int .i64 b) := hg.cellAt 1
    have f2 := hI.res.frozen
    have r2 := hI.res.cell
    have HI := Go.Lib.hid hI
    have TA := fun v hv W => tell_any a v hv W
    have TB := fun v hv W => tell_any b v hv W
    have HO : okS (a, b) = (tellB a && tellB b) := okS_tell (a, b)
    have HOK := Go.Lib.hid HO
    clear hseq hg hI hI0 hpre hr HO
    cases ha : tellB a
    · have TA1 := TA _ ha
      have HX : Hid (okS (a, b) = false) := by show _ = _; rw [HOK.out, ha]; rfl
      clear TA TB ha
      gi_wp2_with (first | (refine ⟨trivial, ?_⟩; gi_at_call 22; (refine (CallsIn.inRound l (callsIn_wide.2 (TA1 _))).mono ?_); rintro e w1 ⟨rfl, rfl⟩) | refine ⟨trivial, ?_⟩)
      obtain ⟨k1, k2⟩ := HI.out.bad (x := ((a, b), d)) HX.out
      exact ⟨k1.from _, k2⟩
    · cases hb : tellB b
      · have TA1 := TA _ ha
        have TB1 := TB _ hb
        have HX : Hid (okS (a, b) = false) := by show _ = _; rw [HOK.out, ha, hb]; rfl
        clear TA TB ha hb
        gi_wp2_with (first | (refine ⟨trivial, ?_⟩; gi_at_call 22; (refine (CallsIn.inRound l (callsIn_wide.2 (TA1 _))).mono ?_); rintro e w1 ⟨rfl, rfl⟩) | (refine ⟨trivial, ?_⟩; gi_at_call 22; (refine (CallsIn.inRound l (callsIn_wide.2 (TB1 _))).mono ?_); rintro e w1 ⟨rfl, rfl⟩))
        obtain ⟨k1, k2⟩ := HI.out.bad (x := ((a, b), d)) HX.out
        exact ⟨k1.from _, k2⟩
      · have TA1 := TA _ ha
        have TB1 := TB _ hb
        have HX : Hid (okS (a, b) = true) := by show _ = _; rw [HOK.out, ha, hb]; rfl
        clear TA TB ha hb
        gi_wp2_with (first | (refine ⟨trivial, ?_⟩; gi_at_call 22; (refine (CallsIn.inRound l (callsIn_wide.2 (TA1 _))).mono ?_); rintro e w1 ⟨rfl, rfl⟩) | (refine ⟨trivial, ?_⟩; gi_at_call 22; (refine (CallsIn.inRound l (callsIn_wide.2 (TB1 _))).mono ?_); rintro e w1 ⟨rfl, rfl⟩))
        exact ⟨KeepsFrom.refl _ _, Below.refl _ _, HI.out.more (x := ((a, b), d)) HX.out⟩
  case done =>
    rintro D W hD hI hK
    have hall : okPl p = true := by
      have := okPl_stops p okS
      unfold okPl okD okT
      rw [← this]
      exact List.all_eq_true.2 hI.good
    have hf1 := hI.res.frozen
    have hc1 := hI.res.cell
    have q1 := hI.res.set (.bool true)
    have on := only_to hI.only (p := ⟨w.heap.size + 1, 0, none⟩) (by simp) (.bool true)
    have hK' := (KeepsOthers.setCell W ⟨w.heap.size + 1, 0, none⟩ (.bool true)).same D _ hK rfl
    clear hseq hI0
    gi_wp2
    generalize (W.setCell ⟨w.heap.size + 1, 0, none⟩ (.bool true)) = W2 at q1 on hK' ⊢
    have hr := Rest.putObj (Cs := []) (B := w.heap.size) (.deferred none) (by omega) hK' rfl
    refine ⟨by simp, .inl ⟨_, _, rfl, run_takeDeferred hK', ?_⟩⟩
    have d1 := (box_rest q1 hr (by simp)).cell
    refine ⟨.bool true, ?_, by rw [hall], (on.rest hr (by simp) (Nat.le_refl _)).to_below (Nat.le_refl _) (by simp)⟩
    simp [results, Tryd.f10, go_sem, d1]
  case stop =>
    rintro D c pre W hD hpre hX hK
    obtain rfl := hX.ret
    have hall : okPl p = false := by
      have := okPl_stops p okS
      unfold okPl okD okT
      rw [← this]
      obtain ⟨x, hx, hxo⟩ := hX.bad
      obtain ⟨t, ht⟩ := hpre
      exact List.all_eq_false.2 ⟨x, by rw [← ht]; exact List.mem_append_left _ hx, by rw [hxo]; decide⟩
    clear hseq hI0
    gi_wp2
    have hr := Rest.putObj (Cs := []) (B := w.heap.size) (.deferred none) (by omega) hK rfl
    refine ⟨by simp, .inl ⟨_, _, rfl, run_takeDeferred hK, ?_⟩⟩
    have d1 := (box_rest hX.res hr (by simp)).cell
    refine ⟨.bool false, ?_, by rw [hall], (hX.only.rest hr (by simp) (Nat.le_refl _)).to_below (Nat.le_refl _) (by simp)⟩
    simp [results, Tryd.f10, go_sem, d1]
end Go.Proofs.YtedkhdnfbdojcaaDoor
end
