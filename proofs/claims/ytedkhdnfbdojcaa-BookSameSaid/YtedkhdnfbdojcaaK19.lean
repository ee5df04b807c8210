import Derived.Test.YtedkhdnfbdojcaaK08
import Derived.Test.YtedkhdnfbdojcaaK18
section
/- Whether a plan may be told, off the code's may: a loop over its stops that may end early. -/
namespace Go.Proofs.Ytedkhdnfbdojcaa
open Go.RowKit Go.Shelf
set_option linter.unusedVariables false
attribute [local go_sem] Oper.semAt_some
theorem tell_any (z : Int) (b : Bool) (hb : (decide (0 ≤ z) && decide (z ≤ 1000000000000000000)) = b) (w : World) :
    Calls Try.prog 29 #[.int .i64 z] w fun e w' => e = .returned (.bool b) ∧ w' = w := by
  by_cases h1 : 0 ≤ z
  · by_cases h2 : z ≤ 1000000000000000000
    · rw [decide_eq_true h1, decide_eq_true h2] at hb
      subst hb
      go_enter Try.func29, Try.ntmps29
      go_wp2
      go_ret
      exact ⟨rfl, rfl⟩
    · rw [decide_eq_true h1, decide_eq_false h2] at hb
      subst hb
      have h3 : 1000000000000000000 < z := by omega
      go_enter Try.func29, Try.ntmps29
      go_wp2
      go_ret
      exact ⟨rfl, rfl⟩
  · rw [decide_eq_false h1] at hb
    subst hb
    have h3 : z < 0 := by omega
    go_enter Try.func29, Try.ntmps29
    go_wp2
    go_ret
    exact ⟨rfl, rfl⟩
def tellB (z : Int) : Bool := decide (0 ≤ z) && decide (z ≤ 1000000000000000000)
theorem okS_tell (s : StopD) : okS s = (tellB s.1 && tellB s.2) := by
  unfold okS tellB
  cases decide (0 ≤ s.1) <;> cases decide (0 ≤ s.2) <;> simp
/-- Between two rounds: all so far may be told. -/
structure MayI (w : World) (B : Nat) (pre : List StopX) (W : World) : Prop where
  res : Boxed W (w.heap.size + 1) 4 (.bool false)
  good : ∀ x ∈ pre, okS x.1 = true
  only : Only [] w W
  siz : B ≤ W.heap.size
/-- One may not. -/
structure MayX (w : World) (c : Code) (pre : List StopX) (W : World) : Prop where
  ret : c = .ret
  res : Boxed W (w.heap.size + 1) 4 (.bool false)
  bad : ∃ x ∈ pre, okS x.1 = false
  only : Only [] w W
theorem MayI.stays {w : World} {B B' : Nat} (hB : w.heap.size ≤ B') : Stays [] B' (MayI w B) := fun pre A A' h hr =>
  ⟨box_rest h.res hr (by simp), h.good, h.only.rest hr (by simp) hB, Nat.le_trans h.siz hr.size⟩
theorem MayX.stays {w : World} {B' : Nat} (hB : w.heap.size ≤ B') (c : Code) : Stays [] B' (MayX w c) := fun pre A A' h hr =>
  ⟨h.ret, box_rest h.res hr (by simp), h.bad, h.only.rest hr (by simp) hB⟩
theorem MayI.below {w : World} {B : Nat} {pre : List StopX} {W W' : World} (h : MayI w B pre W) (hb : Below W.heap.size W W') : MayI w B pre W' :=
  ⟨box_below h.res hb, h.good, h.only.below hb, Nat.le_trans h.siz hb.size⟩
theorem MayI.more {w : World} {B : Nat} {pre : List StopX} {W : World} {x : StopX} (h : MayI w B pre W) (hx : okS x.1 = true) : MayI w B (pre ++ [x]) W :=
  ⟨h.res, fun y hy => (List.mem_append.1 hy).elim (h.good y) (fun e => by simp at e; subst e; exact hx), h.only, h.siz⟩
theorem only_to {w W : World} {p : Addr} (h : Only [] w W) (hp : w.heap.size ≤ p.block) (v : Value) : Only [] w (W.setCell p v) :=
  h.trans ((Only.refl [p.block] W).setCell (p := p) (by simp) v) fun x hx => .inr (by simp at hx; subst hx; exact hp)
theorem MayI.bad {w : World} {B : Nat} {pre : List StopX} {W : World} {x : StopX} (h : MayI w B pre W) (hx : okS x.1 = false) :
    KeepsOthers W (W.setCell ⟨w.heap.size + 1, 0, none⟩ (.bool false)) ∧ MayX w .ret (pre ++ [x]) (W.setCell ⟨w.heap.size + 1, 0, none⟩ (.bool false)) :=
  ⟨KeepsOthers.setCell _ _ _, rfl, h.res.set _, ⟨x, by simp, hx⟩, only_to h.only (by simp) _⟩
set_option maxRecDepth 100000 in
set_option maxHeartbeats 8000000 in
theorem bookMay_code (p : PlanD) (A : Option Addr) (c : Nat) (w : World) (hw : WfP p) (h : PlanIs w A p) :
    Calls Try.prog 19 #[planV p A c] w fun e w' => e = .returned (.bool (okPl p)) ∧ Below w.heap.size w w' := by
  have CM := fun W => stops_make p A c W
  obtain ⟨w3, hw3⟩ : ∃ w3, w3 = ((w.alloc (.cells #[.slice A p.length c] 24)).alloc (.cells #[.bool false] 4)).alloc (.cells #[.slice A p.length c] 24) := ⟨_, rfl⟩
  have hb3 : Below w.heap.size w w3 := by rw [hw3]; exact below3 w _ _ _
  have hsz : w3.heap.size = w.heap.size + 1 + 1 + 1 := by rw [hw3]; simp
  have bR : Boxed w3 (w.heap.size + 1) 4 (.bool false) := by
    have a1 := Boxed.new (w.alloc (.cells #[.slice A p.length c] 24)) 4 (.bool false)
    rw [World.size_alloc] at a1
    rw [hw3]; exact a1.alloc _
  have bP : Boxed w3 (w.heap.size + 1 + 1) 24 (.slice A p.length c) := by
    have a2 := Boxed.new ((w.alloc (.cells #[.slice A p.length c] 24)).alloc (.cells #[.bool false] 4)) 24 (.slice A p.length c)
    rw [World.size_alloc, World.size_alloc] at a2
    rw [hw3]; exact a2
  have hseq := stops_seq 8 (by omega) (w.heap.size + 1 + 1) p A c w hw h
  have eg : ∀ args w, (callFunc 28 args).run Try.prog w = .ok (.enter 28 args) w := enters_of Try.func28 (by kernel_rfl) rfl
  have hI0 : MayI w w.heap.size [] w3 := ⟨bR, fun x hx => by simp at hx, Only.of_below hb3, hb3.size⟩
  unfold planV at CM ⊢
  clear h hw
  refine (callsIn_wide (n := 9)).1 ?_
  refine callsIn_of_wp_marks Try.func19 rfl trivial ?_ rfl
  simp only [Try.ntmps19, List.size_toArray, List.length_cons, List.length_nil, Nat.reduceAdd, Nat.reduceSub, Array.replicate_succ, Array.replicate_zero, List.push_toArray, List.append_toArray, List.nil_append, List.cons_append]
  gi_wp2_with (refine ⟨trivial, ?_⟩; gi_at_call 18; refine (callsIn_wide.2 (CM _)).mono ?_; rintro e w' ⟨rfl, rfl⟩)
  rw [← hw3]
  have hle : w.heap.size ≤ w3.heap.size := by omega
  clear CM bR hw3
  refine range_k rfl (by omega) (gf := 28) (lb := #[.pointer (some ⟨w.heap.size + 1 + 1, 0, none⟩)]) (by rfl) trivial eg hseq hb3 hle (by simp) (fun _ => rfl) (fun W hr => (box_rest bP hr (by simp)).cell)
    (MayI w w.heap.size) (MayX w) (MayI.stays hle) (MayX.stays hle) hI0
    (fun x a' W => ∃ g, a' = { tmps := #[.agg #[.slice A p.length c], .pointer (some ⟨w.heap.size, 0, none⟩), .pointer (some ⟨w.heap.size + 1, 0, none⟩), .pointer (some ⟨g, 0, none⟩), .agg #[.slice A p.length c], .func (.func 28) #[] #[.pointer (some ⟨w.heap.size + 1 + 1, 0, none⟩)], stopV x, undef, undef, undef, undef, undef, undef, undef, undef, undef, undef, undef, undef], defers := [] } ∧ BlkIs W g 53 #[.int .i64 x.1.1, .int .i64 x.1.2, .int .i64 x.2])
    (fun x a' _ A A' ⟨g, e, hg⟩ hr => ⟨g, e, hr.cells hg (by simp)⟩) ?assign ?body ?done ?stop
  case assign =>
    intro l pre x W K hpre hI hK
    have HK := Go.Lib.hid (fun g h => hK _ (W.alloc (.cells #[.int .i64 x.1.1, .int .i64 x.1.2, .int .i64 x.2] 53)) ((keeps_below (below_alloc W _)).from _) ((below_alloc W _).mono hI.siz) (hI.below (below_alloc W _)) ⟨g, rfl, h⟩)
    clear hK
    unfold stopV
    gi_wp2
    exact HK.out _ (BlkIs.fresh W _ _)
  case body =>
    rintro l pre x a' W hl hr hpre hI ⟨g, rfl, hg⟩
    obtain ⟨⟨a, b⟩, d⟩ := x
    have c0 : W.cell? ⟨g, 0, none⟩ = some (.int .i64 a) := hg.cellAt 0
    have c1 : W.cell? ⟨g, 1, none⟩ = some (.int .i64 b) := hg.cellAt 1
    have f2 := hI.res.frozen
    have r2 := hI.res.cell
    have HI := Go.Lib.hid hI
    have TA := fun v hv W => tell_any a v hv W
    have TB := fun v hv W => tell_any b v hv W
    have HO : okS (a, b) = (tellB a && tellB b) := okS_tell (a, b)
    have HOK := Go.Lib.hid HO
    clear hseq hg hI hI0 hpre hr HO
    cases ha : tellB a
    · have TA1 := TA _ ha
      have HX : Hid (okS (a, b) = false) := by show _ = _; rw [HOK.out, ha]; rfl
      clear TA TB ha
      gi_wp2_with (first | (refine ⟨trivial, ?_⟩; gi_at_call 29; (refine (CallsIn.inRound l (callsIn_wide.2 (TA1 _))).mono ?_); rintro e w1 ⟨rfl, rfl⟩) | refine ⟨trivial, ?_⟩)
      obtain ⟨k1, k2⟩ := HI.out.bad (x := ((a, b), d)) HX.out
      exact ⟨k1.from _, k2⟩
    · cases hb : tellB b
      · have TA1 := TA _ ha
        have TB1 := TB _ hb
        have HX : Hid (okS (a, b) = false) := by show _ = _; rw [HOK.out, ha, hb]; rfl
        clear TA TB ha hb
        gi_wp2_with (first | (refine ⟨trivial, ?_⟩; gi_at_call 29; (refine (CallsIn.inRound l (callsIn_wide.2 (TA1 _))).mono ?_); rintro e w1 ⟨rfl, rfl⟩) | (refine ⟨trivial, ?_⟩; gi_at_call 29; (refine (CallsIn.inRound l (callsIn_wide.2 (TB1 _))).mono ?_); rintro e w1 ⟨rfl, rfl⟩))
        obtain ⟨k1, k2⟩ := HI.out.bad (x := ((a, b), d)) HX.out
        exact ⟨k1.from _, k2⟩
      · have TA1 := TA _ ha
        have TB1 := TB _ hb
        have HX : Hid (okS (a, b) = true) := by show _ = _; rw [HOK.out, ha, hb]; rfl
        clear TA TB ha hb
        gi_wp2_with (first | (refine ⟨trivial, ?_⟩; gi_at_call 29; (refine (CallsIn.inRound l (callsIn_wide.2 (TA1 _))).mono ?_); rintro e w1 ⟨rfl, rfl⟩) | (refine ⟨trivial, ?_⟩; gi_at_call 29; (refine (CallsIn.inRound l (callsIn_wide.2 (TB1 _))).mono ?_); rintro e w1 ⟨rfl, rfl⟩))
        exact ⟨KeepsFrom.refl _ _, Below.refl _ _, HI.out.more (x := ((a, b), d)) HX.out⟩
  case done =>
    rintro D W hD hI hK
    have hall : okPl p = true := by
      have := okPl_stops p okS
      unfold okPl okD okT
      rw [← this]
      exact List.all_eq_true.2 hI.good
    have hf1 := hI.res.frozen
    have hc1 := hI.res.cell
    have q1 := hI.res.set (.bool true)
    have on := only_to hI.only (p := ⟨w.heap.size + 1, 0, none⟩) (by simp) (.bool true)
    have hK' := (KeepsOthers.setCell W ⟨w.heap.size + 1, 0, none⟩ (.bool true)).same D _ hK rfl
    clear hseq hI0
    gi_wp2
    generalize (W.setCell ⟨w.heap.size + 1, 0, none⟩ (.bool true)) = W2 at q1 on hK' ⊢
    have hr := Rest.putObj (Cs := []) (B := w.heap.size) (.deferred none) (by omega) hK' rfl
    refine ⟨by simp, .inl ⟨_, _, rfl, run_takeDeferred hK', ?_⟩⟩
    have d1 := (box_rest q1 hr (by simp)).cell
    refine ⟨.bool true, ?_, by rw [hall], (on.rest hr (by simp) (Nat.le_refl _)).to_below (Nat.le_refl _) (by simp)⟩
    simp [results, Try.f19, go_sem, d1]
  case stop =>
    rintro D c pre W hD hpre hX hK
    obtain rfl := hX.ret
    have hall : okPl p = false := by
      have := okPl_stops p okS
      unfold okPl okD okT
      rw [← this]
      obtain ⟨x, hx, hxo⟩ := hX.bad
      obtain ⟨t, ht⟩ := hpre
      exact List.all_eq_false.2 ⟨x, by rw [← ht]; exact List.mem_append_left _ hx, by rw [hxo]; decide⟩
    clear hseq hI0
    gi_wp2
    have hr := Rest.putObj (Cs := []) (B := w.heap.size) (.deferred none) (by omega) hK rfl
    refine ⟨by simp, .inl ⟨_, _, rfl, run_takeDeferred hK, ?_⟩⟩
    have d1 := (box_rest hX.res hr (by simp)).cell
    refine ⟨.bool false, ?_, by rw [hall], (hX.only.rest hr (by simp) (Nat.le_refl _)).to_below (Nat.le_refl _) (by simp)⟩
    simp [results, Try.f19, go_sem, d1]
end Go.Proofs.Ytedkhdnfbdojcaa
end
section
/- What book's Visits answers, off its code: a customer's visits, in a row of the call's own. -/
namespace Go.Proofs.Ytedkhdnfbdojcaa
open Go.RowKit Go.Shelf
set_option linter.unusedVariables false
attribute [local go_sem] Oper.semAt_some
/-- A visit: its day and its quantity. -/
def visit1 (c : Int) (x : StopX) : List (Int × Int) := if x.1.1 = c then [(x.2, x.1.2)] else []
def visitsX (c : Int) (l : List StopX) : List (Int × Int) := l.flatMap (visit1 c)
theorem visitsX_snoc (c : Int) (l : List StopX) (x : StopX) : visitsX c (l ++ [x]) = visitsX c l ++ visit1 c x := by simp [visitsX]
theorem visit1_le (c : Int) (x : StopX) : (visit1 c x).length ≤ 1 := by unfold visit1; split <;> simp
theorem visitsX_le (c : Int) (l : List StopX) : (visitsX c l).length ≤ l.length := by
  induction l with
  | nil => simp [visitsX]
  | cons x r ih =>
    unfold visitsX at ih ⊢
    rw [List.flatMap_cons, List.length_append, List.length_cons]
    have := visit1_le c x
    omega
def OwnVisits (base : Nat) (W : World) (v : Value) (l : List (Int × Int)) : Prop := W.ownsRow base 39 2 v l.length (cellsS l)
theorem info_visit : (Try.prog.info? 39).map (fun i => (i.zero, i.size, i.bytes)) = some (some (.agg #[.int .i64 0, .int .i64 0]), 2, 16) := by kernel_rfl
theorem OwnVisits.len {base : Nat} {W : World} {v : Value} {l : List (Int × Int)} (h : OwnVisits base W v l) : ∃ A k, v = .slice A l.length k ∧ l.length ≤ k := by
  rcases h.2 with ⟨rfl, h0⟩ | ⟨g, cap, cur, rfl, _, _, hc, _⟩
  · exact ⟨none, 0, by rw [h0], by rw [h0]; exact Nat.le_refl _⟩
  · exact ⟨_, _, rfl, hc⟩
theorem OwnVisits.reads {base : Nat} {W : World} {A : Option Addr} {n k : Nat} {l : List (Int × Int)} (h : OwnVisits base W (.slice A n k) l) : RowAt 2 StopAt W A l := fun i hi => by
  obtain ⟨g, cap, hv, _, _⟩ := World.ownsRow.form h (by omega)
  injection hv with hA hn hc
  subst hA; subst hn; subst hc
  refine ⟨g, 0, rfl, ?_, ?_⟩
  · rw [Nat.zero_add, World.ownsRow.cellAt h (i * 2) (by omega), (cellsS_at hi).1]
  · rw [Nat.zero_add, World.ownsRow.cellAt h (i * 2 + 1) (by omega), (cellsS_at hi).2]
/-- Between two rounds: the visits so far. -/
structure VisI (w : World) (c : Int) (pre : List StopX) (W : World) : Prop where
  cb : Boxed W (w.heap.size + 1) 3 (.int .i64 c)
  row : ∃ v, Boxed W (w.heap.size + 1 + 1) 36 v ∧ OwnVisits w.heap.size W v (visitsX c pre)
  only : Only [] w W
theorem VisI.stays {w : World} {c : Int} {B' : Nat} (hB : w.heap.size ≤ B') : Stays [] B' (VisI w c) := fun pre A A' h hr => by
  obtain ⟨v, hv, hrow⟩ := h.row
  exact ⟨box_rest h.cb hr (by simp), ⟨v, box_rest hv hr (by simp), own_same hrow (.of_rest hr) (by simp)⟩, h.only.rest hr (by simp) hB⟩
theorem VisI.below {w : World} {c : Int} {pre : List StopX} {W W' : World} (h : VisI w c pre W) (hb : Below W.heap.size W W') : VisI w c pre W' := by
  obtain ⟨v, hv, hrow⟩ := h.row
  exact ⟨box_below h.cb hb, ⟨v, box_below hv hb, own_keep hrow hb⟩, h.only.below hb⟩
theorem two_cells (W : World) (a b : Value) (t : TypeId) (j : Nat) (u : Value) (h : [a, b][j]? = some u) : (W.alloc (.cells #[a, b] t)).cell? ((⟨W.heap.size, 0, none⟩ : Addr).add j) = some u := by
  match j, h with
  | 0, h => injection h with h; rw [← h]; simp [Addr.add, go_sem]
  | 1, h => injection h with h; rw [← h]; simp [Addr.add, go_sem]
theorem VisI.more {w : World} {c : Int} {pre : List StopX} {W w1 : World} {x : StopX} {v v' : Value} {tmp : Obj} (h : VisI w c pre W) (hx : x.1.1 = c)
    (hv : Boxed W (w.heap.size + 1 + 1) 36 v) (hrow : OwnVisits w.heap.size W v (visitsX c pre))
    (hown : w1.ownsRow w.heap.size 39 2 v' ((visitsX c pre).length + 1) (cellsS (visitsX c pre) ++ [.int .i64 x.2, .int .i64 x.1.2])) (hgrow : (W.alloc tmp).grownBy w1 v.ownBlock) :
    Boxed w1 (w.heap.size + 1 + 1) 36 v ∧ KeepsOthers W (w1.setCell ⟨w.heap.size + 1 + 1, 0, none⟩ v') ∧ Below w.heap.size W (w1.setCell ⟨w.heap.size + 1 + 1, 0, none⟩ v') ∧ VisI w c (pre ++ [x]) (w1.setCell ⟨w.heap.size + 1 + 1, 0, none⟩ v') := by
  have hle : w.heap.size ≤ W.heap.size := h.only.size
  obtain ⟨hv1, hv2, hr2, hk2, hb2⟩ := hv.appended (by decide) hrow hle (by omega) hown hgrow
  have ra := World.ownsRow.alloc hrow tmp
  have e : visitsX c (pre ++ [x]) = visitsX c pre ++ [(x.2, x.1.2)] := by rw [visitsX_snoc]; unfold visit1; rw [if_pos hx]
  refine ⟨hv1, hk2, hb2, ((h.cb.alloc tmp).kept hgrow ((h.cb.alloc tmp).not_row (by decide) ra)).other (by omega) v', ⟨v', hv2, ?_⟩, ?_⟩
  · unfold OwnVisits
    rw [e, cellsS_snoc, List.length_append]
    exact hr2
  · exact ⟨hb2.os.trans h.only.os, hb2.tape.trans h.only.tape, hb2.output.trans h.only.output, Nat.le_trans h.only.size hb2.size, fun k hk hn => (hb2.block k hk).trans (h.only.block k hk hn)⟩
theorem VisI.less {w : World} {c : Int} {pre : List StopX} {W : World} {x : StopX} (h : VisI w c pre W) (hx : ¬ x.1.1 = c) : VisI w c (pre ++ [x]) W := by
  have e : visitsX c (pre ++ [x]) = visitsX c pre := by rw [visitsX_snoc]; unfold visit1; rw [if_neg hx, List.append_nil]
  exact ⟨h.cb, by rw [e]; exact h.row, h.only⟩
set_option maxRecDepth 100000 in
set_option maxHeartbeats 8000000 in
theorem bookVisits_code (p : PlanD) (A : Option Addr) (k : Nat) (c : Int) (w : World) (hw : WfP p) (h : PlanIs w A p) (hn : (stopsP p).length ≤ 1000000) :
    Calls Try.prog 11 #[planV p A k, .int .i64 c] w fun e w' => ∃ v, e = .returned v ∧ OwnVisits w.heap.size w' v (visitsX c (stopsP p)) ∧ Below w.heap.size w w' := by
  have CM := fun W => stops_make p A k W
  obtain ⟨i0, hi, hz0, hz1, hz2⟩ := info_parts info_visit
  obtain ⟨w4, hw4⟩ : ∃ w4, w4 = (((w.alloc (.cells #[.slice A p.length k] 24)).alloc (.cells #[.int .i64 c] 3)).alloc (.cells #[.slice none 0 0] 36)).alloc (.cells #[.slice A p.length k] 24) := ⟨_, rfl⟩
  have hb4 : Below w.heap.size w w4 := by rw [hw4]; exact (below3 w _ _ _).alloc (by simp; omega) _
  have hsz : w4.heap.size = w.heap.size + 1 + 1 + 1 + 1 := by rw [hw4]; simp
  have bC : Boxed w4 (w.heap.size + 1) 3 (.int .i64 c) := by
    have a1 := Boxed.new (w.alloc (.cells #[.slice A p.length k] 24)) 3 (.int .i64 c)
    rw [World.size_alloc] at a1
    rw [hw4]; exact (a1.alloc _).alloc _
  have bV : Boxed w4 (w.heap.size + 1 + 1) 36 (.slice none 0 0) := by
    have a2 := Boxed.new ((w.alloc (.cells #[.slice A p.length k] 24)).alloc (.cells #[.int .i64 c] 3)) 36 (.slice none 0 0)
    rw [World.size_alloc, World.size_alloc] at a2
    rw [hw4]; exact a2.alloc _
  have bP : Boxed w4 (w.heap.size + 1 + 1 + 1) 24 (.slice A p.length k) := by
    have a3 := Boxed.new (((w.alloc (.cells #[.slice A p.length k] 24)).alloc (.cells #[.int .i64 c] 3)).alloc (.cells #[.slice none 0 0] 36)) 24 (.slice A p.length k)
    rw [World.size_alloc, World.size_alloc, World.size_alloc] at a3
    rw [hw4]; exact a3
  have hseq := stops_seq 8 (by omega) (w.heap.size + 1 + 1 + 1) p A k w hw h
  have eg : ∀ args w, (callFunc 28 args).run Try.prog w = .ok (.enter 28 args) w := enters_of Try.func28 (by kernel_rfl) rfl
  have hI0 : VisI w c [] w4 := ⟨bC, ⟨_, bV, World.ownsRow_nil _ _ _ _⟩, Only.of_below hb4⟩
  unfold planV at CM ⊢
  clear h hw
  refine (callsIn_wide (n := 9)).1 ?_
  refine callsIn_of_wp_marks Try.func11 rfl trivial ?_ rfl
  simp only [Try.ntmps11, List.size_toArray, List.length_cons, List.length_nil, Nat.reduceAdd, Nat.reduceSub, Array.replicate_succ, Array.replicate_zero, List.push_toArray, List.append_toArray, List.nil_append, List.cons_append]
  gi_wp2_with (refine ⟨trivial, ?_⟩; gi_at_call 18; refine (callsIn_wide.2 (CM _)).mono ?_; rintro e w' ⟨rfl, rfl⟩)
  rw [← hw4]
  have hle : w.heap.size ≤ w4.heap.size := by omega
  clear CM bC bV hw4
  refine range_k rfl (by omega) (gf := 28) (lb := #[.pointer (some ⟨w.heap.size + 1 + 1 + 1, 0, none⟩)]) (by rfl) trivial eg hseq hb4 hle (by simp) (fun _ => rfl) (fun W hr => (box_rest bP hr (by simp)).cell)
    (VisI w c) (fun _ _ _ => False) (VisI.stays hle) (fun _ _ _ _ h _ => h) hI0
    (fun x a' W => ∃ g, a' = { tmps := #[.agg #[.slice A p.length k], .int .i64 c, .pointer (some ⟨w.heap.size, 0, none⟩), .pointer (some ⟨w.heap.size + 1, 0, none⟩), .slice none 0 0, .pointer (some ⟨w.heap.size + 1 + 1, 0, none⟩), .pointer (some ⟨g, 0, none⟩), .agg #[.slice A p.length k], .func (.func 28) #[] #[.pointer (some ⟨w.heap.size + 1 + 1 + 1, 0, none⟩)], stopV x, undef, undef, undef, undef, undef, undef, undef, undef, undef, undef, undef, undef, undef, undef, undef], defers := [] } ∧ BlkIs W g 53 #[.int .i64 x.1.1, .int .i64 x.1.2, .int .i64 x.2])
    (fun x a' _ A A' ⟨g, e, hg⟩ hr => ⟨g, e, hr.cells hg (by simp)⟩) ?assign ?body ?done ?stop
  case assign =>
    intro l pre x W K hpre hI hK
    have HK := Go.Lib.hid (fun g h => hK _ (W.alloc (.cells #[.int .i64 x.1.1, .int .i64 x.1.2, .int .i64 x.2] 53)) ((keeps_below (below_alloc W _)).from _) ((below_alloc W _).mono hI.only.size) (hI.below (below_alloc W _)) ⟨g, rfl, h⟩)
    clear hK
    unfold stopV
    gi_wp2
    exact HK.out _ (BlkIs.fresh W _ _)
  case body =>
    rintro l pre x a' W hl hr hpre hI ⟨g, rfl, hg⟩
    have hpl : pre.length ≤ 1000000 := by
      have := hpre.length_le
      rw [List.length_append, List.length_singleton] at this
      omega
    have hvl : (visitsX c pre).length ≤ 1000000 := Nat.le_trans (visitsX_le c pre) hpl
    obtain ⟨⟨a, b⟩, d⟩ := x
    have c0 : W.cell? ⟨g, 0, none⟩ = some (.int .i64 a) := hg.cellAt 0
    have c1 : W.cell? ⟨g, 1, none⟩ = some (.int .i64 b) := hg.cellAt 1
    have c2 : W.cell? ⟨g, 2, none⟩ = some (.int .i64 d) := hg.cellAt 2
    have r1 := hI.cb.cell
    have HI := Go.Lib.hid hI
    have hsW := hI.only.size
    clear hseq hg hI hI0 hpre hr hpl
    by_cases hac : a = c
    · have hq : (a == c) = true := beq_iff_eq.2 hac
      obtain ⟨v, hv, hrow⟩ := HI.out.row
      obtain ⟨P, q, rfl, _⟩ := OwnVisits.len hrow
      have v0 := hv.cell
      have HV := Go.Lib.hid hv
      have HR := Go.Lib.hid hrow
      have HM := Go.Lib.hid hac
      clear hac hv hrow
      gi_wp2_with (gi_at_builtin; refine wpListIn_append_own _ rfl _ _ 36 rfl w.heap.size 39 i0 (.agg #[.int .i64 0, .int .i64 0]) 2 16 Try.underlying36 hi hz0 hz1 hz2 rfl (by decide) _ _ _ rfl (World.ownsRow.alloc HR.out _) ⟨W.heap.size, 0, none⟩ 1 1 [.int .i64 d, .int .i64 b] rfl rfl (two_cells _ _ _ _) (by intro u hu; simp at hu; rcases hu with rfl | rfl <;> rfl) (by unfold maxLen; omega) (by omega) (by simp; omega) ?_; intro v' w1 hown' hgrow _; obtain ⟨g', cap', rfl⟩ := ownsRow_succ hown'; obtain ⟨hv1, hk2, hb2, hI3⟩ := HI.out.more (x := ((a, b), d)) HM.out HV.out HR.out hown' hgrow; have hc1 := hv1.cell; have hf1 := hv1.frozen)
      exact ⟨hk2.from _, hb2, hI3⟩
    · have hq : (a == c) = false := beq_eq_false_iff_ne.2 hac
      have HM := Go.Lib.hid hac
      clear hac
      gi_wp2
      exact ⟨KeepsFrom.refl _ _, Below.refl _ _, HI.out.less (x := ((a, b), d)) HM.out⟩
  case done =>
    rintro D W hD hI hK
    obtain ⟨v, hv, hrow⟩ := hI.row
    obtain ⟨P, q, rfl, _⟩ := OwnVisits.len hrow
    have hc1 := hv.cell
    have on := hI.only
    clear hseq hI0
    gi_wp2
    have hr := Rest.putObj (Cs := []) (B := w.heap.size) (.deferred none) (by omega) hK rfl
    refine ⟨by simp, .inl ⟨_, _, rfl, run_takeDeferred hK, ?_⟩⟩
    refine ⟨.slice P (visitsX c (stopsP p)).length q, ?_, _, rfl, own_same hrow (.of_rest hr) (by simp), (on.rest hr (by simp) (Nat.le_refl _)).to_below (Nat.le_refl _) (by simp)⟩
    simp [results, Try.f11, go_sem]
  case stop =>
    rintro D c pre W hD hpre hX hK
    exact hX.elim
end Go.Proofs.Ytedkhdnfbdojcaa
end
