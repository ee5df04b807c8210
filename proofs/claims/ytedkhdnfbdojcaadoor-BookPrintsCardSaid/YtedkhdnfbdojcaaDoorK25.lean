import Derived.Test.YtedkhdnfbdojcaaDoorK16
import Derived.Test.YtedkhdnfbdojcaaDoorK24
import Derived.Test.YtedkhdnfbdojcaaDoorK21
section
/- A tour's line, off the code's tour, where it is as it must be. -/
namespace Go.Proofs.YtedkhdnfbdojcaaDoor
open Go.RowKit Go.Shelf
set_option linter.unusedVariables false
attribute [local go_sem] Oper.semAt_some
theorem chunk_make (g off L c : Nat) (w : World) :
    Calls Tryd.prog 59 #[.slice (some ⟨g, off, none⟩) L c, .int .i64 2] w fun e w' => e = .returned (.func (.func 68) #[] #[.pointer (some ⟨w.heap.size, 0, none⟩), .pointer (some ⟨w.heap.size + 1, 0, none⟩)]) ∧ w' = (w.alloc (.cells #[.slice (some ⟨g, off, none⟩) L c] 77)).alloc (.cells #[.int .i64 2] 3) := by
  go_enter Tryd.func59, Tryd.ntmps59
  go_wp2
  go_ret
  exact ⟨rfl, rfl⟩
theorem stops_flat : ∀ {t : TourD} {i : Nat} (hi : i < t.length), (t.flatMap fun s => [s.1, s.2])[i * 2]? = some t[i].1 ∧ (t.flatMap fun s => [s.1, s.2])[i * 2 + 1]? = some t[i].2
  | s :: r, 0, _ => ⟨rfl, rfl⟩
  | s :: r, i + 1, hi => by
    have := stops_flat (t := r) (i := i) (by simpa using hi)
    have e1 : (i + 1) * 2 = (i * 2 + 1) + 1 := by omega
    rw [e1]
    exact ⟨this.1, this.2⟩
theorem own_cap {w : World} {base n c g : Nat} {e : TypeId} {size : Nat} {xs : List Value} (h : w.ownsRow base e size (.slice (some ⟨g, 0, none⟩) n c) n xs) : c ≤ 9223372036854775807 := by
  rcases h.2 with ⟨e', _⟩ | ⟨_, _, _, e', _, _, _, hm, _⟩
  · simp at e'
  · injection e' with _ _ e3
    unfold maxLen at hm
    omega
/-- Between two rounds: the stops so far. -/
structure TourI (w1 : World) (x1 x2 : Value) (t : TourD) (pre : List Nat) (W : World) : Prop where
  row : ∃ v, Boxed W w1.heap.size 41 v ∧ OwnStops w1.heap.size W v (t.take pre.length)
  b1 : Boxed W (w1.heap.size + 1) 77 x1
  b2 : Boxed W (w1.heap.size + 1 + 1) 3 x2
  only : Only [] w1 W
theorem TourI.stays {w1 : World} {x1 x2 : Value} {t : TourD} {B' : Nat} (hB : w1.heap.size ≤ B') : Stays [] B' (TourI w1 x1 x2 t) := fun pre A A' h hr => by
  obtain ⟨v, hv, hrow⟩ := h.row
  exact ⟨⟨v, box_rest hv hr (by simp), own_same hrow (.of_rest hr) (by simp)⟩, box_rest h.b1 hr (by simp), box_rest h.b2 hr (by simp), h.only.rest hr (by simp) hB⟩
theorem TourI.drew {w1 : World} {x1 x2 : Value} {t : TourD} {pre : List Nat} {W : World} (h : TourI w1 x1 x2 t pre W) : TourI w1 x1 x2 t pre W.drew := by
  obtain ⟨v, hv, hrow⟩ := h.row
  exact ⟨⟨v, hv, hrow⟩, h.b1, h.b2, h.only.drew⟩
theorem TourI.more {w1 W w2 : World} {x1 x2 : Value} {t : TourD} {pre : List Nat} {v v' : Value} {s : StopD} {tmp : Obj} (h : TourI w1 x1 x2 t pre W) (hi : pre.length < t.length) (hs : t[pre.length] = s)
    (hv : Boxed W w1.heap.size 41 v) (hrow : OwnStops w1.heap.size W v (t.take pre.length))
    (hown : w2.ownsRow w1.heap.size 43 2 v' ((t.take pre.length).length + 1) (cellsS (t.take pre.length) ++ [.int .i64 s.1, .int .i64 s.2])) (hgrow : (W.alloc tmp).grownBy w2 v.ownBlock) (i : Nat) :
    Boxed w2 w1.heap.size 41 v ∧ KeepsOthers W (w2.setCell ⟨w1.heap.size, 0, none⟩ v') ∧ KeepB w1.heap.size (w1.heap.size + 1) (w1.heap.size + 1 + 1) W (w2.setCell ⟨w1.heap.size, 0, none⟩ v') ∧ TourI w1 x1 x2 t (pre ++ [i]) (w2.setCell ⟨w1.heap.size, 0, none⟩ v') := by
  have hle : w1.heap.size ≤ W.heap.size := h.only.size
  obtain ⟨hv1, hv2, hr2, hk2, hb2⟩ := hv.appended (by decide) hrow hle (Nat.le_refl _) hown hgrow
  have ra := World.ownsRow.alloc hrow tmp
  have k1 : Boxed (w2.setCell ⟨w1.heap.size, 0, none⟩ v') (w1.heap.size + 1) 77 x1 := ((h.b1.alloc tmp).kept hgrow ((h.b1.alloc tmp).not_row (by decide) ra)).other (by omega) v'
  have k2 : Boxed (w2.setCell ⟨w1.heap.size, 0, none⟩ v') (w1.heap.size + 1 + 1) 3 x2 := ((h.b2.alloc tmp).kept hgrow ((h.b2.alloc tmp).not_row (by decide) ra)).other (by omega) v'
  refine ⟨hv1, hk2, ⟨hb2, k1.trans h.b1.symm, k2.trans h.b2.symm⟩, ⟨v', hv2, ?_⟩, k1, k2, ?_⟩
  · unfold OwnStops
    rw [List.length_append, List.length_singleton, List.take_succ_eq_append_getElem hi, cellsS_snoc, List.length_append, hs]
    exact hr2
  · exact ⟨hb2.os.trans h.only.os, hb2.tape.trans h.only.tape, hb2.output.trans h.only.output, Nat.le_trans h.only.size hb2.size, fun k hk hn => (hb2.block k hk).trans (h.only.block k hk hn)⟩
theorem range_at {pre : List Nat} {i n : Nat} (h : pre ++ [i] <+: List.range n) : i = pre.length ∧ i < n := by
  obtain ⟨r, hr⟩ := h
  have hlen := congrArg List.length hr
  rw [List.length_append, List.length_append, List.length_singleton, List.length_range] at hlen
  have h1 : (List.range n)[pre.length]? = some i := by rw [← hr]; simp
  rw [List.getElem?_range (by omega)] at h1
  exact ⟨(Option.some.inj h1).symm, by have := Option.some.inj h1; omega⟩
theorem step_app_stop {ops : Array Oper} {rest : List Oper} {o : Oper} {a : Act} {Q : Exit → Act → World → Prop} {W0 : World} {B : Nat} {v : Value} {t : TourD} {y : StopD} (hown : OwnStops B W0 v t) (hB : B ≤ W0.heap.size) (hm : t.length < 1048576) (hgd : o.guard = none) (s x : Operand)
    (ho : o.op = .call { callee := .builtin .append, args := #[s, x], argTypes := #[39, 39] }) (hs : a.eval s = v) (hx : a.eval x = .slice (some ⟨W0.heap.size, 0, none⟩) 1 1)
    (h : ∀ P k w', w'.ownsRow B 43 2 (.slice P (t.length + 1) k) (t.length + 1) (cellsS t ++ [.int .i64 y.1, .int .i64 y.2]) → (W0.alloc (.cells #[.int .i64 y.1, .int .i64 y.2] 43)).grownBy w' v.ownBlock → wpList Tryd.prog ops Q rest (a.put o.dst (.slice P (t.length + 1) k)) w') :
    wpList Tryd.prog ops Q (o :: rest) a (W0.alloc (.cells #[.int .i64 y.1, .int .i64 y.2] 43)) := by
  obtain ⟨i0, hi, hz0, hz1, hz2⟩ := info_parts info_stop
  refine wpList_append_own _ hgd s x 39 ho B 43 i0 (.agg #[.int .i64 0, .int .i64 0]) 2 16 Tryd.underlying39 hi hz0 hz1 hz2 rfl (by decide) v t.length (cellsS t) hs (World.ownsRow.alloc hown _) ⟨W0.heap.size, 0, none⟩ 1 1 [.int .i64 y.1, .int .i64 y.2] hx rfl (fun j u hj => World.news_of_block (heap_alloc_new W0 _) j u hj) (by intro u hu; simp at hu; rcases hu with rfl | rfl <;> rfl) (by unfold maxLen; omega) (by omega) (by simp; omega) ?_
  intro v' w' h1 h2 _
  obtain ⟨g, cap, rfl⟩ := ownsRow_succ h1
  exact h _ _ w' h1 h2
set_option maxRecDepth 100000 in
set_option maxHeartbeats 16000000 in
theorem tour_code (t : TourD) (b off k : Nat) (w : World) (hl : WordsIn w (some ⟨b, off, none⟩) (tourW t)) (hk : 2 + 2 * t.length ≤ k) (hkm : k ≤ maxLen) (hok : okT t = true) (hn : t.length ≤ 100) :
    Calls Tryd.prog 51 #[.slice (some ⟨b, off, none⟩) (2 + 2 * t.length) k] w fun e w' => ∃ v, e = .returned (.tuple #[.agg #[v], .bool true]) ∧ OwnStops w.heap.size w' v t ∧ Below w.heap.size w w' := by
  obtain ⟨hr1, hr2⟩ := tour_read (t := t) (by omega) hok
  have hxl : ((tourW t).tail.map strL).length = 1 + 2 * t.length := by rw [List.length_map, List.length_tail, tourW_len]; omega
  obtain ⟨W0, hW0⟩ : ∃ W0, W0 = w.alloc (.cells #[.slice none 0 0] 41) := ⟨_, rfl⟩
  have hb0 : Below w.heap.size w W0 := by rw [hW0]; exact below_alloc w _
  have hs0 : W0.heap.size = w.heap.size + 1 := by rw [hW0]; simp
  have K0 : Boxed W0 w.heap.size 41 (.slice none 0 0) := by rw [hW0]; exact Boxed.new w _ _
  have hd := (hl.drop 1).keep hb0
  have hxz : ∀ x ∈ (tourW t).tail.map strL, x.size ≤ maxLen := fun x hx => by
    obtain ⟨y, hy, rfl⟩ := List.mem_map.1 hx
    rw [strL_size]
    have hm : y ∈ tourW t := List.mem_of_mem_tail hy
    refine Nat.le_trans (tourW_mem (t := t) (by omega) (fun s hs => ?_) y hm) (by decide)
    have hk := List.all_eq_true.1 hok s hs
    unfold okS at hk
    simp only [Bool.and_eq_true, decide_eq_true_eq] at hk
    obtain ⟨k1, k2, k3, k4⟩ := hk
    exact ⟨⟨by omega, by omega⟩, by omega, by omega⟩
  have hdt : (tourW t).drop 1 = (tourW t).tail := List.drop_one
  rw [hdt] at hd
  have CN := numbers_code (some ⟨b, off + 1, none⟩) ((tourW t).tail.map strL) (k - 1) W0 hd.texts (by omega) hxz
  rw [hr1, hxl] at CN
  have hus : (((tourW t).tail.map strL).map fun x => Value.int .i64 (numV x.data.toList)) = (((t.length : Int) :: t.flatMap fun s => [s.1, s.2]).map (Value.int .i64)) := by
    rw [← hr2]
    exact (List.map_map (g := Value.int .i64) (f := fun x : ByteArray => numV x.data.toList)).symm
  rw [hus] at CN
  obtain ⟨bl, of2, e2, hw0⟩ := (hl.keep hb0).at (by rw [tourW_len]; omega)
  injection e2 with e2
  injection e2 with e2 e3
  subst e2; subst e3
  have hcell : W0.cell? ⟨b, off, none⟩ = some (.string ⟨#[116, 111, 117, 114]⟩) := (hw0 0 (by rw [tourW_len]; omega)).1
  have hsm := strL_self wTour
  have hsm2 : ((⟨#[116, 111, 117, 114]⟩ : ByteArray).toList != (⟨#[116, 111, 117, 114]⟩ : ByteArray).toList) = false := hsm
  have HNS : Hid (∀ i (hi : i < t.length), (((t.length : Int) :: t.flatMap fun s => [s.1, s.2]))[1 + i * 2]? = some t[i].1 ∧ (((t.length : Int) :: t.flatMap fun s => [s.1, s.2]))[1 + i * 2 + 1]? = some t[i].2) := fun i hi => by
    rw [Nat.add_comm 1 (i * 2), List.getElem?_cons_succ, List.getElem?_cons_succ]
    exact stops_flat hi
  have hq0 : ((1 + 2 * (t.length : Int)) == 0) = false := beq_eq_false_iff_ne.2 (by omega)
  have hq1 : ((1 + 2 * (t.length : Int)) != (1 + 2 * (t.length : Int))) = false := by simp
  unfold maxLen at hkm
  have HB0 := Go.Lib.hid hb0
  have HK0 := Go.Lib.hid K0
  clear hl hd hok hr1 hr2 hxl hxz hdt hus hw0 hsm hb0 K0
  refine (callsIn_wide (n := 9)).1 ?_
  refine callsIn_of_wp_marks Tryd.func51 rfl trivial ?_ rfl
  simp only [Tryd.ntmps51, List.size_toArray, List.length_cons, List.length_nil, Nat.reduceAdd, Nat.reduceSub, Array.replicate_succ, Array.replicate_zero, List.push_toArray, List.append_toArray, List.nil_append, List.cons_append]
  gi_wp2_with fail
  rw [← hW0]
  clear hW0
  gi_wp2_with (refine ⟨trivial, ?_⟩; gi_at_call 58; refine (callsIn_wide.2 CN).mono ?_; rintro e w1 ⟨v, rfl, hy, _, hb1⟩; have hro := hy trivial; obtain ⟨g, c, rfl, hgb, hgl⟩ := World.ownsRow.form hro (by omega); have HRO := Go.Lib.hid hro; have HB1 := Go.Lib.hid hb1; have w0c := cell_keep hcell hb1; have n0 : w1.cell? ⟨g, 0, none⟩ = some (.int .i64 (t.length : Int)) := by { rw [hro.cellAt 0 (by omega)]; rfl }; have hcl : 1 + 2 * t.length ≤ c := by { obtain ⟨_, _, e, h⟩ := own_form hro; injection e with _ _ e3; omega }; have hcm : c ≤ 9223372036854775807 := own_cap hro; clear hy hro hb1)
  case inl =>
    have HSQ := chunk_seq 8 (by omega) (w1.heap.size + 1) (w1.heap.size + 1 + 1) w1.heap.size g 0 t.length (0) w1 (by omega) (by omega) (by unfold maxLen; omega)
    obtain ⟨w4, hw4⟩ : ∃ w4, w4 = ((w1.alloc (.cells #[.slice none 0 0] 41)).alloc (.cells #[.slice (some ⟨g, 0, none⟩) (2 * t.length) (0)] 77)).alloc (.cells #[.int .i64 2] 3) := ⟨_, rfl⟩
    have hb4 : Below w1.heap.size w1 w4 := by rw [hw4]; exact below3 w1 _ _ _
    have bT : Boxed w4 w1.heap.size 41 (.slice none 0 0) := by rw [hw4]; exact ((Boxed.new w1 _ _).alloc _).alloc _
    have b1 : Boxed w4 (w1.heap.size + 1) 77 (.slice (some ⟨g, 0, none⟩) (2 * t.length) (0)) := by
      have a1 := Boxed.new (w1.alloc (.cells #[.slice none 0 0] 41)) 77 (.slice (some ⟨g, 0, none⟩) (2 * t.length) (0))
      rw [World.size_alloc] at a1
      rw [hw4]; exact a1.alloc _
    have b2 : Boxed w4 (w1.heap.size + 1 + 1) 3 (.int .i64 2) := by
      have a2 := Boxed.new ((w1.alloc (.cells #[.slice none 0 0] 41)).alloc (.cells #[.slice (some ⟨g, 0, none⟩) (2 * t.length) (0)] 77)) 3 (.int .i64 2)
      rw [World.size_alloc, World.size_alloc] at a2
      rw [hw4]; exact a2
    have hI0 : TourI w1 (.slice (some ⟨g, 0, none⟩) (2 * t.length) (0)) (.int .i64 2) t [] w4 := ⟨⟨_, bT, OwnStops.nil _ _⟩, b1, b2, Only.of_below hb4⟩
    have eg : ∀ args w, (callFunc 68 args).run Tryd.prog w = .ok (.enter 68 args) w := enters_of Tryd.func68 (by kernel_rfl) rfl
    have CH := fun W => chunk_make g 0 (2 * t.length) (0) W
    clear bT b1 b2 w0c n0
    gi_wp2_with (refine ⟨trivial, ?_⟩; gi_at_call 59; refine (callsIn_wide.2 (CH _)).mono ?_; rintro e w' ⟨rfl, rfl⟩)
    rw [← hw4]
    have hle : w1.heap.size ≤ w4.heap.size := hb4.size
    have hs4 : w4.heap.size = w1.heap.size + 1 + 1 + 1 := by rw [hw4]; simp
    clear hw4 CH
    refine range_r rfl (by omega) (gf := 68) (lb := #[.pointer (some ⟨w1.heap.size + 1, 0, none⟩), .pointer (some ⟨w1.heap.size + 1 + 1, 0, none⟩)]) (by rfl) trivial eg HSQ
      (fun a b c h k => ⟨h.1.trans k.1, k.2.1.trans h.2.1, k.2.2.trans h.2.2⟩) (fun W l o' hl => ⟨⟨rfl, rfl, rfl, by simp, fun k hk => World.putObj_heap_other (by omega)⟩, World.putObj_heap_other (by omega), World.putObj_heap_other (by omega)⟩) hb4 hle (by simp) (fun _ => rfl) (fun W hr => ⟨box_rest hI0.b1 hr (by simp), box_rest hI0.b2 hr (by simp)⟩)
      (TourI w1 (.slice (some ⟨g, 0, none⟩) (2 * t.length) (0)) (.int .i64 2) t) (fun _ _ _ => False) (TourI.stays hle) (fun _ _ _ _ h _ => h) hI0
      (fun (i : Nat) (a' : Act) (_ : World) => a' = { tmps := (#[.slice (some ⟨b, off, none⟩) (2 + 2 * t.length) k, undef, .pointer (some ⟨w.heap.size, 0, none⟩), .bool false, .slice (some ⟨g, 0, none⟩) (1 + 2 * t.length) 1, .bool true, .pointer (some ⟨w1.heap.size, 0, none⟩), .slice (some ⟨g, 0 + i * 2, none⟩) 2 2, .tuple #[.slice (some ⟨g, 0, none⟩) (1 + 2 * t.length) 1, .bool true], .slice (some ⟨b, off, none⟩) (2 + 2 * t.length) k, .slice (some ⟨b, off + 1, none⟩) (1 + 2 * t.length) (k - 1), .tuple #[.slice (some ⟨g, 0, none⟩) (1 + 2 * t.length) 1, .bool true], .slice (some ⟨g, 0, none⟩) (1 + 2 * t.length) 1, .bool true, .bool true, .bool false, .bool false, .slice (some ⟨b, off, none⟩) (2 + 2 * t.length) k, .pointer (some ⟨b, off, none⟩), .string ⟨#[116, 111, 117, 114]⟩, .bool false, .bool false, .bool false, .slice (some ⟨g, 0, none⟩) (1 + 2 * t.length) 1, .int .i64 (1 + 2 * (t.length : Int)), .bool false, .bool false, .bool false, .slice (some ⟨g, 0, none⟩) (1 + 2 * t.length) 1, .int .i64 (1 + 2 * (t.length : Int)), .slice (some ⟨g, 0, none⟩) (1 + 2 * t.length) 1, .pointer (some ⟨g, 0, none⟩), .int .i64 (t.length : Int), .int .i64 (2 * (t.length : Int)), .int .i64 (1 + 2 * (t.length : Int)), .bool false, .bool false, undef, .slice (some ⟨g, 0, none⟩) (1 + 2 * t.length) 1, .slice (some ⟨g, 0, none⟩) (2 * t.length) 0, .func (.func 68) #[] #[.pointer (some ⟨w1.heap.size + 1, 0, none⟩), .pointer (some ⟨w1.heap.size + 1 + 1, 0, none⟩)], .slice (some ⟨g, 0 + i * 2, none⟩) 2 2, undef, undef, undef, undef, undef, undef, undef, undef, undef, undef, undef, undef, undef] : Array Value), defers := [] })
      (fun _ _ _ _ _ h _ => h) ?assign ?body ?done ?stop
    case assign =>
      intro l pre x W K hpre hI hK
      gi_wp2
      exact hK _ _ (KeepsFrom.refl _ _) ⟨Below.refl _ _, rfl, rfl⟩ hI (by first | rfl | simp)
    case body =>
      rintro l pre i a' W hl hr hpre hI rfl
      have := (range_at hpre).2
      omega
    case done =>
      rintro D W hD hI hK
      obtain ⟨v, hv, hrow⟩ := hI.row
      rw [List.length_range, List.take_length] at hrow
      obtain ⟨Pv, kv, rfl, _⟩ := OwnStops.len hrow
      have v0 := hv.cell
      have hw1W : Below w1.heap.size w1 W := hI.only.to_below (Nat.le_refl _) (by simp)
      have HT1 := HB1.out
      have kt := box_below (box_below HK0.out HT1) hw1W
      have t0 := kt.cell
      have tf := kt.frozen
      have hlw : w.heap.size < W0.heap.size := HK0.out.lt
      have hl1 : W0.heap.size ≤ w1.heap.size := HT1.size
      have q1 := kt.set (.slice Pv t.length kv)
      have hO2 : OwnStops w1.heap.size (W.setCell ⟨w.heap.size, 0, none⟩ (.slice Pv t.length kv)) (.slice Pv t.length kv) t := hrow.far (by show w.heap.size < w1.heap.size; omega) _
      have hB2 : Below w.heap.size w (W.setCell ⟨w.heap.size, 0, none⟩ (.slice Pv t.length kv)) := (HB0.out.trans ((HT1.trans (hw1W.mono hl1)).mono HB0.out.size)).setCell (p := ⟨w.heap.size, 0, none⟩) (Nat.le_refl _) _
      have hK' := (KeepsOthers.setCell W ⟨w.heap.size, 0, none⟩ (.slice Pv t.length kv)).same D _ hK rfl
      clear HSQ hI0
      gi_wp2
      generalize W.setCell ⟨w.heap.size, 0, none⟩ (.slice Pv t.length kv) = W2 at q1 hO2 hB2 hK' ⊢
      have hr := Rest.putObj (Cs := []) (B := w.heap.size) (.deferred none) (by omega) hK' rfl
      refine ⟨by simp, .inl ⟨_, _, rfl, run_takeDeferred hK', ?_⟩⟩
      have d1 := (box_rest q1 hr (by simp)).cell
      refine ⟨.tuple #[.agg #[.slice Pv t.length kv], .bool true], ?_, _, rfl, OwnStops.down (base' := w.heap.size) (own_same hO2 (.of_rest hr) (by simp)) (by omega), ((Only.of_below (F := []) hB2).rest hr (by simp) (Nat.le_refl _)).to_below (Nat.le_refl _) (by simp)⟩
      simp [results, Tryd.f51, go_sem, d1]
    case stop =>
      rintro D c pre W hD hpre hX hK
      exact hX.elim
  case inr =>
    have HSQ := chunk_seq 8 (by omega) (w1.heap.size + 1) (w1.heap.size + 1 + 1) w1.heap.size g 1 t.length (c - 1) w1 (by omega) (by omega) (by unfold maxLen; omega)
    obtain ⟨w4, hw4⟩ : ∃ w4, w4 = ((w1.alloc (.cells #[.slice none 0 0] 41)).alloc (.cells #[.slice (some ⟨g, 1, none⟩) (2 * t.length) (c - 1)] 77)).alloc (.cells #[.int .i64 2] 3) := ⟨_, rfl⟩
    have hb4 : Below w1.heap.size w1 w4 := by rw [hw4]; exact below3 w1 _ _ _
    have bT : Boxed w4 w1.heap.size 41 (.slice none 0 0) := by rw [hw4]; exact ((Boxed.new w1 _ _).alloc _).alloc _
    have b1 : Boxed w4 (w1.heap.size + 1) 77 (.slice (some ⟨g, 1, none⟩) (2 * t.length) (c - 1)) := by
      have a1 := Boxed.new (w1.alloc (.cells #[.slice none 0 0] 41)) 77 (.slice (some ⟨g, 1, none⟩) (2 * t.length) (c - 1))
      rw [World.size_alloc] at a1
      rw [hw4]; exact a1.alloc _
    have b2 : Boxed w4 (w1.heap.size + 1 + 1) 3 (.int .i64 2) := by
      have a2 := Boxed.new ((w1.alloc (.cells #[.slice none 0 0] 41)).alloc (.cells #[.slice (some ⟨g, 1, none⟩) (2 * t.length) (c - 1)] 77)) 3 (.int .i64 2)
      rw [World.size_alloc, World.size_alloc] at a2
      rw [hw4]; exact a2
    have hI0 : TourI w1 (.slice (some ⟨g, 1, none⟩) (2 * t.length) (c - 1)) (.int .i64 2) t [] w4 := ⟨⟨_, bT, OwnStops.nil _ _⟩, b1, b2, Only.of_below hb4⟩
    have eg : ∀ args w, (callFunc 68 args).run Tryd.prog w = .ok (.enter 68 args) w := enters_of Tryd.func68 (by kernel_rfl) rfl
    have CH := fun W => chunk_make g 1 (2 * t.length) (c - 1) W
    clear bT b1 b2 w0c n0
    gi_wp2_with (refine ⟨trivial, ?_⟩; gi_at_call 59; refine (callsIn_wide.2 (CH _)).mono ?_; rintro e w' ⟨rfl, rfl⟩)
    rw [← hw4]
    have hle : w1.heap.size ≤ w4.heap.size := hb4.size
    have hs4 : w4.heap.size = w1.heap.size + 1 + 1 + 1 := by rw [hw4]; simp
    clear hw4 CH
    refine range_r rfl (by omega) (gf := 68) (lb := #[.pointer (some ⟨w1.heap.size + 1, 0, none⟩), .pointer (some ⟨w1.heap.size + 1 + 1, 0, none⟩)]) (by rfl) trivial eg HSQ
      (fun a b c h k => ⟨h.1.trans k.1, k.2.1.trans h.2.1, k.2.2.trans h.2.2⟩) (fun W l o' hl => ⟨⟨rfl, rfl, rfl, by simp, fun k hk => World.putObj_heap_other (by omega)⟩, World.putObj_heap_other (by omega), World.putObj_heap_other (by omega)⟩) hb4 hle (by simp) (fun _ => rfl) (fun W hr => ⟨box_rest hI0.b1 hr (by simp), box_rest hI0.b2 hr (by simp)⟩)
      (TourI w1 (.slice (some ⟨g, 1, none⟩) (2 * t.length) (c - 1)) (.int .i64 2) t) (fun _ _ _ => False) (TourI.stays hle) (fun _ _ _ _ h _ => h) hI0
      (fun (i : Nat) (a' : Act) (_ : World) => a' = { tmps := (#[.slice (some ⟨b, off, none⟩) (2 + 2 * t.length) k, undef, .pointer (some ⟨w.heap.size, 0, none⟩), .bool false, .slice (some ⟨g, 0, none⟩) (1 + 2 * t.length) c, .bool true, .pointer (some ⟨w1.heap.size, 0, none⟩), .slice (some ⟨g, 1 + i * 2, none⟩) 2 2, .tuple #[.slice (some ⟨g, 0, none⟩) (1 + 2 * t.length) c, .bool true], .slice (some ⟨b, off, none⟩) (2 + 2 * t.length) k, .slice (some ⟨b, off + 1, none⟩) (1 + 2 * t.length) (k - 1), .tuple #[.slice (some ⟨g, 0, none⟩) (1 + 2 * t.length) c, .bool true], .slice (some ⟨g, 0, none⟩) (1 + 2 * t.length) c, .bool true, .bool true, .bool false, .bool false, .slice (some ⟨b, off, none⟩) (2 + 2 * t.length) k, .pointer (some ⟨b, off, none⟩), .string ⟨#[116, 111, 117, 114]⟩, .bool false, .bool false, .bool false, .slice (some ⟨g, 0, none⟩) (1 + 2 * t.length) c, .int .i64 (1 + 2 * (t.length : Int)), .bool false, .bool false, .bool false, .slice (some ⟨g, 0, none⟩) (1 + 2 * t.length) c, .int .i64 (1 + 2 * (t.length : Int)), .slice (some ⟨g, 0, none⟩) (1 + 2 * t.length) c, .pointer (some ⟨g, 0, none⟩), .int .i64 (t.length : Int), .int .i64 (2 * (t.length : Int)), .int .i64 (1 + 2 * (t.length : Int)), .bool false, .bool false, undef, .slice (some ⟨g, 0, none⟩) (1 + 2 * t.length) c, .slice (some ⟨g, 1, none⟩) (2 * t.length) (c - 1), .func (.func 68) #[] #[.pointer (some ⟨w1.heap.size + 1, 0, none⟩), .pointer (some ⟨w1.heap.size + 1 + 1, 0, none⟩)], .slice (some ⟨g, 1 + i * 2, none⟩) 2 2, undef, undef, undef, undef, undef, undef, undef, undef, undef, undef, undef, undef, undef] : Array Value), defers := [] })
      (fun _ _ _ _ _ h _ => h) ?assign ?body ?done ?stop
    case assign =>
      intro l pre x W K hpre hI hK
      gi_wp2
      exact hK _ _ (KeepsFrom.refl _ _) ⟨Below.refl _ _, rfl, rfl⟩ hI (by first | rfl | simp)
    case body =>
      rintro l pre i a' W hl hr hpre hI rfl
      obtain ⟨rfl, hit⟩ := range_at hpre
      obtain ⟨q0, q1⟩ := HNS.out _ hit
      have hW1 : Below w1.heap.size w1 W := hI.only.to_below (Nat.le_refl _) (by simp)
      have c0 : W.cell? ⟨g, 1 + pre.length * 2, none⟩ = some (.int .i64 t[pre.length].1) := cell_keep (by rw [HRO.out.cellAt (1 + pre.length * 2) (by omega), List.getElem?_map, q0]; rfl) hW1
      have c1 : W.cell? ⟨g, 1 + pre.length * 2 + 1, none⟩ = some (.int .i64 t[pre.length].2) := cell_keep (by rw [HRO.out.cellAt (1 + pre.length * 2 + 1) (by omega), List.getElem?_map, q1]; rfl) hW1
      obtain ⟨v, hv, hrow⟩ := hI.row
      obtain ⟨Pv, kv, rfl, _⟩ := OwnStops.len hrow
      have v0 := hv.cell
      have HV := Go.Lib.hid hv
      have HR := Go.Lib.hid hrow
      have HI := Go.Lib.hid hI
      have hpl : (t.take pre.length).length = pre.length := by rw [List.length_take]; omega
      obtain ⟨ts, hts⟩ : ∃ ts, ts = t.take pre.length := ⟨_, rfl⟩
      obtain ⟨s, hs⟩ : ∃ s, s = t[pre.length] := ⟨_, rfl⟩
      rw [← hs] at c0 c1
      rw [← hts] at HR v0 HV hpl
      have v0a := cell_keep v0 (below_alloc W (.cells #[.int .i64 s.1, .int .i64 s.2] 43))
      have HPL := Go.Lib.hid (show ts.length < 1048576 by omega)
      have HTS := Go.Lib.hid hts
      have HSS := Go.Lib.hid hs.symm
      have hsz : w1.heap.size ≤ W.drew.heap.size := hI.only.size
      have hM := Go.Lib.hid (fun w2 v' tmp (hown : w2.ownsRow w1.heap.size 43 2 v' (ts.length + 1) (cellsS ts ++ [.int .i64 s.1, .int .i64 s.2])) (hgrow : (W.drew.alloc tmp).grownBy w2 (Value.slice Pv ts.length kv).ownBlock) => HI.out.drew.more (v := .slice Pv ts.length kv) hit HSS.out HV.out (by rw [← HTS.out]; exact HR.out) (by rw [← HTS.out]; exact hown) hgrow pre.length)
      clear hv hrow hI hW1 q0 q1 hs hts hpl HSQ hI0 hb4 hpre hr
      gi_wp2
      refine round_any (by kernel_rfl) (by kernel_rfl) (fun ⟨_, _, h⟩ => h) ?_
      refine wpAny_take (i := 0) (v := ?_) rfl (by kernel_rfl) (by kernel_rfl) (by kernel_rfl) (fun _ _ _ h => h) (Or.inl ⟨by rfl, ?_⟩) ?_
      rotate_left
      · intro w; go_simp; first | done | (with_reducible rfl)
      refine wpAny_take (i := 2) (v := ?_) rfl (by kernel_rfl) (by kernel_rfl) (by kernel_rfl) (fun _ _ _ h => h) (Or.inl ⟨by rfl, ?_⟩) ?_
      rotate_left
      · intro w; go_simp; first | done | (with_reducible rfl)
      refine wpAny_take (i := 3) (v := ?_) rfl (by kernel_rfl) (by kernel_rfl) (by kernel_rfl) (fun _ _ _ h => h) (Or.inl ⟨by rfl, ?_⟩) ?_
      rotate_left
      · intro w; go_simp; first | done | (with_reducible rfl)
      refine wpAny_take (i := 5) (v := ?_) rfl (by kernel_rfl) (by kernel_rfl) (by kernel_rfl) (fun _ _ _ h => h) (Or.inl ⟨by rfl, ?_⟩) ?_
      rotate_left
      · intro w; go_simp; first | done | (with_reducible rfl)
      refine wpAny_take (i := 6) (v := ?_) rfl (by kernel_rfl) (by kernel_rfl) (by kernel_rfl) (fun _ _ _ h => h) (Or.inl ⟨by rfl, ?_⟩) ?_
      rotate_left
      · intro w; go_simp; first | done | (with_reducible rfl)
      refine wpAny_ready (rs := [1, 4, 7]) (by kernel_rfl) (by simp) ?_
      refine AllReady.cons rfl (fun K hK => ?_) ?_
      · go_simp
        refine hK _ _ ?_; clear hK K
        refine wpAny_ready (rs := [4, 7]) (by kernel_rfl) (by simp) ?_
        refine AllReady.cons rfl (fun K hK => ?_) ?_
        · go_simp
          refine hK _ _ ?_; clear hK K
          refine wpAny_ready (rs := [7]) (by kernel_rfl) (by simp) ?_
          refine AllReady.cons rfl (fun K hK => ?_) ?_
          · go_simp
            refine hK _ _ ?_; clear hK K
            refine wpAny_take (i := 8) (v := ?_) rfl (by kernel_rfl) (by kernel_rfl) (by kernel_rfl) (fun _ _ _ h => h) (Or.inl ⟨by rfl, ?_⟩) ?_
            rotate_left
            · intro w; go_simp; first | done | (with_reducible rfl)
            refine wpAny_ready (rs := [9]) (by kernel_rfl) (by simp) ?_
            refine AllReady.cons rfl (fun K hK => ?_) ?_
            · go_simp
              refine hK _ _ ?_; clear hK K
              refine any_seq 10 3 rfl (by kernel_rfl) ?_
              simp only [List.drop_succ_cons, List.drop_zero]
              change wpList _ _ _ _ _ (W.drew.alloc (.cells #[.int .i64 s.1, .int .i64 s.2] 43))
              refine step_app_stop (t := ts) (y := s) HR.out hsz HPL.out rfl _ _ rfl rfl rfl ?_
              intro Px kx w3 hown3 hg3
              obtain ⟨hv1, hk2, hkb, hI3⟩ := hM.out _ _ _ hown3 hg3
              have hc3 := hv1.cell
              have hf3 := hv1.frozen
              go_wp2
              exact ⟨KeepsOthers.from (W := W) ⟨hk2.1, hk2.2⟩ _, ⟨⟨hkb.1.os, hkb.1.tape, hkb.1.output, hkb.1.size, hkb.1.block⟩, hkb.2.1, hkb.2.2⟩, hI3⟩
            exact AllReady.nil
          exact AllReady.nil
        refine AllReady.cons rfl (fun K hK => ?_) ?_
        · go_simp
          refine hK _ _ ?_; clear hK K
          refine wpAny_ready (rs := [4]) (by kernel_rfl) (by simp) ?_
          refine AllReady.cons rfl (fun K hK => ?_) ?_
          · go_simp
            refine hK _ _ ?_; clear hK K
            refine wpAny_take (i := 8) (v := ?_) rfl (by kernel_rfl) (by kernel_rfl) (by kernel_rfl) (fun _ _ _ h => h) (Or.inl ⟨by rfl, ?_⟩) ?_
            rotate_left
            · intro w; go_simp; first | done | (with_reducible rfl)
            refine wpAny_ready (rs := [9]) (by kernel_rfl) (by simp) ?_
            refine AllReady.cons rfl (fun K hK => ?_) ?_
            · go_simp
              refine hK _ _ ?_; clear hK K
              refine any_seq 10 3 rfl (by kernel_rfl) ?_
              simp only [List.drop_succ_cons, List.drop_zero]
              change wpList _ _ _ _ _ (W.drew.alloc (.cells #[.int .i64 s.1, .int .i64 s.2] 43))
              refine step_app_stop (t := ts) (y := s) HR.out hsz HPL.out rfl _ _ rfl rfl rfl ?_
              intro Px kx w3 hown3 hg3
              obtain ⟨hv1, hk2, hkb, hI3⟩ := hM.out _ _ _ hown3 hg3
              have hc3 := hv1.cell
              have hf3 := hv1.frozen
              go_wp2
              exact ⟨KeepsOthers.from (W := W) ⟨hk2.1, hk2.2⟩ _, ⟨⟨hkb.1.os, hkb.1.tape, hkb.1.output, hkb.1.size, hkb.1.block⟩, hkb.2.1, hkb.2.2⟩, hI3⟩
            exact AllReady.nil
          exact AllReady.nil
        exact AllReady.nil
      refine AllReady.cons rfl (fun K hK => ?_) ?_
      · go_simp
        refine hK _ _ ?_; clear hK K
        refine wpAny_ready (rs := [1, 7]) (by kernel_rfl) (by simp) ?_
        refine AllReady.cons rfl (fun K hK => ?_) ?_
        · go_simp
          refine hK _ _ ?_; clear hK K
          refine wpAny_ready (rs := [7]) (by kernel_rfl) (by simp) ?_
          refine AllReady.cons rfl (fun K hK => ?_) ?_
          · go_simp
            refine hK _ _ ?_; clear hK K
            refine wpAny_take (i := 8) (v := ?_) rfl (by kernel_rfl) (by kernel_rfl) (by kernel_rfl) (fun _ _ _ h => h) (Or.inl ⟨by rfl, ?_⟩) ?_
            rotate_left
            · intro w; go_simp; first | done | (with_reducible rfl)
            refine wpAny_ready (rs := [9]) (by kernel_rfl) (by simp) ?_
            refine AllReady.cons rfl (fun K hK => ?_) ?_
            · go_simp
              refine hK _ _ ?_; clear hK K
              refine any_seq 10 3 rfl (by kernel_rfl) ?_
              simp only [List.drop_succ_cons, List.drop_zero]
              change wpList _ _ _ _ _ (W.drew.alloc (.cells #[.int .i64 s.1, .int .i64 s.2] 43))
              refine step_app_stop (t := ts) (y := s) HR.out hsz HPL.out rfl _ _ rfl rfl rfl ?_
              intro Px kx w3 hown3 hg3
              obtain ⟨hv1, hk2, hkb, hI3⟩ := hM.out _ _ _ hown3 hg3
              have hc3 := hv1.cell
              have hf3 := hv1.frozen
              go_wp2
              exact ⟨KeepsOthers.from (W := W) ⟨hk2.1, hk2.2⟩ _, ⟨⟨hkb.1.os, hkb.1.tape, hkb.1.output, hkb.1.size, hkb.1.block⟩, hkb.2.1, hkb.2.2⟩, hI3⟩
            exact AllReady.nil
          exact AllReady.nil
        refine AllReady.cons rfl (fun K hK => ?_) ?_
        · go_simp
          refine hK _ _ ?_; clear hK K
          refine wpAny_take (i := 8) (v := ?_) rfl (by kernel_rfl) (by kernel_rfl) (by kernel_rfl) (fun _ _ _ h => h) (Or.inl ⟨by rfl, ?_⟩) ?_
          rotate_left
          · intro w; go_simp; first | done | (with_reducible rfl)
          refine wpAny_ready (rs := [1, 9]) (by kernel_rfl) (by simp) ?_
          refine AllReady.cons rfl (fun K hK => ?_) ?_
          · go_simp
            refine hK _ _ ?_; clear hK K
            refine wpAny_ready (rs := [9]) (by kernel_rfl) (by simp) ?_
            refine AllReady.cons rfl (fun K hK => ?_) ?_
            · go_simp
              refine hK _ _ ?_; clear hK K
              refine any_seq 10 3 rfl (by kernel_rfl) ?_
              simp only [List.drop_succ_cons, List.drop_zero]
              change wpList _ _ _ _ _ (W.drew.alloc (.cells #[.int .i64 s.1, .int .i64 s.2] 43))
              refine step_app_stop (t := ts) (y := s) HR.out hsz HPL.out rfl _ _ rfl rfl rfl ?_
              intro Px kx w3 hown3 hg3
              obtain ⟨hv1, hk2, hkb, hI3⟩ := hM.out _ _ _ hown3 hg3
              have hc3 := hv1.cell
              have hf3 := hv1.frozen
              go_wp2
              exact ⟨KeepsOthers.from (W := W) ⟨hk2.1, hk2.2⟩ _, ⟨⟨hkb.1.os, hkb.1.tape, hkb.1.output, hkb.1.size, hkb.1.block⟩, hkb.2.1, hkb.2.2⟩, hI3⟩
            exact AllReady.nil
          refine AllReady.cons rfl (fun K hK => ?_) ?_
          · go_simp
            refine hK _ _ ?_; clear hK K
            refine wpAny_ready (rs := [1]) (by kernel_rfl) (by simp) ?_
            refine AllReady.cons rfl (fun K hK => ?_) ?_
            · go_simp
              refine hK _ _ ?_; clear hK K
              refine any_seq 10 3 rfl (by kernel_rfl) ?_
              simp only [List.drop_succ_cons, List.drop_zero]
              change wpList _ _ _ _ _ (W.drew.alloc (.cells #[.int .i64 s.1, .int .i64 s.2] 43))
              refine step_app_stop (t := ts) (y := s) HR.out hsz HPL.out rfl _ _ rfl rfl rfl ?_
              intro Px kx w3 hown3 hg3
              obtain ⟨hv1, hk2, hkb, hI3⟩ := hM.out _ _ _ hown3 hg3
              have hc3 := hv1.cell
              have hf3 := hv1.frozen
              go_wp2
              exact ⟨KeepsOthers.from (W := W) ⟨hk2.1, hk2.2⟩ _, ⟨⟨hkb.1.os, hkb.1.tape, hkb.1.output, hkb.1.size, hkb.1.block⟩, hkb.2.1, hkb.2.2⟩, hI3⟩
            exact AllReady.nil
          exact AllReady.nil
        exact AllReady.nil
      refine AllReady.cons rfl (fun K hK => ?_) ?_
      · go_simp
        refine hK _ _ ?_; clear hK K
        refine wpAny_ready (rs := [1, 4]) (by kernel_rfl) (by simp) ?_
        refine AllReady.cons rfl (fun K hK => ?_) ?_
        · go_simp
          refine hK _ _ ?_; clear hK K
          refine wpAny_ready (rs := [4]) (by kernel_rfl) (by simp) ?_
          refine AllReady.cons rfl (fun K hK => ?_) ?_
          · go_simp
            refine hK _ _ ?_; clear hK K
            refine wpAny_take (i := 8) (v := ?_) rfl (by kernel_rfl) (by kernel_rfl) (by kernel_rfl) (fun _ _ _ h => h) (Or.inl ⟨by rfl, ?_⟩) ?_
            rotate_left
            · intro w; go_simp; first | done | (with_reducible rfl)
            refine wpAny_ready (rs := [9]) (by kernel_rfl) (by simp) ?_
            refine AllReady.cons rfl (fun K hK => ?_) ?_
            · go_simp
              refine hK _ _ ?_; clear hK K
              refine any_seq 10 3 rfl (by kernel_rfl) ?_
              simp only [List.drop_succ_cons, List.drop_zero]
              change wpList _ _ _ _ _ (W.drew.alloc (.cells #[.int .i64 s.1, .int .i64 s.2] 43))
              refine step_app_stop (t := ts) (y := s) HR.out hsz HPL.out rfl _ _ rfl rfl rfl ?_
              intro Px kx w3 hown3 hg3
              obtain ⟨hv1, hk2, hkb, hI3⟩ := hM.out _ _ _ hown3 hg3
              have hc3 := hv1.cell
              have hf3 := hv1.frozen
              go_wp2
              exact ⟨KeepsOthers.from (W := W) ⟨hk2.1, hk2.2⟩ _, ⟨⟨hkb.1.os, hkb.1.tape, hkb.1.output, hkb.1.size, hkb.1.block⟩, hkb.2.1, hkb.2.2⟩, hI3⟩
            exact AllReady.nil
          exact AllReady.nil
        refine AllReady.cons rfl (fun K hK => ?_) ?_
        · go_simp
          refine hK _ _ ?_; clear hK K
          refine wpAny_take (i := 8) (v := ?_) rfl (by kernel_rfl) (by kernel_rfl) (by kernel_rfl) (fun _ _ _ h => h) (Or.inl ⟨by rfl, ?_⟩) ?_
          rotate_left
          · intro w; go_simp; first | done | (with_reducible rfl)
          refine wpAny_ready (rs := [1, 9]) (by kernel_rfl) (by simp) ?_
          refine AllReady.cons rfl (fun K hK => ?_) ?_
          · go_simp
            refine hK _ _ ?_; clear hK K
            refine wpAny_ready (rs := [9]) (by kernel_rfl) (by simp) ?_
            refine AllReady.cons rfl (fun K hK => ?_) ?_
            · go_simp
              refine hK _ _ ?_; clear hK K
              refine any_seq 10 3 rfl (by kernel_rfl) ?_
              simp only [List.drop_succ_cons, List.drop_zero]
              change wpList _ _ _ _ _ (W.drew.alloc (.cells #[.int .i64 s.1, .int .i64 s.2] 43))
              refine step_app_stop (t := ts) (y := s) HR.out hsz HPL.out rfl _ _ rfl rfl rfl ?_
              intro Px kx w3 hown3 hg3
              obtain ⟨hv1, hk2, hkb, hI3⟩ := hM.out _ _ _ hown3 hg3
              have hc3 := hv1.cell
              have hf3 := hv1.frozen
              go_wp2
              exact ⟨KeepsOthers.from (W := W) ⟨hk2.1, hk2.2⟩ _, ⟨⟨hkb.1.os, hkb.1.tape, hkb.1.output, hkb.1.size, hkb.1.block⟩, hkb.2.1, hkb.2.2⟩, hI3⟩
            exact AllReady.nil
          refine AllReady.cons rfl (fun K hK => ?_) ?_
          · go_simp
            refine hK _ _ ?_; clear hK K
            refine wpAny_ready (rs := [1]) (by kernel_rfl) (by simp) ?_
            refine AllReady.cons rfl (fun K hK => ?_) ?_
            · go_simp
              refine hK _ _ ?_; clear hK K
              refine any_seq 10 3 rfl (by kernel_rfl) ?_
              simp only [List.drop_succ_cons, List.drop_zero]
              change wpList _ _ _ _ _ (W.drew.alloc (.cells #[.int .i64 s.1, .int .i64 s.2] 43))
              refine step_app_stop (t := ts) (y := s) HR.out hsz HPL.out rfl _ _ rfl rfl rfl ?_
              intro Px kx w3 hown3 hg3
              obtain ⟨hv1, hk2, hkb, hI3⟩ := hM.out _ _ _ hown3 hg3
              have hc3 := hv1.cell
              have hf3 := hv1.frozen
              go_wp2
              exact ⟨KeepsOthers.from (W := W) ⟨hk2.1, hk2.2⟩ _, ⟨⟨hkb.1.os, hkb.1.tape, hkb.1.output, hkb.1.size, hkb.1.block⟩, hkb.2.1, hkb.2.2⟩, hI3⟩
            exact AllReady.nil
          exact AllReady.nil
        exact AllReady.nil
      exact AllReady.nil
    case done =>
      rintro D W hD hI hK
      obtain ⟨v, hv, hrow⟩ := hI.row
      rw [List.length_range, List.take_length] at hrow
      obtain ⟨Pv, kv, rfl, _⟩ := OwnStops.len hrow
      have v0 := hv.cell
      have hw1W : Below w1.heap.size w1 W := hI.only.to_below (Nat.le_refl _) (by simp)
      have HT1 := HB1.out
      have kt := box_below (box_below HK0.out HT1) hw1W
      have t0 := kt.cell
      have tf := kt.frozen
      have hlw : w.heap.size < W0.heap.size := HK0.out.lt
      have hl1 : W0.heap.size ≤ w1.heap.size := HT1.size
      have q1 := kt.set (.slice Pv t.length kv)
      have hO2 : OwnStops w1.heap.size (W.setCell ⟨w.heap.size, 0, none⟩ (.slice Pv t.length kv)) (.slice Pv t.length kv) t := hrow.far (by show w.heap.size < w1.heap.size; omega) _
      have hB2 : Below w.heap.size w (W.setCell ⟨w.heap.size, 0, none⟩ (.slice Pv t.length kv)) := (HB0.out.trans ((HT1.trans (hw1W.mono hl1)).mono HB0.out.size)).setCell (p := ⟨w.heap.size, 0, none⟩) (Nat.le_refl _) _
      have hK' := (KeepsOthers.setCell W ⟨w.heap.size, 0, none⟩ (.slice Pv t.length kv)).same D _ hK rfl
      clear HSQ hI0
      gi_wp2
      generalize W.setCell ⟨w.heap.size, 0, none⟩ (.slice Pv t.length kv) = W2 at q1 hO2 hB2 hK' ⊢
      have hr := Rest.putObj (Cs := []) (B := w.heap.size) (.deferred none) (by omega) hK' rfl
      refine ⟨by simp, .inl ⟨_, _, rfl, run_takeDeferred hK', ?_⟩⟩
      have d1 := (box_rest q1 hr (by simp)).cell
      refine ⟨.tuple #[.agg #[.slice Pv t.length kv], .bool true], ?_, _, rfl, OwnStops.down (base' := w.heap.size) (own_same hO2 (.of_rest hr) (by simp)) (by omega), ((Only.of_below (F := []) hB2).rest hr (by simp) (Nat.le_refl _)).to_below (Nat.le_refl _) (by simp)⟩
      simp [results, Tryd.f51, go_sem, d1]
    case stop =>
      rintro D c pre W hD hpre hX hK
      exact hX.elim
end Go.Proofs.YtedkhdnfbdojcaaDoor
end
section
/- A plan's text, off the code's Parse, where it is one that Print makes. -/
namespace Go.Proofs.YtedkhdnfbdojcaaDoor
open Go.RowKit
set_option linter.unusedVariables false
set_option maxRecDepth 20000
theorem own_only {w w' : World} {F : List Nat} {base size n : Nat} {t : TypeId} {v : Value} {xs : List Value} (h : w.ownsRow base t size v n xs) (ho : Only F w w') (hF : ∀ x ∈ F, x < base) : w'.ownsRow base t size v n xs := by
  refine ⟨h.1, ?_⟩
  rcases h.2 with h0 | ⟨g, cap, cur, hv, hg, hh, r⟩
  · exact .inl h0
  · exact .inr ⟨g, cap, cur, hv, hg, (ho.block g (Array.getElem?_eq_some_iff.1 hh).1 (fun hm => by have := hF g hm; omega)).trans hh, r⟩
theorem OwnDays.only {w w' : World} {F : List Nat} {base : Nat} {v : Value} {p : PlanD} (h : OwnDays base w v p) (ho : Only F w w') (hF : ∀ x ∈ F, x < base) : OwnDays base w' v p := by
  obtain ⟨us, h1, h2⟩ := h
  refine ⟨us, own_only h1 ho hF, h2.mono fun d u hu => ?_⟩
  obtain ⟨vs, k1, k2⟩ := hu
  exact ⟨vs, own_only k1 ho hF, k2.mono fun t x hx => own_only hx ho hF⟩
theorem box_only {w w' : World} {F : List Nat} {g : Nat} {t : TypeId} {v : Value} (h : Boxed w g t v) (ho : Only F w w') (hg : g ∉ F) : Boxed w' g t v := (ho.block g h.lt hg).trans h
theorem only_store {F : List Nat} {w W : World} {p : Addr} (h : Only F w W) (hp : w.heap.size ≤ p.block) (v : Value) : Only F w (W.setCell p v) :=
  h.trans ((Only.refl [p.block] W).setCell (p := p) (by simp) v) fun x hx => .inr (by simp at hx; subst hx; exact hp)
theorem only_low {w W U : World} {R : Nat} (h : Only [R] w W) (hU : Below U.heap.size U w) (hR : U.heap.size ≤ R) : Below U.heap.size U W :=
  hU.trans (h.to_below hU.size (fun x hx => by simp at hx; omega))
theorem cut_any (R g o n L C : Nat) (w : World) (hb : Boxed w R 63 (.slice (some ⟨g, o, none⟩) L C)) (hn : n ≤ L) (hL : L ≤ C) (hC : C ≤ maxLen) :
    Calls Tryd.prog 49 #[.pointer (some ⟨R, 0, none⟩), .int .i64 n] w fun e w' => e = .returned (.tuple #[.slice (some ⟨g, o, none⟩) n n, .bool true]) ∧ ∃ o', (0 < L - n → o' = o + n) ∧ Boxed w' R 63 (.slice (some ⟨g, o', none⟩) (L - n) (C - n)) ∧ Only [R] w w' := by
  refine (cut_code R g o n L C w hb hn hL hC).mono ?_
  rintro e w' ⟨rfl, o', ho, rfl⟩
  exact ⟨rfl, o', ho, hb.set _, (Only.refl [R] w).setCell (p := ⟨R, 0, none⟩) (by simp) _⟩
theorem count_any (U : World) (R g o L C : Nat) (w : World) (head : List UInt8) (H : ByteArray) (hH : H = strL head) (z : Int) (hb : Boxed w R 63 (.slice (some ⟨g, o, none⟩) L C)) (hL0 : 0 < L) (hL : L ≤ C) (hC : C ≤ maxLen)
    (hl : LineAt U g o [head, decI z]) (hU : Below U.heap.size U w) (hR : U.heap.size ≤ R) (h0 : 0 ≤ z) (h1 : z ≤ 1000000000000000000) :
    Calls Tryd.prog 33 #[.pointer (some ⟨R, 0, none⟩), .string H] w fun e w' => e = .returned (.tuple #[.int .i64 z, .bool true]) ∧ ∃ o', (0 < L - 1 → o' = o + 1) ∧ Boxed w' R 63 (.slice (some ⟨g, o', none⟩) (L - 1) (C - 1)) ∧ Only [R] w w' := by
  refine (count_code U R g o L C w head H hH z hb hL0 hL hC hl hU hR h0 h1).mono ?_
  rintro e w' ⟨rfl, o', ho, rfl⟩
  exact ⟨rfl, o', ho, hb.set _, (Only.refl [R] w).setCell (p := ⟨R, 0, none⟩) (by simp) _⟩
section
variable {ops : Array Oper} {rest : List Oper} {o : Oper} {a : Act} {Q : Exit → Act → World → Prop} {W0 : World} {B : Nat} {v u : Value}
theorem wpList_app_tourG {d : DayD} {t : TourD} (G : Nat) (hG : W0.heap.size = G) (hown : OwnTours B W0 v d) (ht : OwnStops B W0 u t) (hB : B ≤ W0.heap.size) (hm : d.length < 1048576) (hgd : o.guard = none) (s x : Operand)
    (ho : o.op = .call { callee := .builtin .append, args := #[s, x], argTypes := #[36, 36] }) (hs : a.eval s = v) (hx : a.eval x = .slice (some ⟨G, 0, none⟩) 1 1)
    (h : ∀ P k w', OwnTours B w' (.slice P (d.length + 1) k) (d ++ [t]) → Below B W0 w' → wpList Tryd.prog ops Q rest (a.put o.dst (.slice P (d.length + 1) k)) w') :
    wpList Tryd.prog ops Q (o :: rest) a (W0.alloc (.cells #[u] 41)) := by
  subst hG
  exact wpList_app_tour hown ht hB hm hgd s x ho hs hx h
theorem wpList_app_dayG {p : PlanD} {d : DayD} (G : Nat) (hG : W0.heap.size = G) (hown : OwnDays B W0 v p) (ht : OwnTours B W0 u d) (hB : B ≤ W0.heap.size) (hm : p.length < 1048576) (hgd : o.guard = none) (s x : Operand)
    (ho : o.op = .call { callee := .builtin .append, args := #[s, x], argTypes := #[22, 22] }) (hs : a.eval s = v) (hx : a.eval x = .slice (some ⟨G, 0, none⟩) 1 1)
    (h : ∀ P k w', OwnDays B w' (.slice P (p.length + 1) k) (p ++ [d]) → Below B W0 w' → wpList Tryd.prog ops Q rest (a.put o.dst (.slice P (p.length + 1) k)) w') :
    wpList Tryd.prog ops Q (o :: rest) a (W0.alloc (.cells #[u] 38)) := by
  subst hG
  exact wpList_app_day hown ht hB hm hgd s x ho hs hx h
end
set_option maxHeartbeats 8000000 in
theorem dayR_code (U : World) (R g o L C : Nat) (w : World) (d : DayD) (hb : Boxed w R 63 (.slice (some ⟨g, o, none⟩) L C)) (hL : 1 + d.length ≤ L) (hLC : L ≤ C) (hC : C ≤ maxLen)
    (hl0 : LineAt U g o [wDay, decI d.length]) (hlm : ∀ m (hm : m < d.length), LineAt U g (o + (1 + m)) (tourW d[m])) (hU : Below U.heap.size U w) (hR : U.heap.size ≤ R) (hok : okD d = true) (hn : d.length ≤ 100) (ht : ∀ t ∈ d, t.length ≤ 100) :
    Calls Tryd.prog 34 #[.pointer (some ⟨R, 0, none⟩)] w fun e w' => ∃ v o', e = .returned (.tuple #[.agg #[v], .bool true]) ∧ OwnTours w.heap.size w' v d ∧ (0 < L - 1 - d.length → o' = o + 1 + d.length) ∧ Boxed w' R 63 (.slice (some ⟨g, o', none⟩) (L - 1 - d.length) (C - 1 - d.length)) ∧ Only [R] w w' := by
  have hRw := hb.lt
  have K0 := Boxed.new w 38 (.slice none 0 0)
  have CC := count_any U R g o L C (w.alloc (.cells #[.slice none 0 0] 38)) wDay ⟨#[100, 97, 121]⟩ rfl d.length (hb.alloc _) (by omega) hLC hC hl0 (hU.alloc hU.size _) hR (by omega) (by omega)
  have HK0 := Go.Lib.hid K0
  have HLM := Go.Lib.hid hlm
  have HOK := Go.Lib.hid hok
  have HTL := Go.Lib.hid ht
  have HCM := Go.Lib.hid hC
  have HU0 := Go.Lib.hid hU
  have HO0 := Go.Lib.hid ((Only.refl [R] w).alloc (.cells #[.slice none 0 0] 38))
  have HRN : Hid (w.heap.size ∉ [R]) := by show _ ∉ _; simp; omega
  clear hb hl0 hlm hU hok ht hC K0
  go_enter Tryd.func34, Tryd.ntmps34
  go_wp2_with (first
    | (go_at_call 33; refine CC.mono ?_; rintro e w1 ⟨rfl, o1, ho1, hb1, hoo1⟩; have HB1 := Go.Lib.hid hb1; have HO1 := Go.Lib.hid ho1; have HN1 := Go.Lib.hid (HO0.out.trans' hoo1); have HK1 := Go.Lib.hid (box_only HK0.out hoo1 HRN.out); clear ho1 hb1 hoo1)
    | (go_at_call 49; refine (cut_any R g o1 d.length (L - 1) (C - 1) _ HB1.out (by omega) (by omega) (by have := HCM.out; omega)).mono ?_; rintro e W2 ⟨rfl, o2, ho2, hb2, hoo2⟩; have HB2 := Go.Lib.hid hb2; have HO2 := Go.Lib.hid ho2; have HN2 := Go.Lib.hid (HN1.out.trans' hoo2); have HKa := Go.Lib.hid (box_only HK1.out hoo2 HRN.out); clear ho2 hb2 hoo2))
  have HUa := Go.Lib.hid (only_low HN2.out HU0.out hR)
  have hsw : w.heap.size < W2.heap.size := HKa.out.lt
  have HB8 : Hid (Boxed (W2.alloc (.cells #[.slice none 0 0] 38)) W2.heap.size 38 (.slice none 0 0)) := Boxed.new W2 _ _
  have HBq := Go.Lib.hid (below_alloc W2 (.cells #[.slice none 0 0] 38))
  clear HK0 HB1 HO0 CC HN1 HK1 HU0
  go_loopw [33] (fun iv wr => ∃ (m : Nat) (v : Value), m ≤ d.length ∧ iv = .int .i64 m ∧ Boxed wr W2.heap.size 38 v ∧ OwnTours (W2.heap.size + 1) wr v (d.take m) ∧ Below W2.heap.size W2 wr) (fun iv _ => d.length - (intOf iv).toNat)
  case atStart => exact ⟨0, _, Nat.zero_le _, rfl, HB8.out, OwnTours.nil _ _, HBq.out⟩
  case round =>
    clear HB8 HBq
    obtain ⟨m, v, hm, rfl, hbx, how, hlo⟩ := hrel
    obtain ⟨Pv, kv, rfl, _⟩ := OwnTours.len how
    have HBX := Go.Lib.hid hbx
    have HOW := Go.Lib.hid how
    have HLO := Go.Lib.hid hlo
    have HUr := Go.Lib.hid (HUa.out.trans (hlo.mono HUa.out.size))
    clear hbx how hlo
    have hsz2 := HBX.out.lt
    by_cases hlt : m < d.length
    · have ho1 : o1 = o + 1 := HO1.out (by omega)
      obtain ⟨P, k, hc, hk, hkm, hw⟩ := (HLM.out m hlt).keep HUr.out
      have HN : Hid ((d.take (m + 1)) = d.take m ++ [d[m]]) := List.take_succ_eq_append_getElem hlt
      have hot := List.all_eq_true.1 HOK.out _ (List.getElem_mem hlt)
      have htn := HTL.out _ (List.getElem_mem hlt)
      have hml : (d.take m).length < 1048576 := by rw [List.length_take]; omega
      obtain ⟨t, ht⟩ : ∃ t, t = d[m] := ⟨_, rfl⟩
      rw [← ht] at hc hk hw hot htn HN
      rw [tourW_len] at hc hk
      obtain ⟨bl, of, rfl, _⟩ := hw.at (by rw [tourW_len]; omega)
      rw [show o + (1 + m) = o1 + m by omega] at hc
      have CT := tour_code t bl of k wr hw hk hkm hot htn
      obtain ⟨ds, hds⟩ : ∃ l, l = d.take m := ⟨_, rfl⟩
      rw [← hds] at HOW hml HN HBX
      have HML := Go.Lib.hid hml
      clear ho1 hk hkm hw hot htn ht hds hml
      go_wp2_with (first
        | (go_at_call 51; refine CT.mono ?_; rintro e w5 ⟨v5, rfl, hown5, hb5⟩; obtain ⟨P5, k5, rfl, _⟩ := OwnStops.len hown5; have hba := below_alloc w5 (.cells #[.slice P5 t.length k5] 41); have HS5 := Go.Lib.hid (hown5.keep hba); have HOW5 := Go.Lib.hid ((HOW.out.keep hb5).keep hba); have HX5 := Go.Lib.hid (box_below (box_below HBX.out hb5) hba); have x5 := cell_keep HX5.out.cell (below_alloc _ (.cells #[.slice P5 t.length k5] 41)); have hx5 := HX5.out.cell; have HLO5 := Go.Lib.hid (HLO.out.trans ((hb5.trans (hba.mono hb5.size)).mono HLO.out.size)); have hz5 : W2.heap.size + 1 ≤ (w5.alloc (.cells #[.slice P5 t.length k5] 41)).heap.size := HX5.out.lt; clear hown5 hb5 hba)
        | (at_builtin; refine wpList_app_tourG _ (World.size_alloc ..) HOW5.out (OwnStops.down HS5.out (by omega)) hz5 HML.out rfl _ _ rfl rfl rfl ?_; intro Px kx w6 hown6 hb6; have HO6 := Go.Lib.hid hown6; have HB6 := Go.Lib.hid hb6; have g6 := (hb6.block _ (Nat.lt_succ_self _)).trans HX5.out; have HG6 : Hid (Boxed w6 W2.heap.size 38 _) := Go.Lib.hid g6; have g6c := HG6.out.cell; have g6f := HG6.out.frozen; clear hown6 hb6 g6))
      exact ⟨⟨m + 1, _, by omega, by go_num, HG6.out.set _, by rw [HN.out]; exact HO6.out.far (Nat.lt_succ_self _) _, (HLO5.out.trans (HB6.out.mono (by omega))).setCell (Nat.le_refl _) _⟩, by simp [intOf]; omega⟩
    · obtain rfl : m = d.length := by omega
      rw [List.take_length] at HBX HOW
      have HRw := Go.Lib.hid (box_below HKa.out HLO.out)
      have HBw := Go.Lib.hid (box_below HB2.out HLO.out)
      have HNw := Go.Lib.hid (HN2.out.trans' (Only.of_below (F := [R]) HLO.out))
      have bx := HBX.out.cell
      have rx := HRw.out.cell
      have rf := HRw.out.frozen
      go_wp2
      have q0 := (HRw.out.set (.slice Pv d.length kv)).cell
      refine bodyPost_ret (v := .tuple #[.agg #[.slice Pv d.length kv], .bool true]) (by simp [results, Tryd.results34, go_sem, q0]) rfl ⟨_, o2, rfl, ?_, fun h => ?_, HBw.out.other (by omega) _, only_store HNw.out (Nat.le_refl _) _⟩
      · have := OwnTours.far HOW.out (a := ⟨w.heap.size, 0, none⟩) (by show w.heap.size < W2.heap.size + 1; omega) (.slice Pv d.length kv)
        exact this.down (by omega)
      · rw [HO2.out h, HO1.out (by omega)]
end Go.Proofs.YtedkhdnfbdojcaaDoor
end
section
/- A plan's lines, off the code's plan, where they are those of a plan. -/
namespace Go.Proofs.YtedkhdnfbdojcaaDoor
open Go.RowKit
set_option linter.unusedVariables false
set_option maxRecDepth 20000
theorem only_then {F : List Nat} {w W W' : World} (h : Only F w W) (hb : Below w.heap.size W W') : Only F w W' :=
  ⟨hb.os.trans h.os, hb.tape.trans h.tape, hb.output.trans h.output, Nat.le_trans h.size hb.size, fun k hk hn => (hb.block k hk).trans (h.block k hk hn)⟩
theorem daysN_le (p : PlanD) (j : Nat) : daysN (p.take j) ≤ daysN p := by
  unfold daysN
  conv => rhs; rw [← List.take_append_drop j p, List.map_append, List.sum_append]
  omega
set_option maxHeartbeats 8000000 in
theorem planR_code (U : World) (R g C : Nat) (w : World) (p : PlanD) (hb : Boxed w R 63 (.slice (some ⟨g, 0, none⟩) (1 + daysN p) C)) (hLC : 1 + daysN p ≤ C) (hC : C ≤ maxLen)
    (hl : ∀ (i : Nat) (l : List (List UInt8)), (planW p)[i]? = some l → LineAt U g i l) (hU : Below U.heap.size U w) (hR : U.heap.size ≤ R) (hok : okPl p = true) (hf : FewB p) :
    Calls Tryd.prog 20 #[.pointer (some ⟨R, 0, none⟩)] w fun e w' => ∃ v o', e = .returned (.tuple #[.agg #[v], .bool true]) ∧ OwnDays w.heap.size w' v p ∧ Boxed w' R 63 (.slice (some ⟨g, o', none⟩) 0 (C - 1 - daysN p)) ∧ Only [R] w w' := by
  have hRw := hb.lt
  have hpn := hf.n
  have K0 := Boxed.new w 24 (.slice none 0 0)
  have CC := count_any U R g 0 (1 + daysN p) C (w.alloc (.cells #[.slice none 0 0] 24)) wPlan ⟨#[112, 108, 97, 110]⟩ rfl p.length (hb.alloc _) (by omega) hLC hC (hl 0 _ rfl) (hU.alloc hU.size _) hR (by omega) (by omega)
  have HK0 := Go.Lib.hid K0
  have HL := Go.Lib.hid hl
  have HOK := Go.Lib.hid hok
  have HF := Go.Lib.hid hf
  have HCM := Go.Lib.hid hC
  have HLC := Go.Lib.hid hLC
  have HU0 := Go.Lib.hid hU
  have HO0 := Go.Lib.hid ((Only.refl [R] w).alloc (.cells #[.slice none 0 0] 24))
  have HRN : Hid (w.heap.size ∉ [R]) := by show _ ∉ _; simp; omega
  clear hb hl hU hok hf hC K0 hLC
  go_enter Tryd.func20, Tryd.ntmps20
  go_wp2_with (go_at_call 33; refine CC.mono ?_; rintro e w1 ⟨rfl, o1, ho1, hb1, hoo1⟩; have HB1 := Go.Lib.hid hb1; have HO1 := Go.Lib.hid ho1; have HN1 := Go.Lib.hid (HO0.out.trans' hoo1); have HK1 := Go.Lib.hid (box_only HK0.out hoo1 HRN.out); clear ho1 hb1 hoo1)
  have HUa := Go.Lib.hid (only_low HN1.out HU0.out hR)
  have hsw : w.heap.size < w1.heap.size := HK1.out.lt
  have HB8 : Hid (Boxed (w1.alloc (.cells #[.slice none 0 0] 24)) w1.heap.size 24 (.slice none 0 0)) := Boxed.new w1 _ _
  have HBa := Go.Lib.hid (HB1.out.alloc (.cells #[.slice none 0 0] 24))
  have HBq := Go.Lib.hid ((Only.refl [R] w1).alloc (.cells #[.slice none 0 0] 24))
  have HRM : Hid (w1.heap.size ∉ [R]) := by show _ ∉ _; simp; omega
  clear HK0 HB1 HO0 CC HU0
  go_loopw [18] (fun iv wr => ∃ (j : Nat) (v : Value) (o' : Nat), j ≤ p.length ∧ iv = .int .i64 j ∧ Boxed wr w1.heap.size 24 v ∧ OwnDays (w1.heap.size + 1) wr v (p.take j) ∧ Boxed wr R 63 (.slice (some ⟨g, o', none⟩) (daysN p - daysN (p.take j)) (C - 1 - daysN (p.take j))) ∧ (0 < daysN p - daysN (p.take j) → o' = 1 + daysN (p.take j)) ∧ Only [R] w1 wr) (fun iv _ => p.length - (intOf iv).toNat)
  case atStart => exact ⟨0, _, o1, Nat.zero_le _, rfl, HB8.out, OwnDays.nil _ _, by simpa [daysN] using HBa.out, fun h => by have := HO1.out (by simp [daysN] at h ⊢; omega); simp [daysN]; omega, HBq.out⟩
  case round =>
    clear HB8 HBq HBa
    obtain ⟨j, v, o2, hj, rfl, hbx, how, hbr, ho2, hoo⟩ := hrel
    obtain ⟨Pv, kv, rfl, _⟩ := OwnDays.len how
    have HBX := Go.Lib.hid hbx
    have HOW := Go.Lib.hid how
    have HBR := Go.Lib.hid hbr
    have HO2 := Go.Lib.hid ho2
    have HOO := Go.Lib.hid hoo
    have HUr := Go.Lib.hid (only_low hoo HUa.out hR)
    clear hbx how hbr ho2 hoo
    have hsz2 := HBX.out.lt
    by_cases hlt : j < p.length
    · have hsu := daysN_succ hlt
      have hle := daysN_le p (j + 1)
      have ho : o2 = 1 + daysN (p.take j) := HO2.out (by omega)
      have hlc := HLC.out
      have CD := dayR_code U R g o2 (daysN p - daysN (p.take j)) (C - 1 - daysN (p.take j)) wr p[j] HBR.out (by omega) (by omega) (by have := HCM.out; omega)
        (by rw [ho]; exact HL.out _ _ (planW_head hlt)) (fun m hm => by rw [ho]; exact HL.out _ _ (planW_tour hlt hm)) HUr.out hR (List.all_eq_true.1 HOK.out _ (List.getElem_mem hlt)) (HF.out.day _ (List.getElem_mem hlt)) (HF.out.tour _ (List.getElem_mem hlt))
      have HN : Hid ((p.take (j + 1)) = p.take j ++ [p[j]]) := List.take_succ_eq_append_getElem hlt
      have hml : (p.take j).length < 1048576 := by rw [List.length_take]; omega
      have HSU : Hid (daysN (p.take (j + 1)) = daysN (p.take j) + (1 + p[j].length)) := hsu
      have hu : daysN p - daysN (p.take j) - 1 - p[j].length = daysN p - daysN (p.take (j + 1)) := by omega
      have hu2 : C - 1 - daysN (p.take j) - 1 - p[j].length = C - 1 - daysN (p.take (j + 1)) := by omega
      have hu3 : o2 + 1 + p[j].length = 1 + daysN (p.take (j + 1)) := by omega
      rw [hu, hu2, hu3] at CD
      obtain ⟨d, hd⟩ : ∃ d, d = p[j] := ⟨_, rfl⟩
      rw [← hd] at CD HN HSU
      obtain ⟨ds, hds⟩ : ∃ l, l = p.take j := ⟨_, rfl⟩
      rw [← hds] at HOW hml HN HBX
      have HML := Go.Lib.hid hml
      clear hsu hle ho hlc hd hds hml hu hu2 hu3 HSU HO2 HBR
      go_wp2_with (first
        | (go_at_call 34; refine CD.mono ?_; rintro e w5 ⟨v5, o5, rfl, hown5, ho5, hb5, hoo5⟩; obtain ⟨P5, k5, rfl, _⟩ := OwnTours.len hown5; have hba := below_alloc w5 (.cells #[.slice P5 d.length k5] 38); have HS5 := Go.Lib.hid (hown5.keep hba); have HOW5 := Go.Lib.hid ((HOW.out.only hoo5 (by simp; omega)).keep hba); have HX5 := Go.Lib.hid (box_below (box_only HBX.out hoo5 HRM.out) hba); have HR5 := Go.Lib.hid (box_below hb5 hba); have x5 := cell_keep HX5.out.cell (below_alloc _ (.cells #[.slice P5 d.length k5] 38)); have hx5 := HX5.out.cell; have HOO5 := Go.Lib.hid ((HOO.out.trans' hoo5).trans' (Only.of_below (F := [R]) hba)); have hz5 : w1.heap.size + 1 ≤ (w5.alloc (.cells #[.slice P5 d.length k5] 38)).heap.size := HX5.out.lt; have HO5 := Go.Lib.hid ho5; clear hown5 hb5 hba hoo5 ho5)
        | (at_builtin; refine wpList_app_dayG _ (World.size_alloc ..) HOW5.out (OwnTours.down HS5.out (by omega)) hz5 HML.out rfl _ _ rfl rfl rfl ?_; intro Px kx w6 hown6 hb6; have HO6 := Go.Lib.hid hown6; have HB6 := Go.Lib.hid hb6; have g6 := (hb6.block _ (Nat.lt_succ_self _)).trans HX5.out; have HG6 : Hid (Boxed w6 w1.heap.size 24 _) := Go.Lib.hid g6; have HR6 := Go.Lib.hid ((hb6.block R (by omega)).trans HR5.out); have g6c := HG6.out.cell; have g6f := HG6.out.frozen; clear hown6 hb6 g6))
      exact ⟨⟨j + 1, _, o5, by omega, by go_num, HG6.out.set _, by rw [HN.out]; exact HO6.out.far (Nat.lt_succ_self _) _, Boxed.other HR6.out (by omega) _, HO5.out, only_store (only_then HOO5.out (HB6.out.mono (by omega))) (Nat.le_refl _) _⟩, by simp [intOf]; omega⟩
    · obtain rfl : j = p.length := by omega
      rw [List.take_length] at HBX HOW HBR HO2
      have HRw := Go.Lib.hid (box_only HK1.out HOO.out HRN.out)
      have HNw := Go.Lib.hid (HN1.out.trans' HOO.out)
      have bx := HBX.out.cell
      have rx := HRw.out.cell
      have rf := HRw.out.frozen
      rw [Nat.sub_self] at HBR
      go_wp2
      have q0 := (HRw.out.set (.slice Pv p.length kv)).cell
      refine bodyPost_ret (v := .tuple #[.agg #[.slice Pv p.length kv], .bool true]) (by simp [results, Tryd.results20, go_sem, q0]) rfl ⟨_, o2, rfl, ?_, HBR.out.other (by omega) _, only_store HNw.out (Nat.le_refl _) _⟩
      exact (OwnDays.far HOW.out (a := ⟨w.heap.size, 0, none⟩) (by show w.heap.size < w1.heap.size + 1; omega) (.slice Pv p.length kv)).down (by omega)
end Go.Proofs.YtedkhdnfbdojcaaDoor
end
section
/- What book's Parse answers to a plan's text, off its code. -/
namespace Go.Proofs.YtedkhdnfbdojcaaDoor
open Go.RowKit
set_option linter.unusedVariables false
set_option maxRecDepth 20000
set_option maxHeartbeats 8000000 in
theorem bookParse_yes (p : PlanD) (w : World) (hw : WfP p) (hf : FewB p) (hok : okPl p = true) :
    Calls Tryd.prog 8 #[.string (strL (planT p))] w fun e w' => ∃ v, e = .returned (.tuple #[.agg #[v], .int .i64 0]) ∧ OwnDays w.heap.size w' v p ∧ Below w.heap.size w w' := by
  have hb0 := below_alloc w (.cells #[.slice none 0 0] 24)
  have CL := lines_yes (planT p) (by have := planT_bdB hw hf; omega) (planW p) (plan_lines hok) (w.alloc (.cells #[.slice none 0 0] 24))
  have HB0 := Go.Lib.hid hb0
  have HK0 := Go.Lib.hid (Boxed.new w 24 (.slice none 0 0))
  have CP := fun U R g C w hb h1 h2 hl hU hR => planR_code U R g C w p hb h1 h2 hl hU hR hok hf
  generalize strL (planT p) = S at *
  clear hb0 hok hf hw
  go_enter Tryd.func8, Tryd.ntmps8
  go_wp2_with (first
    | (go_at_call 19; refine CL.mono ?_; rintro e w1 ⟨v, rfl, hlo, hb1⟩; obtain ⟨g, c, rfl, hlc, hcm, hat⟩ := lines_at hlo (by rw [planW_len]; omega); rw [planW_len] at hlc; rw [planW_len]; have hr1 := Boxed.new w1 63 (.slice (some ⟨g, 0, none⟩) (1 + daysN p) c); have hba := below_alloc w1 (.cells #[.slice (some ⟨g, 0, none⟩) (1 + daysN p) c] 63); have CQ := CP w1 w1.heap.size g c _ hr1 hlc hcm hat hba (Nat.le_refl _); have HB1 := Go.Lib.hid ((HB0.out.trans (hb1.mono HB0.out.size)).trans (hba.mono (HB0.out.trans (hb1.mono HB0.out.size)).size)); have HK1 := Go.Lib.hid (box_below (box_below HK0.out hb1) hba); have hl1 : w.heap.size < w1.heap.size := (box_below HK0.out hb1).lt; have hs1 := World.size_alloc w1 (.cells #[.slice (some ⟨g, 0, none⟩) (1 + daysN p) c] 63); clear hlo hat hr1 hb1 hlc hcm hba)
    | (go_at_call 20; refine CQ.mono ?_; rintro e w2 ⟨v2, o2, rfl, hown, hbr, hoo⟩; obtain ⟨P2, k2, rfl, _⟩ := OwnDays.len hown; have hba := below_alloc w2 (.cells #[.slice P2 p.length k2] 24); have HO2 := Go.Lib.hid (hown.keep hba); have hK2 := box_below (box_only HK1.out hoo (by simp; omega)) hba; have HK2 := Go.Lib.hid hK2; have f2 := hK2.frozen; have c2 := hK2.cell; have r2 := (box_below hbr hba).cell; have HB2 := Go.Lib.hid ((HB1.out.trans (hoo.to_below (by omega) (fun x hx => by simp at hx; omega))).trans (hba.mono (by have := hK2.lt; simp at this ⊢; omega))); clear hown hbr hoo hba hK2))
  have q0 := (HK2.out.set (.slice P2 p.length k2)).cell
  refine bodyPost_ret (v := .tuple #[.agg #[.slice P2 p.length k2], .int .i64 0]) (by simp [results, Tryd.results8, go_sem, q0]) rfl ⟨_, rfl, ?_, HB2.out.setCell (Nat.le_refl _) _⟩
  exact (OwnDays.far HO2.out (a := ⟨w.heap.size, 0, none⟩) (by show w.heap.size < _; omega) (.slice P2 p.length k2)).down (by omega)
end Go.Proofs.YtedkhdnfbdojcaaDoor
end
