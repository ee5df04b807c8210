import Derived.Test.YtedkhdnfbdojcaaDoorK05
import Derived.Shelf.Abstract
import Derived.Shelf.RegionOpen
import Derived.OwnWalkIn
import Derived.TacticsInMore
import Derived.LoopNIn
import Derived.LoopIn
import Derived.Maps.AppendAt
section
/- What text.each answers, off its code: D. -/
namespace Go.Proofs.YtedkhdnfbdojcaaDoor
open Go.RowKit Go.Shelf
set_option linter.unusedVariables false
attribute [local go_sem] Oper.semAt_some

theorem infoD : (Tryd.prog.info? 9).map (fun i => (i.zero, i.size, i.bytes)) = some (some (.string ByteArray.empty), 1, 16) := by kernel_rfl
set_option maxRecDepth 100000 in
set_option maxHeartbeats 4000000 in
theorem eachD (gf : Nat) (lb : Array Value) (Cs : List Nat) (xs : List Int) (ok : Int → Bool) (R : World → Int → Value → Prop) (tR : TypeId) (w : World)
    (hxs : xs.length ≤ 2000000000) (eg : ∀ args w, (callFunc gf args).run Tryd.prog w = .ok (.enter gf args) w)
    (hseq : SeqC Fence.wide 8 Tryd.prog gf lb (fun x : Int => #[Value.int .i64 x]) Cs w.heap.size xs w) (hC : ∀ c ∈ Cs, c < w.heap.size)
    (made : ∀ x ∈ xs, ∀ W, w.heap.size ≤ W.heap.size → Calls Tryd.prog 40 #[Value.int .i64 x] W fun e W' => ∃ u, e = .returned (.tuple #[u, .bool (ok x)]) ∧ (ok x = true → R W' x u) ∧ Below W.heap.size W W')
    (hsh : ∀ W x u, R W x u → ∃ s, u = .string s) (hR : ∀ W W' x u, R W x u → SameT tR Cs W W' → R W' x u)
    (t1 : tR ≠ 101) (t2 : tR ≠ 48) (t3 : tR ≠ 4) (t4 : tR ≠ 9) :
    Calls Tryd.prog 38 #[.func (.func gf) #[] lb, .func (.func 40) #[] #[]] w fun e W' =>
      ∃ v, e = .returned (.tuple #[v, .bool (xs.all ok)]) ∧ (xs.all ok = true → ∃ us, W'.ownsRow w.heap.size 9 1 v xs.length us ∧ Fit (R W') xs us) ∧ (xs.all ok = false → v = .slice none 0 0) ∧ Only Cs w W' := by
  obtain ⟨i0, hi, hz0, hz1, hz2⟩ := info_parts infoD
  refine (callsIn_wide (n := 9)).1 ?_
  refine callsIn_of_wp_marks Tryd.func38 rfl trivial ?_ rfl
  simp only [Tryd.ntmps38, List.size_toArray, List.length_cons, List.length_nil, Nat.reduceAdd, Nat.reduceSub, Array.replicate_succ, Array.replicate_zero, List.push_toArray, List.append_toArray, List.nil_append, List.cons_append]
  gi_wp2
  have hst := EachI.start (tM := 101) (tL := 48) (tO := 4) (tB := 9) (fm := .func (.func 40) #[] #[]) (ok := ok) (R := R) (w := w) hC
  have hsz : ((((w.alloc (.cells #[.func (.func 40) #[] #[]] 101)).alloc (.cells #[.slice none 0 0] 48)).alloc (.cells #[.bool false] 4)).alloc (.cells #[.slice none 0 0] 48)).heap.size = w.heap.size + 4 := by simp
  have hbel : Below w.heap.size w ((((w.alloc (.cells #[.func (.func 40) #[] #[]] 101)).alloc (.cells #[.slice none 0 0] 48)).alloc (.cells #[.bool false] 4)).alloc (.cells #[.slice none 0 0] 48)) := (((Below.refl _ w).alloc (by simp) _).alloc (by simp) _).alloc (by simp; omega) _ |>.alloc (by simp; omega) _
  generalize ((((w.alloc (.cells #[.func (.func 40) #[] #[]] 101)).alloc (.cells #[.slice none 0 0] 48)).alloc (.cells #[.bool false] 4)).alloc (.cells #[.slice none 0 0] 48)) = w4 at hst hsz hbel ⊢
  have hle : w.heap.size ≤ w4.heap.size := by omega
  refine range_c rfl (by omega) (gf := gf) (lb := lb) rfl trivial eg hseq hbel hle (fun c hc => by have := hC c hc; omega) (fun _ => rfl)
    (EachI 101 48 4 9 (.func (.func 40) #[] #[]) Cs ok R w) (EachX 48 4 Cs ok w) (EachI.stays hC hle hR) (EachX.stays hC hle) hst
    (fun x a' _ => a' = { tmps := #[.func (.func gf) #[] lb, .func (.func 40) #[] #[], undef, .pointer (some ⟨w.heap.size, 0, none⟩), .pointer (some ⟨w.heap.size + 1, 0, none⟩), .pointer (some ⟨w.heap.size + 1 + 1, 0, none⟩), .pointer (some ⟨w.heap.size + 1 + 1 + 1, 0, none⟩), Value.int .i64 x, undef, undef, .func (.func gf) #[] lb, Value.int .i64 x, undef, undef, undef, undef, undef, undef, undef, undef, undef, undef, undef, undef, undef], defers := [] })
    (fun _ _ _ _ _ h _ => h) ?assign ?body ?done ?stop
  case assign =>
    intro l pre x W K hpre hI hK
    gi_wp2
    exact hK _ _ (KeepsFrom.refl _ _) (Below.refl _ _) hI rfl
  case body =>
    rintro l pre x a' W hl hr hpre hI rfl
    have hx : x ∈ xs := by obtain ⟨t, ht⟩ := hpre; rw [← ht]; simp
    have hlen : pre.length + 1 ≤ 2000000000 := by have := hpre.length_le; simp at this; omega
    have hc0 := hI.mb.cell
    have md := made x hx
    clear made hx hpre hseq hbel hst
    cases hok : ok x
    · have md' : Calls Tryd.prog 40 #[Value.int .i64 x] W fun e W' => ∃ u, e = .returned (.tuple #[u, .bool false]) ∧ Below W.heap.size W W' := (md W hI.only.size).mono fun e W' ⟨u, h1, h2, h3⟩ => ⟨u, by rw [h1, hok], h3⟩
      clear md
      gi_wp2_with (refine ⟨trivial, ?_⟩; gi_at_call 40; refine (CallsIn.inRound l (callsIn_wide.2 md')).mono ?_; rintro e w' ⟨u, rfl, hb⟩; have hI2 := hI.below hb hR; have hc1 := hI2.r1.cell; have hf1 := hI2.r1.frozen; have hc2 := hI2.r2.cell; have hf2 := hI2.r2.frozen; have hc3 := (hI2.r2.other (B' := w.heap.size + 1) (by omega) (.slice none 0 0)).cell; have hf3 := (hI2.r2.other (B' := w.heap.size + 1) (by omega) (.slice none 0 0)).frozen)
      obtain ⟨k1, k2⟩ := hI2.bad hok
      exact ⟨((keeps_below hb).trans k1).from _, k2⟩
    · have md' : Calls Tryd.prog 40 #[Value.int .i64 x] W fun e W' => ∃ u, e = .returned (.tuple #[u, .bool true]) ∧ R W' x u ∧ Below W.heap.size W W' := (md W hI.only.size).mono fun e W' ⟨u, h1, h2, h3⟩ => ⟨u, by rw [h1, hok], h2 hok, h3⟩
      clear md
      gi_wp2_with (first
        | (refine ⟨trivial, ?_⟩; gi_at_call 40; refine (CallsIn.inRound l (callsIn_wide.2 md')).mono ?_; rintro e w' ⟨u, rfl, hu, hb⟩; obtain ⟨s, rfl⟩ := hsh _ _ _ hu; have hI2 := hI.below hb hR; obtain ⟨v, us, hv, hrow, hf⟩ := hI2.row; obtain ⟨Av, cv, rfl, _⟩ := own_form hrow; have hcv := hv.cell)
        | (gi_at_builtin; refine wpListIn_append_own _ rfl _ _ 48 rfl w.heap.size 9 i0 (.string ByteArray.empty) 1 16 Tryd.underlying48 hi hz0 hz1 hz2 rfl (by decide) _ _ _ rfl (hrow.alloc _) ⟨w'.heap.size, 0, none⟩ 1 1 [.string s] rfl rfl (cell_one_new _ _ _) (by simp [Value.oneCell']) (by unfold maxLen; omega) (by omega) (by have := hI2.only.size; simp; omega) ?_; intro v' w1 hown' hgrow _; obtain ⟨g', cap', rfl⟩ := ownsRow_succ hown'; obtain ⟨hv1, hk2, hb2, hI3⟩ := hI2.more hR t2 t4 (by decide) (by decide) (by decide) hu hok hv hrow hf hown' hgrow; have hc1 := hv1.cell; have hf1 := hv1.frozen))
      exact ⟨((keeps_below hb).trans hk2).from _, (hb.mono hI.only.size).trans hb2, hI3⟩
  case done =>
    rintro D W hD hI hK
    have hall : xs.all ok = true := List.all_eq_true.2 hI.good
    obtain ⟨v, us, hv, hrow, hf⟩ := hI.row
    obtain ⟨Av, cv, rfl, _⟩ := own_form hrow
    have hcv := hv.cell
    have hc1 := hI.r1.cell
    have hf1 := hI.r1.frozen
    have q1 := hI.r1.set (.slice Av xs.length cv)
    have q2 := hI.r2.other (B' := w.heap.size + 1) (by omega) (.slice Av xs.length cv)
    have hc2 := q2.cell
    have hf2 := q2.frozen
    gi_wp2
    have q1' := q1.other (B' := w.heap.size + 1 + 1) (by omega) (.bool true)
    have q2' := q2.set (.bool true)
    have hK' := ((KeepsOthers.setCell W ⟨w.heap.size + 1, 0, none⟩ (.slice Av xs.length cv)).trans (KeepsOthers.setCell _ ⟨w.heap.size + 1 + 1, 0, none⟩ (.bool true))).same D _ hK rfl
    have br : Below w.heap.size W ((W.setCell ⟨w.heap.size + 1, 0, none⟩ (.slice Av xs.length cv)).setCell ⟨w.heap.size + 1 + 1, 0, none⟩ (.bool true)) := ((Below.refl _ _).setCell (p := ⟨w.heap.size + 1, 0, none⟩) (by simp) _).setCell (p := ⟨w.heap.size + 1 + 1, 0, none⟩) (by simp; omega) _
    have sr : SameT tR Cs W ((W.setCell ⟨w.heap.size + 1, 0, none⟩ (.slice Av xs.length cv)).setCell ⟨w.heap.size + 1 + 1, 0, none⟩ (.bool true)) := (SameT.box hI.r1 t2 _).trans (SameT.box q2 t3 _)
    have sb : SameT 9 Cs W ((W.setCell ⟨w.heap.size + 1, 0, none⟩ (.slice Av xs.length cv)).setCell ⟨w.heap.size + 1 + 1, 0, none⟩ (.bool true)) := (SameT.box hI.r1 (by decide) _).trans (SameT.box q2 (by decide) _)
    generalize ((W.setCell ⟨w.heap.size + 1, 0, none⟩ (.slice Av xs.length cv)).setCell ⟨w.heap.size + 1 + 1, 0, none⟩ (.bool true)) = W2 at q1' q2' hK' br sr sb ⊢
    have hr := Rest.putObj (Cs := Cs) (B := w.heap.size) (.deferred none) (by omega) hK' rfl
    refine ⟨by simp, .inl ⟨_, _, rfl, run_takeDeferred hK', ?_⟩⟩
    have d1 := (box_rest q1' hr (fun hm => by have := hC _ hm; omega)).cell
    have d2 := (box_rest q2' hr (fun hm => by have := hC _ hm; omega)).cell
    have on : Only Cs w W2 := ⟨br.os.trans hI.only.os, br.tape.trans hI.only.tape, br.output.trans hI.only.output, Nat.le_trans hI.only.size br.size, fun k hk hn => (br.block k hk).trans (hI.only.block k hk hn)⟩
    refine ⟨.tuple #[.slice Av xs.length cv, .bool true], ?_, _, by rw [hall], fun _ => ⟨us, own_same hrow (sb.trans (.of_rest hr)) hC, hf.mono fun x u hx => hR _ _ _ _ hx (sr.trans (.of_rest hr))⟩, (fun h => absurd (hall.symm.trans h) (by decide)), on.rest hr (fun c hc => .inl hc) (Nat.le_refl _)⟩
    simp [results, Tryd.f38, go_sem, d1, d2]
  case stop =>
    rintro D c pre W hD hpre hX hK
    obtain rfl := hX.ret
    gi_wp2
    have hr := Rest.putObj (Cs := Cs) (B := w.heap.size) (.deferred none) (by omega) hK rfl
    refine ⟨by simp, .inl ⟨_, _, rfl, run_takeDeferred hK, ?_⟩⟩
    have d1 := (box_rest hX.r1 hr (fun hm => by have := hC _ hm; omega)).cell
    have d2 := (box_rest hX.r2 hr (fun hm => by have := hC _ hm; omega)).cell
    have hall : xs.all ok = false := by
      obtain ⟨x, hx, hxo⟩ := hX.bad
      obtain ⟨t, ht⟩ := hpre
      exact List.all_eq_false.2 ⟨x, by rw [← ht]; exact List.mem_append_left _ hx, by rw [hxo]; decide⟩
    refine ⟨.tuple #[.slice none 0 0, .bool false], ?_, _, by rw [hall], (fun h => absurd (hall.symm.trans h) (by decide)), fun _ => rfl, hX.only.rest hr (fun c hc => .inl hc) (Nat.le_refl _)⟩
    simp [results, Tryd.f38, go_sem, d1, d2]
end Go.Proofs.YtedkhdnfbdojcaaDoor
end
section
/- A plan's stops, one by one: what the iterator of book's stops gives. -/
namespace Go.Proofs.YtedkhdnfbdojcaaDoor
open Go.RowKit Go.Shelf
set_option linter.unusedVariables false
attribute [local go_sem] Oper.semAt_some
/-- A stop, and its day. -/
abbrev StopX := StopD × Int
def stopX (d : DayD) (i : Nat) : List StopX := d.flatMap fun t => t.map fun s => (s, (i : Int))
def stopsFrom : Nat → PlanD → List StopX
  | _, [] => []
  | i, d :: r => stopX d i ++ stopsFrom (i + 1) r
def stopsP (p : PlanD) : List StopX := stopsFrom 0 p
theorem stopsFrom_app (i : Nat) (a b : PlanD) : stopsFrom i (a ++ b) = stopsFrom i a ++ stopsFrom (i + a.length) b := by
  induction a generalizing i with
  | nil => simp [stopsFrom]
  | cons d r ih => rw [List.cons_append, stopsFrom, stopsFrom, ih, List.append_assoc, List.length_cons, show i + 1 + r.length = i + (r.length + 1) by omega]
theorem stopsP_succ {p : PlanD} {j : Nat} (h : j < p.length) : stopsP (p.take (j + 1)) = stopsP (p.take j) ++ stopX p[j] j := by
  unfold stopsP
  rw [List.take_succ_eq_append_getElem h, stopsFrom_app, List.length_take_of_le (by omega), Nat.zero_add]
  simp [stopsFrom]
theorem stopX_succ {d : DayD} {m : Nat} (h : m < d.length) (j : Nat) : stopX (d.take (m + 1)) j = stopX (d.take m) j ++ d[m].map fun s => (s, (j : Int)) := by
  unfold stopX
  rw [List.take_succ_eq_append_getElem h, List.flatMap_append]
  simp
theorem stops_one {p : PlanD} {j m i : Nat} (h : j < p.length) (hm : m < p[j].length) (hi : i < p[j][m].length) :
    ((stopsP (p.take j) ++ stopX (p[j].take m) j) ++ (p[j][m].take i).map fun s => (s, (j : Int))) ++ [(p[j][m][i], (j : Int))] <+: stopsP p := by
  have e1 : p = p.take j ++ p[j] :: p.drop (j + 1) := by rw [List.getElem_cons_drop, List.take_append_drop]
  have e2 : p[j] = p[j].take m ++ p[j][m] :: p[j].drop (m + 1) := by rw [List.getElem_cons_drop, List.take_append_drop]
  have e3 : p[j][m] = p[j][m].take i ++ p[j][m][i] :: p[j][m].drop (i + 1) := by rw [List.getElem_cons_drop, List.take_append_drop]
  generalize hd : p[j] = d at *
  generalize ht : d[m] = t at *
  generalize hs : t[i] = s at *
  have f1 : stopsP p = stopsP (p.take j) ++ (stopX d j ++ stopsFrom (j + 1) (p.drop (j + 1))) := by
    unfold stopsP
    conv => lhs; rw [e1]
    rw [stopsFrom_app, List.length_take_of_le (by omega), Nat.zero_add, stopsFrom]
  have f2 : stopX d j = stopX (d.take m) j ++ ((t.map fun s => (s, (j : Int))) ++ stopX (d.drop (m + 1)) j) := by
    unfold stopX
    conv => lhs; rw [e2]
    rw [List.flatMap_append, List.flatMap_cons]
  have f3 : (t.map fun s => (s, (j : Int))) = ((t.take i).map fun s => (s, (j : Int))) ++ (s, (j : Int)) :: (t.drop (i + 1)).map fun s => (s, (j : Int)) := by
    conv => lhs; rw [e3]
    rw [List.map_append, List.map_cons]
  rw [f1, f2, f3]
  exact ⟨(t.drop (i + 1)).map (fun s => (s, (j : Int))) ++ (stopX (d.drop (m + 1)) j ++ stopsFrom (j + 1) (p.drop (j + 1))), by simp⟩
theorem stops_pre {p : PlanD} {x : StopX} {pre : List StopX} (h : pre ++ [x] <+: stopsP p) : pre <+: stopsP p := (List.prefix_append pre [x]).trans h
theorem okPl_stops (p : PlanD) (ok : StopD → Bool) : (stopsP p).all (fun x => ok x.1) = p.all fun d => d.all fun t => t.all ok := by
  have h : ∀ (i : Nat) (p : PlanD), (stopsFrom i p).all (fun x => ok x.1) = p.all fun d => d.all fun t => t.all ok := fun i p => by
    induction p generalizing i with
    | nil => rfl
    | cons d r ih =>
      rw [stopsFrom, List.all_append, ih, List.all_cons]
      congr 1
      unfold stopX
      rw [List.all_flatMap]
      congr 1
      funext t
      rw [List.all_map]
      rfl
  exact h 0 p
def stopV (x : StopX) : Value := .agg #[.int .i64 x.1.1, .int .i64 x.1.2, .int .i64 x.2]
set_option maxRecDepth 100000 in
set_option maxHeartbeats 8000000 in
theorem stops_seq (n : Nat) (hn : 1 ≤ n) (Bp : Nat) (p : PlanD) (A : Option Addr) (c : Nat) (w : World) (hw : WfP p) (h : PlanIs w A p) :
    SeqK Fence.wide n Tryd.prog 35 #[.pointer (some ⟨Bp, 0, none⟩)] (fun x : StopX => #[stopV x]) [] w.heap.size (stopsP p) w (fun W => W.cell? ⟨Bp, 0, none⟩ = some (.slice A p.length c)) := by
  intro l J Jx W hW hbx hJ hJx hY h0
  have HP := Go.Lib.hid h
  have HW := Go.Lib.hid hW
  have hpn := hw.n
  unfold maxLen at hpn
  have HD := Go.Lib.hid hw.day
  have HT := Go.Lib.hid hw.tour
  have HJ := Go.Lib.hid hJ
  have HY := Go.Lib.hid hY
  clear h hW hw hJ hY
  refine callsIn_of_wp Tryd.func35 rfl trivial ?_ rfl
  simp only [Tryd.ntmps35, List.size_toArray, List.length_cons, List.length_nil, Nat.reduceAdd, Nat.reduceSub, Array.replicate_succ, Array.replicate_zero, List.push_toArray, List.append_toArray, List.nil_append, List.cons_append]
  gi_wp2
  clear hbx
  gi_loopw [12] (fun iv wr => ∃ j : Nat, j ≤ p.length ∧ iv = .int .i64 j ∧ J (stopsP (p.take j)) wr ∧ Below w.heap.size w wr) (fun iv _ => p.length - (intOf iv).toNat)
  case atStart => exact ⟨0, Nat.zero_le _, rfl, h0, HW.out⟩
  case round =>
    clear h0
    obtain ⟨j, hj, rfl, hJs, hLo⟩ := hrel
    have HJs := Go.Lib.hid hJs
    have HLo := Go.Lib.hid hLo
    clear hJs hLo
    by_cases hlt : j < p.length
    · obtain ⟨b, off, rfl, P, k, hc, hd, hk⟩ := HP.out j hlt
      rw [Nat.mul_one] at hc
      have hck := cell_keep hc HLo.out
      have HN1 := Go.Lib.hid (stopsP_succ hlt)
      have HX1 := Go.Lib.hid (fun m i (hm : m < p[j].length) (hi : i < p[j][m].length) => stops_one hlt hm hi)
      have hdn := HD.out _ (List.getElem_mem hlt)
      have HTn := Go.Lib.hid (HT.out _ (List.getElem_mem hlt))
      generalize p[j] = d at *
      unfold maxLen at hdn
      have HDa := Go.Lib.hid hd
      clear hc hd
      obtain ⟨wq, hwq⟩ : ∃ q, q = wr := ⟨_, rfl⟩
      rw [← hwq] at hck HJs HLo ⊢
      clear hwq
      have HJ0 := Go.Lib.hid (HJ.out _ _ _ HJs.out ((Only.refl [] wq).alloc (.cells #[.slice P d.length k] 38)))
      have HL0 := Go.Lib.hid (HLo.out.alloc HLo.out.size (.cells #[.slice P d.length k] 38))
      gi_wp2
      clear hck
      gi_loopw [20] (fun kv wk => ∃ m : Nat, m ≤ d.length ∧ kv = .int .i64 m ∧ J (stopsP (p.take j) ++ stopX (d.take m) j) wk ∧ Below w.heap.size w wk) (fun kv _ => d.length - (intOf kv).toNat)
      case atStart => exact ⟨0, Nat.zero_le _, rfl, by simpa [stopX] using HJ0.out, HL0.out⟩
      case round =>
        clear HJ0 HL0
        obtain ⟨m, hm, rfl, hJm, hLm⟩ := hrel
        have HJm := Go.Lib.hid hJm
        have HLm := Go.Lib.hid hLm
        clear hJm hLm
        by_cases hltm : m < d.length
        · obtain ⟨b2, off2, rfl, P2, k2, hc2, ht2, hk2⟩ := HDa.out m hltm
          rw [Nat.mul_one] at hc2
          have hck2 := cell_keep hc2 HLm.out
          have HN2 := Go.Lib.hid (stopX_succ hltm j)
          have HX2 := Go.Lib.hid (fun i (hi : i < d[m].length) => HX1.out m i hltm hi)
          have htn := HTn.out _ (List.getElem_mem hltm)
          generalize d[m] = t at *
          unfold maxLen at htn
          have HTa := Go.Lib.hid ht2
          clear hc2 ht2
          obtain ⟨we, hwe⟩ : ∃ q, q = wr := ⟨_, rfl⟩
          rw [← hwe] at hck2 HJm HLm ⊢
          clear hwe
          have HJ1 := Go.Lib.hid (HJ.out _ _ _ HJm.out ((Only.refl [] we).alloc (.cells #[.slice P2 t.length k2] 41)))
          have HL1 := Go.Lib.hid (HLm.out.alloc HLm.out.size (.cells #[.slice P2 t.length k2] 41))
          gi_wp2
          clear hck2
          gi_loopw [27] (fun kv wk => ∃ i : Nat, i ≤ t.length ∧ kv = .int .i64 i ∧ J ((stopsP (p.take j) ++ stopX (d.take m) j) ++ (t.take i).map fun s => (s, (j : Int))) wk ∧ Below w.heap.size w wk) (fun kv _ => t.length - (intOf kv).toNat)
          case atStart => exact ⟨0, Nat.zero_le _, rfl, by simpa using HJ1.out, HL1.out⟩
          case round =>
            clear HJ1 HL1
            obtain ⟨i, hi, rfl, hJi, hLi⟩ := hrel
            have HLi := Go.Lib.hid hLi
            by_cases hlti : i < t.length
            · obtain ⟨b3, off3, rfl, c0, c1⟩ := HTa.out i hlti
              have v0 := cell_keep c0 HLi.out
              have v1 := cell_keep c1 HLi.out
              have HX3 := Go.Lib.hid (HX2.out i hlti)
              have HN3 : Hid (((stopsP (p.take j) ++ stopX (d.take m) j) ++ (t.take i).map fun s => (s, (j : Int))) ++ [(t[i], (j : Int))] = (stopsP (p.take j) ++ stopX (d.take m) j) ++ (t.take (i + 1)).map fun s => (s, (j : Int))) := by
                show _ = _
                rw [List.take_succ_eq_append_getElem hlti, List.map_append, ← List.append_assoc]
                rfl
              obtain ⟨⟨s1, s2⟩, hs⟩ : ∃ s, s = t[i] := ⟨_, rfl⟩
              rw [← hs] at v0 v1 HX3 HN3
              clear hs c0 c1
              have hJ2 := HJ.out _ _ _ hJi ((Only.refl [] wr).alloc (.cells #[.int .i64 s1, .int .i64 s2] 43))
              have HL2 := Go.Lib.hid (hLi.alloc hLi.size (.cells #[.int .i64 s1, .int .i64 s2] 43))
              obtain ⟨fn, tmps, assign, body, hy, hR⟩ := HY.out _ _ _ HX3.out hJ2
              unfold stopV at hy
              clear hJi hLi hJ2
              gi_wp2
              refine hR.mono ?_
              rintro e W3 (⟨rfl, hJ3, hk3⟩ | ⟨rfl, hJx3⟩)
              · have HJ3 := Go.Lib.hid hJ3
                have HL3 := Go.Lib.hid (HL2.out.trans hk3)
                clear hJ3 hk3
                gi_wp2
                go_roundw
                case rel => exact ⟨i + 1, by omega, by simp, by rw [← HN3.out]; exact HJ3.out, HL3.out⟩
                case measure => simp [intOf]; omega
              · gi_wp2
                refine bodyPost_ret (results_none rfl _ _ _) rfl ?_
                exact ⟨⟨_, rfl⟩, .inr ⟨_, HX3.out, hJx3⟩⟩
            · obtain rfl : i = t.length := by omega
              rw [List.take_length] at hJi
              have HJ4 : Hid (J (stopsP (p.take j) ++ stopX (d.take (m + 1)) j) wr) := by show J _ _; rw [HN2.out, ← List.append_assoc]; exact hJi
              clear hJi hLi
              gi_wp2
              go_roundw
              case rel => exact ⟨m + 1, by omega, by simp, HJ4.out, HLi.out⟩
              case measure => simp [intOf]; omega
        · obtain rfl : m = d.length := by omega
          have HJ5 : Hid (J (stopsP (p.take (j + 1))) wr) := by
            show J _ _
            have := HJm.out
            rw [List.take_length] at this
            rw [HN1.out]
            exact this
          gi_wp2
          go_roundw
          case rel => exact ⟨j + 1, by omega, by simp, HJ5.out, HLm.out⟩
          case measure => simp [intOf]; omega
    · obtain rfl : j = p.length := by omega
      have hJ6 : J (stopsP p) wr := by
        have := HJs.out
        rwa [List.take_length] at this
      gi_wp2
      go_end0
      exact ⟨⟨_, rfl⟩, .inl hJ6⟩
set_option maxHeartbeats 1000000 in
theorem stops_make (p : PlanD) (A : Option Addr) (c : Nat) (w : World) :
    Calls Tryd.prog 21 #[planV p A c] w fun e w' => e = .returned (.func (.func 35) #[] #[.pointer (some ⟨w.heap.size, 0, none⟩)]) ∧ w' = w.alloc (.cells #[.slice A p.length c] 24) := by
  unfold planV
  go_enter Tryd.func21, Tryd.ntmps21
  go_wp2
  go_ret
  exact ⟨rfl, rfl⟩
end Go.Proofs.YtedkhdnfbdojcaaDoor
end
section
/- What text.each answers, off its code: N. -/
namespace Go.Proofs.YtedkhdnfbdojcaaDoor
open Go.RowKit Go.Shelf
set_option linter.unusedVariables false
attribute [local go_sem] Oper.semAt_some

theorem infoN : (Tryd.prog.info? 3).map (fun i => (i.zero, i.size, i.bytes)) = some (some (.int .i64 0), 1, 8) := by kernel_rfl
set_option maxRecDepth 100000 in
set_option maxHeartbeats 4000000 in
theorem eachN (gf : Nat) (lb : Array Value) (Cs : List Nat) (xs : List ByteArray) (ok : ByteArray → Bool) (R : World → ByteArray → Value → Prop) (tR : TypeId) (w : World)
    (hxs : xs.length ≤ 2000000000) (eg : ∀ args w, (callFunc gf args).run Tryd.prog w = .ok (.enter gf args) w)
    (hseq : SeqC Fence.wide 8 Tryd.prog gf lb (fun x : ByteArray => #[Value.string x]) Cs w.heap.size xs w) (hC : ∀ c ∈ Cs, c < w.heap.size)
    (made : ∀ x ∈ xs, ∀ W, w.heap.size ≤ W.heap.size → Calls Tryd.prog 50 #[Value.string x] W fun e W' => ∃ u, e = .returned (.tuple #[u, .bool (ok x)]) ∧ (ok x = true → R W' x u) ∧ Below W.heap.size W W')
    (hsh : ∀ W x u, R W x u → ∃ z, u = .int .i64 z) (hR : ∀ W W' x u, R W x u → SameT tR Cs W W' → R W' x u)
    (t1 : tR ≠ 89) (t2 : tR ≠ 77) (t3 : tR ≠ 4) (t4 : tR ≠ 3) :
    Calls Tryd.prog 66 #[.func (.func gf) #[] lb, .func (.func 50) #[] #[]] w fun e W' =>
      ∃ v, e = .returned (.tuple #[v, .bool (xs.all ok)]) ∧ (xs.all ok = true → ∃ us, W'.ownsRow w.heap.size 3 1 v xs.length us ∧ Fit (R W') xs us) ∧ (xs.all ok = false → v = .slice none 0 0) ∧ Only Cs w W' := by
  obtain ⟨i0, hi, hz0, hz1, hz2⟩ := info_parts infoN
  refine (callsIn_wide (n := 9)).1 ?_
  refine callsIn_of_wp_marks Tryd.func66 rfl trivial ?_ rfl
  simp only [Tryd.ntmps66, List.size_toArray, List.length_cons, List.length_nil, Nat.reduceAdd, Nat.reduceSub, Array.replicate_succ, Array.replicate_zero, List.push_toArray, List.append_toArray, List.nil_append, List.cons_append]
  gi_wp2
  have hst := EachI.start (tM := 89) (tL := 77) (tO := 4) (tB := 3) (fm := .func (.func 50) #[] #[]) (ok := ok) (R := R) (w := w) hC
  have hsz : ((((w.alloc (.cells #[.func (.func 50) #[] #[]] 89)).alloc (.cells #[.slice none 0 0] 77)).alloc (.cells #[.bool false] 4)).alloc (.cells #[.slice none 0 0] 77)).heap.size = w.heap.size + 4 := by simp
  have hbel : Below w.heap.size w ((((w.alloc (.cells #[.func (.func 50) #[] #[]] 89)).alloc (.cells #[.slice none 0 0] 77)).alloc (.cells #[.bool false] 4)).alloc (.cells #[.slice none 0 0] 77)) := (((Below.refl _ w).alloc (by simp) _).alloc (by simp) _).alloc (by simp; omega) _ |>.alloc (by simp; omega) _
  generalize ((((w.alloc (.cells #[.func (.func 50) #[] #[]] 89)).alloc (.cells #[.slice none 0 0] 77)).alloc (.cells #[.bool false] 4)).alloc (.cells #[.slice none 0 0] 77)) = w4 at hst hsz hbel ⊢
  have hle : w.heap.size ≤ w4.heap.size := by omega
  refine range_c rfl (by omega) (gf := gf) (lb := lb) rfl trivial eg hseq hbel hle (fun c hc => by have := hC c hc; omega) (fun _ => rfl)
    (EachI 89 77 4 3 (.func (.func 50) #[] #[]) Cs ok R w) (EachX 77 4 Cs ok w) (EachI.stays hC hle hR) (EachX.stays hC hle) hst
    (fun x a' _ => a' = { tmps := #[.func (.func gf) #[] lb, .func (.func 50) #[] #[], undef, .pointer (some ⟨w.heap.size, 0, none⟩), .pointer (some ⟨w.heap.size + 1, 0, none⟩), .pointer (some ⟨w.heap.size + 1 + 1, 0, none⟩), .pointer (some ⟨w.heap.size + 1 + 1 + 1, 0, none⟩), Value.string x, undef, undef, .func (.func gf) #[] lb, Value.string x, undef, undef, undef, undef, undef, undef, undef, undef, undef, undef, undef, undef, undef], defers := [] })
    (fun _ _ _ _ _ h _ => h) ?assign ?body ?done ?stop
  case assign =>
    intro l pre x W K hpre hI hK
    gi_wp2
    exact hK _ _ (KeepsFrom.refl _ _) (Below.refl _ _) hI rfl
  case body =>
    rintro l pre x a' W hl hr hpre hI rfl
    have hx : x ∈ xs := by obtain ⟨t, ht⟩ := hpre; rw [← ht]; simp
    have hlen : pre.length + 1 ≤ 2000000000 := by have := hpre.length_le; simp at this; omega
    have hc0 := hI.mb.cell
    have md := made x hx
    clear made hx hpre hseq hbel hst
    cases hok : ok x
    · have md' : Calls Tryd.prog 50 #[Value.string x] W fun e W' => ∃ u, e = .returned (.tuple #[u, .bool false]) ∧ Below W.heap.size W W' := (md W hI.only.size).mono fun e W' ⟨u, h1, h2, h3⟩ => ⟨u, by rw [h1, hok], h3⟩
      clear md
      gi_wp2_with (refine ⟨trivial, ?_⟩; gi_at_call 50; refine (CallsIn.inRound l (callsIn_wide.2 md')).mono ?_; rintro e w' ⟨u, rfl, hb⟩; have hI2 := hI.below hb hR; have hc1 := hI2.r1.cell; have hf1 := hI2.r1.frozen; have hc2 := hI2.r2.cell; have hf2 := hI2.r2.frozen; have hc3 := (hI2.r2.other (B' := w.heap.size + 1) (by omega) (.slice none 0 0)).cell; have hf3 := (hI2.r2.other (B' := w.heap.size + 1) (by omega) (.slice none 0 0)).frozen)
      obtain ⟨k1, k2⟩ := hI2.bad hok
      exact ⟨((keeps_below hb).trans k1).from _, k2⟩
    · have md' : Calls Tryd.prog 50 #[Value.string x] W fun e W' => ∃ u, e = .returned (.tuple #[u, .bool true]) ∧ R W' x u ∧ Below W.heap.size W W' := (md W hI.only.size).mono fun e W' ⟨u, h1, h2, h3⟩ => ⟨u, by rw [h1, hok], h2 hok, h3⟩
      clear md
      gi_wp2_with (first
        | (refine ⟨trivial, ?_⟩; gi_at_call 50; refine (CallsIn.inRound l (callsIn_wide.2 md')).mono ?_; rintro e w' ⟨u, rfl, hu, hb⟩; obtain ⟨z, rfl⟩ := hsh _ _ _ hu; have hI2 := hI.below hb hR; obtain ⟨v, us, hv, hrow, hf⟩ := hI2.row; obtain ⟨Av, cv, rfl, _⟩ := own_form hrow; have hcv := hv.cell)
        | (gi_at_builtin; refine wpListIn_append_own _ rfl _ _ 77 rfl w.heap.size 3 i0 (.int .i64 0) 1 8 Tryd.underlying77 hi hz0 hz1 hz2 rfl (by decide) _ _ _ rfl (hrow.alloc _) ⟨w'.heap.size, 0, none⟩ 1 1 [.int .i64 z] rfl rfl (cell_one_new _ _ _) (by simp [Value.oneCell']) (by unfold maxLen; omega) (by omega) (by have := hI2.only.size; simp; omega) ?_; intro v' w1 hown' hgrow _; obtain ⟨g', cap', rfl⟩ := ownsRow_succ hown'; obtain ⟨hv1, hk2, hb2, hI3⟩ := hI2.more hR t2 t4 (by decide) (by decide) (by decide) hu hok hv hrow hf hown' hgrow; have hc1 := hv1.cell; have hf1 := hv1.frozen))
      exact ⟨((keeps_below hb).trans hk2).from _, (hb.mono hI.only.size).trans hb2, hI3⟩
  case done =>
    rintro D W hD hI hK
    have hall : xs.all ok = true := List.all_eq_true.2 hI.good
    obtain ⟨v, us, hv, hrow, hf⟩ := hI.row
    obtain ⟨Av, cv, rfl, _⟩ := own_form hrow
    have hcv := hv.cell
    have hc1 := hI.r1.cell
    have hf1 := hI.r1.frozen
    have q1 := hI.r1.set (.slice Av xs.length cv)
    have q2 := hI.r2.other (B' := w.heap.size + 1) (by omega) (.slice Av xs.length cv)
    have hc2 := q2.cell
    have hf2 := q2.frozen
    gi_wp2
    have q1' := q1.other (B' := w.heap.size + 1 + 1) (by omega) (.bool true)
    have q2' := q2.set (.bool true)
    have hK' := ((KeepsOthers.setCell W ⟨w.heap.size + 1, 0, none⟩ (.slice Av xs.length cv)).trans (KeepsOthers.setCell _ ⟨w.heap.size + 1 + 1, 0, none⟩ (.bool true))).same D _ hK rfl
    have br : Below w.heap.size W ((W.setCell ⟨w.heap.size + 1, 0, none⟩ (.slice Av xs.length cv)).setCell ⟨w.heap.size + 1 + 1, 0, none⟩ (.bool true)) := ((Below.refl _ _).setCell (p := ⟨w.heap.size + 1, 0, none⟩) (by simp) _).setCell (p := ⟨w.heap.size + 1 + 1, 0, none⟩) (by simp; omega) _
    have sr : SameT tR Cs W ((W.setCell ⟨w.heap.size + 1, 0, none⟩ (.slice Av xs.length cv)).setCell ⟨w.heap.size + 1 + 1, 0, none⟩ (.bool true)) := (SameT.box hI.r1 t2 _).trans (SameT.box q2 t3 _)
    have sb : SameT 3 Cs W ((W.setCell ⟨w.heap.size + 1, 0, none⟩ (.slice Av xs.length cv)).setCell ⟨w.heap.size + 1 + 1, 0, none⟩ (.bool true)) := (SameT.box hI.r1 (by decide) _).trans (SameT.box q2 (by decide) _)
    generalize ((W.setCell ⟨w.heap.size + 1, 0, none⟩ (.slice Av xs.length cv)).setCell ⟨w.heap.size + 1 + 1, 0, none⟩ (.bool true)) = W2 at q1' q2' hK' br sr sb ⊢
    have hr := Rest.putObj (Cs := Cs) (B := w.heap.size) (.deferred none) (by omega) hK' rfl
    refine ⟨by simp, .inl ⟨_, _, rfl, run_takeDeferred hK', ?_⟩⟩
    have d1 := (box_rest q1' hr (fun hm => by have := hC _ hm; omega)).cell
    have d2 := (box_rest q2' hr (fun hm => by have := hC _ hm; omega)).cell
    have on : Only Cs w W2 := ⟨br.os.trans hI.only.os, br.tape.trans hI.only.tape, br.output.trans hI.only.output, Nat.le_trans hI.only.size br.size, fun k hk hn => (br.block k hk).trans (hI.only.block k hk hn)⟩
    refine ⟨.tuple #[.slice Av xs.length cv, .bool true], ?_, _, by rw [hall], fun _ => ⟨us, own_same hrow (sb.trans (.of_rest hr)) hC, hf.mono fun x u hx => hR _ _ _ _ hx (sr.trans (.of_rest hr))⟩, (fun h => absurd (hall.symm.trans h) (by decide)), on.rest hr (fun c hc => .inl hc) (Nat.le_refl _)⟩
    simp [results, Tryd.f66, go_sem, d1, d2]
  case stop =>
    rintro D c pre W hD hpre hX hK
    obtain rfl := hX.ret
    gi_wp2
    have hr := Rest.putObj (Cs := Cs) (B := w.heap.size) (.deferred none) (by omega) hK rfl
    refine ⟨by simp, .inl ⟨_, _, rfl, run_takeDeferred hK, ?_⟩⟩
    have d1 := (box_rest hX.r1 hr (fun hm => by have := hC _ hm; omega)).cell
    have d2 := (box_rest hX.r2 hr (fun hm => by have := hC _ hm; omega)).cell
    have hall : xs.all ok = false := by
      obtain ⟨x, hx, hxo⟩ := hX.bad
      obtain ⟨t, ht⟩ := hpre
      exact List.all_eq_false.2 ⟨x, by rw [← ht]; exact List.mem_append_left _ hx, by rw [hxo]; decide⟩
    refine ⟨.tuple #[.slice none 0 0, .bool false], ?_, _, by rw [hall], (fun h => absurd (hall.symm.trans h) (by decide)), fun _ => rfl, hX.only.rest hr (fun c hc => .inl hc) (Nat.le_refl _)⟩
    simp [results, Tryd.f66, go_sem, d1, d2]
end Go.Proofs.YtedkhdnfbdojcaaDoor
end
