import Derived.Test.YtedkhdnfbdojcaaDoorK05
import Derived.Test.YtedkhdnfbdojcaaDoorK01
import Derived.Shelf.Abstract
import Derived.Shelf.RegionOpen
import Derived.OwnWalkIn
import Derived.TacticsInMore
import Derived.LoopNIn
import Derived.LoopIn
import Derived.Maps.AppendAt
section
/- What text.each answers, off its code: W. -/
namespace Go.Proofs.YtedkhdnfbdojcaaDoor
open Go.RowKit Go.Shelf
set_option linter.unusedVariables false
attribute [local go_sem] Oper.semAt_some

theorem infoW : (Tryd.prog.info? 9).map (fun i => (i.zero, i.size, i.bytes)) = some (some (.string ByteArray.empty), 1, 16) := by kernel_rfl
set_option maxRecDepth 100000 in
set_option maxHeartbeats 4000000 in
theorem eachW (gf : Nat) (lb : Array Value) (Cs : List Nat) (xs : List (List UInt8)) (ok : (List UInt8) → Bool) (R : World → (List UInt8) → Value → Prop) (tR : TypeId) (w : World)
    (hxs : xs.length ≤ 2000000000) (eg : ∀ args w, (callFunc gf args).run Tryd.prog w = .ok (.enter gf args) w)
    (hseq : SeqC Fence.wide 8 Tryd.prog gf lb (fun x : (List UInt8) => #[Value.string (strL x)]) Cs w.heap.size xs w) (hC : ∀ c ∈ Cs, c < w.heap.size)
    (made : ∀ x ∈ xs, ∀ W, w.heap.size ≤ W.heap.size → Calls Tryd.prog 48 #[Value.string (strL x)] W fun e W' => ∃ u, e = .returned (.tuple #[u, .bool (ok x)]) ∧ (ok x = true → R W' x u) ∧ Below W.heap.size W W')
    (hsh : ∀ W x u, R W x u → ∃ s, u = .string s) (hR : ∀ W W' x u, R W x u → SameT tR Cs W W' → R W' x u)
    (t1 : tR ≠ 109) (t2 : tR ≠ 48) (t3 : tR ≠ 4) (t4 : tR ≠ 9) :
    Calls Tryd.prog 46 #[.func (.func gf) #[] lb, .func (.func 48) #[] #[]] w fun e W' =>
      ∃ v, e = .returned (.tuple #[v, .bool (xs.all ok)]) ∧ (xs.all ok = true → ∃ us, W'.ownsRow w.heap.size 9 1 v xs.length us ∧ Fit (R W') xs us) ∧ (xs.all ok = false → v = .slice none 0 0) ∧ Only Cs w W' := by
  obtain ⟨i0, hi, hz0, hz1, hz2⟩ := info_parts infoW
  refine (callsIn_wide (n := 9)).1 ?_
  refine callsIn_of_wp_marks Tryd.func46 rfl trivial ?_ rfl
  simp only [Tryd.ntmps46, List.size_toArray, List.length_cons, List.length_nil, Nat.reduceAdd, Nat.reduceSub, Array.replicate_succ, Array.replicate_zero, List.push_toArray, List.append_toArray, List.nil_append, List.cons_append]
  gi_wp2
  have hst := EachI.start (tM := 109) (tL := 48) (tO := 4) (tB := 9) (fm := .func (.func 48) #[] #[]) (ok := ok) (R := R) (w := w) hC
  have hsz : ((((w.alloc (.cells #[.func (.func 48) #[] #[]] 109)).alloc (.cells #[.slice none 0 0] 48)).alloc (.cells #[.bool false] 4)).alloc (.cells #[.slice none 0 0] 48)).heap.size = w.heap.size + 4 := by simp
  have hbel : Below w.heap.size w ((((w.alloc (.cells #[.func (.func 48) #[] #[]] 109)).alloc (.cells #[.slice none 0 0] 48)).alloc (.cells #[.bool false] 4)).alloc (.cells #[.slice none 0 0] 48)) := (((Below.refl _ w).alloc (by simp) _).alloc (by simp) _).alloc (by simp; omega) _ |>.alloc (by simp; omega) _
  generalize ((((w.alloc (.cells #[.func (.func 48) #[] #[]] 109)).alloc (.cells #[.slice none 0 0] 48)).alloc (.cells #[.bool false] 4)).alloc (.cells #[.slice none 0 0] 48)) = w4 at hst hsz hbel ⊢
  have hle : w.heap.size ≤ w4.heap.size := by omega
  refine range_c rfl (by omega) (gf := gf) (lb := lb) rfl trivial eg hseq hbel hle (fun c hc => by have := hC c hc; omega) (fun _ => rfl)
    (EachI 109 48 4 9 (.func (.func 48) #[] #[]) Cs ok R w) (EachX 48 4 Cs ok w) (EachI.stays hC hle hR) (EachX.stays hC hle) hst
    (fun x a' _ => a' = { tmps := #[.func (.func gf) #[] lb, .func (.func 48) #[] #[], undef, .pointer (some ⟨w.heap.size, 0, none⟩), .pointer (some ⟨w.heap.size + 1, 0, none⟩), .pointer (some ⟨w.heap.size + 1 + 1, 0, none⟩), .pointer (some ⟨w.heap.size + 1 + 1 + 1, 0, none⟩), Value.string (strL x), undef, undef, .func (.func gf) #[] lb, Value.string (strL x), undef, undef, undef, undef, undef, undef, undef, undef, undef, undef, undef, undef, undef], defers := [] })
    (fun _ _ _ _ _ h _ => h) ?assign ?body ?done ?stop
  case assign =>
    intro l pre x W K hpre hI hK
    gi_wp2
    exact hK _ _ (KeepsFrom.refl _ _) (Below.refl _ _) hI rfl
  case body =>
    rintro l pre x a' W hl hr hpre hI rfl
    have hx : x ∈ xs := by obtain ⟨t, ht⟩ := hpre; rw [← ht]; simp
    have hlen : pre.length + 1 ≤ 2000000000 := by have := hpre.length_le; simp at this; omega
    have hc0 := hI.mb.cell
    have md := made x hx
    clear made hx hpre hseq hbel hst
    cases hok : ok x
    · have md' : Calls Tryd.prog 48 #[Value.string (strL x)] W fun e W' => ∃ u, e = .returned (.tuple #[u, .bool false]) ∧ Below W.heap.size W W' := (md W hI.only.size).mono fun e W' ⟨u, h1, h2, h3⟩ => ⟨u, by rw [h1, hok], h3⟩
      clear md
      gi_wp2_with (refine ⟨trivial, ?_⟩; gi_at_call 48; refine (CallsIn.inRound l (callsIn_wide.2 md')).mono ?_; rintro e w' ⟨u, rfl, hb⟩; have hI2 := hI.below hb hR; have hc1 := hI2.r1.cell; have hf1 := hI2.r1.frozen; have hc2 := hI2.r2.cell; have hf2 := hI2.r2.frozen; have hc3 := (hI2.r2.other (B' := w.heap.size + 1) (by omega) (.slice none 0 0)).cell; have hf3 := (hI2.r2.other (B' := w.heap.size + 1) (by omega) (.slice none 0 0)).frozen)
      obtain ⟨k1, k2⟩ := hI2.bad hok
      exact ⟨((keeps_below hb).trans k1).from _, k2⟩
    · have md' : Calls Tryd.prog 48 #[Value.string (strL x)] W fun e W' => ∃ u, e = .returned (.tuple #[u, .bool true]) ∧ R W' x u ∧ Below W.heap.size W W' := (md W hI.only.size).mono fun e W' ⟨u, h1, h2, h3⟩ => ⟨u, by rw [h1, hok], h2 hok, h3⟩
      clear md
      gi_wp2_with (first
        | (refine ⟨trivial, ?_⟩; gi_at_call 48; refine (CallsIn.inRound l (callsIn_wide.2 md')).mono ?_; rintro e w' ⟨u, rfl, hu, hb⟩; obtain ⟨s, rfl⟩ := hsh _ _ _ hu; have hI2 := hI.below hb hR; obtain ⟨v, us, hv, hrow, hf⟩ := hI2.row; obtain ⟨Av, cv, rfl, _⟩ := own_form hrow; have hcv := hv.cell)
        | (gi_at_builtin; refine wpListIn_append_own _ rfl _ _ 48 rfl w.heap.size 9 i0 (.string ByteArray.empty) 1 16 Tryd.underlying48 hi hz0 hz1 hz2 rfl (by decide) _ _ _ rfl (hrow.alloc _) ⟨w'.heap.size, 0, none⟩ 1 1 [.string s] rfl rfl (cell_one_new _ _ _) (by simp [Value.oneCell']) (by unfold maxLen; omega) (by omega) (by have := hI2.only.size; simp; omega) ?_; intro v' w1 hown' hgrow _; obtain ⟨g', cap', rfl⟩ := ownsRow_succ hown'; obtain ⟨hv1, hk2, hb2, hI3⟩ := hI2.more hR t2 t4 (by decide) (by decide) (by decide) hu hok hv hrow hf hown' hgrow; have hc1 := hv1.cell; have hf1 := hv1.frozen))
      exact ⟨((keeps_below hb).trans hk2).from _, (hb.mono hI.only.size).trans hb2, hI3⟩
  case done =>
    rintro D W hD hI hK
    have hall : xs.all ok = true := List.all_eq_true.2 hI.good
    obtain ⟨v, us, hv, hrow, hf⟩ := hI.row
    obtain ⟨Av, cv, rfl, _⟩ := own_form hrow
    have hcv := hv.cell
    have hc1 := hI.r1.cell
    have hf1 := hI.r1.frozen
    have q1 := hI.r1.set (.slice Av xs.length cv)
    have q2 := hI.r2.other (B' := w.heap.size + 1) (by omega) (.slice Av xs.length cv)
    have hc2 := q2.cell
    have hf2 := q2.frozen
    gi_wp2
    have q1' := q1.other (B' := w.heap.size + 1 + 1) (by omega) (.bool true)
    have q2' := q2.set (.bool true)
    have hK' := ((KeepsOthers.setCell W ⟨w.heap.size + 1, 0, none⟩ (.slice Av xs.length cv)).trans (KeepsOthers.setCell _ ⟨w.heap.size + 1 + 1, 0, none⟩ (.bool true))).same D _ hK rfl
    have br : Below w.heap.size W ((W.setCell ⟨w.heap.size + 1, 0, none⟩ (.slice Av xs.length cv)).setCell ⟨w.heap.size + 1 + 1, 0, none⟩ (.bool true)) := ((Below.refl _ _).setCell (p := ⟨w.heap.size + 1, 0, none⟩) (by simp) _).setCell (p := ⟨w.heap.size + 1 + 1, 0, none⟩) (by simp; omega) _
    have sr : SameT tR Cs W ((W.setCell ⟨w.heap.size + 1, 0, none⟩ (.slice Av xs.length cv)).setCell ⟨w.heap.size + 1 + 1, 0, none⟩ (.bool true)) := (SameT.box hI.r1 t2 _).trans (SameT.box q2 t3 _)
    have sb : SameT 9 Cs W ((W.setCell ⟨w.heap.size + 1, 0, none⟩ (.slice Av xs.length cv)).setCell ⟨w.heap.size + 1 + 1, 0, none⟩ (.bool true)) := (SameT.box hI.r1 (by decide) _).trans (SameT.box q2 (by decide) _)
    generalize ((W.setCell ⟨w.heap.size + 1, 0, none⟩ (.slice Av xs.length cv)).setCell ⟨w.heap.size + 1 + 1, 0, none⟩ (.bool true)) = W2 at q1' q2' hK' br sr sb ⊢
    have hr := Rest.putObj (Cs := Cs) (B := w.heap.size) (.deferred none) (by omega) hK' rfl
    refine ⟨by simp, .inl ⟨_, _, rfl, run_takeDeferred hK', ?_⟩⟩
    have d1 := (box_rest q1' hr (fun hm => by have := hC _ hm; omega)).cell
    have d2 := (box_rest q2' hr (fun hm => by have := hC _ hm; omega)).cell
    have on : Only Cs w W2 := ⟨br.os.trans hI.only.os, br.tape.trans hI.only.tape, br.output.trans hI.only.output, Nat.le_trans hI.only.size br.size, fun k hk hn => (br.block k hk).trans (hI.only.block k hk hn)⟩
    refine ⟨.tuple #[.slice Av xs.length cv, .bool true], ?_, _, by rw [hall], fun _ => ⟨us, own_same hrow (sb.trans (.of_rest hr)) hC, hf.mono fun x u hx => hR _ _ _ _ hx (sr.trans (.of_rest hr))⟩, (fun h => absurd (hall.symm.trans h) (by decide)), on.rest hr (fun c hc => .inl hc) (Nat.le_refl _)⟩
    simp [results, Tryd.f46, go_sem, d1, d2]
  case stop =>
    rintro D c pre W hD hpre hX hK
    obtain rfl := hX.ret
    gi_wp2
    have hr := Rest.putObj (Cs := Cs) (B := w.heap.size) (.deferred none) (by omega) hK rfl
    refine ⟨by simp, .inl ⟨_, _, rfl, run_takeDeferred hK, ?_⟩⟩
    have d1 := (box_rest hX.r1 hr (fun hm => by have := hC _ hm; omega)).cell
    have d2 := (box_rest hX.r2 hr (fun hm => by have := hC _ hm; omega)).cell
    have hall : xs.all ok = false := by
      obtain ⟨x, hx, hxo⟩ := hX.bad
      obtain ⟨t, ht⟩ := hpre
      exact List.all_eq_false.2 ⟨x, by rw [← ht]; exact List.mem_append_left _ hx, by rw [hxo]; decide⟩
    refine ⟨.tuple #[.slice none 0 0, .bool false], ?_, _, by rw [hall], (fun h => absurd (hall.symm.trans h) (by decide)), fun _ => rfl, hX.only.rest hr (fun c hc => .inl hc) (Nat.le_refl _)⟩
    simp [results, Tryd.f46, go_sem, d1, d2]
end Go.Proofs.YtedkhdnfbdojcaaDoor
end
section
/- What text.each answers, off its code: L. -/
namespace Go.Proofs.YtedkhdnfbdojcaaDoor
open Go.RowKit Go.Shelf
set_option linter.unusedVariables false
attribute [local go_sem] Oper.semAt_some

theorem infoL : (Tryd.prog.info? 48).map (fun i => (i.zero, i.size, i.bytes)) = some (some (.slice none 0 0), 1, 24) := by kernel_rfl
set_option maxRecDepth 100000 in
set_option maxHeartbeats 4000000 in
theorem eachL (gf : Nat) (lb : Array Value) (Cs : List Nat) (xs : List (List UInt8)) (ok : (List UInt8) → Bool) (R : World → (List UInt8) → Value → Prop) (tR : TypeId) (w : World)
    (hxs : xs.length ≤ 2000000000) (eg : ∀ args w, (callFunc gf args).run Tryd.prog w = .ok (.enter gf args) w)
    (hseq : SeqC Fence.wide 8 Tryd.prog gf lb (fun x : (List UInt8) => #[Value.string (strL x)]) Cs w.heap.size xs w) (hC : ∀ c ∈ Cs, c < w.heap.size)
    (made : ∀ x ∈ xs, ∀ W, w.heap.size ≤ W.heap.size → Calls Tryd.prog 32 #[Value.string (strL x)] W fun e W' => ∃ u, e = .returned (.tuple #[u, .bool (ok x)]) ∧ (ok x = true → R W' x u) ∧ Below W.heap.size W W')
    (hsh : ∀ W x u, R W x u → ∃ A n c, u = .slice A n c) (hR : ∀ W W' x u, R W x u → SameT tR Cs W W' → R W' x u)
    (t1 : tR ≠ 87) (t2 : tR ≠ 58) (t3 : tR ≠ 4) (t4 : tR ≠ 48) :
    Calls Tryd.prog 30 #[.func (.func gf) #[] lb, .func (.func 32) #[] #[]] w fun e W' =>
      ∃ v, e = .returned (.tuple #[v, .bool (xs.all ok)]) ∧ (xs.all ok = true → ∃ us, W'.ownsRow w.heap.size 48 1 v xs.length us ∧ Fit (R W') xs us) ∧ (xs.all ok = false → v = .slice none 0 0) ∧ Only Cs w W' := by
  obtain ⟨i0, hi, hz0, hz1, hz2⟩ := info_parts infoL
  refine (callsIn_wide (n := 9)).1 ?_
  refine callsIn_of_wp_marks Tryd.func30 rfl trivial ?_ rfl
  simp only [Tryd.ntmps30, List.size_toArray, List.length_cons, List.length_nil, Nat.reduceAdd, Nat.reduceSub, Array.replicate_succ, Array.replicate_zero, List.push_toArray, List.append_toArray, List.nil_append, List.cons_append]
  gi_wp2
  have hst := EachI.start (tM := 87) (tL := 58) (tO := 4) (tB := 48) (fm := .func (.func 32) #[] #[]) (ok := ok) (R := R) (w := w) hC
  have hsz : ((((w.alloc (.cells #[.func (.func 32) #[] #[]] 87)).alloc (.cells #[.slice none 0 0] 58)).alloc (.cells #[.bool false] 4)).alloc (.cells #[.slice none 0 0] 58)).heap.size = w.heap.size + 4 := by simp
  have hbel : Below w.heap.size w ((((w.alloc (.cells #[.func (.func 32) #[] #[]] 87)).alloc (.cells #[.slice none 0 0] 58)).alloc (.cells #[.bool false] 4)).alloc (.cells #[.slice none 0 0] 58)) := (((Below.refl _ w).alloc (by simp) _).alloc (by simp) _).alloc (by simp; omega) _ |>.alloc (by simp; omega) _
  generalize ((((w.alloc (.cells #[.func (.func 32) #[] #[]] 87)).alloc (.cells #[.slice none 0 0] 58)).alloc (.cells #[.bool false] 4)).alloc (.cells #[.slice none 0 0] 58)) = w4 at hst hsz hbel ⊢
  have hle : w.heap.size ≤ w4.heap.size := by omega
  refine range_c rfl (by omega) (gf := gf) (lb := lb) rfl trivial eg hseq hbel hle (fun c hc => by have := hC c hc; omega) (fun _ => rfl)
    (EachI 87 58 4 48 (.func (.func 32) #[] #[]) Cs ok R w) (EachX 58 4 Cs ok w) (EachI.stays hC hle hR) (EachX.stays hC hle) hst
    (fun x a' _ => a' = { tmps := #[.func (.func gf) #[] lb, .func (.func 32) #[] #[], undef, .pointer (some ⟨w.heap.size, 0, none⟩), .pointer (some ⟨w.heap.size + 1, 0, none⟩), .pointer (some ⟨w.heap.size + 1 + 1, 0, none⟩), .pointer (some ⟨w.heap.size + 1 + 1 + 1, 0, none⟩), Value.string (strL x), undef, undef, .func (.func gf) #[] lb, Value.string (strL x), undef, undef, undef, undef, undef, undef, undef, undef, undef, undef, undef, undef, undef], defers := [] })
    (fun _ _ _ _ _ h _ => h) ?assign ?body ?done ?stop
  case assign =>
    intro l pre x W K hpre hI hK
    gi_wp2
    exact hK _ _ (KeepsFrom.refl _ _) (Below.refl _ _) hI rfl
  case body =>
    rintro l pre x a' W hl hr hpre hI rfl
    have hx : x ∈ xs := by obtain ⟨t, ht⟩ := hpre; rw [← ht]; simp
    have hlen : pre.length + 1 ≤ 2000000000 := by have := hpre.length_le; simp at this; omega
    have hc0 := hI.mb.cell
    have md := made x hx
    clear made hx hpre hseq hbel hst
    cases hok : ok x
    · have md' : Calls Tryd.prog 32 #[Value.string (strL x)] W fun e W' => ∃ u, e = .returned (.tuple #[u, .bool false]) ∧ Below W.heap.size W W' := (md W hI.only.size).mono fun e W' ⟨u, h1, h2, h3⟩ => ⟨u, by rw [h1, hok], h3⟩
      clear md
      gi_wp2_with (refine ⟨trivial, ?_⟩; gi_at_call 32; refine (CallsIn.inRound l (callsIn_wide.2 md')).mono ?_; rintro e w' ⟨u, rfl, hb⟩; have hI2 := hI.below hb hR; have hc1 := hI2.r1.cell; have hf1 := hI2.r1.frozen; have hc2 := hI2.r2.cell; have hf2 := hI2.r2.frozen; have hc3 := (hI2.r2.other (B' := w.heap.size + 1) (by omega) (.slice none 0 0)).cell; have hf3 := (hI2.r2.other (B' := w.heap.size + 1) (by omega) (.slice none 0 0)).frozen)
      obtain ⟨k1, k2⟩ := hI2.bad hok
      exact ⟨((keeps_below hb).trans k1).from _, k2⟩
    · have md' : Calls Tryd.prog 32 #[Value.string (strL x)] W fun e W' => ∃ u, e = .returned (.tuple #[u, .bool true]) ∧ R W' x u ∧ Below W.heap.size W W' := (md W hI.only.size).mono fun e W' ⟨u, h1, h2, h3⟩ => ⟨u, by rw [h1, hok], h2 hok, h3⟩
      clear md
      gi_wp2_with (first
        | (refine ⟨trivial, ?_⟩; gi_at_call 32; refine (CallsIn.inRound l (callsIn_wide.2 md')).mono ?_; rintro e w' ⟨u, rfl, hu, hb⟩; obtain ⟨A, n, c, rfl⟩ := hsh _ _ _ hu; have hI2 := hI.below hb hR; obtain ⟨v, us, hv, hrow, hf⟩ := hI2.row; obtain ⟨Av, cv, rfl, _⟩ := own_form hrow; have hcv := hv.cell)
        | (gi_at_builtin; refine wpListIn_append_own _ rfl _ _ 58 rfl w.heap.size 48 i0 (.slice none 0 0) 1 24 Tryd.underlying58 hi hz0 hz1 hz2 rfl (by decide) _ _ _ rfl (hrow.alloc _) ⟨w'.heap.size, 0, none⟩ 1 1 [.slice A n c] rfl rfl (cell_one_new _ _ _) (by simp [Value.oneCell']) (by unfold maxLen; omega) (by omega) (by have := hI2.only.size; simp; omega) ?_; intro v' w1 hown' hgrow _; obtain ⟨g', cap', rfl⟩ := ownsRow_succ hown'; obtain ⟨hv1, hk2, hb2, hI3⟩ := hI2.more hR t2 t4 (by decide) (by decide) (by decide) hu hok hv hrow hf hown' hgrow; have hc1 := hv1.cell; have hf1 := hv1.frozen))
      exact ⟨((keeps_below hb).trans hk2).from _, (hb.mono hI.only.size).trans hb2, hI3⟩
  case done =>
    rintro D W hD hI hK
    have hall : xs.all ok = true := List.all_eq_true.2 hI.good
    obtain ⟨v, us, hv, hrow, hf⟩ := hI.row
    obtain ⟨Av, cv, rfl, _⟩ := own_form hrow
    have hcv := hv.cell
    have hc1 := hI.r1.cell
    have hf1 := hI.r1.frozen
    have q1 := hI.r1.set (.slice Av xs.length cv)
    have q2 := hI.r2.other (B' := w.heap.size + 1) (by omega) (.slice Av xs.length cv)
    have hc2 := q2.cell
    have hf2 := q2.frozen
    gi_wp2
    have q1' := q1.other (B' := w.heap.size + 1 + 1) (by omega) (.bool true)
    have q2' := q2.set (.bool true)
    have hK' := ((KeepsOthers.setCell W ⟨w.heap.size + 1, 0, none⟩ (.slice Av xs.length cv)).trans (KeepsOthers.setCell _ ⟨w.heap.size + 1 + 1, 0, none⟩ (.bool true))).same D _ hK rfl
    have br : Below w.heap.size W ((W.setCell ⟨w.heap.size + 1, 0, none⟩ (.slice Av xs.length cv)).setCell ⟨w.heap.size + 1 + 1, 0, none⟩ (.bool true)) := ((Below.refl _ _).setCell (p := ⟨w.heap.size + 1, 0, none⟩) (by simp) _).setCell (p := ⟨w.heap.size + 1 + 1, 0, none⟩) (by simp; omega) _
    have sr : SameT tR Cs W ((W.setCell ⟨w.heap.size + 1, 0, none⟩ (.slice Av xs.length cv)).setCell ⟨w.heap.size + 1 + 1, 0, none⟩ (.bool true)) := (SameT.box hI.r1 t2 _).trans (SameT.box q2 t3 _)
    have sb : SameT 48 Cs W ((W.setCell ⟨w.heap.size + 1, 0, none⟩ (.slice Av xs.length cv)).setCell ⟨w.heap.size + 1 + 1, 0, none⟩ (.bool true)) := (SameT.box hI.r1 (by decide) _).trans (SameT.box q2 (by decide) _)
    generalize ((W.setCell ⟨w.heap.size + 1, 0, none⟩ (.slice Av xs.length cv)).setCell ⟨w.heap.size + 1 + 1, 0, none⟩ (.bool true)) = W2 at q1' q2' hK' br sr sb ⊢
    have hr := Rest.putObj (Cs := Cs) (B := w.heap.size) (.deferred none) (by omega) hK' rfl
    refine ⟨by simp, .inl ⟨_, _, rfl, run_takeDeferred hK', ?_⟩⟩
    have d1 := (box_rest q1' hr (fun hm => by have := hC _ hm; omega)).cell
    have d2 := (box_rest q2' hr (fun hm => by have := hC _ hm; omega)).cell
    have on : Only Cs w W2 := ⟨br.os.trans hI.only.os, br.tape.trans hI.only.tape, br.output.trans hI.only.output, Nat.le_trans hI.only.size br.size, fun k hk hn => (br.block k hk).trans (hI.only.block k hk hn)⟩
    refine ⟨.tuple #[.slice Av xs.length cv, .bool true], ?_, _, by rw [hall], fun _ => ⟨us, own_same hrow (sb.trans (.of_rest hr)) hC, hf.mono fun x u hx => hR _ _ _ _ hx (sr.trans (.of_rest hr))⟩, (fun h => absurd (hall.symm.trans h) (by decide)), on.rest hr (fun c hc => .inl hc) (Nat.le_refl _)⟩
    simp [results, Tryd.f30, go_sem, d1, d2]
  case stop =>
    rintro D c pre W hD hpre hX hK
    obtain rfl := hX.ret
    gi_wp2
    have hr := Rest.putObj (Cs := Cs) (B := w.heap.size) (.deferred none) (by omega) hK rfl
    refine ⟨by simp, .inl ⟨_, _, rfl, run_takeDeferred hK, ?_⟩⟩
    have d1 := (box_rest hX.r1 hr (fun hm => by have := hC _ hm; omega)).cell
    have d2 := (box_rest hX.r2 hr (fun hm => by have := hC _ hm; omega)).cell
    have hall : xs.all ok = false := by
      obtain ⟨x, hx, hxo⟩ := hX.bad
      obtain ⟨t, ht⟩ := hpre
      exact List.all_eq_false.2 ⟨x, by rw [← ht]; exact List.mem_append_left _ hx, by rw [hxo]; decide⟩
    refine ⟨.tuple #[.slice none 0 0, .bool false], ?_, _, by rw [hall], (fun h => absurd (hall.symm.trans h) (by decide)), fun _ => rfl, hX.only.rest hr (fun c hc => .inl hc) (Nat.le_refl _)⟩
    simp [results, Tryd.f30, go_sem, d1, d2]
end Go.Proofs.YtedkhdnfbdojcaaDoor
end
