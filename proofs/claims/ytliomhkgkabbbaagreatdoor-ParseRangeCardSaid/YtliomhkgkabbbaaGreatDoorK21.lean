import Derived.Test.YtliomhkgkabbbaaGreatDoorK20
import Derived.Test.YtliomhkgkabbbaaGreatDoorK18
import Derived.BigRegion
import Derived.Deep.RegionLaw
import Derived.Deep.AppendLies
section
/- What people and sizes answer, off their code. -/
namespace Go.Proofs.YtliomhkgkabbbaaGreatDoor
open Go.RowKit
set_option linter.unusedVariables false
set_option maxRecDepth 20000
theorem NamedEnd.got {w w' : World} {vs : List Int} {e : Ending} {n : Nat} (h : NamedEnd w (some vs) e w') (hn : vs.length = n) (h0 : 0 < n) :
    ∃ b c, e = .returned (.tuple #[.slice (some ⟨b, 0, none⟩) n c, .bool true]) ∧ (∀ j, j < n → w'.cell? ⟨b, j, none⟩ = some (.int .i64 (vs.getD j 0))) ∧ Below w.heap.size w w' := by
  subst hn
  obtain ⟨v, h1, h2, _, h3⟩ := h
  have h2 := h2 vs rfl
  obtain ⟨b, cap, hv, _, _⟩ := h2.form h0
  subst hv
  refine ⟨b, cap, h1, fun j hj => ?_, h3⟩
  rw [h2.cellAt j (by omega), List.getElem?_map, List.getElem?_eq_getElem hj, getD_in _ _ hj]
  rfl
theorem NamedEnd.miss {w w' : World} {e : Ending} (h : NamedEnd w none e w') : e = .returned (.tuple #[.slice none 0 0, .bool false]) ∧ Below w.heap.size w w' := by
  obtain ⟨v, h1, _, h2, h3⟩ := h
  rw [h2 rfl] at h1
  exact ⟨h1, h3⟩
set_option maxHeartbeats 4000000 in
theorem people_ok : StepOk 58 peopleP := by
  have e : ∀ {s s' : St} {l : List (List UInt8)}, peopleP s l = some s' → ∃ a, namedV [wCustomers] l = some [a] ∧ s' = { s with n := a } ∧ 0 ≤ a ∧ a ≤ 1000000000000000000 := fun {s s' l} h => by
    unfold peopleP at h
    cases hv : namedV [wCustomers] l with
    | none => rw [hv] at h; cases h
    | some v =>
      rw [hv] at h
      injection h with h
      have hlen : v.length = 1 := namedV_len hv
      match v, hlen with
      | [a], _ =>
        obtain ⟨o, _, _, o3⟩ := namedV_some hv
        exact ⟨a, rfl, h.symm, (numsV_bd o3 a (by simp)).1, (numsV_bd o3 a (by simp)).2⟩
  refine ⟨fun h => by obtain ⟨a, _, h2, _⟩ := e h; rw [h2], fun h hf => by obtain ⟨a, _, h2, _⟩ := e h; rw [h2]; exact ⟨Nat.le_succ_of_le hf.1, Nat.le_succ_of_le hf.2⟩, fun {w0 W g m b1 s u l} hr hl ho _ hf => ?_, fun {w0 W g m b1 s s' u l} hr hl ho _ hf => ?_⟩
  · obtain ⟨P, k, rfl, _, hw⟩ := hl
    have hN : namedV [wCustomers] l = none := by
      unfold peopleP at hf
      cases hv : namedV [wCustomers] l with
      | none => rfl
      | some v => rw [hv] at hf; cases hf
    have HB := Go.Lib.hid (below_alloc W (.cells #[.string (strL wCustomers)] 9))
    have CN := named_code P (some ⟨W.heap.size, 0, none⟩) l [wCustomers] k 1 l.length 1 _ ((hw.keep hr.low).keep HB.out) (words_lit W 9 [wCustomers]) rfl rfl ho.n (by decide) (fun x hx => Nat.le_trans (ho.z x hx) (by decide))
    rw [hN] at CN
    have HL := Go.Lib.hid hr.low
    generalize l.length = n at *
    clear hr hw ho hf hN
    go_enter Tryz.func58, Tryz.ntmps58
    go_wp2_with (go_at_call 87; refine CN.mono ?_; rintro e w2 hE; obtain ⟨rfl, hb2⟩ := hE.miss)
    go_ret
    have hb3 := HB.out.trans (hb2.mono HB.out.size)
    exact ⟨rfl, HL.out.trans (hb3.mono HL.out.size)⟩
  · obtain ⟨P, k, rfl, _, hw⟩ := hl
    obtain ⟨a, hN, hs, a0, a1⟩ := e hf
    have HB := Go.Lib.hid (below_alloc W (.cells #[.string (strL wCustomers)] 9))
    have CN := named_code P (some ⟨W.heap.size, 0, none⟩) l [wCustomers] k 1 l.length 1 _ ((hw.keep hr.low).keep HB.out) (words_lit W 9 [wCustomers]) rfl rfl ho.n (by decide) (fun x hx => Nat.le_trans (ho.z x hx) (by decide))
    rw [hN] at CN
    obtain ⟨lv, v, u, cl, hr⟩ := hr
    have HR := Go.Lib.hid hr
    have HS := Go.Lib.hid hs
    generalize l.length = n at *
    clear hr hw ho hf hN hs
    go_enter Tryz.func58, Tryz.ntmps58
    go_wp2_with (go_at_call 87; refine CN.mono ?_; rintro e w2 hE; obtain ⟨b, c, rfl, hc, hb2⟩ := hE.got (n := 1) rfl (by decide); have hc0 : w2.cell? ⟨b, 0, none⟩ = some (.int .i64 a) := hc 0 (by decide); have HR2 := Go.Lib.hid (HR.out.keep (HB.out.trans (hb2.mono HB.out.size))); have hfz := HR2.out.box.thaw 8; obtain ⟨d0, d1, d2, d3, d4, d5, d6, d7, d8, d9⟩ := HR2.out.box.cells10; clear hc hE)
    go_ret
    refine ⟨rfl, lv, v, u, cl, ?_⟩
    have hwf := HR2.out.wf
    rw [HS.out]
    exact HR2.out.put' 8 _ _ lv rfl HR2.out.left rfl rfl ⟨hwf.days, hwf.veh, hwf.cap, hwf.len, ⟨a0, a1⟩, hwf.custs, hwf.dist⟩
end Go.Proofs.YtliomhkgkabbbaaGreatDoor
end
section
/- What sizes answers, off its code. -/
namespace Go.Proofs.YtliomhkgkabbbaaGreatDoor
open Go.RowKit
set_option linter.unusedVariables false
set_option maxRecDepth 20000
set_option maxHeartbeats 4000000 in
theorem sizes_ok : StepOk 57 sizesP := by
  have e : ∀ {s s' : St} {l : List (List UInt8)}, sizesP s l = some s' → ∃ a b c d, namedV [wDays, wVehicles, wCapacity, wLength] l = some [a, b, c, d] ∧ s' = { s with x := { s.x with days := a, veh := b, cap := c, len := d } } ∧ (0 ≤ a ∧ a ≤ 1000000000000000000) ∧ (0 ≤ b ∧ b ≤ 1000000000000000000) ∧ (0 ≤ c ∧ c ≤ 1000000000000000000) ∧ (0 ≤ d ∧ d ≤ 1000000000000000000) := fun {s s' l} h => by
    unfold sizesP at h
    cases hv : namedV [wDays, wVehicles, wCapacity, wLength] l with
    | none => rw [hv] at h; cases h
    | some v =>
      rw [hv] at h
      injection h with h
      have hlen : v.length = 4 := namedV_len hv
      match v, hlen with
      | [a, b, c, d], _ =>
        obtain ⟨o, _, _, o3⟩ := namedV_some hv
        have hb := numsV_bd o3
        exact ⟨a, b, c, d, rfl, h.symm, hb a (by simp), hb b (by simp), hb c (by simp), hb d (by simp)⟩
  refine ⟨fun h => by obtain ⟨a, b, c, d, _, h2, _⟩ := e h; rw [h2], fun h hf => by obtain ⟨a, b, c, d, _, h2, _⟩ := e h; rw [h2]; exact ⟨Nat.le_succ_of_le hf.1, Nat.le_succ_of_le hf.2⟩, fun {w0 W g m b1 s u l} hr hl ho _ hf => ?_, fun {w0 W g m b1 s s' u l} hr hl ho _ hf => ?_⟩
  · obtain ⟨P, k, rfl, _, hw⟩ := hl
    have hN : namedV [wDays, wVehicles, wCapacity, wLength] l = none := by
      unfold sizesP at hf
      cases hv : namedV [wDays, wVehicles, wCapacity, wLength] l with
      | none => rfl
      | some v => rw [hv] at hf; cases hf
    have HB := Go.Lib.hid (below_alloc W (.cells #[.string (strL wDays), .string (strL wVehicles), .string (strL wCapacity), .string (strL wLength)] 9))
    have CN := named_code P (some ⟨W.heap.size, 0, none⟩) l [wDays, wVehicles, wCapacity, wLength] k 4 l.length 4 _ ((hw.keep hr.low).keep HB.out) (words_lit W 9 [wDays, wVehicles, wCapacity, wLength]) rfl rfl ho.n (by decide) (fun x hx => Nat.le_trans (ho.z x hx) (by decide))
    rw [hN] at CN
    have HL := Go.Lib.hid hr.low
    generalize l.length = n at *
    clear hr hw ho hf hN
    go_enter Tryz.func57, Tryz.ntmps57
    go_wp2_with (go_at_call 87; refine CN.mono ?_; rintro e w2 hE; obtain ⟨rfl, hb2⟩ := hE.miss)
    go_ret
    have hb3 := HB.out.trans (hb2.mono HB.out.size)
    exact ⟨rfl, HL.out.trans (hb3.mono HL.out.size)⟩
  · obtain ⟨P, k, rfl, _, hw⟩ := hl
    obtain ⟨a, b, c, d, hN, hs, a0, b0, c0, d0⟩ := e hf
    have HB := Go.Lib.hid (below_alloc W (.cells #[.string (strL wDays), .string (strL wVehicles), .string (strL wCapacity), .string (strL wLength)] 9))
    have CN := named_code P (some ⟨W.heap.size, 0, none⟩) l [wDays, wVehicles, wCapacity, wLength] k 4 l.length 4 _ ((hw.keep hr.low).keep HB.out) (words_lit W 9 [wDays, wVehicles, wCapacity, wLength]) rfl rfl ho.n (by decide) (fun x hx => Nat.le_trans (ho.z x hx) (by decide))
    rw [hN] at CN
    obtain ⟨lv, v, u, cl, hr⟩ := hr
    have HR := Go.Lib.hid hr
    have HS := Go.Lib.hid hs
    generalize l.length = n at *
    clear hr hw ho hf hN hs
    go_enter Tryz.func57, Tryz.ntmps57
    go_wp2_with (go_at_call 87; refine CN.mono ?_; rintro e w2 hE; obtain ⟨z, zc, rfl, hc, hb2⟩ := hE.got (n := 4) rfl (by decide); have hc0 : w2.cell? ⟨z, 0, none⟩ = some (.int .i64 a) := hc 0 (by decide); have hc1 : w2.cell? ⟨z, 1, none⟩ = some (.int .i64 b) := hc 1 (by decide); have hc2 : w2.cell? ⟨z, 2, none⟩ = some (.int .i64 c) := hc 2 (by decide); have hc3 : w2.cell? ⟨z, 3, none⟩ = some (.int .i64 d) := hc 3 (by decide); have HR2 := Go.Lib.hid (HR.out.keep (HB.out.trans (hb2.mono HB.out.size))); have f2 := HR2.out.box.thaw 2; have f3 := HR2.out.box.thaw 3; have f4 := HR2.out.box.thaw 4; have f5 := HR2.out.box.thaw 5; obtain ⟨j0, j1, j2, j3, j4, j5, j6, j7, j8, j9⟩ := HR2.out.box.cells10; clear hc hE)
    go_region
    go_wp2
    go_ret
    refine ⟨rfl, lv, v, u, cl, ?_⟩
    have hwf := HR2.out.wf
    have p1 := HR2.out.put' 2 (.int .i64 a) { s with x := { s.x with days := a } } lv rfl HR2.out.left rfl rfl ⟨a0, hwf.veh, hwf.cap, hwf.len, hwf.n, hwf.custs, hwf.dist⟩
    have p2 := p1.put' 3 (.int .i64 b) { s with x := { s.x with days := a, veh := b } } lv rfl HR2.out.left rfl rfl ⟨a0, b0, hwf.cap, hwf.len, hwf.n, hwf.custs, hwf.dist⟩
    have p3 := p2.put' 4 (.int .i64 c) { s with x := { s.x with days := a, veh := b, cap := c } } lv rfl HR2.out.left rfl rfl ⟨a0, b0, c0, hwf.len, hwf.n, hwf.custs, hwf.dist⟩
    have p4 := p3.put' 5 (.int .i64 d) { s with x := { s.x with days := a, veh := b, cap := c, len := d } } lv rfl HR2.out.left rfl rfl ⟨a0, b0, c0, d0, hwf.n, hwf.custs, hwf.dist⟩
    rw [HS.out]
    exact p4.keep (below_drew _)
end Go.Proofs.YtliomhkgkabbbaaGreatDoor
end
section
/- One more customer, and one more row of arcs, in a reader's lists; what arcs answers, off its code. -/
namespace Go.Proofs.YtliomhkgkabbbaaGreatDoor
open Go.RowKit
set_option linter.unusedVariables false
set_option maxRecDepth 20000
section
variable {w0 W w3 : World} {g m b1 : Nat} {lv v u v' u' : Value} {l : CRow} {s : St}
theorem RAt.grown (h : RAt w0 g m b1 lv v u l s W) {tmp : Obj} {q : Value} (hge : ∀ k, q.ownBlock = some k → b1 ≤ k) (hgrow : (W.alloc tmp).grownBy w3 q.ownBlock) :
    BlkIs w3 g 68 #[lv, .map (some m), .int .i64 s.x.days, .int .i64 s.x.veh, .int .i64 s.x.cap, .int .i64 s.x.len, v, u, .int .i64 s.n, .bool s.am] ∧ w3.heap[m]? = some (.map (kindsM g) 2) ∧ Below w0.heap.size w0 w3 := by
  have ne : ∀ k, k < b1 → some k ≠ q.ownBlock := fun k hk e => by have := hge k e.symm; omega
  have hm : m < W.heap.size := (Array.getElem?_eq_some_iff.1 h.kinds).1
  refine ⟨(h.box.alloc tmp).grown hgrow (ne _ h.g1), ?_, ?_⟩
  · rw [hgrow.block m (by simp; omega) (ne _ h.m1)]
    exact (Below.heap_alloc W tmp m hm).trans h.kinds
  · exact (h.low.alloc h.low.size tmp).grown hgrow (by have := h.low.size; simp; omega) (fun k hk => by have := hge k hk; have := h.g0; have := h.g1; omega)
/-- One more customer is appended, and the new row stored. -/
theorem RAt.push_c (h : RAt w0 g m b1 lv v u l s W) {tmp : Obj} {t : Cust × Option Addr × Nat} (ht : OwnP W b1 (.slice t.2.1 t.1.pats.length t.2.2) t.1.pats) (htw : t.1.Wf)
    (hgrow : (W.alloc tmp).grownBy w3 v.ownBlock) (hown : w3.ownsRow b1 41 8 v' (l.length + 1) (cellsC l ++ cell8 t.1 t.2.1 t.2.2)) :
    BlkIs w3 g 68 #[lv, .map (some m), .int .i64 s.x.days, .int .i64 s.x.veh, .int .i64 s.x.cap, .int .i64 s.x.len, v, u, .int .i64 s.n, .bool s.am] ∧
      RAt w0 g m b1 lv v' u (l ++ [t]) { s with x := { s.x with custs := s.x.custs ++ [t.1] } } (w3.setCell ⟨g, 6, none⟩ v') := by
  have hge := fun k hk => (World.ownsRow.lt h.custs.row k hk).1
  obtain ⟨q1, q2, q3⟩ := h.grown hge hgrow
  refine ⟨q1, ?_, h.left, ?_, ?_, ?_, ?_, ?_, h.g0, h.m0, h.g1, h.m1, q3.setCell h.g0 _, by have := hgrow.size; have := h.sz; simp at *; omega⟩
  · have := q1.put 6 v'
    simpa using this
  · exact (Below.heap_setCell w3 ⟨g, 6, none⟩ v' m h.ne).trans q2
  · have hc' : OwnCusts b1 (W.alloc tmp) v l := h.custs.keep (below_alloc _ _)
    exact (hc'.more hgrow (own_alloc ht tmp) hown).far h.g1 _
  · rw [List.map_append, h.cl]; rfl
  · have hc' : OwnCusts b1 (W.alloc tmp) v l := h.custs.keep (below_alloc _ _)
    exact (((h.dist.keep (below_alloc _ tmp)).grown_c hc'.row hgrow)).far h.g1 _
  · exact ⟨h.wf.days, h.wf.veh, h.wf.cap, h.wf.len, h.wf.n, fun c hc => by
      rcases List.mem_append.1 hc with hc | hc
      · exact h.wf.custs c hc
      · simp at hc; subst hc; exact htw, h.wf.dist⟩
/-- One more row is appended, and the new row of rows stored. -/
theorem RAt.push_d (h : RAt w0 g m b1 lv v u l s W) {tmp : Obj} {y : Value} {us : List Value} {r : List Int} (hr : r.length ≤ maxLen ∧ ∀ n ∈ r, W64 n) (hu : W.ownsRow b1 43 1 u s.x.dist.length us)
    (hf : Fit (fun r y => W.ownsRow b1 3 1 y r.length (r.map (Value.int .i64))) s.x.dist us) (hy : W.ownsRow b1 3 1 y r.length (r.map (Value.int .i64)))
    (hgrow : (W.alloc tmp).grownBy w3 u.ownBlock) (hown : w3.ownsRow b1 43 1 u' (s.x.dist.length + 1) (us ++ [y])) :
    BlkIs w3 g 68 #[lv, .map (some m), .int .i64 s.x.days, .int .i64 s.x.veh, .int .i64 s.x.cap, .int .i64 s.x.len, v, u, .int .i64 s.n, .bool s.am] ∧
      RAt w0 g m b1 lv v u' l { s with x := { s.x with dist := s.x.dist ++ [r] } } (w3.setCell ⟨g, 7, none⟩ u') := by
  have hge := fun k hk => (World.ownsRow.lt hu k hk).1
  obtain ⟨q1, q2, q3⟩ := h.grown hge hgrow
  have hu' := own_alloc hu tmp
  have st : SameT 3 [] (W.alloc tmp) w3 := .grown hu' (by decide) hgrow
  refine ⟨q1, ?_, h.left, ?_, ?_, h.cl, ?_, ?_, h.g0, h.m0, h.g1, h.m1, q3.setCell h.g0 _, by have := hgrow.size; have := h.sz; simp at *; omega⟩
  · have := q1.put 7 u'
    simpa using this
  · exact (Below.heap_setCell w3 ⟨g, 7, none⟩ u' m h.ne).trans q2
  · exact ((h.custs.keep (below_alloc _ tmp)).grown_d hu' hgrow).far h.g1 _
  · refine OwnDist.far ⟨us ++ [y], by rw [List.length_append]; exact hown, ?_⟩ h.g1 _
    exact (hf.mono fun r z hz => own_same (own_alloc hz tmp) st (by simp)).snoc (own_same (own_alloc hy tmp) st (by simp))
  · exact ⟨h.wf.days, h.wf.veh, h.wf.cap, h.wf.len, h.wf.n, h.wf.custs, fun r' hr' => by
      rcases List.mem_append.1 hr' with hr' | hr'
      · exact h.wf.dist r' hr'
      · simp at hr'; subst hr'; exact hr⟩
end
theorem info_ints : (Tryz.prog.info? 43).map (fun i => (i.zero, i.size, i.bytes)) = some (some (.slice none 0 0), 1, 24) := by kernel_rfl
theorem one_value (W : World) (y : Value) (t : TypeId) (j : Nat) (u : Value) (h : [y][j]? = some u) : (W.alloc (.cells #[y] t)).cell? ((⟨W.heap.size, 0, none⟩ : Addr).add j) = some u := by
  match j, h with
  | 0, h => injection h with h; rw [← h]; simp [Addr.add, go_sem]
set_option maxHeartbeats 8000000 in
theorem arcs_any {w0 W : World} {g m b1 : Nat} {s : St} {P : Option Addr} {n k : Nat} {r : List Int} (hr : RdAt w0 g m b1 s W) (hfew : s.Few 100000) (hrw : r.length ≤ maxLen ∧ ∀ n ∈ r, W64 n) (ok : Bool)
    (CN : Calls Tryz.prog 85 #[.slice P n k] W fun e w2 => ∃ A c, e = .returned (.tuple #[.slice A r.length c, .bool ok]) ∧ w2.ownsRow W.heap.size 3 1 (.slice A r.length c) r.length (r.map (Value.int .i64)) ∧ Below W.heap.size W w2) :
    Calls Tryz.prog 61 #[.pointer (some ⟨g, 0, none⟩), .slice P n k] W fun e w' => e = .returned (.bool (ok && decide ((r.length : Int) = s.n + 1))) ∧ RdAt w0 g m b1 { s with x := { s.x with dist := s.x.dist ++ [r] } } w' := by
  obtain ⟨i0, hi, hz0, hz1, hz2⟩ := info_parts info_ints
  obtain ⟨lv, v, u, cl, hr⟩ := hr
  have HR := Go.Lib.hid hr
  obtain ⟨Bv, kv, rfl, _⟩ := hr.dist.len
  have hd : s.x.dist.length ≤ 100000 := hfew.2
  obtain ⟨n0, n1⟩ := hr.wf.n
  have HW := Go.Lib.hid hrw
  have HD : Hid (decide ((r.length : Int) = s.n + 1) = ((r.length : Int) == s.n + 1)) := by
    show _ = _
    rw [Bool.eq_iff_iff, decide_eq_true_iff, beq_iff_eq]
  rw [HD.out]
  clear hr hrw hfew
  have hsz := HR.out.sz
  obtain ⟨rl, hrl⟩ : ∃ rl, rl = r.length := ⟨_, rfl⟩
  rw [← hrl] at CN ⊢
  have HRL := Go.Lib.hid hrl
  clear hrl
  cases ok
  all_goals
    go_enter Tryz.func61, Tryz.ntmps61
    go_wp2_with (first
      | (go_at_call 85; refine CN.mono ?_; rintro e w2 ⟨A, c, rfl, hy, hb2⟩; have HY := Go.Lib.hid (own_base hy hsz); have HR2 := Go.Lib.hid (HR.out.keep hb2); have hfz := HR2.out.box.thaw 7; obtain ⟨d0, d1, d2, d3, d4, d5, d6, d7, d8, d9⟩ := HR2.out.box.cells10; obtain ⟨us, hrow2, hfit2⟩ := HR2.out.dist.row; have HU := Go.Lib.hid hrow2; have HF := Go.Lib.hid hfit2; clear hy hrow2 hfit2)
      | (at_builtin; refine wpList_append_at rfl _ _ 23 rfl b1 43 i0 (.slice none 0 0) 1 24 Tryz.underlying23 hi hz0 hz1 hz2 rfl (by decide) _ _ _ rfl (own_keep (HU.out) (below_alloc _ _)) ⟨w2.heap.size, 0, none⟩ 1 1 [.slice A rl c] rfl rfl (one_value _ _ _) (by intro u hu; simp at hu; subst hu; rfl) (by unfold maxLen; omega) (by omega) (by have := HR2.out.sz; simp; omega) ?_; intro v' w3 hown' hgrow hloc; obtain ⟨q1, q2⟩ := HR2.out.push_d HW.out HU.out HF.out (by rw [← HRL.out]; exact HY.out) hgrow hown'; have Q2 := Go.Lib.hid q2; have q8 := q1.cells10.2.2.2.2.2.2.2.2.1; have q9 := q1.thaw 7; have q7 := q1.cells10.2.2.2.2.2.2.2.1; obtain ⟨A3, c3, rfl, _⟩ := own_form hown'; clear q1 q2 hown' hgrow hloc))
    go_ret
    exact ⟨rfl, lv, v, _, cl, Q2.out⟩
theorem nil_wf : (([] : List Int).length ≤ maxLen) ∧ ∀ n ∈ ([] : List Int), W64 n := ⟨by decide, fun n hn => by simp at hn⟩
theorem arcs_ok : StepOk 61 arcsP := by
  have e : ∀ {s s' : St} {l : List (List UInt8)}, arcsP s l = some s' → ∃ r, numsV l = some r ∧ (r.length : Int) = s.n + 1 ∧ s' = { s with x := { s.x with dist := s.x.dist ++ [r] } } := fun {s s' l} h => by
    unfold arcsP at h
    cases hv : numsV l with
    | none => rw [hv] at h; cases h
    | some r =>
      rw [hv, Option.bind_some] at h
      split at h
      · rename_i hl; injection h with h; exact ⟨r, rfl, hl, h.symm⟩
      · cases h
  have got : ∀ {W : World} {P : Option Addr} {n k : Nat} {r : List Int}, Calls Tryz.prog 85 #[.slice P n k] W (NamedEnd W (some r)) →
      Calls Tryz.prog 85 #[.slice P n k] W fun e w2 => ∃ A c, e = .returned (.tuple #[.slice A r.length c, .bool true]) ∧ w2.ownsRow W.heap.size 3 1 (.slice A r.length c) r.length (r.map (Value.int .i64)) ∧ Below W.heap.size W w2 := fun {W P n k r} C =>
    C.mono fun e w2 ⟨v, h1, h2, _, h3⟩ => by
      have h2 := h2 r rfl
      obtain ⟨A, c, rfl, _⟩ := own_form h2
      exact ⟨A, c, h1, h2, h3⟩
  have wf : ∀ {l : List (List UInt8)} {r : List Int}, LineOk l → numsV l = some r → r.length ≤ maxLen ∧ ∀ n ∈ r, W64 n := fun {l r} ho hN => by
    refine ⟨?_, fun n hn => ?_⟩
    · rw [numsV_len hN]; exact Nat.le_trans ho.n (by decide)
    · have := numsV_bd hN n hn
      exact ⟨by omega, by omega⟩
  refine ⟨fun h => by obtain ⟨a, _, _, h2⟩ := e h; rw [h2], fun h hf => by obtain ⟨a, _, _, h2⟩ := e h; rw [h2]; exact ⟨Nat.le_succ_of_le hf.1, by show (List.length (_ ++ _)) ≤ _; rw [List.length_append]; exact Nat.succ_le_succ hf.2⟩, fun {w0 W g m b1 s u l} hr hl ho hfew hf => ?_, fun {w0 W g m b1 s s' u l} hr hl ho hfew hf => ?_⟩
  · obtain ⟨P, k, rfl, _, hw⟩ := hl
    cases hN : numsV l with
    | none =>
      have CN := numbers_words P k l.length l W (hw.keep hr.low) rfl ho.n (fun x hx => Nat.le_trans (ho.z x hx) (by decide)) none hN
      refine (arcs_any (r := []) hr hfew nil_wf false (CN.mono fun e w2 h => ?_)).mono fun e w' ⟨h1, h2⟩ => ⟨h1, h2.low⟩
      obtain ⟨h1, h2⟩ := h.miss
      exact ⟨none, 0, h1, World.ownsRow_nil _ _ _ _, h2⟩
    | some r =>
      have CN := numbers_words P k l.length l W (hw.keep hr.low) rfl ho.n (fun x hx => Nat.le_trans (ho.z x hx) (by decide)) (some r) hN
      refine (arcs_any hr hfew (wf ho hN) true (got CN)).mono fun e w' ⟨h1, h2⟩ => ⟨?_, h2.low⟩
      have hne : ¬ (r.length : Int) = s.n + 1 := fun e => by
        unfold arcsP at hf
        rw [hN, Option.bind_some, if_pos e] at hf
        cases hf
      rw [h1, decide_eq_false hne]
      rfl
  · obtain ⟨P, k, rfl, _, hw⟩ := hl
    obtain ⟨r, hN, hrl, rfl⟩ := e hf
    have CN := numbers_words P k l.length l W (hw.keep hr.low) rfl ho.n (fun x hx => Nat.le_trans (ho.z x hx) (by decide)) (some r) hN
    refine (arcs_any hr hfew (wf ho hN) true (got CN)).mono fun e w' ⟨h1, h2⟩ => ⟨?_, h2⟩
    rw [h1, decide_eq_true hrl]
    rfl
end Go.Proofs.YtliomhkgkabbbaaGreatDoor
end
