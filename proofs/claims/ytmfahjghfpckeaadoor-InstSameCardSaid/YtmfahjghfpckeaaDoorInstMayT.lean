/- Which instances may be, off the document's code. -/
import Derived.Test.YtmfahjghfpckeaaDoorInstMayS
import Derived.Test.YtmfahjghfpckeaaDoorInstMayC
namespace Go.Proofs.YtmfahjghfpckeaaDoor
open Go.RowKit
set_option linter.unusedVariables false
/-- What is asked of an instance's own numbers. -/
def SizedP (x : Inst) : Prop := 1 ≤ x.days ∧ x.days ≤ 64 ∧ 0 ≤ x.veh ∧ x.veh ≤ 2147483648 ∧ 0 ≤ x.cap ∧ x.cap ≤ 2147483648 ∧ 0 ≤ x.len ∧ x.len ≤ 2147483648 ∧ x.custs.length ≤ 2000 ∧ x.dist.length = x.custs.length + 1
theorem mayI_iff {x : Inst} : mayI x = true ↔ SizedP x ∧ x.custs.all (fun c => mayC c x.days) = true ∧ rowsB x.custs.length x.dist x.dist.length = true := by
  unfold mayI sizedB peopledB measB sizeB SizedP
  simp only [Bool.and_eq_true, withinB_iff, decide_eq_true_iff, beq_iff_eq]
  constructor
  · rintro ⟨⟨⟨⟨⟨a1, a2⟩, a3, a4⟩, a5, a6⟩, a7⟩, a9, a10⟩
    exact ⟨⟨a1.1, a1.2, a2.1, a2.2, a3, a4, a5, a6, a7.1, a9⟩, a7.2, a10⟩
  · rintro ⟨⟨a1, a2, a3, a4, a5, a6, a7, a8, a9, a10⟩, a11, a12⟩
    exact ⟨⟨⟨⟨⟨⟨a1, a2⟩, a3, a4⟩, a5, a6⟩, a7, a8⟩, a9, a11⟩, a10, a12⟩
/-- The first k arcs of row a may be. -/
def okK (a : Nat) (r : List Int) (k : Nat) : Bool := (List.range k).all fun j => sizeB (r.getD j 0) && (a != j || r.getD j 0 == 0)
theorem okK_succ (a : Nat) (r : List Int) (k : Nat) : okK a r (k + 1) = (okK a r k && (sizeB (r.getD k 0) && (a != k || r.getD k 0 == 0))) := by
  unfold okK
  rw [List.range_succ, List.all_append]
  simp only [List.all_cons, List.all_nil, Bool.and_true]
theorem okK_no {a : Nat} {r : List Int} {k m : Nat} (hk : k < m) (h : (sizeB (r.getD k 0) && (a != k || r.getD k 0 == 0)) = false) : okK a r m = false := by
  unfold okK
  rw [List.all_eq_false]
  exact ⟨k, List.mem_range.2 hk, by simpa using h⟩
theorem rowB_okK {n a : Nat} {r : List Int} (hr : r.length = n + 1) (ha : a ≤ n) : rowB n a r = okK a r (n + 1) := by
  rw [Bool.eq_iff_iff]
  unfold rowB okK
  rw [beq_iff_eq.2 hr, Bool.true_and, Bool.and_eq_true, beq_iff_eq, List.all_eq_true, List.all_eq_true]
  constructor
  · rintro ⟨h1, h2⟩ j hj
    have hj' : j < r.length := by have := List.mem_range.1 hj; omega
    rw [getD_in _ _ hj', h2 _ (List.getElem_mem hj'), Bool.true_and]
    by_cases e : a = j
    · subst e
      rw [getD_in _ _ hj'] at h1
      simp [h1]
    · simp [e]
  · intro h
    refine ⟨?_, fun v hv => ?_⟩
    · have := h a (List.mem_range.2 (by omega))
      simp only [Bool.and_eq_true] at this
      simpa using this.2
    · obtain ⟨j, hj, rfl⟩ := List.getElem_of_mem hv
      have := h j (List.mem_range.2 (by omega))
      rw [getD_in _ _ hj, Bool.and_eq_true] at this
      exact this.1
theorem customer_from {w : World} {c : Cust} {A : Option Addr} {k : Nat} (hc : c.Wf) (hn : Nums .u64 w A c.pats.length c.pats) (d : Int) (W : World) (hb : Below w.heap.size w W) :
    Calls Tryd.prog 26 #[custV c A k, .int .i64 d] W fun e w' => e = .returned (.bool (mayC c d)) ∧ Below W.heap.size W w' := customer_any c A k d W hc (hn.keep hb)
set_option maxRecDepth 100000 in
set_option maxHeartbeats 8000000 in
theorem May_ref (x : Inst) (A : Option Addr) (c : Nat) (B : Option Addr) (d : Nat) (w : World) (h : InstIs w x A B) :
    Calls Tryd.prog 10 #[instV x A c B d] w fun e w' => e = .returned (.bool (mayI x)) ∧ Below w.heap.size w w' := by
  have hb := below_alloc w (.cells #[.int .i64 x.days, .int .i64 x.veh, .int .i64 x.cap, .int .i64 x.len, .slice A x.custs.length c, .slice B x.dist.length d] 25)
  have hl := h.wf.n
  have hm := h.wf.m
  unfold maxLen at hl hm
  have no : ¬ SizedP x → mayI x = false := fun h => by
    cases hm : mayI x
    · rfl
    · exact absurd (mayI_iff.1 hm).1 h
  unfold instV
  by_cases h0 : 1 ≤ x.days
  case neg =>
    rw [no (fun h => h0 h.1)]
    clear h no hb
    go_enter Tryd.func10, Tryd.ntmps10
    go_wp2
    go_ret
    exact ⟨rfl, below_alloc _ _⟩
  by_cases h1 : x.days ≤ 64
  case neg =>
    rw [no (fun h => h1 h.2.1)]
    clear h no hb
    go_enter Tryd.func10, Tryd.ntmps10
    go_wp2
    go_ret
    exact ⟨rfl, below_alloc _ _⟩
  by_cases h2 : 0 ≤ x.veh
  case neg =>
    rw [no (fun h => h2 h.2.2.1)]
    clear h no hb
    go_enter Tryd.func10, Tryd.ntmps10
    go_wp2
    go_ret
    exact ⟨rfl, below_alloc _ _⟩
  by_cases h3 : x.veh ≤ 2147483648
  case neg =>
    rw [no (fun h => h3 h.2.2.2.1)]
    clear h no hb
    go_enter Tryd.func10, Tryd.ntmps10
    go_wp2
    go_ret
    exact ⟨rfl, below_alloc _ _⟩
  by_cases h4 : 0 ≤ x.cap
  case neg =>
    rw [no (fun h => h4 h.2.2.2.2.1)]
    clear h no hb
    go_enter Tryd.func10, Tryd.ntmps10
    go_wp2
    go_ret
    exact ⟨rfl, below_alloc _ _⟩
  by_cases h5 : x.cap ≤ 2147483648
  case neg =>
    rw [no (fun h => h5 h.2.2.2.2.2.1)]
    clear h no hb
    go_enter Tryd.func10, Tryd.ntmps10
    go_wp2
    go_ret
    exact ⟨rfl, below_alloc _ _⟩
  by_cases h6 : 0 ≤ x.len
  case neg =>
    rw [no (fun h => h6 h.2.2.2.2.2.2.1)]
    clear h no hb
    go_enter Tryd.func10, Tryd.ntmps10
    go_wp2
    go_ret
    exact ⟨rfl, below_alloc _ _⟩
  by_cases h7 : x.len ≤ 2147483648
  case neg =>
    rw [no (fun h => h7 h.2.2.2.2.2.2.2.1)]
    clear h no hb
    go_enter Tryd.func10, Tryd.ntmps10
    go_wp2
    go_ret
    exact ⟨rfl, below_alloc _ _⟩
  by_cases h8 : x.custs.length ≤ 2000
  case neg =>
    rw [no (fun h => h8 h.2.2.2.2.2.2.2.2.1)]
    clear h no hb
    have z : (2000 : Int) < (x.custs.length : Int) := by omega
    go_enter Tryd.func10, Tryd.ntmps10
    go_wp2
    go_ret
    exact ⟨rfl, below_alloc _ _⟩
  have z1 : (x.custs.length : Int) ≤ 2000 := by omega
  by_cases h9 : x.dist.length = x.custs.length + 1
  case neg =>
    rw [no (fun h => h9 h.2.2.2.2.2.2.2.2.2)]
    clear h no hb
    have z : ((x.dist.length : Int) != (x.custs.length : Int) + 1) = true := by simp; omega
    go_enter Tryd.func10, Tryd.ntmps10
    go_wp2
    go_ret
    exact ⟨rfl, below_alloc _ _⟩
  have z2 : ((x.dist.length : Int) != (x.custs.length : Int) + 1) = false := by simp; omega
  have em : mayI x = (x.custs.all (fun c => mayC c x.days) && rowsB x.custs.length x.dist x.dist.length) := by
    rw [Bool.eq_iff_iff, mayI_iff, Bool.and_eq_true]
    exact ⟨fun h => h.2, fun h => ⟨⟨h0, h1, h2, h3, h4, h5, h6, h7, h8, h9⟩, h⟩⟩
  rw [em]
  have HI := Go.Lib.hid h
  have HJ := Go.Lib.hid (InstBox.fresh w x A c B d)
  have HMN := Go.Lib.hid h9
  clear h no em h9
  go_enter Tryd.func10, Tryd.ntmps10
  go_wp2
  go_loopw [4] (fun iv wr => ∃ i : Nat, i ≤ x.custs.length ∧ iv = .int .i64 i ∧ (x.custs.take i).all (fun c => mayC c x.days) = true ∧ InstBox wr w.heap.size x A c B d ∧ Below w.heap.size w wr) (fun iv _ => x.custs.length - (intOf iv).toNat)
  case atStart => exact ⟨0, Nat.zero_le _, rfl, rfl, HJ.out, hb⟩
  case round =>
    clear hb HJ z2 h0 h1 h2 h3 h4 h5 h6 h7
    obtain ⟨i, hi, rfl, ht, hJ, hB⟩ := hrel
    have HTK := Go.Lib.hid ht
    have HB := Go.Lib.hid hB
    have HJ := Go.Lib.hid hJ
    obtain ⟨j0, j1, j2, j3, j4, j5⟩ := hJ.cells
    clear ht hB hJ
    by_cases hlt : i < x.custs.length
    · obtain ⟨b, off, P, kp, rfl, hca, hnp, hkp⟩ := HI.out.custs i hlt
      have hcw := HI.out.wf.custs _ (List.getElem_mem hlt)
      have H1 : Hid ((x.custs.take (i + 1)).all (fun c => mayC c x.days) = ((x.custs.take i).all (fun c => mayC c x.days) && mayC (x.custs[i]) x.days)) := all_take x.custs _ hlt
      have H2 : Hid (mayC (x.custs[i]) x.days = false → x.custs.all (fun c => mayC c x.days) = false) := fun h => all_no x.custs _ hlt h
      obtain ⟨ci, hci⟩ : ∃ ci, ci = x.custs[i] := ⟨_, rfl⟩
      rw [← hci] at hca hnp hcw H1 H2 hkp
      clear hci
      have CG := fun W hb => customer_from hcw hnp x.days W hb (k := kp)
      unfold custV at CG
      have k8 := hca.keep HB.out
      obtain ⟨e0, e1, e2, e3, e4, e5, e6, e7⟩ := k8
      have HCA := Go.Lib.hid hca
      have HBd := Go.Lib.hid HB.out.drew
      have HJd := Go.Lib.hid (HJ.out.keep (below_drew _))
      clear hca hnp hcw hkp
      generalize mayC ci x.days = q at *
      cases q
      all_goals
        go_wp2_with fail
        go_region_held3 (fun w' => w'.cell? ⟨w.heap.size, 4, none⟩ = some (.slice (some ⟨b, off, none⟩) x.custs.length c) ∧ w'.cell? ⟨b, off + i * 8, none⟩ = some (.int .i64 ci.kind) ∧ w'.cell? ⟨b, off + i * 8 + 1, none⟩ = some (.int .i64 ci.demand) ∧ w'.cell? ⟨b, off + i * 8 + 2, none⟩ = some (.slice P ci.pats.length kp) ∧ w'.cell? ⟨b, off + i * 8 + 3, none⟩ = some (.int .i64 ci.rate) ∧ w'.cell? ⟨b, off + i * 8 + 4, none⟩ = some (.int .i64 ci.size) ∧ w'.cell? ⟨b, off + i * 8 + 5, none⟩ = some (.int .i64 ci.start) ∧ w'.cell? ⟨b, off + i * 8 + 6, none⟩ = some (.int .i64 ci.rule) ∧ w'.cell? ⟨b, off + i * 8 + 7, none⟩ = some (.int .i64 ci.hold) ∧ w'.cell? ⟨w.heap.size, 0, none⟩ = some (.int .i64 x.days))
          (first | exact ⟨j4, e0, e1, e2, e3, e4, e5, e6, e7, j0⟩ | exact ⟨HJ5.out.cells.2.2.2.2.1, K5.out.c0, K5.out.c1, K5.out.c2, K5.out.c3, K5.out.c4, K5.out.c5, K5.out.c6, K5.out.c7, HJ5.out.cells.1⟩ | go_keep)
          (first
            | (go_at_call 26; refine (CG _ HBd.out).mono ?_; rintro e w5 ⟨rfl, hb5⟩; have HJ5 := Go.Lib.hid (HJd.out.keep hb5); have HB5 := Go.Lib.hid (HBd.out.trans (hb5.mono HBd.out.size)); have K5 := Go.Lib.hid (HCA.out.keep HB5.out); clear hb5))
      · go_wp2
        go_ret
        exact ⟨ret_bool (by rw [H2.out (by first | rfl | trivial)]; rfl), HB5.out⟩
      · go_wp2
        exact ⟨⟨i + 1, by omega, by go_num, by rw [H1.out, HTK.out]; rfl, HJ5.out, HB5.out⟩, by simp [intOf]; omega⟩
    · obtain rfl : i = x.custs.length := by omega
      have HE : Hid (x.custs.all (fun c => mayC c x.days) = true) := by have := HTK.out; rw [List.take_length] at this; exact this
      have HK := Go.Lib.hid (HI.out.keep HB.out)
      go_wp2
      go_loop [6] (fun iv => ∃ p : Nat, p ≤ x.dist.length ∧ iv = .int .i64 p ∧ rowsB x.custs.length x.dist p = true) (fun iv => x.dist.length - (intOf iv).toNat)
      case atStart => exact ⟨0, Nat.zero_le _, rfl, rfl⟩
      case round =>
        obtain ⟨p, hp, rfl, ht⟩ := hrel
        have HRK := Go.Lib.hid ht
        clear ht
        by_cases hlp : p < x.dist.length
        · obtain ⟨b, off, P, r, rfl, e1, e2, e3⟩ := HK.out.dist p hlp
          have hrl := (HK.out.wf.dist _ (List.getElem_mem hlp)).1
          have H1 : Hid (rowsB x.custs.length x.dist (p + 1) = (rowsB x.custs.length x.dist p && rowB x.custs.length p (x.dist[p]))) := by show _ = _; rw [rowsB_succ, getD_in _ _ hlp]
          have H2 : Hid (rowB x.custs.length p (x.dist[p]) = false → rowsB x.custs.length x.dist x.dist.length = false) := fun h => rowsB_no hlp (by rw [getD_in _ _ hlp]; exact h)
          obtain ⟨ro, hro⟩ : ∃ ro, ro = x.dist[p] := ⟨_, rfl⟩
          rw [← hro] at e1 e2 e3 hrl H1 H2
          clear hro
          unfold maxLen at hrl
          have hpn : p ≤ x.custs.length := by have := HMN.out; omega
          by_cases hrn : ro.length = x.custs.length + 1
          · have t2 : ((ro.length : Int) != (x.custs.length : Int) + 1) = false := by simp; omega
            have HRO : Hid (rowB x.custs.length p ro = okK p ro (x.custs.length + 1)) := rowB_okK hrn hpn
            have HRN := Go.Lib.hid hrn
            have HNU := Go.Lib.hid e2
            clear e2 hrn
            go_wp2
            go_loop [7] (fun kv => ∃ k : Nat, k ≤ x.custs.length + 1 ∧ kv = .int .i64 k ∧ okK p ro k = true) (fun kv => x.custs.length + 1 - (intOf kv).toNat)
            case atStart => exact ⟨0, Nat.zero_le _, rfl, rfl⟩
            case round =>
              obtain ⟨k, hk, rfl, ht⟩ := hrel
              have HKK := Go.Lib.hid ht
              clear ht t2
              by_cases hlk : k ≤ x.custs.length
              · have hkr : k < ro.length := by rw [HRN.out]; omega
                obtain ⟨b2, off2, rfl, hce⟩ := HNU.out.2 (by omega)
                have c0 := hce k hkr
                have H5 : Hid (okK p ro (k + 1) = (okK p ro k && (sizeB (ro.getD k 0) && (p != k || ro.getD k 0 == 0)))) := okK_succ p ro k
                have H6 : Hid ((sizeB (ro.getD k 0) && (p != k || ro.getD k 0 == 0)) = false → okK p ro (x.custs.length + 1) = false) := fun h => okK_no (by omega) h
                clear hce
                generalize ro.getD k 0 = v at *
                by_cases hv0 : v < 0
                · have HF : Hid ((sizeB v && (p != k || v == 0)) = false) := by show _ = _; unfold sizeB; rw [withinB_false (by omega), Bool.false_and]
                  go_wp2
                  go_ret
                  exact ⟨ret_bool (by rw [H2.out (by rw [HRO.out]; exact H6.out HF.out), Bool.and_false]), HB.out⟩
                · have hv1 : 0 ≤ v := by omega
                  by_cases hv2 : v ≤ 2147483648
                  · by_cases hpk : p = k
                    · have t3 : ((p : Int) == (k : Int)) = true := by subst hpk; simp
                      have t4 : (p == k) = true := by subst hpk; simp
                      by_cases hvz : v = 0
                      · have t5 : (v != 0) = false := by rw [hvz]; rfl
                        have HF : Hid ((sizeB v && (p != k || v == 0)) = true) := by show _ = _; unfold sizeB; rw [withinB_true (by omega), Bool.true_and, beq_iff_eq.2 hvz, Bool.or_true]
                        clear hvz hpk
                        go_wp2
                        go_round
                        case rel => exact ⟨k + 1, by omega, by go_num, by rw [H5.out, HKK.out, HF.out]; rfl⟩
                        case measure => simp [intOf]; omega
                      · have t5 : (v != 0) = true := bne_iff_ne.2 hvz
                        have HF : Hid ((sizeB v && (p != k || v == 0)) = false) := by show _ = _; rw [beq_eq_false_iff_ne.2 hvz, Bool.or_false]; subst hpk; simp
                        clear hvz hpk
                        go_wp2
                        go_ret
                        exact ⟨ret_bool (by rw [H2.out (by rw [HRO.out]; exact H6.out HF.out), Bool.and_false]), HB.out⟩
                    · have t3 : ((p : Int) == (k : Int)) = false := by simp; omega
                      have t4 : (p == k) = false := by simpa using hpk
                      have HF : Hid ((sizeB v && (p != k || v == 0)) = true) := by show _ = _; unfold sizeB; rw [withinB_true (by omega), Bool.true_and, bne_iff_ne.2 hpk, Bool.true_or]
                      clear hpk
                      go_wp2
                      go_round
                      case rel => exact ⟨k + 1, by omega, by go_num, by rw [H5.out, HKK.out, HF.out]; rfl⟩
                      case measure => simp [intOf]; omega
                  · have hv3 : 2147483648 < v := by omega
                    have HF : Hid ((sizeB v && (p != k || v == 0)) = false) := by show _ = _; unfold sizeB; rw [withinB_false (by omega), Bool.false_and]
                    go_wp2
                    go_ret
                    exact ⟨ret_bool (by rw [H2.out (by rw [HRO.out]; exact H6.out HF.out), Bool.and_false]), HB.out⟩
              · obtain rfl : k = x.custs.length + 1 := by omega
                have hkg : ¬ (((x.custs.length + 1 : Nat) : Int) ≤ (x.custs.length : Int)) := by omega
                go_wp2
                exact ⟨⟨p + 1, by omega, by go_num, by rw [H1.out, HRK.out, HRO.out, HKK.out]; rfl⟩, by simp [intOf]; omega⟩
          · have t2 : ((ro.length : Int) != (x.custs.length : Int) + 1) = true := by simp; omega
            have H4 : Hid (rowB x.custs.length p ro = false) := by show _ = _; unfold rowB; rw [beq_eq_false_iff_ne.2 hrn, Bool.false_and, Bool.false_and]
            clear e2 hrn
            go_wp2
            go_ret
            exact ⟨ret_bool (by rw [H2.out H4.out, Bool.and_false]), HB.out⟩
        · obtain rfl : p = x.dist.length := by omega
          have hgt : ¬ ((x.dist.length : Int) ≤ (x.custs.length : Int)) := by have := HMN.out; omega
          have hgt2 : ¬ (x.dist.length ≤ x.custs.length) := by have := HMN.out; omega
          go_wp2
          go_ret
          exact ⟨ret_bool (by rw [HE.out, HRK.out]; rfl), HB.out⟩
end Go.Proofs.YtmfahjghfpckeaaDoor
