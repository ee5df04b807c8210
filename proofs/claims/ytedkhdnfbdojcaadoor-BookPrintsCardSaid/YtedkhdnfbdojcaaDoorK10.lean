import Derived.Test.YtedkhdnfbdojcaaDoorK05
import Derived.Deep.RegionLaw
import Derived.Deep.RegionWith
section
/- Whether plans are the same, off the document's code. -/
namespace Go.Proofs.YtedkhdnfbdojcaaDoor
open Go.RowKit
set_option linter.unusedVariables false
set_option maxRecDepth 20000
theorem ne_of_part {α : Type} {l m : List α} (i : Nat) (h : l[i]? ≠ m[i]?) : l ≠ m := fun e => h (by rw [e])
set_option maxHeartbeats 8000000 in
theorem planSame_ref (p q : PlanD) (A : Option Addr) (c : Nat) (C : Option Addr) (e : Nat) (w : World) (hp : WfP p) (hq : WfP q) (h : PlanIs w A p) (h2 : PlanIs w C q) :
    Calls Tryd.prog 9 #[planV p A c, planV q C e] w fun E w' => E = .returned (.bool (decide (p = q))) ∧ Below w.heap.size w w' := by
  obtain ⟨r, hr⟩ : ∃ r, r = decide (p = q) := ⟨_, rfl⟩
  rw [← hr]
  have HF : Hid (p ≠ q → r = false) := fun hne => by rw [hr]; exact decide_eq_false hne
  have HG : Hid (p = q → r = true) := fun he => by rw [hr]; exact decide_eq_true he
  have hb0 := below_alloc w (.cells #[.slice A p.length c] 24)
  have hb1 := hb0.alloc hb0.size (.cells #[.slice C q.length e] 24)
  have HB := Go.Lib.hid hb1
  have HP := Go.Lib.hid (h.keep hb1)
  have HQ := Go.Lib.hid (h2.keep hb1)
  have K0 := (Boxed.new w 24 (.slice A p.length c)).alloc (.cells #[.slice C q.length e] 24)
  have K1 := Boxed.new (w.alloc (.cells #[.slice A p.length c] 24)) 24 (.slice C q.length e)
  rw [World.size_alloc] at K1
  have hpn := hp.n
  have hqn := hq.n
  unfold maxLen at hpn hqn
  have HWP := Go.Lib.hid hp
  have HWQ := Go.Lib.hid hq
  unfold planV
  clear hr h h2 hp hq hb0 hb1
  by_cases hlen : p.length = q.length
  rotate_left
  · have hn : ((p.length : Int) != (q.length : Int)) = true := by rw [bne, beq_eq_false_iff_ne.2 (by omega)]; rfl
    have hf := HF.out (fun he => hlen (by rw [he]))
    subst hf
    clear HF HG hlen
    go_enter Tryd.func9, Tryd.ntmps9
    go_wp2
    go_ret
    exact ⟨rfl, HB.out⟩
  have hn : ((p.length : Int) != (q.length : Int)) = false := by rw [bne, beq_iff_eq.2 (by omega)]; rfl
  have HLEN := Go.Lib.hid hlen
  clear hlen
  obtain ⟨W0, hW0⟩ : ∃ W, W = (w.alloc (.cells #[.slice A p.length c] 24)).alloc (.cells #[.slice C q.length e] 24) := ⟨_, rfl⟩
  go_enter Tryd.func9, Tryd.ntmps9
  go_wp2
  rw [← hW0] at HB HP HQ K0 K1
  go_loopw [5] (fun iv wr => ∃ j : Nat, j ≤ p.length ∧ iv = .int .i64 j ∧ p.take j = q.take j ∧ Below W0.heap.size W0 wr) (fun iv _ => p.length - (intOf iv).toNat)
  case atStart => exact ⟨0, Nat.zero_le _, rfl, rfl, by rw [hW0]; exact Below.refl _ _⟩
  case round =>
    clear hW0 hn
    obtain ⟨j, hj, rfl, htk, hLo⟩ := hrel
    have HTK := Go.Lib.hid htk
    have HLO := Go.Lib.hid hLo
    have x0 := cell_keep K0.cell hLo
    have x1 := cell_keep K1.cell hLo
    clear htk hLo
    by_cases hlt : j < p.length
    · have hltq : j < q.length := by rw [← HLEN.out]; exact hlt
      have hij : (j : Int) < (q.length : Int) := by omega
      obtain ⟨b, off, rfl, P, k, c0, t0, n0⟩ := HP.out j hlt
      obtain ⟨b', off', rfl, P', k', c1, t1, n1⟩ := HQ.out j hltq
      rw [Nat.mul_one] at c0 c1
      have y0 := cell_keep c0 HLO.out
      have y1 := cell_keep c1 HLO.out
      have HT0 := Go.Lib.hid t0
      have HT1 := Go.Lib.hid t1
      have hdn := HWP.out.day _ (List.getElem_mem hlt)
      have hen := HWQ.out.day _ (List.getElem_mem hltq)
      have HNE : Hid (p[j] ≠ q[j] → p ≠ q) := fun hne => ne_of_part j (by rw [List.getElem?_eq_getElem hlt, List.getElem?_eq_getElem hltq]; exact fun he => hne (Option.some.inj he))
      have HEQ : Hid (p[j] = q[j] → p.take (j + 1) = q.take (j + 1)) := fun he => by rw [List.take_succ_eq_append_getElem hlt, List.take_succ_eq_append_getElem hltq, HTK.out, he]
      have HTNP := Go.Lib.hid (HWP.out.tour _ (List.getElem_mem hlt))
      have HTNQ := Go.Lib.hid (HWQ.out.tour _ (List.getElem_mem hltq))
      obtain ⟨d, hd⟩ : ∃ d, d = p[j] := ⟨_, rfl⟩
      obtain ⟨f, hf⟩ : ∃ f, f = q[j] := ⟨_, rfl⟩
      rw [← hd] at y0 hdn HNE HEQ HT0 HTNP
      rw [← hf] at y1 hen HNE HEQ HT1 HTNQ
      unfold maxLen at hdn hen
      clear hd hf c0 c1 t0 t1 n0 n1 hltq
      by_cases hl2 : d.length = f.length
      rotate_left
      · have hn2 : ((d.length : Int) != (f.length : Int)) = true := by rw [bne, beq_eq_false_iff_ne.2 (by omega)]; rfl
        have hf := HF.out (HNE.out (fun he => hl2 (congrArg List.length he)))
        subst hf
        clear HF HG hl2
        go_wp2_with fail
        go_region
        all_goals
          go_wp2
          go_ret
          exact ⟨rfl, HB.out.trans ((HLO.out.mono HB.out.size).drew)⟩
      have hn2 : ((d.length : Int) != (f.length : Int)) = false := by rw [bne, beq_iff_eq.2 (by omega)]; rfl
      have HL2 := Go.Lib.hid hl2
      clear hl2
      obtain ⟨wq, hwq⟩ : ∃ q, q = wr := ⟨_, rfl⟩
      rw [← hwq] at x0 x1 y0 y1 HLO ⊢
      clear hwq
      go_wp2_with fail
      go_region
      go_wp2
      go_loopw [6] (fun kv wk => ∃ m : Nat, m ≤ d.length ∧ kv = .int .i64 m ∧ d.take m = f.take m ∧ Below wq.heap.size wq wk) (fun kv _ => d.length - (intOf kv).toNat)
      case atStart => exact ⟨0, Nat.zero_le _, rfl, rfl, below_drew _⟩
      case round =>
        obtain ⟨m, hm, rfl, htk2, hLo2⟩ := hrel
        have HTK2 := Go.Lib.hid htk2
        have HLO2 := Go.Lib.hid hLo2
        have x2 := cell_keep x0 hLo2
        have x3 := cell_keep x1 hLo2
        have y2 := cell_keep y0 hLo2
        have y3 := cell_keep y1 hLo2
        clear htk2 hLo2 hn2 x0 x1 y0 y1
        by_cases hlt2 : m < d.length
        · have hltf : m < f.length := by rw [← HL2.out]; exact hlt2
          have hmf : (m : Int) < (f.length : Int) := by omega
          obtain ⟨b2, off2, rfl, P2, k2, c2, t2, n2⟩ := HT0.out m hlt2
          obtain ⟨b3, off3, rfl, P3, k3, c3, t3, n3⟩ := HT1.out m hltf
          rw [Nat.mul_one] at c2 c3
          have z0 := cell_keep (cell_keep c2 HLO.out) HLO2.out
          have z1 := cell_keep (cell_keep c3 HLO.out) HLO2.out
          have HT2 := Go.Lib.hid t2
          have HT3 := Go.Lib.hid t3
          have htn := HTNP.out _ (List.getElem_mem hlt2)
          have hun := HTNQ.out _ (List.getElem_mem hltf)
          have HNE2 : Hid (d[m] ≠ f[m] → d ≠ f) := fun hne => ne_of_part m (by rw [List.getElem?_eq_getElem hlt2, List.getElem?_eq_getElem hltf]; exact fun he => hne (Option.some.inj he))
          have HEQ2 : Hid (d[m] = f[m] → d.take (m + 1) = f.take (m + 1)) := fun he => by rw [List.take_succ_eq_append_getElem hlt2, List.take_succ_eq_append_getElem hltf, HTK2.out, he]
          obtain ⟨t, ht⟩ : ∃ d', d' = d[m] := ⟨_, rfl⟩
          obtain ⟨u, hu⟩ : ∃ f', f' = f[m] := ⟨_, rfl⟩
          rw [← ht] at z0 htn HNE2 HEQ2 HT2
          rw [← hu] at z1 hun HNE2 HEQ2 HT3
          unfold maxLen at htn hun
          clear ht hu c2 c3 t2 t3 n2 n3 hltf
          by_cases hl3 : t.length = u.length
          rotate_left
          · have hn3 : ((t.length : Int) != (u.length : Int)) = true := by rw [bne, beq_eq_false_iff_ne.2 (by omega)]; rfl
            have hf := HF.out (HNE.out (HNE2.out (fun he => hl3 (congrArg List.length he))))
            subst hf
            clear HF HG hl3
            go_wp2
            go_ret
            exact ⟨rfl, HB.out.trans ((HLO.out.trans (HLO2.out.mono HLO.out.size)).mono HB.out.size)⟩
          have hn3 : ((t.length : Int) != (u.length : Int)) = false := by rw [bne, beq_iff_eq.2 (by omega)]; rfl
          have HL3 := Go.Lib.hid hl3
          clear hl3
          obtain ⟨we, hwe⟩ : ∃ q, q = wr := ⟨_, rfl⟩
          rw [← hwe] at x2 x3 y2 y3 z0 z1 HLO2 ⊢
          clear hwe
          go_wp2
          go_loopw [9] (fun kv wk => ∃ i : Nat, i ≤ t.length ∧ kv = .int .i64 i ∧ t.take i = u.take i ∧ Below we.heap.size we wk) (fun kv _ => t.length - (intOf kv).toNat)
          case atStart => exact ⟨0, Nat.zero_le _, rfl, rfl, Below.refl _ _⟩
          case round =>
            obtain ⟨i, hi, rfl, htk3, hLo3⟩ := hrel
            have HTK3 := Go.Lib.hid htk3
            have HLO3 := Go.Lib.hid hLo3
            clear htk3 hLo3 hn3 x2 x3 y2 y3 z0 z1
            by_cases hlt3 : i < t.length
            · have hltu : i < u.length := by rw [← HL3.out]; exact hlt3
              obtain ⟨b4, off4, rfl, c4, c5⟩ := HT2.out i hlt3
              obtain ⟨b5, off5, rfl, c6, c7⟩ := HT3.out i hltu
              have v0 := cell_keep (cell_keep (cell_keep c4 HLO.out) HLO2.out) HLO3.out
              have v1 := cell_keep (cell_keep (cell_keep c5 HLO.out) HLO2.out) HLO3.out
              have v2 := cell_keep (cell_keep (cell_keep c6 HLO.out) HLO2.out) HLO3.out
              have v3 := cell_keep (cell_keep (cell_keep c7 HLO.out) HLO2.out) HLO3.out
              have HNE3 : Hid (t[i] ≠ u[i] → t ≠ u) := fun hne => ne_of_part i (by rw [List.getElem?_eq_getElem hlt3, List.getElem?_eq_getElem hltu]; exact fun he => hne (Option.some.inj he))
              have HEQ3 : Hid (t[i] = u[i] → t.take (i + 1) = u.take (i + 1)) := fun he => by rw [List.take_succ_eq_append_getElem hlt3, List.take_succ_eq_append_getElem hltu, HTK3.out, he]
              obtain ⟨s, hs⟩ : ∃ s, s = t[i] := ⟨_, rfl⟩
              obtain ⟨y, hy⟩ : ∃ y, y = u[i] := ⟨_, rfl⟩
              rw [← hs] at v0 v1 HNE3 HEQ3
              rw [← hy] at v2 v3 HNE3 HEQ3
              have hiu : (i : Int) < (u.length : Int) := by omega
              clear hs hy c4 c5 c6 c7 hltu
              by_cases g1 : s.1 = y.1
              · by_cases g2 : s.2 = y.2
                · have he : s = y := Prod.ext g1 g2
                  have HE3 := Go.Lib.hid (HEQ3.out he)
                  rw [he] at v0 v1
                  clear g1 g2 he
                  go_wp2_with fail
                  go_region
                  all_goals
                    go_wp2
                    exact ⟨⟨i + 1, by omega, by go_num, HE3.out, HLO3.out.drew⟩, by simp [intOf]; omega⟩
                · have hf := HF.out (HNE.out (HNE2.out (HNE3.out (fun he => g2 (congrArg Prod.snd he)))))
                  subst hf
                  clear HF HG
                  go_wp2_with fail
                  go_region
                  all_goals
                    go_wp2
                    go_ret
                    exact ⟨rfl, HB.out.trans ((HLO.out.trans ((HLO2.out.trans (HLO3.out.drew.mono HLO2.out.size)).mono HLO.out.size)).mono HB.out.size)⟩
              · have hf := HF.out (HNE.out (HNE2.out (HNE3.out (fun he => g1 (congrArg Prod.fst he)))))
                subst hf
                clear HF HG
                go_wp2_with fail
                go_region
                all_goals
                  go_wp2
                  go_ret
                  exact ⟨rfl, HB.out.trans ((HLO.out.trans ((HLO2.out.trans (HLO3.out.drew.mono HLO2.out.size)).mono HLO.out.size)).mono HB.out.size)⟩
            · obtain rfl : i = t.length := by omega
              have HE2 : Hid (d.take (m + 1) = f.take (m + 1)) := HEQ2.out (by
                have := HTK3.out
                rwa [List.take_length, List.take_of_length_le (by rw [HL3.out]; exact Nat.le_refl _)] at this)
              go_wp2
              exact ⟨⟨m + 1, by omega, by go_num, HE2.out, HLO2.out.trans (HLO3.out.mono HLO2.out.size)⟩, by simp [intOf]; omega⟩
        · obtain rfl : m = d.length := by omega
          have HE1 : Hid (p.take (j + 1) = q.take (j + 1)) := HEQ.out (by
            have := HTK2.out
            rwa [List.take_length, List.take_of_length_le (by rw [HL2.out]; exact Nat.le_refl _)] at this)
          go_wp2
          exact ⟨⟨j + 1, by omega, by go_num, HE1.out, HLO.out.trans (HLO2.out.mono HLO.out.size)⟩, by simp [intOf]; omega⟩
    · obtain rfl : j = p.length := by omega
      have ht : r = true := HG.out (by
        have := HTK.out
        rwa [List.take_length, List.take_of_length_le (by rw [HLEN.out]; exact Nat.le_refl _)] at this)
      subst ht
      clear HF HG
      go_wp2
      go_ret
      exact ⟨rfl, HB.out.trans (HLO.out.mono HB.out.size)⟩
end Go.Proofs.YtedkhdnfbdojcaaDoor
end
section
/- Whether plans are the same, off the code's Same. -/
namespace Go.Proofs.YtedkhdnfbdojcaaDoor
open Go.RowKit
set_option linter.unusedVariables false
set_option maxRecDepth 20000
theorem take_eq_one {α : Type} {xs ys : List α} {k : Nat} (h : xs.take k = ys.take k) (hk : k < xs.length) (hk' : k < ys.length) (he : xs[k] = ys[k]) : xs.take (k + 1) = ys.take (k + 1) := by
  rw [List.take_succ_eq_append_getElem hk, List.take_succ_eq_append_getElem hk', h, he]
theorem ne_of_kth {α : Type} {xs ys : List α} {k : Nat} (hk : k < xs.length) (hk' : k < ys.length) (he : xs[k] ≠ ys[k]) : xs ≠ ys := by
  rintro rfl
  exact he rfl
set_option maxHeartbeats 4000000 in
theorem equal_stops (A C : Option Addr) (n m c d : Nat) (t u : TourD) (w : World) (ha : RowAt 2 StopAt w A t) (hb : RowAt 2 StopAt w C u) (hnt : t.length = n) (hmu : u.length = m) (hn : n ≤ maxLen) (hm : m ≤ maxLen) (q : Bool) (hq : decide (t = u) = q) :
    Calls Tryd.prog 54 #[.slice A n c, .slice C m d] w fun e w' => e = .returned (.bool q) ∧ Below w.heap.size w w' := by
  unfold maxLen at hn hm
  by_cases hnm : n = m
  · subst hnm
    have HX := Go.Lib.hid hnt
    have HY := Go.Lib.hid hmu
    have HA := Go.Lib.hid ha
    have HC := Go.Lib.hid hb
    have HQ := Go.Lib.hid hq
    clear ha hb hnt hmu hq
    go_enter Tryd.func54, Tryd.ntmps54
    go_wp2
    go_loopw [13] (fun iv wr => ∃ k : Nat, k ≤ n ∧ iv = .int .i64 k ∧ t.take k = u.take k ∧ Below w.heap.size w wr) (fun iv _ => n - (intOf iv).toNat)
    case atStart => exact ⟨0, Nat.zero_le _, rfl, by simp, Below.refl _ _⟩
    case round =>
      obtain ⟨k, hk, rfl, ht, B⟩ := hrel
      have HT := Go.Lib.hid ht
      have HB := Go.Lib.hid B
      clear ht B
      by_cases hlt : k < n
      · have hkx : k < t.length := by rw [HX.out]; exact hlt
        have hky : k < u.length := by rw [HY.out]; exact hlt
        obtain ⟨b1, o1, rfl, c1, c2⟩ := HA.out k hkx
        obtain ⟨b2, o2, rfl, c3, c4⟩ := HC.out k hky
        have v0 := cell_keep c1 HB.out
        have v1 := cell_keep c2 HB.out
        have v2 := cell_keep c3 HB.out
        have v3 := cell_keep c4 HB.out
        have k1 : (k : Int) < (n : Int) := by omega
        have HNE : Hid (t[k] ≠ u[k] → q = false) := fun hne => by rw [← HQ.out]; exact decide_eq_false (ne_of_kth hkx hky hne)
        have HEQ : Hid (t[k] = u[k] → t.take (k + 1) = u.take (k + 1)) := take_eq_one HT.out hkx hky
        obtain ⟨s, hs⟩ : ∃ s, s = t[k] := ⟨_, rfl⟩
        obtain ⟨y, hy⟩ : ∃ y, y = u[k] := ⟨_, rfl⟩
        rw [← hs] at v0 v1 HNE HEQ
        rw [← hy] at v2 v3 HNE HEQ
        clear hs hy c1 c2 c3 c4 hkx hky
        by_cases g1 : s.1 = y.1
        · by_cases g2 : s.2 = y.2
          · have he : s = y := Prod.ext g1 g2
            have HE3 := Go.Lib.hid (HEQ.out he)
            rw [he] at v0 v1
            clear g1 g2 he
            go_wp2_with fail
            go_region
            all_goals
              go_wp2
              exact ⟨⟨k + 1, by omega, by go_num, HE3.out, HB.out.drew⟩, by simp [intOf]; omega⟩
          · have hf := HNE.out (fun he => g2 (congrArg Prod.snd he))
            subst hf
            clear HNE HEQ HQ
            go_wp2_with fail
            go_region
            all_goals
              go_wp2
              go_ret
              exact ⟨rfl, HB.out.drew⟩
        · have hf := HNE.out (fun he => g1 (congrArg Prod.fst he))
          subst hf
          clear HNE HEQ HQ
          go_wp2_with fail
          go_region
          all_goals
            go_wp2
            go_ret
            exact ⟨rfl, HB.out.drew⟩
      · have hqt : q = true := by
          rw [← HQ.out]
          have := HT.out
          rw [List.take_of_length_le (by rw [HX.out]; omega), List.take_of_length_le (by rw [HY.out]; omega)] at this
          exact decide_eq_true this
        subst hqt
        go_wp2
        go_ret
        exact ⟨rfl, HB.out⟩
  · have b0 : ((n : Int) != (m : Int)) = true := by rw [bne, beq_eq_false_iff_ne.2 (by omega)]; rfl
    have b1 : ((n : Int) == (m : Int)) = false := beq_eq_false_iff_ne.2 (by omega)
    have hqf : q = false := by rw [← hq]; exact decide_eq_false (fun e => hnm (by rw [← hnt, ← hmu, e]))
    subst hqf
    clear ha hb hq hnt hmu hnm
    go_enter Tryd.func54, Tryd.ntmps54
    go_wp2
    go_ret
    exact ⟨rfl, Below.refl _ _⟩
/-- A slice of things in a struct, and another one: two boxes, then what the callee tells. -/
theorem two_boxes (w : World) (a b : Value) (t : TypeId) : Below w.heap.size w ((w.alloc (.cells #[a] t)).alloc (.cells #[b] t)) := (below_alloc w _).alloc (by simp) _
set_option maxHeartbeats 2000000 in
theorem sameTour_any (t u : TourD) (P Q : Option Addr) (k m : Nat) (w : World) (h1 : RowAt 2 StopAt w P t) (h2 : RowAt 2 StopAt w Q u) (l1 : t.length ≤ maxLen) (l2 : u.length ≤ maxLen) (f1 : ∀ x ∈ t, True) (f2 : ∀ x ∈ u, True) (r : Bool) (hr : decide (t = u) = r) :
    Calls Tryd.prog 42 #[.agg #[.slice P t.length k], .agg #[.slice Q u.length m]] w fun e w' => e = .returned (.bool r) ∧ Below w.heap.size w w' := by
  have HB := Go.Lib.hid (two_boxes w (.slice P t.length k) (.slice Q u.length m) 41)
  have CE := equal_stops P Q t.length u.length k m t u _ (h1.keep' StopAt.keep HB.out) (h2.keep' StopAt.keep HB.out) rfl rfl l1 l2 r hr
  clear h1 h2 l1 l2 hr f1 f2
  go_enter Tryd.func42, Tryd.ntmps42
  go_wp2_with (go_at_call 54; refine CE.mono ?_; rintro e w1 ⟨rfl, hb1⟩)
  go_ret
  exact ⟨rfl, HB.out.trans (hb1.mono HB.out.size)⟩
theorem sameTour_from {w : World} {t u : TourD} {P Q : Option Addr} {r : Bool} (hr : decide (t = u) = r) (h1 : RowAt 2 StopAt w P t) (h2 : RowAt 2 StopAt w Q u) (l1 : t.length ≤ maxLen) (l2 : u.length ≤ maxLen) (f1 : ∀ x ∈ t, True) (f2 : ∀ x ∈ u, True) (k m : Nat) (W : World) (h : Below w.heap.size w W) :
    Calls Tryd.prog 42 #[.agg #[.slice P t.length k], .agg #[.slice Q u.length m]] W fun e w' => e = .returned (.bool r) ∧ Below W.heap.size W w' :=
  sameTour_any t u P Q k m W (h1.keep' StopAt.keep h) (h2.keep' StopAt.keep h) l1 l2 f1 f2 r hr
set_option maxHeartbeats 4000000 in
theorem equalf_t (A C : Option Addr) (n m c d : Nat) (xs ys : DayD) (w : World) (hx : RowAt 1 TourAt w A xs) (hy : RowAt 1 TourAt w C ys) (fx : ∀ t ∈ xs, t.length ≤ maxLen ∧ ∀ x ∈ t, True) (fy : ∀ t ∈ ys, t.length ≤ maxLen ∧ ∀ x ∈ t, True) (hnx : xs.length = n) (hny : ys.length = m) (hn : n ≤ maxLen) (hm : m ≤ maxLen) (r : Bool) (hr : decide (xs = ys) = r) :
    Calls Tryd.prog 41 #[.slice A n c, .slice C m d, .func (.func 42) #[] #[]] w fun e w' => e = .returned (.bool r) ∧ Below w.heap.size w w' := by
  unfold maxLen at hn hm
  by_cases hnm : n = m
  · subst hnm
    have HX := Go.Lib.hid hx
    have HY := Go.Lib.hid hy
    have FX := Go.Lib.hid fx
    have FY := Go.Lib.hid fy
    have LX := Go.Lib.hid hnx
    have LY := Go.Lib.hid hny
    have HR := Go.Lib.hid hr
    clear hx hy fx fy hnx hny hr
    go_enter Tryd.func41, Tryd.ntmps41
    go_wp2
    go_loopw [17] (fun iv wr => ∃ k : Nat, k ≤ n ∧ iv = .int .i64 k ∧ xs.take k = ys.take k ∧ Below w.heap.size w wr) (fun iv _ => n - (intOf iv).toNat)
    case atStart => exact ⟨0, Nat.zero_le _, rfl, by simp, Below.refl _ _⟩
    case round =>
      obtain ⟨k, hk, rfl, he, B⟩ := hrel
      have HE := Go.Lib.hid he
      have HB := Go.Lib.hid B
      clear he B
      by_cases hlt : k < n
      · have hkx : k < xs.length := by rw [LX.out]; exact hlt
        have hky : k < ys.length := by rw [LY.out]; exact hlt
        have k1 : (k : Int) < (n : Int) := by omega
        obtain ⟨b1, o1, rfl, P, kp, hca, hna, hka⟩ := HX.out k hkx
        obtain ⟨b2, o2, rfl, Q, kq, hcb, hnb, hkb⟩ := HY.out k hky
        have hwa := FX.out _ (List.getElem_mem hkx)
        have hwb := FY.out _ (List.getElem_mem hky)
        have HNE : Hid (xs[k] ≠ ys[k] → r = false) := fun hne => by rw [← HR.out]; exact decide_eq_false (ne_of_kth hkx hky hne)
        have HEQ : Hid (xs[k] = ys[k] → xs.take (k + 1) = ys.take (k + 1)) := take_eq_one HE.out hkx hky
        obtain ⟨p, hp⟩ : ∃ p, p = xs[k] := ⟨_, rfl⟩
        obtain ⟨q, hq⟩ : ∃ q, q = ys[k] := ⟨_, rfl⟩
        rw [← hp] at hca hna hka hwa HNE HEQ
        rw [← hq] at hcb hnb hkb hwb HNE HEQ
        rw [Nat.mul_one] at hca hcb
        have e0 := cell_keep hca HB.out
        have hb1 := HB.out.alloc HB.out.size (.cells #[.slice P p.length kp] 41)
        have e1 := cell_keep hcb hb1
        have HB2 := Go.Lib.hid (hb1.alloc hb1.size (.cells #[.slice Q q.length kq] 41))
        have CAL := fun r hr => sameTour_from (r := r) hr hna hnb hwa.1 hwb.1 hwa.2 hwb.2 kp kq _ HB2.out
        clear hca hna hka hwa hcb hnb hkb hwb hp hq hkx hky hb1
        cases hd : decide (p = q)
        · have hf := HNE.out (of_decide_eq_false hd)
          have CA := CAL _ hd
          subst hf
          clear hd CAL HNE HEQ HR
          go_wp2_with (go_at_call 42; refine CA.mono ?_; rintro e w3 ⟨rfl, hb3⟩; have HB3 := Go.Lib.hid (HB2.out.trans (hb3.mono HB2.out.size)); clear hb3)
          go_ret
          exact ⟨rfl, HB3.out⟩
        · have HT := Go.Lib.hid (HEQ.out (of_decide_eq_true hd))
          have CA := CAL _ hd
          clear hd CAL HNE HEQ
          go_wp2_with (go_at_call 42; refine CA.mono ?_; rintro e w3 ⟨rfl, hb3⟩; have HB3 := Go.Lib.hid (HB2.out.trans (hb3.mono HB2.out.size)); clear hb3)
          exact ⟨⟨k + 1, by omega, by go_num, HT.out, HB3.out⟩, by simp [intOf]; omega⟩
      · have hqt : r = true := by
          rw [← HR.out]
          have := HE.out
          rw [List.take_of_length_le (by rw [LX.out]; omega), List.take_of_length_le (by rw [LY.out]; omega)] at this
          exact decide_eq_true this
        subst hqt
        go_wp2
        go_ret
        exact ⟨rfl, HB.out⟩
  · have b0 : ((n : Int) != (m : Int)) = true := by rw [bne, beq_eq_false_iff_ne.2 (by omega)]; rfl
    have b1 : ((n : Int) == (m : Int)) = false := beq_eq_false_iff_ne.2 (by omega)
    have hqf : r = false := by rw [← hr]; exact decide_eq_false (fun e => hnm (by rw [← hnx, ← hny, e]))
    subst hqf
    clear hx hy fx fy hnx hny hr hnm
    go_enter Tryd.func41, Tryd.ntmps41
    go_wp2
    go_ret
    exact ⟨rfl, Below.refl _ _⟩
set_option maxHeartbeats 2000000 in
theorem sameDay_any (t u : DayD) (P Q : Option Addr) (k m : Nat) (w : World) (h1 : RowAt 1 TourAt w P t) (h2 : RowAt 1 TourAt w Q u) (l1 : t.length ≤ maxLen) (l2 : u.length ≤ maxLen) (f1 : ∀ x ∈ t, x.length ≤ maxLen) (f2 : ∀ x ∈ u, x.length ≤ maxLen) (r : Bool) (hr : decide (t = u) = r) :
    Calls Tryd.prog 29 #[.agg #[.slice P t.length k], .agg #[.slice Q u.length m]] w fun e w' => e = .returned (.bool r) ∧ Below w.heap.size w w' := by
  have HB := Go.Lib.hid (two_boxes w (.slice P t.length k) (.slice Q u.length m) 38)
  have CE := equalf_t P Q t.length u.length k m t u _ (h1.keep' TourAt.keep HB.out) (h2.keep' TourAt.keep HB.out) (fun x hx => ⟨f1 x hx, fun _ _ => trivial⟩) (fun x hx => ⟨f2 x hx, fun _ _ => trivial⟩) rfl rfl l1 l2 r hr
  clear h1 h2 l1 l2 hr f1 f2
  go_enter Tryd.func29, Tryd.ntmps29
  go_wp2_with (go_at_call 41; refine CE.mono ?_; rintro e w1 ⟨rfl, hb1⟩)
  go_ret
  exact ⟨rfl, HB.out.trans (hb1.mono HB.out.size)⟩
theorem sameDay_from {w : World} {t u : DayD} {P Q : Option Addr} {r : Bool} (hr : decide (t = u) = r) (h1 : RowAt 1 TourAt w P t) (h2 : RowAt 1 TourAt w Q u) (l1 : t.length ≤ maxLen) (l2 : u.length ≤ maxLen) (f1 : ∀ x ∈ t, x.length ≤ maxLen) (f2 : ∀ x ∈ u, x.length ≤ maxLen) (k m : Nat) (W : World) (h : Below w.heap.size w W) :
    Calls Tryd.prog 29 #[.agg #[.slice P t.length k], .agg #[.slice Q u.length m]] W fun e w' => e = .returned (.bool r) ∧ Below W.heap.size W w' :=
  sameDay_any t u P Q k m W (h1.keep' TourAt.keep h) (h2.keep' TourAt.keep h) l1 l2 f1 f2 r hr
set_option maxHeartbeats 4000000 in
theorem equalf_d (A C : Option Addr) (n m c d : Nat) (xs ys : PlanD) (w : World) (hx : RowAt 1 DayAt w A xs) (hy : RowAt 1 DayAt w C ys) (fx : ∀ t ∈ xs, t.length ≤ maxLen ∧ ∀ x ∈ t, x.length ≤ maxLen) (fy : ∀ t ∈ ys, t.length ≤ maxLen ∧ ∀ x ∈ t, x.length ≤ maxLen) (hnx : xs.length = n) (hny : ys.length = m) (hn : n ≤ maxLen) (hm : m ≤ maxLen) (r : Bool) (hr : decide (xs = ys) = r) :
    Calls Tryd.prog 28 #[.slice A n c, .slice C m d, .func (.func 29) #[] #[]] w fun e w' => e = .returned (.bool r) ∧ Below w.heap.size w w' := by
  unfold maxLen at hn hm
  by_cases hnm : n = m
  · subst hnm
    have HX := Go.Lib.hid hx
    have HY := Go.Lib.hid hy
    have FX := Go.Lib.hid fx
    have FY := Go.Lib.hid fy
    have LX := Go.Lib.hid hnx
    have LY := Go.Lib.hid hny
    have HR := Go.Lib.hid hr
    clear hx hy fx fy hnx hny hr
    go_enter Tryd.func28, Tryd.ntmps28
    go_wp2
    go_loopw [17] (fun iv wr => ∃ k : Nat, k ≤ n ∧ iv = .int .i64 k ∧ xs.take k = ys.take k ∧ Below w.heap.size w wr) (fun iv _ => n - (intOf iv).toNat)
    case atStart => exact ⟨0, Nat.zero_le _, rfl, by simp, Below.refl _ _⟩
    case round =>
      obtain ⟨k, hk, rfl, he, B⟩ := hrel
      have HE := Go.Lib.hid he
      have HB := Go.Lib.hid B
      clear he B
      by_cases hlt : k < n
      · have hkx : k < xs.length := by rw [LX.out]; exact hlt
        have hky : k < ys.length := by rw [LY.out]; exact hlt
        have k1 : (k : Int) < (n : Int) := by omega
        obtain ⟨b1, o1, rfl, P, kp, hca, hna, hka⟩ := HX.out k hkx
        obtain ⟨b2, o2, rfl, Q, kq, hcb, hnb, hkb⟩ := HY.out k hky
        have hwa := FX.out _ (List.getElem_mem hkx)
        have hwb := FY.out _ (List.getElem_mem hky)
        have HNE : Hid (xs[k] ≠ ys[k] → r = false) := fun hne => by rw [← HR.out]; exact decide_eq_false (ne_of_kth hkx hky hne)
        have HEQ : Hid (xs[k] = ys[k] → xs.take (k + 1) = ys.take (k + 1)) := take_eq_one HE.out hkx hky
        obtain ⟨p, hp⟩ : ∃ p, p = xs[k] := ⟨_, rfl⟩
        obtain ⟨q, hq⟩ : ∃ q, q = ys[k] := ⟨_, rfl⟩
        rw [← hp] at hca hna hka hwa HNE HEQ
        rw [← hq] at hcb hnb hkb hwb HNE HEQ
        rw [Nat.mul_one] at hca hcb
        have e0 := cell_keep hca HB.out
        have hb1 := HB.out.alloc HB.out.size (.cells #[.slice P p.length kp] 38)
        have e1 := cell_keep hcb hb1
        have HB2 := Go.Lib.hid (hb1.alloc hb1.size (.cells #[.slice Q q.length kq] 38))
        have CAL := fun r hr => sameDay_from (r := r) hr hna hnb hwa.1 hwb.1 hwa.2 hwb.2 kp kq _ HB2.out
        clear hca hna hka hwa hcb hnb hkb hwb hp hq hkx hky hb1
        cases hd : decide (p = q)
        · have hf := HNE.out (of_decide_eq_false hd)
          have CA := CAL _ hd
          subst hf
          clear hd CAL HNE HEQ HR
          go_wp2_with (go_at_call 29; refine CA.mono ?_; rintro e w3 ⟨rfl, hb3⟩; have HB3 := Go.Lib.hid (HB2.out.trans (hb3.mono HB2.out.size)); clear hb3)
          go_ret
          exact ⟨rfl, HB3.out⟩
        · have HT := Go.Lib.hid (HEQ.out (of_decide_eq_true hd))
          have CA := CAL _ hd
          clear hd CAL HNE HEQ
          go_wp2_with (go_at_call 29; refine CA.mono ?_; rintro e w3 ⟨rfl, hb3⟩; have HB3 := Go.Lib.hid (HB2.out.trans (hb3.mono HB2.out.size)); clear hb3)
          exact ⟨⟨k + 1, by omega, by go_num, HT.out, HB3.out⟩, by simp [intOf]; omega⟩
      · have hqt : r = true := by
          rw [← HR.out]
          have := HE.out
          rw [List.take_of_length_le (by rw [LX.out]; omega), List.take_of_length_le (by rw [LY.out]; omega)] at this
          exact decide_eq_true this
        subst hqt
        go_wp2
        go_ret
        exact ⟨rfl, HB.out⟩
  · have b0 : ((n : Int) != (m : Int)) = true := by rw [bne, beq_eq_false_iff_ne.2 (by omega)]; rfl
    have b1 : ((n : Int) == (m : Int)) = false := beq_eq_false_iff_ne.2 (by omega)
    have hqf : r = false := by rw [← hr]; exact decide_eq_false (fun e => hnm (by rw [← hnx, ← hny, e]))
    subst hqf
    clear hx hy fx fy hnx hny hr hnm
    go_enter Tryd.func28, Tryd.ntmps28
    go_wp2
    go_ret
    exact ⟨rfl, Below.refl _ _⟩
set_option maxHeartbeats 2000000 in
theorem bookSame_code (p q : PlanD) (A : Option Addr) (c : Nat) (C : Option Addr) (e : Nat) (w : World) (hp : WfP p) (hq : WfP q) (h : PlanIs w A p) (h2 : PlanIs w C q) (r : Bool) (hr : decide (p = q) = r) :
    Calls Tryd.prog 18 #[planV p A c, planV q C e] w fun E w' => E = .returned (.bool r) ∧ Below w.heap.size w w' := by
  have HB := Go.Lib.hid (two_boxes w (.slice A p.length c) (.slice C q.length e) 24)
  have CE := equalf_d A C p.length q.length c e p q _ (h.keep HB.out) (h2.keep HB.out) (fun d hd => ⟨hp.day d hd, hp.tour d hd⟩) (fun d hd => ⟨hq.day d hd, hq.tour d hd⟩) rfl rfl hp.n hq.n r hr
  unfold planV
  clear h h2 hp hq hr
  go_enter Tryd.func18, Tryd.ntmps18
  go_wp2_with (go_at_call 28; refine CE.mono ?_; rintro e w1 ⟨rfl, hb1⟩)
  go_ret
  exact ⟨rfl, HB.out.trans (hb1.mono HB.out.size)⟩
end Go.Proofs.YtedkhdnfbdojcaaDoor
end
