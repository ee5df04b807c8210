import Derived.Test.YtedkhdnfbdojcaaK07
import Derived.Test.YtedkhdnfbdojcaaK21
import Derived.Test.YtedkhdnfbdojcaaK20
section
/- BookLines walked: a plan's text has a line, one for each day, and one for each tour. -/
namespace Go.Proofs.Ytedkhdnfbdojcaa
open Go.RowKit Go.ChangeShapes Go.WideShapes
set_option linter.unusedVariables false
set_option maxRecDepth 20000
/-- How many bytes 10 there are. -/
def nl (l : List UInt8) : Nat := l.count 10
theorem nl_app (a b : List UInt8) : nl (a ++ b) = nl a + nl b := by unfold nl; exact List.count_append
theorem nl_dig {l : List UInt8} (h : l.all digC = true) : nl l = 0 := by
  unfold nl
  rw [List.count_eq_zero]
  intro hm
  exact absurd (List.all_eq_true.1 h _ hm) (by decide)
theorem nl_dec (n : Int) : nl (decI n) = 0 := by
  by_cases h : n < 0
  · rw [decI_neg h]
    have := nl_dig (decN_dig n.natAbs)
    unfold nl at this ⊢
    rw [List.count_cons, this]
    decide
  · obtain ⟨k, rfl⟩ : ∃ k : Nat, n = (k : Int) := ⟨n.toNat, by omega⟩
    rw [decI_nat]
    exact nl_dig (decN_dig k)
theorem nl_tail {r : List (List UInt8)} (h : ∀ x ∈ r, nl x = 0) : nl (Lib.joinTail [32] r) = 0 := by
  induction r with
  | nil => rfl
  | cons y r ih =>
    rw [joinTail_cons, show (32 :: (y ++ Lib.joinTail [32] r)) = [32] ++ (y ++ Lib.joinTail [32] r) from rfl, nl_app, nl_app, ih fun x hx => h x (List.mem_cons_of_mem _ hx), h y (by simp)]
    decide
theorem nl_line {ws : List (List UInt8)} (h0 : ws ≠ []) (h : ∀ x ∈ ws, nl x = 0) : nl (lineT ws) = 1 := by
  cases ws with
  | nil => exact absurd rfl h0
  | cons w r =>
    unfold lineT
    rw [Lib.join_cons, nl_app, nl_app, nl_tail fun x hx => h x (List.mem_cons_of_mem _ hx), h w (by simp)]
    decide
theorem nl_tour (t : TourD) : nl (lineT (tourW t)) = 1 := nl_line (by simp [tourW]) fun x hx => by
  unfold tourW at hx
  rcases List.mem_cons.1 hx with rfl | hx
  · decide
  rcases List.mem_cons.1 hx with rfl | hx
  · exact nl_dec _
  obtain ⟨s, hs, hx⟩ := List.mem_flatMap.1 hx
  simp only [stopW, List.mem_cons, List.not_mem_nil, or_false] at hx
  rcases hx with rfl | rfl <;> exact nl_dec _
theorem nl_tours (d : DayD) : nl (linesT (d.map tourW)) = d.length := by
  induction d with
  | nil => rfl
  | cons t r ih => rw [List.map_cons, linesT_cons, nl_app, ih, nl_tour, List.length_cons]; omega
theorem nl_two {a : List UInt8} (ha : nl a = 0) (n : Int) : nl (lineT [a, decI n]) = 1 := nl_line (by simp) fun x hx => by
  simp only [List.mem_cons, List.not_mem_nil, or_false] at hx
  rcases hx with rfl | rfl
  · exact ha
  · exact nl_dec n
/-- How many tours there are. -/
def toursUp (p : PlanD) : Nat := (p.map List.length).sum
theorem nl_days (p : PlanD) : nl (p.flatMap dayT) = p.length + toursUp p := by
  induction p with
  | nil => rfl
  | cons d r ih =>
    rw [List.flatMap_cons, nl_app, ih]
    unfold dayT
    rw [nl_app, nl_two (by decide), nl_tours]
    unfold toursUp
    rw [List.map_cons, List.sum_cons, List.length_cons]
    omega
theorem nl_plan (p : PlanD) : nl (planT p) = 1 + p.length + toursUp p := by
  unfold planT
  rw [nl_app, nl_two (by decide), nl_days]
  omega
theorem toursUp_succ {p : PlanD} {j : Nat} (h : j < p.length) : toursUp (p.take (j + 1)) = toursUp (p.take j) + p[j].length := by
  unfold toursUp
  rw [List.take_succ_eq_append_getElem h, List.map_append, List.sum_append]
  simp
theorem toursUp_le {p : PlanD} (h : ∀ d ∈ p, d.length ≤ 6) : toursUp p ≤ 6 * p.length := by
  induction p with
  | nil => simp [toursUp]
  | cons d r ih =>
    have h1 := ih fun d hd => h d (List.mem_cons_of_mem _ hd)
    have h2 := h d (by simp)
    unfold toursUp at h1 ⊢
    rw [List.map_cons, List.sum_cons, List.length_cons]
    omega
theorem nl_take {l : List UInt8} {i : Nat} (h : i < l.length) : nl (l.take (i + 1)) = nl (l.take i) + if l[i] = 10 then 1 else 0 := by
  rw [List.take_succ_eq_append_getElem h, nl_app]
  congr 1
  unfold nl
  rw [List.count_singleton]
  by_cases hc : l[i] = 10
  · simp [hc]
  · simp [hc]
theorem nl_le (l : List UInt8) : nl l ≤ l.length := List.count_le_length
set_option maxHeartbeats 8000000 in
theorem bookLines_law (p : PlanD) (A : Option Addr) (c : Nat) (w : World) (hw : WfP p) (h : PlanIs w A p) :
    Calls Try.prog 5 #[planV p A c] w fun e W' => e = .returned (.bool true) ∧ Below w.heap.size w W' := by
  have CL := fun W => lives8_any W
  have HB0 := Go.Lib.hid (below_alloc w (.cells #[.slice A p.length c] 24))
  have CC := Cut_any p A c _ hw (h.keep HB0.out)
  have HK := Go.Lib.hid (Boxed.new w 24 (.slice A p.length c))
  have HQW := Go.Lib.hid (cutP_wf hw)
  have HQF := Go.Lib.hid (cutP_few p)
  have hqn := cutP_n p
  have HQT := Go.Lib.hid (toursUp_le (p := cutP p) fun d hd => cutP_tours hd)
  have HQ6 := Go.Lib.hid (fun d (hd : d ∈ cutP p) => cutP_tours hd)
  generalize cutP p = q at *
  have CP := fun P k W hI => bookPrint_code q P k W HQW.out HQF.out hI
  have HS := Go.Lib.hid (planT_bdB HQW.out HQF.out)
  have HNL := Go.Lib.hid (nl_plan q)
  unfold planV at CC CP ⊢
  clear h hw
  cases hok : okPl q
  · rw [hok] at CP
    simp only [Bool.false_eq_true, if_false] at CP
    clear hok
    go_enter Try.func5, Try.ntmps5
    go_wp2_with (first
      | (go_at_call 6; refine CC.mono ?_; rintro e w1 ⟨v, rfl, ho, hb1⟩; obtain ⟨P, k, rfl, hk⟩ := OwnDays.len ho; have HX := Go.Lib.hid (CutIn.of HB0.out HK.out (Nat.le_refl _) hb1 ho); have f1 := (box_below HK.out hb1).frozen; have c1 := (box_below HK.out hb1).cell; have c2 := HX.out.box.cell; clear ho hb1)
      | (go_at_call 12; refine (CP _ _ _ HX.out.own.reads).mono ?_; rintro e w2 ⟨rfl, hb2⟩; have HB2 := Go.Lib.hid (HX.out.low.trans (hb2.mono HX.out.low.size)); clear hb2)
      | (go_at_call 10; refine (CL _).mono ?_; rintro e w3 ⟨rfl, hb3⟩; have HB3 := Go.Lib.hid (HB2.out.trans (hb3.mono HB2.out.size)); clear hb3))
    go_ret
    exact ⟨rfl, HB3.out⟩
  · rw [hok] at CP
    simp only [if_true] at CP
    clear hok
    obtain ⟨S, hS⟩ : ∃ S, S = strL (planT q) := ⟨_, rfl⟩
    rw [← hS] at CP
    obtain ⟨l, hl⟩ : ∃ l, l = planT q := ⟨_, rfl⟩
    rw [← hl] at hS HS HNL
    have hsz : S.size = l.length := by rw [hS, strL_size]
    have hsb : S.size ≤ 50000000 := by rw [hsz]; exact HS.out
    have HSZ := Go.Lib.hid hsz
    have HBY : Hid (∀ i (hi : i < S.size), l[i]'(by rw [← HSZ.out]; exact hi) = S[i]) := fun i hi => by subst hS; simp [strL]; rfl
    clear hS hl hsz
    go_enter Try.func5, Try.ntmps5
    go_wp2_with (first
      | (go_at_call 6; refine CC.mono ?_; rintro e w1 ⟨v, rfl, ho, hb1⟩; obtain ⟨P, k, rfl, hk⟩ := OwnDays.len ho; have HX := Go.Lib.hid (CutIn.of HB0.out HK.out (Nat.le_refl _) hb1 ho); have f1 := (box_below HK.out hb1).frozen; have c1 := (box_below HK.out hb1).cell; have c2 := HX.out.box.cell; clear ho hb1)
      | (go_at_call 12; refine (CP _ _ _ HX.out.own.reads).mono ?_; rintro e w2 ⟨rfl, hb2⟩; have HX2 := Go.Lib.hid (HX.out.keep hb2); have d2 := HX2.out.box.cell; clear hb2))
    clear f1 c1 c2 CP CC HX
    go_loop [5, 6] (fun wv iv => ∃ j : Nat, j ≤ q.length ∧ iv = .int .i64 j ∧ wv = .int .i64 ((1 + q.length + toursUp (q.take j) : Nat) : Int)) (fun _ iv => q.length - (intOf iv).toNat)
    case atStart => exact ⟨0, Nat.zero_le _, rfl, by simp [toursUp]⟩
    case round =>
      obtain ⟨j, hj, rfl, rfl⟩ := hrel
      by_cases hlt : j < q.length
      · obtain ⟨b, off, rfl, P2, k2, hc, ht, hk2⟩ := HX2.out.own.reads j hlt
        rw [Nat.mul_one] at hc
        have HT : Hid (1 + q.length + toursUp (q.take (j + 1)) = 1 + q.length + toursUp (q.take j) + q[j].length) := by show _ = _; rw [toursUp_succ hlt]; omega
        have h6 := HQ6.out _ (List.getElem_mem hlt)
        have hup : 1 + q.length + toursUp (q.take j) ≤ 1000 := by
          have := toursUp_le (p := q.take j) fun d hd => HQ6.out d (List.mem_of_mem_take hd)
          rw [List.length_take] at this
          omega
        obtain ⟨d, hd⟩ : ∃ d, d = q[j] := ⟨_, rfl⟩
        rw [← hd] at hc h6 HT
        obtain ⟨m, hm⟩ : ∃ m, m = 1 + q.length + toursUp (q.take j) := ⟨_, rfl⟩
        rw [← hm] at HT hup ⊢
        clear hd hm ht
        go_wp2
        go_round
        case rel => exact ⟨j + 1, by omega, by go_num, by rw [HT.out]; go_num⟩
        case measure => simp [intOf]; omega
      · obtain rfl : j = q.length := by omega
        rw [List.take_length, ← HNL.out]
        have hnb : nl l ≤ S.size := by rw [HSZ.out]; exact nl_le l
        obtain ⟨N, hN⟩ : ∃ N, N = nl l := ⟨_, rfl⟩
        rw [← hN] at hnb ⊢
        have HN := Go.Lib.hid hN
        clear hN HNL
        go_wp2
        go_loop [7, 8] (fun nv iv => ∃ i : Nat, i ≤ S.size ∧ iv = .int .i64 i ∧ nv = .int .i64 ((nl (l.take i) : Nat) : Int)) (fun _ iv => S.size - (intOf iv).toNat)
        case atStart => exact ⟨0, Nat.zero_le _, rfl, by simp [nl]⟩
        case round =>
          obtain ⟨i, hi, rfl, rfl⟩ := hrel
          by_cases hlt : i < S.size
          · have hil : i < l.length := by rw [← HSZ.out]; exact hlt
            have hb := HBY.out i hlt
            have hnn := nl_take hil
            rw [hb] at hnn
            have hle : nl (l.take i) ≤ 50000000 := by
              have := nl_le (l.take i)
              rw [List.length_take] at this
              omega
            obtain ⟨M, hM⟩ : ∃ M, M = nl (l.take i) := ⟨_, rfl⟩
            rw [← hM] at hnn hle ⊢
            by_cases hc : S[i] = 10
            · rw [if_pos hc] at hnn
              have hq : ((S[i].toNat : Int) == 10) = true := by rw [hc]; rfl
              have HNN := Go.Lib.hid hnn
              clear hnn hc hb hM
              go_wp2
              go_round
              case rel => exact ⟨i + 1, by omega, by go_num, by rw [HNN.out]; go_num⟩
              case measure => simp [intOf]; omega
            · rw [if_neg hc] at hnn
              have hq : ((S[i].toNat : Int) == 10) = false := beq_eq_false_iff_ne.2 (fun e => hc (UInt8.toNat_inj.1 (by show S[i].toNat = 10; omega)))
              have HNN := Go.Lib.hid hnn
              clear hnn hc hb hM
              go_wp2
              go_round
              case rel => exact ⟨i + 1, by omega, by go_num, by rw [HNN.out]; rfl⟩
              case measure => simp [intOf]; omega
          · obtain rfl : i = S.size := by omega
            have he : nl (l.take S.size) = N := by rw [HSZ.out, List.take_length, HN.out]
            rw [he]
            clear he
            go_wp2_with (go_at_call 10; refine (CL _).mono ?_; rintro e w3 ⟨rfl, hb3⟩; have HB3 := Go.Lib.hid (HX2.out.low.trans (hb3.mono HX2.out.low.size)); clear hb3)
            go_ret
            exact ⟨rfl, HB3.out⟩
section
variable {H : Type} {enc : TypeId × Value → H} {base : Nat}
theorem bookLines_frame (W : World) {v0 : Value} {d0 : DataW H} {p0 : List MemPlace} (k0 : DataW.Trod enc Try.prog W 0 (fun _ => true) true 24 v0 d0 p0) (o0 : Value.okWide Try.prog W .any base 24 v0) :
    Calls Try.prog 5 #[v0] W fun e w' => e = .returned (.bool true) ∧ Below W.heap.size W w' := by
  obtain ⟨q, A, c, rfl, hI, hw, _⟩ := plan_open k0 o0
  exact bookLines_law q A c W hw hI
end
end Go.Proofs.Ytedkhdnfbdojcaa
end
