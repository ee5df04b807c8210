import Derived.Test.YtedkhdnfbdojcaaK14
import Derived.Test.YtedkhdnfbdojcaaK18
import Derived.Test.YtedkhdnfbdojcaaK17
import Derived.Test.YtedkhdnfbdojcaaK19
import Derived.Test.YtedkhdnfbdojcaaK13
import Derived.Test.YtedkhdnfbdojcaaK10
import Derived.Test.YtedkhdnfbdojcaaK05
import Derived.Deep.RegionWith
section
/- What book's words answers, off its code: a tour's words. -/
namespace Go.Proofs.Ytedkhdnfbdojcaa
open Go.RowKit
set_option linter.unusedVariables false
set_option maxRecDepth 20000
def stopN (s : StopD) : List Int := [s.1, s.2]
def tourN (t : TourD) : List Int := (t.length : Int) :: t.flatMap stopN
theorem tourN_len (t : TourD) : (tourN t).length = 1 + 2 * t.length := by
  have : ∀ l : TourD, (l.flatMap stopN).length = 2 * l.length := fun l => by
    induction l with
    | nil => rfl
    | cons a r ih => rw [List.flatMap_cons, List.length_append, ih, List.length_cons]; show 2 + _ = _; omega
  unfold tourN
  rw [List.length_cons, this]
  omega
theorem tourN_words (t : TourD) : wTour :: (tourN t).map decI = tourW t := by
  unfold tourN tourW
  rw [List.map_cons, List.map_flatMap]
  rfl
theorem tourN_ok {t : TourD} (hn : t.length ≤ 400) (h : ∀ s ∈ t, W64 s.1 ∧ W64 s.2) : ∀ x ∈ tourN t, W64 x := fun x hx => by
  unfold tourN at hx
  rcases List.mem_cons.1 hx with rfl | hx
  · exact len_w (by omega)
  · obtain ⟨s, hs, hx⟩ := List.mem_flatMap.1 hx
    obtain ⟨h1, h2⟩ := h s hs
    simp only [stopN, List.mem_cons, List.not_mem_nil, or_false] at hx
    rcases hx with rfl | rfl
    · exact h1
    · exact h2
/-- A row of numbers of the call's own. -/
def RowN (W : World) (base : Nat) (v : Value) (l : List Int) : Prop := W.ownsRow base 3 1 v l.length (l.map (Value.int .i64))
theorem RowN.nums {w : World} {base : Nat} {A : Option Addr} {n c : Nat} {l : List Int} (h : RowN w base (.slice A n c) l) : NumsIn w A l := fun h0 => by
  obtain ⟨g, cap, hv, _, _⟩ := World.ownsRow.form h h0
  injection hv with hA hn hc
  subst hA; subst hn; subst hc
  refine ⟨g, 0, rfl, fun j hj => ?_⟩
  rw [Nat.zero_add, World.ownsRow.cellAt h j (by omega), List.getElem?_map, List.getElem?_eq_getElem hj]
  rfl
theorem two_allocs (w : World) (o o' : Obj) : Below w.heap.size w ((w.alloc o).alloc o') := (below_alloc w o).alloc (by simp) o'
theorem own_cellsB {w : World} {base : Nat} {e : TypeId} {size n cap g : Nat} {news : List Value} (h : w.ownsRow base e size (.slice (some ⟨g, 0, none⟩) n cap) n news) : ∀ j u, news[j]? = some u → w.cell? ((⟨g, 0, none⟩ : Addr).add j) = some u := fun j u hj => by
  have := World.ownsRow.cells h (g := g) rfl j u hj
  exact this
theorem two_nums (W : World) (a b : Int) (j : Nat) (u : Value) (h : [Value.int .i64 a, Value.int .i64 b][j]? = some u) : (W.alloc (.cells #[.int .i64 a, .int .i64 b] 3)).cell? ((⟨W.heap.size, 0, none⟩ : Addr).add j) = some u := by
  match j, h with
  | 0, h => injection h with h; rw [← h]; simp [Addr.add, go_sem]
  | 1, h => injection h with h; rw [← h]; simp [Addr.add, go_sem]
theorem RowN.lit (w : World) (z : Int) : RowN (w.alloc (.cells #[.int .i64 z] 3)) w.heap.size (.slice (some ⟨w.heap.size, 0, none⟩) 1 1) [z] := World.ownsRow_lit w #[.int .i64 z] 1 (Nat.le_refl _) (by decide) rfl
set_option maxHeartbeats 4000000 in
theorem bookWords_any (t : TourD) (P : Option Addr) (k : Nat) (w : World) (hP : RowAt 2 StopAt w P t) (hn : t.length ≤ 400) (hW : ∀ s ∈ t, W64 s.1 ∧ W64 s.2) :
    Calls Try.prog 24 #[.agg #[.slice P t.length k]] w fun e w' => ∃ v, e = .returned v ∧ RowS w' w.heap.size v (tourW t) ∧ Below w.heap.size w w' := by
  obtain ⟨i0, hi, hz0, hz1, hz2⟩ := info_parts info_int
  obtain ⟨s0, si, sz0, sz1, sz2⟩ := info_parts info_str
  obtain ⟨W0, hW0⟩ : ∃ W0, W0 = w.alloc (.cells #[.slice P t.length k] 32) := ⟨_, rfl⟩
  have hb0 : Below w.heap.size w W0 := by rw [hW0]; exact below_alloc w _
  have K0 : Boxed W0 w.heap.size 32 (.slice P t.length k) := by rw [hW0]; exact Boxed.new w _ _
  have hs0 : W0.heap.size = w.heap.size + 1 := by rw [hW0]; simp
  have HP := Go.Lib.hid (hP.keep' StopAt.keep hb0)
  have HB0 := Go.Lib.hid hb0
  have HR0 : Hid (RowN (W0.alloc (.cells #[.int .i64 (t.length : Int)] 3)) W0.heap.size (.slice (some ⟨w.heap.size + 1, 0, none⟩) 1 1) [(t.length : Int)]) := by
    show RowN _ _ _ _
    rw [← hs0]
    exact RowN.lit W0 _
  have HL0 := Go.Lib.hid (below_alloc W0 (.cells #[.int .i64 (t.length : Int)] 3))
  have HW := Go.Lib.hid hW
  have k0 := K0.cell
  have k1 := cell_keep k0 HL0.out
  clear hP hW hb0 K0
  go_enter Try.func24, Try.ntmps24
  go_wp2_with fail
  rw [← hW0]
  clear hW0
  go_wp2
  clear k0 k1
  go_loopw [3, 13] (fun lv iv wr => ∃ (j : Nat) (A : Option Addr) (c : Nat), j ≤ t.length ∧ iv = .int .i64 j ∧ lv = .slice A (1 + 2 * j) c ∧ RowN wr W0.heap.size (.slice A (1 + 2 * j) c) ((t.length : Int) :: (t.take j).flatMap stopN) ∧ Below W0.heap.size W0 wr) (fun _ iv _ => t.length - (intOf iv).toNat)
  case atStart => exact ⟨0, _, _, Nat.zero_le _, rfl, rfl, HR0.out, HL0.out⟩
  case round =>
    clear HR0 HL0
    obtain ⟨j, A, c, hj, rfl, rfl, hrow, hbw⟩ := hrel
    have HRW := Go.Lib.hid hrow
    have HBW := Go.Lib.hid hbw
    clear hrow hbw
    by_cases hlt : j < t.length
    · obtain ⟨b, off, rfl, c0, c1⟩ := HP.out j hlt
      have v0 := cell_keep c0 HBW.out
      have v1 := cell_keep c1 HBW.out
      have HN : Hid ((t.length : Int) :: (t.take (j + 1)).flatMap stopN = ((t.length : Int) :: (t.take j).flatMap stopN) ++ [t[j].1, t[j].2]) := by
        show _ = _
        rw [List.take_succ_eq_append_getElem hlt, List.flatMap_append]
        simp [stopN]
      have hll : ((t.length : Int) :: (t.take j).flatMap stopN).length = 1 + 2 * j := by
        have := tourN_len (t.take j)
        unfold tourN at this
        rw [List.length_cons] at this ⊢
        rw [List.length_take_of_le (by omega)] at this
        omega
      obtain ⟨⟨y1, y2⟩, hy⟩ : ∃ s, s = t[j] := ⟨_, rfl⟩
      rw [← hy] at v0 v1 HN
      obtain ⟨ws, hws⟩ : ∃ ws, ws = (t.length : Int) :: (t.take j).flatMap stopN := ⟨_, rfl⟩
      rw [← hws] at HRW hll HN
      have hrow : wr.ownsRow W0.heap.size 3 1 (.slice A (1 + 2 * j) c) (1 + 2 * j) (ws.map (Value.int .i64)) := by
        have := HRW.out
        unfold RowN at this
        rw [hll] at this
        exact this
      have HRO := Go.Lib.hid hrow
      have HLL := Go.Lib.hid hll
      have hs1 : W0.heap.size ≤ wr.heap.size := HBW.out.size
      clear hy hws hll hrow c0 c1
      go_wp2_with (at_builtin; refine wpList_append_own _ rfl _ _ 77 rfl W0.heap.size 3 i0 (.int .i64 0) 1 8 Try.underlying77 hi hz0 hz1 hz2 rfl (by decide) _ _ _ rfl (own_keep HRO.out (two_allocs wr _ _)) ⟨wr.heap.size + 1, 0, none⟩ 2 2 [.int .i64 y1, .int .i64 y2] rfl rfl (fun j u hj => by have := two_nums (wr.alloc (.cells #[.int .i64 y1, .int .i64 y2] 34)) y1 y2 j u hj; rw [World.size_alloc] at this; exact this) (by intro u hu; simp at hu; rcases hu with rfl | rfl <;> rfl) (by unfold maxLen; omega) (by omega) (by simp; omega) ?_; intro v' w3 hown' hgrow _; have R := (HBW.out.trans ((two_allocs wr (.cells #[.int .i64 y1, .int .i64 y2] 34) (.cells #[.int .i64 y1, .int .i64 y2] 3)).mono HBW.out.size)).grown hgrow (by have := HBW.out.size; simp; omega) (own_ge HRO.out); obtain ⟨A3, c3, rfl, _⟩ := own_form hown'; have HO3 := Go.Lib.hid hown'; clear hgrow hown')
      refine ⟨⟨j + 1, A3, c3, by omega, by go_num, by rw [show 1 + 2 * (j + 1) = 1 + 2 * j + 2 by omega], ?_, R⟩, by simp [intOf]; omega⟩
      rw [HN.out, show 1 + 2 * (j + 1) = 1 + 2 * j + 2 by omega]
      unfold RowN
      rw [List.length_append, HLL.out, List.map_append]
      exact HO3.out
    · obtain rfl : j = t.length := by omega
      have hr : RowN wr W0.heap.size (.slice A (1 + 2 * t.length) c) (tourN t) := by
        have := HRW.out
        rw [List.take_length] at this
        exact this
      have hl := tourN_len t
      have HOK := Go.Lib.hid (tourN_ok hn HW.out)
      have HWD := Go.Lib.hid (tourN_words t)
      obtain ⟨ns, hns⟩ : ∃ ns, ns = tourN t := ⟨_, rfl⟩
      rw [← hns] at hr hl HOK HWD
      obtain ⟨w7, hw7⟩ : ∃ w7, w7 = wr.alloc (.cells #[.string ⟨#[116, 111, 117, 114]⟩] 9) := ⟨_, rfl⟩
      have hb7 : Below wr.heap.size wr w7 := by rw [hw7]; exact below_alloc wr _
      have hs7 : w7.heap.size = wr.heap.size + 1 := by rw [hw7]; simp
      have hs8 : w.heap.size ≤ wr.heap.size := Nat.le_trans HB0.out.size HBW.out.size
      have hr7 : w7.ownsRow w.heap.size 9 1 (.slice (some ⟨wr.heap.size, 0, none⟩) 1 1) 1 [.string ⟨#[116, 111, 117, 114]⟩] := by
        rw [hw7]
        exact row_lit wr hs8 [wTour] rfl (by decide)
      have HR7 := Go.Lib.hid hr7
      have CW := words_code A ns c w7 (hr.nums.keep hb7) (by omega) HOK.out
      have hwl : (ns.map decI).length = 1 + 2 * t.length := by rw [List.length_map, hl]
      rw [hl] at CW
      generalize ns.map decI = ws at *
      have HWL := Go.Lib.hid hwl
      have HBZ := Go.Lib.hid ((HB0.out.trans (HBW.out.mono HB0.out.size)).trans (hb7.mono hs8))
      clear hr hns hb7 hr7 HP hwl hl
      go_wp2_with fail
      rw [← hw7]
      clear hw7
      go_wp2_with (first
        | (go_at_call 34; refine CW.mono ?_; rintro e w8 ⟨v2, rfl, hr8, hb8⟩; unfold RowS at hr8; rw [HWL.out] at hr8; obtain ⟨g8, c8, rfl, _, _⟩ := World.ownsRow.form hr8 (by omega); have HR8 := Go.Lib.hid hr8; have HB8 := Go.Lib.hid hb8; have hs9 := hb8.size; clear hr8 hb8)
        | (at_builtin; refine wpList_append_own _ rfl _ _ 58 rfl w.heap.size 9 s0 (.string ByteArray.empty) 1 16 Try.underlying58 si sz0 sz1 sz2 rfl (by decide) _ _ _ rfl (own_keep HR7.out HB8.out) ⟨g8, 0, none⟩ (1 + 2 * t.length) c8 (ws.map fun f => Value.string (strL f)) rfl (by rw [List.length_map, HWL.out, Nat.mul_one]) (own_cellsB HR8.out) (by intro u hu; obtain ⟨x, _, rfl⟩ := List.mem_map.1 hu; rfl) (by unfold maxLen; omega) (by omega) (by omega) ?_; intro v' w3 hown' hgrow _; have R := (HBZ.out.trans (HB8.out.mono HBZ.out.size)).grown hgrow (by omega) (own_ge HR7.out); have HO3 := Go.Lib.hid hown'; clear hgrow hown'))
      go_ret
      refine ⟨_, rfl, ?_, R⟩
      rw [← HWD.out]
      unfold RowS
      rw [List.length_cons, HWL.out, List.map_cons, Nat.add_comm (1 + 2 * t.length) 1]
      exact HO3.out
end Go.Proofs.Ytedkhdnfbdojcaa
end
section
/- What book's Print answers, off its code. -/
namespace Go.Proofs.Ytedkhdnfbdojcaa
open Go.RowKit Go.Shelf
set_option linter.unusedVariables false
set_option maxRecDepth 20000
/-- No list is longer than a hundred. -/
structure FewB (p : PlanD) : Prop where
  n : p.length ≤ 100
  day : ∀ d ∈ p, d.length ≤ 100
  tour : ∀ d ∈ p, ∀ t ∈ d, t.length ≤ 100
theorem FewB.few {p : PlanD} (h : FewB p) : FewP p := ⟨by have := h.n; omega, fun d hd => by have := h.day d hd; omega, fun d hd t ht => by have := h.tour d hd t ht; omega⟩
theorem tour_bdB {t : TourD} (hn : t.length ≤ 100) (h : ∀ s ∈ t, W64 s.1 ∧ W64 s.2) : (lineT (tourW t)).length ≤ 4242 := by
  have h1 := lineT_bdK (K := 20) (ws := tourW t) (by simp [tourW]) (tourW_mem (by omega) h)
  rw [tourW_len] at h1
  omega
theorem tours_bdB {d : DayD} (hn : d.length ≤ 100) (ht : ∀ t ∈ d, t.length ≤ 100) (h : ∀ t ∈ d, ∀ s ∈ t, W64 s.1 ∧ W64 s.2) (m : Nat) : (linesT ((d.take m).map tourW)).length ≤ 424200 := by
  have h1 := linesT_bd (K := 4242) (ls := (d.take m).map tourW) (fun l hl => by
    obtain ⟨t, hm, rfl⟩ := List.mem_map.1 hl
    exact tour_bdB (ht t (List.mem_of_mem_take hm)) (h t (List.mem_of_mem_take hm)))
  rw [List.length_map, List.length_take] at h1
  have : 4242 * min m d.length ≤ 4242 * 100 := Nat.mul_le_mul_left _ (by omega)
  omega
theorem day_bdB {d : DayD} (hn : d.length ≤ 100) (ht : ∀ t ∈ d, t.length ≤ 100) (h : ∀ t ∈ d, ∀ s ∈ t, W64 s.1 ∧ W64 s.2) : (dayT d).length ≤ 424242 := by
  have h1 := tours_bdB hn ht h d.length
  rw [List.take_length] at h1
  have h2 := two_bd (a := wDay) (by decide) (n := d.length) (by omega)
  unfold dayT
  rw [List.length_append]
  omega
theorem days_bdB {p : PlanD} (hw : WfP p) (hf : FewB p) (j : Nat) : ((p.take j).flatMap dayT).length ≤ 42424200 := by
  have h1 := flat_bd (K := 424242) (f := dayT) (l := p.take j) (fun d hd => day_bdB (hf.day d (List.mem_of_mem_take hd)) (hf.tour d (List.mem_of_mem_take hd)) (hw.stop d (List.mem_of_mem_take hd)))
  rw [List.length_take] at h1
  have := hf.n
  have : 424242 * min j p.length ≤ 424242 * 100 := Nat.mul_le_mul_left _ (by omega)
  omega
theorem planT_bdB {p : PlanD} (hw : WfP p) (hf : FewB p) : (planT p).length ≤ 50000000 := by
  have h1 := days_bdB hw hf p.length
  rw [List.take_length] at h1
  have h2 := two_bd (a := wPlan) (by decide) (n := p.length) (by have := hf.n; omega)
  unfold planT
  rw [List.length_append]
  omega
set_option maxHeartbeats 4000000 in
theorem bookPrint_no (p : PlanD) (A : Option Addr) (c : Nat) (w : World) (hw : WfP p) (h : PlanIs w A p) (hm : okPl p = false) :
    Calls Try.prog 12 #[planV p A c] w fun e w' => e = .returned (.tuple #[.string ⟨#[]⟩, .int .i64 1]) ∧ Below w.heap.size w w' := by
  have hb0 := below_alloc w (.cells #[.slice A p.length c] 24)
  have CM := bookMay_code p A c _ hw (h.keep hb0)
  rw [hm] at CM
  have HB := Go.Lib.hid hb0
  unfold planV at CM ⊢
  clear h hm hb0 hw
  go_enter Try.func12, Try.ntmps12
  go_wp2_with (go_at_call 19; refine CM.mono ?_; rintro e w1 ⟨rfl, hb1⟩)
  go_ret2
  exact ⟨rfl, HB.out.trans (hb1.mono HB.out.size)⟩
theorem two_w64 {a : List UInt8} (ha : a.length ≤ 64) {n : Nat} (hn : n ≤ 1000) : ∀ y ∈ [a, decI (n : Int)], y.length ≤ 64 := fun y hy => by
  simp only [List.mem_cons, List.not_mem_nil, or_false] at hy
  rcases hy with rfl | rfl
  · exact ha
  · exact Nat.le_trans (decI_bd (len_w hn)) (by decide)
set_option maxHeartbeats 8000000 in
theorem bookPrint_yes (p : PlanD) (A : Option Addr) (c : Nat) (w : World) (hw : WfP p) (hf : FewB p) (h : PlanIs w A p) (hm : okPl p = true) :
    Calls Try.prog 12 #[planV p A c] w fun e w' => e = .returned (.tuple #[.string (strL (planT p)), .int .i64 0]) ∧ Below w.heap.size w w' := by
  have hmf : ∀ (fn : Fn) (first cap : Array Value) (w : World), (Instr.makeFunc fn first cap).run Try.prog w = .ok (.func fn first cap) w := fun _ _ _ _ => rfl
  have hb0 := below_alloc w (.cells #[.slice A p.length c] 24)
  have CM := bookMay_code p A c _ hw (h.keep hb0)
  rw [hm] at CM
  have HB := Go.Lib.hid hb0
  have HI := Go.Lib.hid (h.keep hb0)
  have HK := Go.Lib.hid (Boxed.new w 24 (.slice A p.length c))
  have HF := Go.Lib.hid hf
  have HW := Go.Lib.hid hw
  unfold planV at CM ⊢
  clear h hm hb0 hw hf
  go_enter Try.func12, Try.ntmps12
  have hpn := HF.out.n
  have HWN : Hid (W64 (p.length : Int)) := len_w (by omega)
  have HT2 : Hid (∀ y ∈ [wPlan, decI (p.length : Int)], y.length ≤ 64) := two_w64 (by decide) (by omega)
  go_wp2_with (first
    | (go_at_call 19; refine CM.mono ?_; rintro e w1 ⟨rfl, hb1⟩; have HI1 := Go.Lib.hid (HI.out.keep hb1); have hk1 := box_below HK.out hb1; have HK1 := Go.Lib.hid hk1; have k0 := cell_keep hk1.cell (below_alloc w1 (.cells #[.pointer none, .slice none 0 0] 57)); have HB1 := Go.Lib.hid (HB.out.trans (hb1.mono HB.out.size)); have HD1 := Go.Lib.hid (BuildsF.fresh w1); have C1 := fun W hb => dec_from (w := w1.alloc (.cells #[.pointer none, .slice none 0 0] 57)) (W := W) (p.length : Int) HWN.out hb; clear hb1 hk1)
    | (go_at_call 23; refine (C1 _ (Below.refl _ _)).mono ?_; rintro e w2 ⟨rfl, hb2⟩; have HB2 := Go.Lib.hid hb2; clear hb2)
    | (go_at_call 20; refine (ptold_lit w1.heap.size _ 2 [] [wPlan, decI (p.length : Int)] w2 (HD1.out.keep HB2.out) rfl (by simp) rfl (by decide) (by decide) HT2.out).mono ?_; rintro e w3 ⟨rfl, hB3, hb3, ho3⟩; have HD3 := Go.Lib.hid hB3; have HB3 := Go.Lib.hid (((below_alloc w1 _).trans (HB2.out.mono (by simp))).trans hb3); have k3 := cell_keep HK1.out.cell HB3.out; clear hB3 hb3 ho3))
  clear k0 k3 HD1 HB2 C1 CM HI HK HT2
  obtain ⟨L1, hL1⟩ : ∃ L, L = lineT [wPlan, decI (p.length : Int)] := ⟨_, rfl⟩
  have HD4 : Hid (BuildsF w3 w1.heap.size L1) := by show BuildsF _ _ _; rw [hL1]; exact HD3.out
  have HL1 := Go.Lib.hid hL1
  have hl1 : L1.length ≤ 42 := by rw [hL1]; exact two_bd (a := wPlan) (by decide) (by omega)
  have HLB : Hid (∀ j, (L1 ++ (p.take j).flatMap dayT).length ≤ 50000000) := fun j => by
    have := days_bdB HW.out HF.out j
    rw [List.length_append]
    omega
  clear hL1 hl1 HD3
  go_loopw [24] (fun iv wr => ∃ j : Nat, j ≤ p.length ∧ iv = .int .i64 j ∧ BuildsF wr w1.heap.size (L1 ++ (p.take j).flatMap dayT) ∧ Below w1.heap.size w1 wr) (fun iv _ => p.length - (intOf iv).toNat)
  case atStart => exact ⟨0, Nat.zero_le _, rfl, by simpa using HD4.out, HB3.out⟩
  case round =>
    clear HD4 HB3
    obtain ⟨j, hj, rfl, hBj, hLj⟩ := hrel
    have HBj := Go.Lib.hid hBj
    have HLj := Go.Lib.hid hLj
    clear hBj hLj
    by_cases hlt : j < p.length
    · obtain ⟨b, off, rfl, P, k, c0, t0, n0⟩ := HI1.out j hlt
      rw [Nat.mul_one] at c0
      have y0 := cell_keep c0 HLj.out
      have HT0 := Go.Lib.hid t0
      have hdn := HF.out.day _ (List.getElem_mem hlt)
      have HTN := Go.Lib.hid (HF.out.tour _ (List.getElem_mem hlt))
      have HST := Go.Lib.hid (HW.out.stop _ (List.getElem_mem hlt))
      have HN : Hid (p.take (j + 1) = p.take j ++ [p[j]]) := List.take_succ_eq_append_getElem hlt
      obtain ⟨d, hd⟩ : ∃ d, d = p[j] := ⟨_, rfl⟩
      rw [← hd] at y0 HT0 hdn HTN HST HN
      have HWD : Hid (W64 (d.length : Int)) := len_w (by omega)
      have CD := fun W hb => dec_from (w := wr.alloc (.cells #[.slice P d.length k] 29)) (W := W) (d.length : Int) HWD.out hb
      have HTd : Hid (∀ y ∈ [wDay, decI (d.length : Int)], y.length ≤ 64) := two_w64 (by decide) (by omega)
      obtain ⟨L, hL⟩ : ∃ L, L = L1 ++ (p.take j).flatMap dayT := ⟨_, rfl⟩
      rw [← hL] at HBj
      have hll : L.length ≤ 50000000 := by rw [hL]; exact HLB.out j
      obtain ⟨L2, hL2⟩ : ∃ L', L' = L ++ lineT [wDay, decI (d.length : Int)] := ⟨_, rfl⟩
      have hl2 : L2.length ≤ 50000042 := by
        have := two_bd (a := wDay) (by decide) (n := d.length) (by omega)
        rw [hL2, List.length_append]
        omega
      have HLB2 : Hid (∀ m, (L2 ++ linesT ((d.take m).map tourW)).length ≤ 60000000) := fun m => by
        have := tours_bdB hdn HTN.out HST.out m
        rw [List.length_append]
        omega
      have HEN : Hid (L2 ++ linesT (d.map tourW) = L1 ++ (p.take (j + 1)).flatMap dayT) := by
        show _ = _
        rw [HN.out, List.flatMap_append, ← List.append_assoc, ← hL, hL2, List.append_assoc]
        simp [dayT]
      have HL2 := Go.Lib.hid hL2
      have hbd := below_alloc wr (.cells #[.slice P d.length k] 29)
      have HBD := Go.Lib.hid hbd
      have HKD := Go.Lib.hid (Boxed.new wr 29 (.slice P d.length k))
      have hne : Hid (wr.heap.size ≠ w1.heap.size) := by have := HBj.out.lt; show _ ≠ _; omega
      have hszw : w1.heap.size ≤ wr.heap.size := HLj.out.size
      clear hd c0 t0 n0 hL hl2 hL2 hbd
      go_wp2_with (first
        | (go_at_call 23; refine (CD _ (Below.refl _ _)).mono ?_; rintro e w4 ⟨rfl, hb4⟩; have HB4 := Go.Lib.hid hb4; clear hb4)
        | (go_at_call 20; refine (ptold_lit w1.heap.size _ 2 L [wDay, decI (d.length : Int)] w4 ((HBj.out.keep HBD.out).keep HB4.out) rfl (by omega) rfl (by decide) (by decide) HTd.out).mono ?_; rintro e w5 ⟨rfl, hB5, hb5, ho5⟩; have HB5 := Go.Lib.hid hB5; have HL5 := Go.Lib.hid ((HLj.out.trans ((HBD.out.trans (HB4.out.mono HBD.out.size)).mono hszw)).trans hb5); have k5 := (box_others ho5 (box_below HKD.out HB4.out) hne.out (by decide)).cell; clear hB5 hb5 ho5))
      have HB6 : Hid (BuildsF w5 w1.heap.size L2) := by show BuildsF _ _ _; rw [HL2.out]; exact HB5.out
      have HLk := Go.Lib.hid HL5.out
      clear k5 HB5 HL5 HL2 HKD HBD HB4 CD HTd HBj HLj hll y0
      go_loopw [38] (fun kv wk => ∃ m : Nat, m ≤ d.length ∧ kv = .int .i64 m ∧ BuildsF wk w1.heap.size (L2 ++ linesT ((d.take m).map tourW)) ∧ Below w1.heap.size w1 wk) (fun kv _ => d.length - (intOf kv).toNat)
      case atStart => exact ⟨0, Nat.zero_le _, rfl, by simpa [linesT] using HB6.out, HLk.out⟩
      case round =>
        clear HB6 HLk
        obtain ⟨m, hm, rfl, hBm, hLm⟩ := hrel
        have HBm := Go.Lib.hid hBm
        have HLm := Go.Lib.hid hLm
        clear hBm hLm
        by_cases hlt2 : m < d.length
        · obtain ⟨b2, off2, rfl, P2, k2, c2, t2, n2⟩ := HT0.out m hlt2
          rw [Nat.mul_one] at c2
          have z0 := cell_keep c2 HLm.out
          have htn := HTN.out _ (List.getElem_mem hlt2)
          have hst := HST.out _ (List.getElem_mem hlt2)
          have HN2 : Hid (d.take (m + 1) = d.take m ++ [d[m]]) := List.take_succ_eq_append_getElem hlt2
          obtain ⟨t, ht⟩ : ∃ t, t = d[m] := ⟨_, rfl⟩
          rw [← ht] at z0 t2 htn hst HN2
          obtain ⟨L3, hL3⟩ : ∃ L, L = L2 ++ linesT ((d.take m).map tourW) := ⟨_, rfl⟩
          rw [← hL3] at HBm
          have hl3 : L3.length ≤ 60000000 := by rw [hL3]; exact HLB2.out m
          have HEN2 : Hid (L3 ++ lineT (tourW t) = L2 ++ linesT ((d.take (m + 1)).map tourW)) := by
            show _ = _
            rw [HN2.out, List.map_append, hL3, List.append_assoc]
            congr 1
            exact (linesT_snoc _ _).symm
          have hbt := below_alloc wr (.cells #[.slice P2 t.length k2] 32)
          have HBT := Go.Lib.hid hbt
          have CW := bookWords_any t P2 k2 (wr.alloc (.cells #[.slice P2 t.length k2] 32)) ((t2.keep' StopAt.keep HLm.out).keep' StopAt.keep hbt) (by omega) hst
          have hwn : (tourW t).length ≤ 1000 := by rw [tourW_len]; omega
          have HMW := Go.Lib.hid (fun y hy => Nat.le_trans (tourW_mem (t := t) (by omega) hst y hy) (by decide : 20 ≤ 64))
          have HNE : Hid (tourW t ≠ []) := by show _ ≠ _; simp [tourW]
          have hszk : w1.heap.size ≤ wr.heap.size := HLm.out.size
          obtain ⟨ws, hws⟩ : ∃ ws, ws = tourW t := ⟨_, rfl⟩
          rw [← hws] at CW hwn HMW HNE HEN2
          have CT := fun v base W hB hr => ptold_row w1.heap.size base L3 v ws W hB hr (by omega) HNE.out hwn HMW.out
          clear ht c2 t2 n2 hst hL3 hws hbt hwn
          go_wp2_with (first
            | (go_at_call 24; refine CW.mono ?_; rintro e w7 ⟨v, rfl, hr7, hb7⟩; have HR7 := Go.Lib.hid hr7; have HB7 := Go.Lib.hid (HBT.out.trans (hb7.mono HBT.out.size)); clear hr7 hb7)
            | (go_at_call 20; refine (CT _ _ _ (HBm.out.keep HB7.out) HR7.out).mono ?_; rintro e w8 ⟨rfl, hB8, hb8, _⟩))
          refine ⟨⟨m + 1, by omega, by go_num, ?_, (HLm.out.trans (HB7.out.mono hszk)).trans hb8⟩, by simp [intOf]; omega⟩
          rw [← HEN2.out]
          exact hB8
        · obtain rfl : m = d.length := by omega
          have HB9 : Hid (BuildsF wr w1.heap.size (L1 ++ (p.take (j + 1)).flatMap dayT)) := by
            show BuildsF _ _ _
            have := HBm.out
            rw [List.take_length, HEN.out] at this
            exact this
          clear HBm
          go_wp2
          exact ⟨⟨j + 1, by omega, by go_num, HB9.out, HLm.out⟩, by simp [intOf]; omega⟩
    · obtain rfl : j = p.length := by omega
      have hB : BuildsF wr w1.heap.size (planT p) := by
        have := HBj.out
        rw [List.take_length, HL1.out] at this
        exact this
      have CS := Try.Builder_String_any_k w1.heap.size w1.heap.size (planT p) wr hB (Nat.le_of_lt hB.lt)
      have HFIN := Go.Lib.hid (HB1.out.trans (HLj.out.mono HB1.out.size))
      have hz : (⟨(planT p).toArray⟩ : ByteArray) = strL (planT p) := rfl
      obtain ⟨T, hTT⟩ : ∃ T, T = strL (planT p) := ⟨_, rfl⟩
      rw [hz, ← hTT] at CS
      have HTT := Go.Lib.hid hTT
      clear hB hz hTT
      go_wp2_with (go_at_call 25; refine CS.mono ?_; rintro e w17 ⟨rfl, _, hb17, _⟩)
      go_ret2
      exact ⟨by have h := HTT.out; subst h; rfl, HFIN.out.trans (hb17.mono HB1.out.size)⟩
/-- What Print answers: a text, or 1 and no text where the plan may not be told. -/
theorem bookPrint_code (p : PlanD) (A : Option Addr) (c : Nat) (w : World) (hw : WfP p) (hf : FewB p) (h : PlanIs w A p) :
    Calls Try.prog 12 #[planV p A c] w fun e w' => e = .returned (.tuple (if okPl p = true then #[.string (strL (planT p)), .int .i64 0] else #[.string ⟨#[]⟩, .int .i64 1])) ∧ Below w.heap.size w w' := by
  cases hm : okPl p with
  | true => rw [if_pos rfl]; exact bookPrint_yes p A c w hw hf h hm
  | false => rw [if_neg (by simp)]; exact bookPrint_no p A c w hw h hm
end Go.Proofs.Ytedkhdnfbdojcaa
end
section
/- What each law of plans asks at its end: the text of a plan of one day without tours, and that two plans of no days are the same. -/
namespace Go.Proofs.Ytedkhdnfbdojcaa
open Go.RowKit
set_option linter.unusedVariables false
set_option maxRecDepth 20000
theorem one_day (w : World) : PlanIs (w.alloc (.cells #[.slice none 0 0] 29)) (some ⟨w.heap.size, 0, none⟩) [[]] := fun i hi => by
  have : i = 0 := by simp at hi; omega
  subst this
  exact ⟨w.heap.size, 0, rfl, none, 0, (Boxed.new w _ _).cell, RowAt.nil, Nat.le_refl _⟩
theorem wf_day : WfP [[]] := ⟨by decide, by decide, by decide, fun d hd t ht => by simp at hd; subst hd; simp at ht⟩
theorem wf_none : WfP [] := ⟨by decide, by decide, by decide, fun d hd => by simp at hd⟩
theorem few_day : FewB [[]] := ⟨by decide, by decide, by decide⟩
theorem day_text : strL (planT [[]]) = ⟨#[112, 108, 97, 110, 32, 49, 10, 100, 97, 121, 32, 48, 10]⟩ := by kernel_rfl
set_option maxHeartbeats 2000000 in
theorem lives8_any (w : World) : Calls Try.prog 10 #[] w fun e w' => e = .returned (.bool true) ∧ Below w.heap.size w w' := by
  have hb := below_alloc w (.cells #[.slice none 0 0] 29)
  have CP := bookPrint_yes [[]] (some ⟨w.heap.size, 0, none⟩) 1 _ wf_day few_day (one_day w) (by kernel_rfl)
  rw [day_text] at CP
  have CS := fun W => bookSame_code [] [] none 0 none 0 W wf_none wf_none (fun i hi => absurd hi (by simp)) (fun i hi => absurd hi (by simp)) true (by decide)
  have HB := Go.Lib.hid hb
  unfold planV at CP CS
  simp only [List.length_cons, List.length_nil, Nat.zero_add] at CP CS
  clear hb
  go_enter Try.func10, Try.ntmps10
  go_wp2_with (first
    | (go_at_call 12; refine CP.mono ?_; rintro e w1 ⟨rfl, hb1⟩; have HB1 := Go.Lib.hid (HB.out.trans (hb1.mono HB.out.size)); clear hb1)
    | (go_at_call 8; refine (CS _).mono ?_; rintro e w2 ⟨rfl, hb2⟩; have HB2 := Go.Lib.hid (HB1.out.trans (hb2.mono HB1.out.size)); clear hb2))
  go_ret
  exact ⟨rfl, HB2.out⟩
end Go.Proofs.Ytedkhdnfbdojcaa
end
section
/- A plan with lists of its own, off the code's Clone. -/
namespace Go.Proofs.Ytedkhdnfbdojcaa
open Go.RowKit
set_option linter.unusedVariables false
theorem CDAt.zero {w w1 : World} {base : Nat} {p : PlanD} {P : Option Addr} {cap : Nat} {us : List Value} {x : Value} (hf : Fit (fun d u => OwnTours base w u d) p us)
    (hb : Boxed w1 w.heap.size 24 x) (hr : Boxed w1 (w.heap.size + 1) 24 (.slice none 0 0)) (hw : w1.ownsRow (w.heap.size + 1 + 1) 29 1 (.slice P p.length cap) p.length us) (hl : Below w.heap.size w w1) :
    CDAt w base p P cap 0 us (w1.setCell ⟨w.heap.size, 0, none⟩ (.slice P p.length cap)) :=
  ⟨hb.set _, hr.kept (grown_cell w1 ⟨w.heap.size, 0, none⟩ _) (fun e => by have e2 : w.heap.size + 1 = w.heap.size := Option.some.inj e; omega), own_far hw (p := ⟨w.heap.size, 0, none⟩) (by show w.heap.size < w.heap.size + 1 + 1; omega) _, fun i _ _ h => by omega, fun i h1 h2 _ => by obtain ⟨_, h⟩ := hf.at i h2; exact h, hl.setCell (p := ⟨w.heap.size, 0, none⟩) (Nat.le_refl _) _⟩
theorem CTAt.zero {w0 w1 wb : World} {B2 base gD : Nat} {d : DayD} {P : Option Addr} {cap : Nat} {vs : List Value} {x : Value} (hf : Fit (fun t u => OwnStops base wb u t) d vs)
    (hb : Boxed w1 gD 29 x) (hg : gD < B2) (hg0 : w0.heap.size ≤ gD) (hw : w1.ownsRow B2 32 1 (.slice P d.length cap) d.length vs) (hl : Below w0.heap.size w0 w1) :
    CTAt w0 B2 base wb d P cap gD 0 vs (w1.setCell ⟨gD, 0, none⟩ (.slice P d.length cap)) :=
  ⟨hb.set _, own_far hw (p := ⟨gD, 0, none⟩) hg _, fun i _ _ h => by omega, fun i h1 h2 _ => by obtain ⟨_, h⟩ := hf.at i h2; exact h, hl.setCell (p := ⟨gD, 0, none⟩) hg0 _⟩
set_option maxRecDepth 100000 in
set_option maxHeartbeats 8000000 in
theorem bookClone_code (p : PlanD) (A : Option Addr) (c base : Nat) (w : World) (h : OwnDays base w (.slice A p.length c) p) (hf : FewB p) :
    Calls Try.prog 7 #[planV p A c] w fun e w' => ∃ P k, e = .returned (planV p P k) ∧ OwnDays w.heap.size w' (.slice P p.length k) p ∧ Below w.heap.size w w' := by
  obtain ⟨us, hrow, hfit⟩ := h
  have hbz := (below_alloc w (.cells #[.slice A p.length c] 24)).trans ((below_alloc _ (.cells #[.slice none 0 0] 24)).mono (by simp))
  have J := (Boxed.new w 24 (.slice A p.length c)).alloc (.cells #[.slice none 0 0] 24)
  have R := Boxed.new (w.alloc (.cells #[.slice A p.length c] 24)) 24 (.slice none 0 0)
  rw [World.size_alloc] at R
  have HJ := Go.Lib.hid J
  have HR := Go.Lib.hid R
  have HBZ := Go.Lib.hid hbz
  have HF := Go.Lib.hid hf
  have HFIT := Go.Lib.hid hfit
  have hok : ∀ u ∈ us, u.oneCell' = true := fit_ok hfit fun x u hu => by obtain ⟨A, k, e, _⟩ := OwnTours.len hu; exact ⟨A, _, k, e⟩
  have hpn := hf.n
  have CC := fun W (hb : Below w.heap.size w W) => clone_days _ p.length base us W (own_keep hrow hb) hok (by omega)
  unfold planV
  clear hf J R hbz hrow hfit hok
  go_enter Try.func7, Try.ntmps7
  go_wp2_with (go_at_call 13; refine (CC _ HBZ.out).mono ?_; rintro e w1 ⟨v', rfl, hown, hb1⟩; obtain ⟨A2, cap, rfl, _⟩ := own_form hown; have HJ1 := Go.Lib.hid (box_below HJ.out hb1); have HR1 := Go.Lib.hid (box_below HR.out hb1); have HOW := Go.Lib.hid hown; have HB1 := Go.Lib.hid (HBZ.out.trans (hb1.mono HBZ.out.size)); have j0 := HJ1.out.cell; have f0 := HJ1.out.frozen; clear hown hb1)
  have HC := Go.Lib.hid (CDAt.zero (cap := cap) HFIT.out HJ1.out HR1.out (by have := HOW.out; simp only [World.size_alloc] at this; exact this) HB1.out)
  have c0 := HC.out.box.cell
  clear j0 f0 HJ HR HBZ HOW CC HJ1 HR1 HB1
  go_loopw [14] (fun iv wr => ∃ (k : Nat) (us : List Value), k ≤ p.length ∧ iv = .int .i64 k ∧ CDAt w base p A2 cap k us wr) (fun iv _ => p.length - (intOf iv).toNat)
  case atStart => exact ⟨0, us, Nat.zero_le _, rfl, HC.out⟩
  case round =>
    clear HC c0
    obtain ⟨k, us2, hk, rfl, hC⟩ := hrel
    have HC := Go.Lib.hid hC
    clear hC
    by_cases hlt : k < p.length
    · have hkl : k < us2.length := by rw [HC.out.len]; exact hlt
      have k1 : (k : Int) < (p.length : Int) := by omega
      obtain ⟨G, cap', hv, _, _⟩ := World.ownsRow.form HC.out.row (by omega)
      injection hv with hA _ hcc
      subst hA
      subst hcc
      have hcell : wr.cell? ⟨G, k, none⟩ = some us2[k] := by rw [HC.out.row.cellAt k (by omega), List.getElem?_eq_getElem hkl]
      have hto := HC.out.rest k hkl hlt (Nat.le_refl _)
      have hdn := HF.out.day _ (List.getElem_mem hlt)
      have HTN := Go.Lib.hid (HF.out.tour _ (List.getElem_mem hlt))
      have HPUT := Go.Lib.hid (fun W v (hw : CDAt w base p (some ⟨G, 0, none⟩) cap k us2 W) (hv : OwnTours (w.heap.size + 1 + 1) W v p[k]) => CDAt.put hw hlt hv)
      have HCL := Go.Lib.hid (fun W (hw : CDAt w base p (some ⟨G, 0, none⟩) cap k us2 W) => hw.row.frozenAt k)
      have HCL2 := Go.Lib.hid (fun W (hw : CDAt w base p (some ⟨G, 0, none⟩) cap k us2 W) => (show W.cell? ⟨G, k, none⟩ = some us2[k] from by rw [hw.row.cellAt k (by omega), List.getElem?_eq_getElem hkl]))
      obtain ⟨d, hd⟩ : ∃ d, d = p[k] := ⟨_, rfl⟩
      rw [← hd] at hto hdn HTN HPUT
      obtain ⟨Pd, kd, hu, _⟩ := OwnTours.len hto
      rw [hu] at hcell hto HCL2
      obtain ⟨vs, trow, tfit⟩ := hto
      have HTF := Go.Lib.hid tfit
      have hokt : ∀ u ∈ vs, u.oneCell' = true := fit_ok tfit fun x u hu => by obtain ⟨A, k, e, _⟩ := OwnStops.len hu; exact ⟨A, _, k, e⟩
      have CT := fun W (hb : Below w.heap.size w W) => clone_tours (.slice Pd d.length kd) d.length base vs W (own_keep trow hb) hokt (by omega)
      have hba := below_alloc wr (.cells #[.slice Pd d.length kd] 29)
      have HBA := Go.Lib.hid hba
      have HBL := Go.Lib.hid (HC.out.keep hba).low
      have HNB := Go.Lib.hid (Boxed.new wr 29 (.slice Pd d.length kd))
      have hszr : w.heap.size + 1 + 1 ≤ wr.heap.size := HC.out.res.lt
      clear hd hu hba trow tfit hokt
      go_wp2_with (go_at_call 14; refine (CT _ HBL.out).mono ?_; rintro e w5 ⟨v5, rfl, hown5, hb5⟩; obtain ⟨P5, c5, rfl, _⟩ := own_form hown5; have HN5 := Go.Lib.hid (box_below HNB.out hb5); have HOW5 := Go.Lib.hid hown5; have HB5 := Go.Lib.hid (HBA.out.trans (hb5.mono HBA.out.size)); have n0 := HN5.out.cell; have nf := HN5.out.frozen; clear hown5 hb5)
      have HD := Go.Lib.hid (CTAt.zero (B2 := wr.heap.size + 1) (cap := c5) HTF.out HN5.out (Nat.lt_succ_self _) (Nat.le_refl _) (by have := HOW5.out; simp only [World.size_alloc] at this; exact this) HB5.out)
      have d0 := HD.out.box.cell
      obtain ⟨wq, hwq⟩ : ∃ q, q = wr := ⟨_, rfl⟩
      rw [← hwq] at HC HBA HD HB5 hszr d0 ⊢
      clear n0 nf HN5 HOW5 HB5 HNB HTF CT HBL hcell hwq
      go_loopw [26] (fun iv wk => ∃ (j : Nat) (vs : List Value), j ≤ d.length ∧ iv = .int .i64 j ∧ CTAt wq (wq.heap.size + 1) base w d P5 c5 wq.heap.size j vs wk) (fun iv _ => d.length - (intOf iv).toNat)
      case atStart => exact ⟨0, vs, Nat.zero_le _, rfl, HD.out⟩
      case round =>
        clear HD d0
        obtain ⟨j, vs2, hj, rfl, hD⟩ := hrel
        have HD := Go.Lib.hid hD
        clear hD
        by_cases hlt2 : j < d.length
        · have hjl : j < vs2.length := by rw [HD.out.len]; exact hlt2
          have j1 : (j : Int) < (d.length : Int) := by omega
          obtain ⟨G2, cap2, hv2, _, _⟩ := World.ownsRow.form HD.out.row (by omega)
          injection hv2 with hA2 _ hcc2
          subst hA2
          subst hcc2
          have hcell2 : wr.cell? ⟨G2, j, none⟩ = some vs2[j] := by rw [HD.out.row.cellAt j (by omega), List.getElem?_eq_getElem hjl]
          have hst := HD.out.rest j hjl hlt2 (Nat.le_refl _)
          have htn := HTN.out _ (List.getElem_mem hlt2)
          have HPUT2 := Go.Lib.hid (fun W v (hw : CTAt wq (wq.heap.size + 1) base w d (some ⟨G2, 0, none⟩) c5 wq.heap.size j vs2 W) (hv : OwnStops (wq.heap.size + 1) W v d[j]) => CTAt.put hw (Nat.le_succ _) hlt2 hv)
          have HCL3 := Go.Lib.hid (fun W (hw : CTAt wq (wq.heap.size + 1) base w d (some ⟨G2, 0, none⟩) c5 wq.heap.size j vs2 W) => (show W.cell? ⟨G2, j, none⟩ = some vs2[j] ∧ W.frozen? ⟨G2, j, none⟩ = false from ⟨by rw [hw.row.cellAt j (by omega), List.getElem?_eq_getElem hjl], hw.row.frozenAt j⟩))
          obtain ⟨t, ht⟩ : ∃ t, t = d[j] := ⟨_, rfl⟩
          rw [← ht] at hst htn HPUT2
          obtain ⟨Ps, ks, hus, _⟩ := OwnStops.len hst
          rw [hus] at hcell2 hst HCL3
          have CS := fun W (hb : Below w.heap.size w W) => clone_stops (.slice Ps t.length ks) t.length base _ W (own_keep hst hb) (stops_ok t) (by omega)
          have hbt := below_alloc wr (.cells #[.slice Ps t.length ks] 32)
          have m0 := (HD.out.keep hbt).box.cell
          have HDd := Go.Lib.hid ((HD.out.keep hbt).keep (below_drew _))
          have HBd := Go.Lib.hid (HC.out.low.trans (HDd.out.low.mono HC.out.low.size))
          have hsz2 : wq.heap.size + 1 ≤ wr.heap.size := HD.out.box.lt
          clear ht hus hbt hst
          go_wp2_with fail
          go_region_with
            ((go_at_call 15; (with_reducible refine (CS _ HBd.out).mono ?_); rintro e w7 ⟨v7, rfl, hown7, hb7⟩; obtain ⟨P7, c7, hv7, _⟩ := OwnStops.len (t := t) hown7; subst hv7; have HD7 := Go.Lib.hid (HDd.out.keep hb7); have HO7 : Hid (OwnStops (wq.heap.size + 1) w7 (.slice P7 t.length c7) t) := Go.Lib.hid (OwnStops.down (base' := wq.heap.size + 1) hown7 (by simp; omega)); have b7 := HD7.out.box.cell; obtain ⟨x2, fx⟩ := HCL3.out _ HD7.out; clear hown7 hb7))
          all_goals
            go_wp2
            exact ⟨⟨j + 1, _, by omega, by go_num, HPUT2.out _ _ HD7.out HO7.out⟩, by simp [intOf]; omega⟩
        · obtain rfl : j = d.length := by omega
          have HOT := Go.Lib.hid (OwnTours.down HD.out.own (base' := w.heap.size + 1 + 1) (by omega))
          have HC9 := Go.Lib.hid (HC.out.keep HD.out.low)
          have b9 := HD.out.box.cell
          have p9 := HC9.out.box.cell
          have q9 := HCL2.out _ HC9.out
          have r9 := HCL.out _ HC9.out
          go_wp2
          exact ⟨⟨k + 1, _, by omega, by go_num, HPUT.out _ _ HC9.out HOT.out⟩, by simp [intOf]; omega⟩
    · obtain rfl : k = p.length := by omega
      have HO := Go.Lib.hid HC.out.own
      have b0 := HC.out.box.cell
      have r0 := HC.out.res.cell
      have rf := HC.out.res.frozen
      go_wp2
      have q0 := (HC.out.res.set (.slice A2 p.length cap)).cell
      refine bodyPost_ret (v := .agg #[.slice A2 p.length cap]) (by simp [results, Try.results7, go_sem, q0]) rfl ⟨_, _, rfl, ?_, HC.out.low.setCell (by show w.heap.size ≤ w.heap.size + 1; omega) _⟩
      exact (HO.out.far (by show w.heap.size + 1 < w.heap.size + 1 + 1; omega) _).down (by omega)
end Go.Proofs.Ytedkhdnfbdojcaa
end
