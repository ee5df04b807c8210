/- An instance with lists of its own, off the code. -/
import Derived.Test.YtmfahjghfpckeaaDoorInstCloneB
namespace Go.Proofs.YtmfahjghfpckeaaDoor
open Go.RowKit
set_option linter.unusedVariables false
theorem OwnInst.other {base : Nat} {W : World} {y : Inst} {A : Option Addr} {c : Nat} {B : Option Addr} {d g : Nat} {cs : Array Value} (h : OwnInst base W y A c B d) (K : BlkIs W g 25 cs) (j : Nat) (v : Value) : OwnInst base (W.setCell ⟨g, j, none⟩ v) y A c B d := by
  obtain ⟨⟨l, h1, h2⟩, us, h3, h4⟩ := h
  refine ⟨⟨l, h1, own_same h2.row (.blk K (by decide) j v) (by simp), fun t ht => own_same (h2.pats t ht) (.blk K (by decide) j v) (by simp)⟩, us, own_same h3 (.blk K (by decide) j v) (by simp), h4.mono fun r u hr => own_same hr (.blk K (by decide) j v) (by simp)⟩
theorem clone_end {w X : World} {base g : Nat} {y : Inst} {A : Option Addr} {c : Nat} {B : Option Addr} {d : Nat} (hR : BlkIs X g 25 #[.int .i64 0, .int .i64 0, .int .i64 0, .int .i64 0, .slice none 0 0, .slice none 0 0]) (hO : OwnInst base X y A c B d) (hB : Below base w X) (hg : base ≤ g) :
    BlkIs ((((((X.setCell ⟨g, 0, none⟩ (.int .i64 y.days)).setCell ⟨g, 1, none⟩ (.int .i64 y.veh)).setCell ⟨g, 2, none⟩ (.int .i64 y.cap)).setCell ⟨g, 3, none⟩ (.int .i64 y.len)).setCell ⟨g, 4, none⟩ (.slice A y.custs.length c)).setCell ⟨g, 5, none⟩ (.slice B y.dist.length d)) g 25 #[.int .i64 y.days, .int .i64 y.veh, .int .i64 y.cap, .int .i64 y.len, .slice A y.custs.length c, .slice B y.dist.length d] ∧ OwnInst base ((((((X.setCell ⟨g, 0, none⟩ (.int .i64 y.days)).setCell ⟨g, 1, none⟩ (.int .i64 y.veh)).setCell ⟨g, 2, none⟩ (.int .i64 y.cap)).setCell ⟨g, 3, none⟩ (.int .i64 y.len)).setCell ⟨g, 4, none⟩ (.slice A y.custs.length c)).setCell ⟨g, 5, none⟩ (.slice B y.dist.length d)) y A c B d ∧ Below base w ((((((X.setCell ⟨g, 0, none⟩ (.int .i64 y.days)).setCell ⟨g, 1, none⟩ (.int .i64 y.veh)).setCell ⟨g, 2, none⟩ (.int .i64 y.cap)).setCell ⟨g, 3, none⟩ (.int .i64 y.len)).setCell ⟨g, 4, none⟩ (.slice A y.custs.length c)).setCell ⟨g, 5, none⟩ (.slice B y.dist.length d)) := by
  refine ⟨hR.store6 _ _ _ _ _ _, ?_, Below.store6 hB hg _ _ _ _ _ _⟩
  have r1 := hR.put 0 (.int .i64 y.days)
  have r2 := r1.put 1 (.int .i64 y.veh)
  have r3 := r2.put 2 (.int .i64 y.cap)
  have r4 := r3.put 3 (.int .i64 y.len)
  have r5 := r4.put 4 (.slice A y.custs.length c)
  exact ((((((hO.other hR 0 _).other r1 1 _).other r2 2 _).other r3 3 _).other r4 4 _).other r5 5 _)
theorem own_formN {w : World} {base : Nat} {e : TypeId} {size n : Nat} {v : Value} {xs : List Value} (h : w.ownsRow base e size v n xs) : ∃ A k, v = .slice A n k := by
  rcases h.2 with ⟨rfl, rfl⟩ | ⟨g, cap, cur, rfl, _⟩
  · exact ⟨_, _, rfl⟩
  · exact ⟨_, _, rfl⟩
theorem cellsC_ok (l : CRow) : ∀ u ∈ cellsC l, u.oneCell' = true := fun u hu => by
  obtain ⟨t, _, ht⟩ := List.mem_flatMap.1 hu
  exact cell8_ok _ _ _ u ht
theorem ints_ok (k : IntKind) (l : List Int) : ∀ u ∈ l.map (Value.int k), u.oneCell' = true := fun u hu => by
  obtain ⟨z, _, rfl⟩ := List.mem_map.1 hu
  rfl
theorem rows_ok {α : Type} {R : α → Value → Prop} {xs : List α} {us : List Value} (h : Fit R xs us) (hR : ∀ x u, R x u → ∃ A n k, u = .slice A n k) : ∀ u ∈ us, u.oneCell' = true := fun u hu => by
  obtain ⟨i, hi, rfl⟩ := List.getElem_of_mem hu
  obtain ⟨_, hr⟩ := h.at i (by rw [fit_len h]; exact hi)
  obtain ⟨A, n, k, e⟩ := hR _ _ hr
  rw [e]
  rfl
theorem C1At.zero {w w1 : World} {base : Nat} {y : Inst} {A A2 : Option Addr} {c cap : Nat} {B : Option Addr} {d : Nat} {l : CRow} (hl : l.map (·.1) = y.custs) (ho : OwnCusts base w (.slice A y.custs.length c) l)
    (hb : BlkIs w1 w.heap.size 25 #[.int .i64 y.days, .int .i64 y.veh, .int .i64 y.cap, .int .i64 y.len, .slice A y.custs.length c, .slice B y.dist.length d]) (hr : BlkIs w1 (w.heap.size + 1) 25 #[.int .i64 0, .int .i64 0, .int .i64 0, .int .i64 0, .slice none 0 0, .slice none 0 0])
    (hw : w1.ownsRow (w.heap.size + 1 + 1) 45 8 (.slice A2 y.custs.length cap) y.custs.length (cellsC l)) (hB : Below w.heap.size w w1) : C1At w base y A2 cap B d 0 l (w1.setCell ⟨w.heap.size, 4, none⟩ (.slice A2 y.custs.length cap)) :=
  ⟨set6_4 hb, hr.far (p := ⟨w.heap.size, 4, none⟩) (by show w.heap.size + 1 ≠ w.heap.size; omega) _, own_far hw (p := ⟨w.heap.size, 4, none⟩) (by show w.heap.size < w.heap.size + 1 + 1; omega) _, hl, fun i hi h => by omega, fun i hi _ => ho.pats _ (List.getElem_mem hi), hB.setCell (p := ⟨w.heap.size, 4, none⟩) (Nat.le_refl _) _⟩
theorem C2At.zero {w w3 : World} {base : Nat} {y : Inst} {A2 B D : Option Addr} {cap d cap2 : Nat} {l : CRow} {us : List Value} (hl : l.map (·.1) = y.custs)
    (hb : BlkIs w3 w.heap.size 25 #[.int .i64 y.days, .int .i64 y.veh, .int .i64 y.cap, .int .i64 y.len, .slice A2 y.custs.length cap, .slice B y.dist.length d]) (hr : BlkIs w3 (w.heap.size + 1) 25 #[.int .i64 0, .int .i64 0, .int .i64 0, .int .i64 0, .slice none 0 0, .slice none 0 0])
    (ho : OwnCusts (w.heap.size + 1 + 1) w3 (.slice A2 y.custs.length cap) l) (hw : w3.ownsRow (w.heap.size + 1 + 1) 33 1 (.slice D y.dist.length cap2) y.dist.length us)
    (hf : Fit (fun r u => w.ownsRow base 3 1 u r.length (r.map (Value.int .i64))) y.dist us) (hB : Below w.heap.size w w3) : C2At w base y A2 cap D cap2 0 us (w3.setCell ⟨w.heap.size, 5, none⟩ (.slice D y.dist.length cap2)) :=
  ⟨set6_5 hb, hr.far (p := ⟨w.heap.size, 5, none⟩) (by show w.heap.size + 1 ≠ w.heap.size; omega) _, ⟨l, hl, ho.far (p := ⟨w.heap.size, 5, none⟩) (by show w.heap.size < w.heap.size + 1 + 1; omega) _⟩, own_far hw (p := ⟨w.heap.size, 5, none⟩) (by show w.heap.size < w.heap.size + 1 + 1; omega) _, fun i hi hi' h => by omega, fun i hi hi' _ => by
    obtain ⟨_, hr⟩ := hf.at i hi'
    exact hr, hB.setCell (p := ⟨w.heap.size, 5, none⟩) (Nat.le_refl _) _⟩
set_option maxRecDepth 100000 in
set_option maxHeartbeats 8000000 in
theorem Clone_code (y : Inst) (A : Option Addr) (c : Nat) (B : Option Addr) (d base : Nat) (w : World) (h : OwnInst base w y A c B d) (hf : Few y) :
    Calls Tryd.prog 20 #[instV y A c B d] w fun e w' => ∃ A2 c2 B2 d2, e = .returned (instV y A2 c2 B2 d2) ∧ OwnInst w.heap.size w' y A2 c2 B2 d2 ∧ Below w.heap.size w w' := by
  obtain ⟨⟨l, hl, ho⟩, us, hd1, hd2⟩ := h
  have hll : l.length = y.custs.length := by rw [← hl, List.length_map]
  have hrow := ho.row
  rw [hll] at hrow
  have hbz := (below_alloc w (.cells #[.int .i64 y.days, .int .i64 y.veh, .int .i64 y.cap, .int .i64 y.len, .slice A y.custs.length c, .slice B y.dist.length d] 25)).trans ((below_alloc _ (.cells #[.int .i64 0, .int .i64 0, .int .i64 0, .int .i64 0, .slice none 0 0, .slice none 0 0] 25)).mono (by simp))
  have J := BlkIs.alloc (InstBox.fresh w y A c B d) (.cells #[.int .i64 0, .int .i64 0, .int .i64 0, .int .i64 0, .slice none 0 0, .slice none 0 0] 25)
  have R := BlkIs.fresh (w.alloc (.cells #[.int .i64 y.days, .int .i64 y.veh, .int .i64 y.cap, .int .i64 y.len, .slice A y.custs.length c, .slice B y.dist.length d] 25)) 25 #[.int .i64 0, .int .i64 0, .int .i64 0, .int .i64 0, .slice none 0 0, .slice none 0 0]
  rw [World.size_alloc] at R
  have HJ := Go.Lib.hid J
  have HR := Go.Lib.hid R
  have HBZ := Go.Lib.hid hbz
  have HL := Go.Lib.hid hl
  have HO := Go.Lib.hid ho
  have HF := Go.Lib.hid hf
  have HD1 := Go.Lib.hid hd1
  have HD2 := Go.Lib.hid hd2
  have CC := fun W (hb : Below w.heap.size w W) => clone_c _ y.custs.length base _ W (own_keep hrow hb) (cellsC_ok l) hf.n
  have CU := fun (i : Nat) (hi : i < l.length) W (hp : Below w.heap.size w W) (ho : OwnP w base (.slice l[i].2.1 l[i].1.pats.length l[i].2.2) l[i].1.pats) => clone_u _ _ base _ W (own_keep ho hp) (ints_ok _ _) (hf.p _ (by rw [← hl]; exact List.mem_map_of_mem (List.getElem_mem hi)))
  unfold instV
  clear hl ho hf hd1 hd2 J R hbz hrow CU
  go_enter Tryd.func20, Tryd.ntmps20
  go_wp2_with (go_at_call 34; refine (CC _ HBZ.out).mono ?_; rintro e w1 ⟨v', rfl, hown, hb1⟩; obtain ⟨A2, cap, rfl⟩ := own_formN hown; have HJ1 := Go.Lib.hid (HJ.out.below hb1 HJ.out.lt); have HR1 := Go.Lib.hid (HR.out.below hb1 HR.out.lt); have HOW := Go.Lib.hid hown; have HB1 := Go.Lib.hid (HBZ.out.trans (hb1.mono HBZ.out.size)); obtain ⟨j0, j1, j2, j3, j4, j5⟩ := HJ1.out.cells6; have f4 := HJ1.out.free 4; clear hown hb1)
  have HC := Go.Lib.hid (C1At.zero (cap := cap) HL.out HO.out HJ1.out HR1.out (by have := HOW.out; simp only [World.size_alloc] at this; exact this) HB1.out)
  clear j0 j1 j2 j3 j4 j5 f4 HJ HR HBZ HOW CC
  go_loopw [14] (fun iv wr => ∃ (k : Nat) (l : CRow), k ≤ y.custs.length ∧ iv = .int .i64 k ∧ C1At w base y A2 cap B d k l wr) (fun iv _ => y.custs.length - (intOf iv).toNat)
  case atStart => exact ⟨0, l, Nat.zero_le _, rfl, HC.out⟩
  case round =>
    clear HC
    obtain ⟨k, l2, hk, rfl, hC⟩ := hrel
    have HC := Go.Lib.hid hC
    clear hC
    by_cases hlt : k < y.custs.length
    · have hkl : k < l2.length := by rw [HC.out.len]; exact hlt
      have k1 : (k : Int) < (y.custs.length : Int) := by omega
      have hn1 := HF.out.n
      obtain ⟨G, cap', hv, _, _⟩ := World.ownsRow.form HC.out.row (by omega)
      injection hv with hA _ hcc
      subst hA
      subst hcc
      obtain ⟨hcell, hfr⟩ := HC.out.cells hkl
      have hpo := HC.out.rest k hkl (Nat.le_refl _)
      have hple : l2[k].1.pats.length ≤ 1000 := HF.out.p _ (by rw [← HC.out.map]; exact List.mem_map_of_mem (List.getElem_mem hkl))
      have HPUT := Go.Lib.hid (fun W P5 c5 (hw : C1At w base y (some ⟨G, 0, none⟩) cap B d k l2 W) (hp : OwnP W (w.heap.size + 1 + 1) (.slice P5 l2[k].1.pats.length c5) l2[k].1.pats) => C1At.put hw hkl hp)
      have HCL := Go.Lib.hid (fun W (hw : C1At w base y (some ⟨G, 0, none⟩) cap B d k l2 W) => hw.cells hkl)
      obtain ⟨q, hq⟩ : ∃ q, q = l2[k].1 := ⟨_, rfl⟩
      obtain ⟨P, hP⟩ : ∃ P, P = l2[k].2.1 := ⟨_, rfl⟩
      obtain ⟨kp, hkp⟩ : ∃ kp, kp = l2[k].2.2 := ⟨_, rfl⟩
      rw [← hq, ← hP, ← hkp] at hcell hpo HCL
      rw [← hq] at hple HPUT
      have CU := fun W (hb : Below w.heap.size w W) => clone_u (.slice P q.pats.length kp) q.pats.length base _ W (own_keep hpo hb) (ints_ok _ _) hple
      have hba := below_alloc wr (.cells #[.int .i64 q.kind, .int .i64 q.demand, .slice P q.pats.length kp, .int .i64 q.rate, .int .i64 q.size, .int .i64 q.start, .int .i64 q.rule, .int .i64 q.hold] 45)
      have HCd := Go.Lib.hid ((HC.out.keep hba).keep (below_drew _))
      have HBd := Go.Lib.hid HCd.out.low
      have hsz := HC.out.low.size
      have hszr : w.heap.size + 1 + 1 ≤ wr.heap.size := HC.out.res.lt
      obtain ⟨m0, m1, m2, m3, m4, m5⟩ := (HC.out.keep hba).box.cells6
      obtain ⟨e0, e1, e2, e3, e4, e5, e6, e7⟩ := hcell
      have hGk : (⟨G, k * 8 + 2, none⟩ : Addr).block = G := rfl
      clear hq hP hkp hpo hba hple hGk hsz
      go_wp2_with fail
      go_region_with
        ((go_at_call 35; (with_reducible refine (CU _ HBd.out).mono ?_); rintro e w5 ⟨v5, rfl, hown5, hb5⟩; obtain ⟨P5, c5, rfl⟩ := own_formN hown5; have HC5 := Go.Lib.hid (HCd.out.keep hb5); have HO5 : Hid (OwnP w5 (w.heap.size + 1 + 1) (.slice P5 q.pats.length c5) q.pats) := Go.Lib.hid (own_down hown5 (by simp; omega)); obtain ⟨n0, n1, n2, n3, n4, n5⟩ := HC5.out.box.cells6; obtain ⟨hce5, fr5⟩ := HCL.out _ HC5.out; have x2 := hce5.c2; have fx := fr5 (k * 8 + 2); clear hown5 hb5 hce5 fr5))
      all_goals
        go_wp2
        exact ⟨⟨k + 1, _, by omega, by go_num, HPUT.out _ _ _ HC5.out HO5.out⟩, by simp [intOf]; omega⟩
    · obtain rfl : k = y.custs.length := by omega
      have hOC : OwnCusts (w.heap.size + 1 + 1) wr (.slice A2 y.custs.length cap) l2 := ⟨by rw [HC.out.len]; exact HC.out.row, fun t ht => by
        obtain ⟨i, hi, rfl⟩ := List.getElem_of_mem ht
        exact HC.out.done i hi (by have := HC.out.len; omega)⟩
      have HOC := Go.Lib.hid hOC
      have HMP := Go.Lib.hid HC.out.map
      have HBX := Go.Lib.hid HC.out.box
      have HRS := Go.Lib.hid HC.out.res
      have HLW := Go.Lib.hid HC.out.low
      have hrk : ∀ u ∈ us, u.oneCell' = true := rows_ok HD2.out fun x u hr => by
        obtain ⟨A, k, e, _⟩ := own_form hr
        exact ⟨A, _, k, e⟩
      have hm1 := HF.out.m
      have CD := fun W (hb : Below w.heap.size w W) => clone_d (.slice B y.dist.length d) y.dist.length base us W (own_keep HD1.out hb) hrk hm1
      have hszr : w.heap.size + 1 + 1 ≤ wr.heap.size := HRS.out.lt
      obtain ⟨j0, j1, j2, j3, j4, j5⟩ := HBX.out.cells6
      clear hOC HC hrk
      go_wp2_with (go_at_call 36; refine (CD _ HLW.out).mono ?_; rintro e w3 ⟨v', rfl, hown, hb3⟩; obtain ⟨D, cap2, rfl⟩ := own_formN hown; have HBX3 := Go.Lib.hid (HBX.out.below hb3 HBX.out.lt); have HRS3 := Go.Lib.hid (HRS.out.below hb3 HRS.out.lt); have HOC3 := Go.Lib.hid (HOC.out.keep hb3); have HOW := Go.Lib.hid (own_down hown hszr); have HB3 := Go.Lib.hid (HLW.out.trans (hb3.mono HLW.out.size)); obtain ⟨n0, n1, n2, n3, n4, n5⟩ := HBX3.out.cells6; have f5 := HBX3.out.free 5; clear hown hb3)
      have HC := Go.Lib.hid (C2At.zero HMP.out HBX3.out HRS3.out HOC3.out HOW.out HD2.out HB3.out)
      clear j0 j1 j2 j3 j4 j5 n0 n1 n2 n3 n4 n5 f5 HBX HRS HLW HOC HOW CD HBX3 HRS3 HOC3 hszr
      go_loopw [35] (fun iv wr => ∃ (k : Nat) (us : List Value), k ≤ y.dist.length ∧ iv = .int .i64 k ∧ C2At w base y A2 cap D cap2 k us wr) (fun iv _ => y.dist.length - (intOf iv).toNat)
      case atStart => exact ⟨0, us, Nat.zero_le _, rfl, HC.out⟩
      case round =>
        clear HC
        obtain ⟨k, us2, hk, rfl, hC⟩ := hrel
        have HC := Go.Lib.hid hC
        clear hC
        by_cases hlt : k < y.dist.length
        · have hkl : k < us2.length := by rw [HC.out.len]; exact hlt
          have k1 : (k : Int) < (y.dist.length : Int) := by omega
          obtain ⟨G, cap', hv, _, _⟩ := World.ownsRow.form HC.out.row (by omega)
          injection hv with hA _ hcc
          subst hA
          subst hcc
          have hcell : wr.cell? ⟨G, k, none⟩ = some us2[k] := by rw [HC.out.row.cellAt k (by omega), List.getElem?_eq_getElem hkl]
          have hpo := HC.out.rest k hkl hlt (Nat.le_refl _)
          have hple : (y.dist[k]).length ≤ 1000 := HF.out.r _ (List.getElem_mem hlt)
          have HPUT := Go.Lib.hid (fun W v (hw : C2At w base y A2 cap (some ⟨G, 0, none⟩) cap2 k us2 W) (hp : W.ownsRow (w.heap.size + 1 + 1) 3 1 v (y.dist[k]).length ((y.dist[k]).map (Value.int .i64))) => C2At.put hw hlt hp)
          have HCL := Go.Lib.hid (fun W (hw : C2At w base y A2 cap (some ⟨G, 0, none⟩) cap2 k us2 W) => (show W.cell? ⟨G, k, none⟩ = some us2[k] ∧ W.frozen? ⟨G, k, none⟩ = false from ⟨by rw [hw.row.cellAt k (by omega), List.getElem?_eq_getElem hkl], hw.row.frozenAt k⟩))
          obtain ⟨r, hr⟩ : ∃ r, r = y.dist[k] := ⟨_, rfl⟩
          rw [← hr] at hpo hple HPUT
          obtain ⟨P, kp, hu, _⟩ := own_form hpo
          rw [hu] at hcell hpo HCL
          have CU := fun W (hb : Below w.heap.size w W) => clone_i (.slice P r.length kp) r.length base _ W (own_keep hpo hb) (ints_ok _ _) hple
          have HCd := Go.Lib.hid (HC.out.keep (below_drew _))
          have HBd := Go.Lib.hid HCd.out.low
          have hszr : w.heap.size + 1 + 1 ≤ wr.heap.size := HC.out.res.lt
          obtain ⟨m0, m1, m2, m3, m4, m5⟩ := HC.out.box.cells6
          clear hr hpo hple hu
          go_wp2_with fail
          go_region_with
            ((go_at_call 37; (with_reducible refine (CU _ HBd.out).mono ?_); rintro e w5 ⟨v5, rfl, hown5, hb5⟩; obtain ⟨P5, c5, rfl⟩ := own_formN hown5; have HC5 := Go.Lib.hid (HCd.out.keep hb5); have HO5 := Go.Lib.hid (own_down hown5 (show w.heap.size + 1 + 1 ≤ _ by simp; omega)); obtain ⟨n0, n1, n2, n3, n4, n5⟩ := HC5.out.box.cells6; obtain ⟨x2, fx⟩ := HCL.out _ HC5.out; clear hown5 hb5))
          all_goals
            go_wp2
            exact ⟨⟨k + 1, _, by omega, by go_num, HPUT.out _ _ HC5.out HO5.out⟩, by simp [intOf]; omega⟩
        · obtain rfl : k = y.dist.length := by omega
          have HOI := Go.Lib.hid HC.out.own
          have HRS := Go.Lib.hid HC.out.res
          have HLW := Go.Lib.hid HC.out.low
          obtain ⟨m0, m1, m2, m3, m4, m5⟩ := HC.out.box.cells6
          obtain ⟨s0, s1, s2, s3, s4, s5⟩ := HC.out.res.cells6
          have fr : ∀ j, wr.frozen? ⟨w.heap.size + 1, j, none⟩ = false := fun j => HRS.out.free j
          go_wp2
          obtain ⟨Q, QO, QB⟩ := clone_end HRS.out HOI.out HLW.out (Nat.le_succ _)
          generalize (World.setCell _ (⟨w.heap.size + 1, 5, none⟩ : Addr) (.slice D y.dist.length cap2)) = W' at *
          obtain ⟨q0, q1, q2, q3, q4, q5⟩ := Q.cells6
          exact bodyPost_ret (v := .agg #[.int .i64 y.days, .int .i64 y.veh, .int .i64 y.cap, .int .i64 y.len, .slice A2 y.custs.length cap, .slice D y.dist.length cap2]) (by simp [results, Tryd.results20, go_sem, q0, q1, q2, q3, q4, q5]) rfl ⟨A2, cap, D, cap2, rfl, QO, QB⟩
end Go.Proofs.YtmfahjghfpckeaaDoor
