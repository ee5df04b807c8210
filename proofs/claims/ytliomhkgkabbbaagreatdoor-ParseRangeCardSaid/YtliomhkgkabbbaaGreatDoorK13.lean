import Derived.Test.YtliomhkgkabbbaaGreatDoorK10
import Derived.Laws.MakeOwn
import Derived.Deep.RegionLaw
import Derived.Deep.DrawnRows
section
/- An instance that may be, made of any, off the document's code. -/
namespace Go.Proofs.YtliomhkgkabbbaaGreatDoor
open Go.RowKit
set_option linter.unusedVariables false
set_option maxRecDepth 20000
attribute [local go_sem ↓] Go.wp_at_zero Go.wp_at_succ
theorem good_any (c : Cust) (A : Option Addr) (k : Nat) (d : Nat) (w : World) (hc : c.Wf) (hp : Nums .u64 w A c.pats.length c.pats) (hd : d ≤ 7) :
    Calls Tryz.prog 16 #[custV c A k, .int .i64 (d : Int)] w (GoodEnd w (goodCu c d)) := by
  by_cases hk : c.kind.tmod 2 = 0
  · exact good_tank c A k d w hc hk
  · exact good_periodic c A k d w hc hp hd hk
theorem info_cust : (Tryz.prog.info? 41).map (fun i => (i.zero, i.size, i.bytes)) = some (some (.agg #[.int .i64 0, .int .i64 0, .slice none 0 0, .int .i64 0, .int .i64 0, .int .i64 0, .int .i64 0, .int .i64 0]), 8, 80) := by kernel_rfl
theorem info_rowi : (Tryz.prog.info? 43).map (fun i => (i.zero, i.size, i.bytes)) = some (some (.slice none 0 0), 1, 24) := by kernel_rfl
/-- What Good hands back. -/
def GoodIEnd (w : World) (y : Inst) (e : Ending) (w' : World) : Prop := ∃ A c B d, e = .returned (instV y A c B d) ∧ OwnInst w.heap.size w' y A c B d ∧ Below w.heap.size w w'
theorem cell8_ok (c : Cust) (P : Option Addr) (k : Nat) : ∀ u ∈ cell8 c P k, u.oneCell' = true := by
  intro u hu
  simp only [cell8, List.mem_cons, List.not_mem_nil, or_false] at hu
  rcases hu with rfl | rfl | rfl | rfl | rfl | rfl | rfl | rfl <;> rfl
theorem good_from {w : World} {c : Cust} {A : Option Addr} {k : Nat} (hc : c.Wf) (hp : Nums .u64 w A c.pats.length c.pats) (d : Nat) (hd : d ≤ 7) (W : World) (hb : Below w.heap.size w W) :
    Calls Tryz.prog 16 #[custV c A k, .int .i64 (d : Int)] W (GoodEnd W (goodCu c d)) := good_any c A k d W hc (hp.keep hb) hd
theorem made_own (W : World) (n : Nat) (hn : n ≤ maxLen) : OwnAt (W.alloc (.cells (madeCells #[.int .i64 0] n) 3)) W.heap.size W.heap.size n (List.replicate n 0) := by
  unfold OwnAt
  refine ⟨by simp, .inr ⟨_, n, madeCells #[.int .i64 0] n, rfl, Nat.le_refl _, heap_alloc_new W _, Nat.le_refl _, hn, by rw [size_madeCells]; simp, ?_⟩⟩
  rw [toList_madeCells_one, List.map_replicate]
  simp
/-- The result's block behind its stores, and what lies elsewhere. -/
theorem goodI_end {w X : World} {y : Inst} {A B : Option Addr} {n c m d : Nat} {l : CRow} (hn : n = y.custs.length) (hm : m = y.dist.length) (hl : l.map (·.1) = y.custs) (hR : BlkIs X (w.heap.size + 1) 25 #[.int .i64 0, .int .i64 0, .int .i64 0, .int .i64 0, .slice none 0 0, .slice none 0 0])
    (h1 : OwnCusts (w.heap.size + 3) X (.slice A n c) l) (h2 : OwnDist (w.heap.size + 3) X (.slice B m d) y.dist) (hB : Below w.heap.size w X) :
    BlkIs ((((((X.setCell ⟨w.heap.size + 1, 0, none⟩ (.int .i64 y.days)).setCell ⟨w.heap.size + 1, 1, none⟩ (.int .i64 y.veh)).setCell ⟨w.heap.size + 1, 2, none⟩ (.int .i64 y.cap)).setCell ⟨w.heap.size + 1, 3, none⟩ (.int .i64 y.len)).setCell ⟨w.heap.size + 1, 4, none⟩ (.slice A n c)).setCell ⟨w.heap.size + 1, 5, none⟩ (.slice B m d)) (w.heap.size + 1) 25 #[.int .i64 y.days, .int .i64 y.veh, .int .i64 y.cap, .int .i64 y.len, .slice A n c, .slice B m d] ∧ OwnInst w.heap.size ((((((X.setCell ⟨w.heap.size + 1, 0, none⟩ (.int .i64 y.days)).setCell ⟨w.heap.size + 1, 1, none⟩ (.int .i64 y.veh)).setCell ⟨w.heap.size + 1, 2, none⟩ (.int .i64 y.cap)).setCell ⟨w.heap.size + 1, 3, none⟩ (.int .i64 y.len)).setCell ⟨w.heap.size + 1, 4, none⟩ (.slice A n c)).setCell ⟨w.heap.size + 1, 5, none⟩ (.slice B m d)) y A c B d ∧ Below w.heap.size w ((((((X.setCell ⟨w.heap.size + 1, 0, none⟩ (.int .i64 y.days)).setCell ⟨w.heap.size + 1, 1, none⟩ (.int .i64 y.veh)).setCell ⟨w.heap.size + 1, 2, none⟩ (.int .i64 y.cap)).setCell ⟨w.heap.size + 1, 3, none⟩ (.int .i64 y.len)).setCell ⟨w.heap.size + 1, 4, none⟩ (.slice A n c)).setCell ⟨w.heap.size + 1, 5, none⟩ (.slice B m d)) := by
  subst hn
  subst hm
  exact ⟨hR.store6 (.int .i64 y.days) (.int .i64 y.veh) (.int .i64 y.cap) (.int .i64 y.len) (.slice A y.custs.length c) (.slice B y.dist.length d), ⟨⟨l, hl, OwnCusts.down (OwnCusts.far (OwnCusts.far (OwnCusts.far (OwnCusts.far (OwnCusts.far (OwnCusts.far h1 (p := ⟨w.heap.size + 1, 0, none⟩) (by show w.heap.size + 1 < w.heap.size + 3; omega) (.int .i64 y.days)) (p := ⟨w.heap.size + 1, 1, none⟩) (by show w.heap.size + 1 < w.heap.size + 3; omega) (.int .i64 y.veh)) (p := ⟨w.heap.size + 1, 2, none⟩) (by show w.heap.size + 1 < w.heap.size + 3; omega) (.int .i64 y.cap)) (p := ⟨w.heap.size + 1, 3, none⟩) (by show w.heap.size + 1 < w.heap.size + 3; omega) (.int .i64 y.len)) (p := ⟨w.heap.size + 1, 4, none⟩) (by show w.heap.size + 1 < w.heap.size + 3; omega) (.slice A y.custs.length c)) (p := ⟨w.heap.size + 1, 5, none⟩) (by show w.heap.size + 1 < w.heap.size + 3; omega) (.slice B y.dist.length d)) (by omega)⟩, OwnDist.down (OwnDist.far (OwnDist.far (OwnDist.far (OwnDist.far (OwnDist.far (OwnDist.far h2 (p := ⟨w.heap.size + 1, 0, none⟩) (by show w.heap.size + 1 < w.heap.size + 3; omega) (.int .i64 y.days)) (p := ⟨w.heap.size + 1, 1, none⟩) (by show w.heap.size + 1 < w.heap.size + 3; omega) (.int .i64 y.veh)) (p := ⟨w.heap.size + 1, 2, none⟩) (by show w.heap.size + 1 < w.heap.size + 3; omega) (.int .i64 y.cap)) (p := ⟨w.heap.size + 1, 3, none⟩) (by show w.heap.size + 1 < w.heap.size + 3; omega) (.int .i64 y.len)) (p := ⟨w.heap.size + 1, 4, none⟩) (by show w.heap.size + 1 < w.heap.size + 3; omega) (.slice A y.custs.length c)) (p := ⟨w.heap.size + 1, 5, none⟩) (by show w.heap.size + 1 < w.heap.size + 3; omega) (.slice B y.dist.length d)) (by omega)⟩, Below.store6 hB (g := w.heap.size + 1) (by omega) (.int .i64 y.days) (.int .i64 y.veh) (.int .i64 y.cap) (.int .i64 y.len) (.slice A y.custs.length c) (.slice B y.dist.length d)⟩
theorem s_facts {w w' : World} {x : Inst} {c : Nat} {B : Option Addr} {d : Nat} {g1 g2 g3 g4 : Int} {v u : Value} {b off i : Nat} {ci : Cust} {P : Option Addr} {kp : Nat} (hb : InstBox w' w.heap.size x (some ⟨b, off, none⟩) c B d)
    (ho : BlkIs w' (w.heap.size + 1 + 1) 25 #[.int .i64 g1, .int .i64 g2, .int .i64 g3, .int .i64 g4, v, u]) (hl : Below w.heap.size w w') (hc : CustAt w b (off + i * 8) ci P kp) :
    w'.cell? ⟨w.heap.size, 4, none⟩ = some (.slice (some ⟨b, off, none⟩) x.custs.length c) ∧ w'.cell? ⟨b, off + i * 8, none⟩ = some (.int .i64 ci.kind) ∧ w'.cell? ⟨b, off + i * 8 + 1, none⟩ = some (.int .i64 ci.demand) ∧ w'.cell? ⟨b, off + i * 8 + 2, none⟩ = some (.slice P ci.pats.length kp) ∧ w'.cell? ⟨b, off + i * 8 + 3, none⟩ = some (.int .i64 ci.rate) ∧ w'.cell? ⟨b, off + i * 8 + 4, none⟩ = some (.int .i64 ci.size) ∧ w'.cell? ⟨b, off + i * 8 + 5, none⟩ = some (.int .i64 ci.start) ∧ w'.cell? ⟨b, off + i * 8 + 6, none⟩ = some (.int .i64 ci.rule) ∧ w'.cell? ⟨b, off + i * 8 + 7, none⟩ = some (.int .i64 ci.hold) ∧ w'.cell? ⟨w.heap.size + 1 + 1, 0, none⟩ = some (.int .i64 g1) := by
  have k := hc.keep hl
  exact ⟨hb.cells.2.2.2.2.1, k.c0, k.c1, k.c2, k.c3, k.c4, k.c5, k.c6, k.c7, ho.cells6.1⟩
set_option maxRecDepth 100000 in
set_option maxHeartbeats 8000000 in
theorem Good_any (x : Inst) (A : Option Addr) (c : Nat) (B : Option Addr) (d : Nat) (w : World) (h : InstIs w x A B) :
    Calls Tryz.prog 8 #[instV x A c B d] w (GoodIEnd w (goodI x)) := by
  obtain ⟨gi, hgi⟩ : ∃ g, g = goodI x := ⟨_, rfl⟩
  have HGI := Go.Lib.hid hgi
  rw [← hgi]
  clear hgi
  obtain ⟨i0, hi, hz0, hz1, hz2⟩ := info_parts info_cust
  obtain ⟨j0, hj, jz0, jz1, jz2⟩ := info_parts info_rowi
  have C1 := fun W => round_any x.days 1 7 h.wf.days (by omega) (by omega) (by omega) W
  have C2 := fun W => round_any x.veh 0 5 h.wf.veh (by omega) (by omega) (by omega) W
  have C3 := fun W => round_any x.cap 0 40 h.wf.cap (by omega) (by omega) (by omega) W
  have C4 := fun W => round_any x.len 0 300 h.wf.len (by omega) (by omega) (by omega) W
  have hdb := roundD_bd x.days (l := 1) (m := 7) (by omega)
  have HI := Go.Lib.hid h
  have hn := h.wf.n
  have hm := h.wf.m
  unfold maxLen at hn hm
  unfold instV
  obtain ⟨dn, hdn⟩ : ∃ dn : Nat, roundD x.days 1 7 = (dn : Int) := ⟨(roundD x.days 1 7).toNat, by omega⟩
  rw [hdn] at C1 hdb
  have HDN := Go.Lib.hid hdn
  have hd7 : dn ≤ 7 := by omega
  generalize hg2 : roundD x.veh 0 5 = g2 at *
  generalize hg3 : roundD x.cap 0 40 = g3 at *
  generalize hg4 : roundD x.len 0 300 = g4 at *
  have HG2 := Go.Lib.hid hg2
  have HG3 := Go.Lib.hid hg3
  have HG4 := Go.Lib.hid hg4
  have J := BlkIs.alloc (InstBox.fresh w x A c B d) (.cells #[.int .i64 0, .int .i64 0, .int .i64 0, .int .i64 0, .slice none 0 0, .slice none 0 0] 25)
  have R := BlkIs.fresh (w.alloc (.cells #[.int .i64 x.days, .int .i64 x.veh, .int .i64 x.cap, .int .i64 x.len, .slice A x.custs.length c, .slice B x.dist.length d] 25)) 25 #[.int .i64 0, .int .i64 0, .int .i64 0, .int .i64 0, .slice none 0 0, .slice none 0 0]
  rw [World.size_alloc] at R
  have HB : Below w.heap.size w ((w.alloc (.cells #[.int .i64 x.days, .int .i64 x.veh, .int .i64 x.cap, .int .i64 x.len, .slice A x.custs.length c, .slice B x.dist.length d] 25)).alloc (.cells #[.int .i64 0, .int .i64 0, .int .i64 0, .int .i64 0, .slice none 0 0, .slice none 0 0] 25)) := (below_alloc _ _).alloc (by simp) _
  have hsz : ((w.alloc (.cells #[.int .i64 x.days, .int .i64 x.veh, .int .i64 x.cap, .int .i64 x.len, .slice A x.custs.length c, .slice B x.dist.length d] 25)).alloc (.cells #[.int .i64 0, .int .i64 0, .int .i64 0, .int .i64 0, .slice none 0 0, .slice none 0 0] 25)).heap.size = w.heap.size + 1 + 1 := by simp
  clear h hdn hg2 hg3 hg4
  go_enter Tryz.func8, Tryz.ntmps8
  go_wp2_with fail
  obtain ⟨W0, hW0⟩ : ∃ W, W = (w.alloc (.cells #[.int .i64 x.days, .int .i64 x.veh, .int .i64 x.cap, .int .i64 x.len, .slice A x.custs.length c, .slice B x.dist.length d] 25)).alloc (.cells #[.int .i64 0, .int .i64 0, .int .i64 0, .int .i64 0, .slice none 0 0, .slice none 0 0] 25) := ⟨_, rfl⟩
  rw [← hW0] at J R HB hsz ⊢
  clear hW0
  have l0 := BlkIs.lt J
  have l1 := R.lt
  obtain ⟨j0', j1', j2', j3', j4', j5'⟩ := InstBox.cells J
  have HJ := Go.Lib.hid J
  have HR := Go.Lib.hid R
  have HSZ := Go.Lib.hid hsz
  clear J R hsz
  go_cut [3] from 9 (fun p wx => p = .pointer (some ⟨w.heap.size + 1 + 1, 0, none⟩) ∧ GoodAt w x A c B d dn g2 g3 g4 [] [] (.slice none 0 0) (.slice none 0 0) wx)
  case first =>
    go_region_held3 (fun w' => w'.cell? ⟨w.heap.size, 0, none⟩ = some (.int .i64 x.days) ∧ w'.cell? ⟨w.heap.size, 1, none⟩ = some (.int .i64 x.veh) ∧ w'.cell? ⟨w.heap.size, 2, none⟩ = some (.int .i64 x.cap) ∧ w'.cell? ⟨w.heap.size, 3, none⟩ = some (.int .i64 x.len))
      (first | exact ⟨j0', j1', j2', j3'⟩ | go_keep)
      (first
        | (go_at_call 15; (first | (with_reducible refine (C1 _).mono ?_) | (with_reducible refine (C2 _).mono ?_) | (with_reducible refine (C3 _).mono ?_) | (with_reducible refine (C4 _).mono ?_)); rintro e w6 ⟨rfl, rfl⟩))
    all_goals
      go_wp2_with fail
      go_meet
      refine ⟨by rw [HSZ.out], InstBox.keep HJ.out ((below_alloc W0 _).drew), HR.out.below ((below_alloc W0 _).drew) l1, ?_, .nil _ _, .nil _ _, HB.trans (((below_alloc W0 _).drew).mono HB.size)⟩
      have := BlkIs.fresh W0 25 #[.int .i64 (dn : Int), .int .i64 g2, .int .i64 g3, .int .i64 g4, .slice none 0 0, .slice none 0 0]
      rw [HSZ.out] at this
      exact this
  case rest =>
    obtain ⟨rfl, hM⟩ := hcut
    have HM := Go.Lib.hid hM
    clear hM HB HJ HR HSZ l0 l1 j0' j1' j2' j3' j4' j5' C1 C2 C3 C4
    go_wp2
    go_loopw [4] (fun iv wr => ∃ (i : Nat) (l : CRow) (v : Value), i ≤ x.custs.length ∧ i ≤ 6 ∧ iv = .int .i64 i ∧ l.map (·.1) = (x.custs.take i).map (fun c => goodCu c dn) ∧ GoodAt w x A c B d dn g2 g3 g4 l [] v (.slice none 0 0) wr) (fun iv _ => x.custs.length - (intOf iv).toNat)
    case atStart => exact ⟨0, [], _, Nat.zero_le _, by omega, rfl, rfl, HM.out⟩
    case round =>
      clear HM
      obtain ⟨i, l, v, hi1, hi6, rfl, hl, hM⟩ := hrel
      have hll : l.length = i := by
        have := congrArg List.length hl
        rw [List.length_map, List.length_map, List.length_take_of_le hi1] at this
        exact this
      have HL := Go.Lib.hid hl
      have HLL := Go.Lib.hid hll
      have HM := Go.Lib.hid hM
      obtain ⟨b0, b1, b2, b3, b4, b5⟩ := hM.box.cells
      clear hl hll
      by_cases hgo : i < x.custs.length ∧ i < 6
      · obtain ⟨h1, h2⟩ := hgo
        have h2' : (i : Int) < 6 := by omega
        obtain ⟨b, off, P, kp, rfl, hca, hnp, hkp⟩ := HI.out.custs i h1
        have hcw := HI.out.wf.custs _ (List.getElem_mem h1)
        have HT : Hid ((x.custs.take (i + 1)).map (fun c => goodCu c dn) = (x.custs.take i).map (fun c => goodCu c dn) ++ [goodCu (x.custs[i]) dn]) := by
          show _ = _
          rw [List.take_succ_eq_append_getElem h1, List.map_append]; rfl
        obtain ⟨ci, hci⟩ : ∃ ci, ci = x.custs[i] := ⟨_, rfl⟩
        rw [← hci] at hca hnp hcw HT hkp
        clear hci
        have CG := fun W hb => good_from hcw hnp dn hd7 W hb (k := kp)
        obtain ⟨gc, hgc⟩ : ∃ gc, gc = goodCu ci dn := ⟨_, rfl⟩
        rw [← hgc] at CG HT
        clear hgc
        unfold GoodEnd custV at CG
        have HCA := Go.Lib.hid hca
        have HBd := Go.Lib.hid hM.low.drew
        have HMd := Go.Lib.hid (hM.keep (below_drew _))
        obtain ⟨o0, o1, o2, o3, o4, o5⟩ := hM.out.cells6
        have hrow := hM.custs.row
        obtain ⟨Pv, kv, rfl, _⟩ := hM.custs.len
        have SF := s_facts hM.box hM.out hM.low hca
        have HSF := Go.Lib.hid SF
        have hlen : l.length ≤ 6 := by rw [HLL.out]; exact hi6
        clear hM hca hnp hcw hkp SF
        have HLE : Hid (∀ (P5 : Option Addr) (k5 : Nat), ((l ++ [(gc, P5, k5)] : CRow).map (·.1)) = (x.custs.take (i + 1)).map (fun c => goodCu c dn)) := fun P5 k5 => by
          rw [List.map_append, HL.out, HT.out]; rfl
        go_wp2_with fail
        obtain ⟨e0, e1, e2, e3, e4, e5, e6, e7, e8, e9⟩ := HSF.out
        go_region_law (first
          | (refine step_append_lies _ (by rfl) (.tmp 34) (.tmp 43) 22 (by rfl) (w.heap.size + 3) 41 i0 (.agg #[.int .i64 0, .int .i64 0, .slice none 0 0, .int .i64 0, .int .i64 0, .int .i64 0, .int .i64 0, .int .i64 0]) 8 80 Tryz.underlying22 hi hz0 hz1 hz2 (by rfl) (by decide) (.slice Pv l.length kv) l.length (cellsC l) (by rfl) (own_alloc hrow5 _) ⟨w5.heap.size, 0, none⟩ 1 1 (cell8 gc P5 k5) (by rfl) rfl (fun j u hj => World.news_of_block (heap_alloc_new w5 _) j u hj) (cell8_ok _ _ _) (by decide) (by unfold maxLen; omega) (by omega) (by simp; omega) (w5.heap.size + 1) (by simp) ?_; intro g5 cap5 w7 hown7 hgrow7 hat7 hlt7; obtain ⟨q1, q2, q3, q4⟩ := HM5.out.push_c (t := (gc, P5, k5)) HP5.out hgrow7 hown7; have HM7 := Go.Lib.hid q4; have p4 := q1.cells6.2.2.2.2.1; have p6 := q1.free 4; clear q1 q2 q3 q4 hown7 hgrow7 hat7 hlt7)
          | (go_simp; go_at_call 16; refine (CG _ HBd.out).mono ?_; rintro e w5 ⟨P5, k5, rfl, hown5, hb5⟩; have HM5 := Go.Lib.hid (HMd.out.keep hb5); have o4c := HM5.out.out.cells6.2.2.2.2.1; have hrow5 := HM5.out.custs.row; have HP5 : Hid (OwnP w5 (w.heap.size + 3) (.slice P5 gc.pats.length k5) gc.pats) := own_down hown5 HMd.out.size; have o4a := keep_cell (below_alloc w5 (.cells #[.int .i64 gc.kind, .int .i64 gc.demand, .slice P5 gc.pats.length k5, .int .i64 gc.rate, .int .i64 gc.size, .int .i64 gc.start, .int .i64 gc.rule, .int .i64 gc.hold] 41)) o4c; have hs5 := HM5.out.size; clear hown5 hb5))
        all_goals
          go_wp2
          exact ⟨⟨i + 1, _, _, by omega, by omega, by go_num, HLE.out _ _, HM7.out⟩, by simp [intOf]; omega⟩
      · have hst : (¬ i < x.custs.length ∧ i ≤ 6) ∨ (i < x.custs.length ∧ (6 : Int) ≤ (i : Int) ∧ i ≤ 6) := by
          by_cases h : i < x.custs.length
          · exact .inr ⟨h, by have : ¬ i < 6 := fun h2 => hgo ⟨h, h2⟩; omega, hi6⟩
          · exact .inl ⟨h, hi6⟩
        have hcs : l.map (·.1) = goodCs x := by
          rw [HL.out]
          unfold goodCs
          rw [HDN.out]
          rcases hst with ⟨h, h'⟩ | ⟨h, h', h''⟩
          · rw [List.take_of_length_le (by omega), List.take_of_length_le (by omega)]
          · obtain rfl : i = 6 := by omega
            rfl
        have HCS := Go.Lib.hid hcs
        have hgl : (goodCs x).length = i := by rw [← hcs, List.length_map, HLL.out]
        have HGL := Go.Lib.hid hgl
        obtain ⟨Pv, kv, rfl, _⟩ := hM.custs.len
        obtain ⟨o0, o1, o2, o3, o4, o5⟩ := hM.out.cells6
        rw [HLL.out] at o4
        have HMn : Hid (GoodAt w x A c B d dn g2 g3 g4 l [] (.slice Pv i kv) (.slice none 0 0) wr) := by have := HM.out; rw [HLL.out] at this; exact this
        have hmk : ∀ W : World, (Instr.makeSlice 43 (.int .i64 ((i : Int) + 1)) (.int .i64 ((i : Int) + 1))).run Tryz.prog W = .ok (.slice (some ⟨W.heap.size, 0, none⟩) (i + 1) (i + 1)) (W.alloc (.cells (madeCells #[.int .i64 0] (i + 1)) 3)) := by
          intro W
          obtain ⟨k0, hk, kz0, kz1, kz2⟩ := info_parts info_int
          have := run_make (P := Tryz.prog) W 43 3 k0 (.int .i64 0) Tryz.underlying43 hk kz0 .i64 .i64 ((i : Int) + 1) ((i : Int) + 1) (by omega) (Int.le_refl _) (by rw [kz2]; omega) (by omega)
          rw [kz1, show ((i : Int) + 1).toNat = i + 1 by omega] at this
          simpa [Value.cells] using this
        clear hM hgo hcs hgl hi1 HM HLL HL
        rcases hst with ⟨a1, a2⟩ | ⟨a1, a2, a3⟩
        all_goals
          go_wp2
          go_loopw [6] (fun iv wr => ∃ (p : Nat) (rows : List (List Int)) (u : Value), p ≤ i + 1 ∧ iv = .int .i64 p ∧ rows = (List.range p).map (goodRow x i) ∧ GoodAt w x A c B d dn g2 g3 g4 l rows (.slice Pv i kv) u wr) (fun iv _ => i + 1 - (intOf iv).toNat)
          case atStart => exact ⟨0, [], _, by omega, rfl, rfl, HMn.out⟩
          case round =>
            clear HMn o0 o1 o2 o3 o4 o5 b0 b1 b2 b3 b4 b5
            obtain ⟨p, rows, u, hp, rfl, hrows, hM⟩ := hrel
            have HM := Go.Lib.hid hM
            have HRW := Go.Lib.hid hrows
            have hrl : rows.length = p := by rw [hrows]; simp
            have HRL := Go.Lib.hid hrl
            clear hrows hrl
            by_cases hlt : p ≤ i
            · obtain ⟨wq, rfl⟩ : ∃ q, q = wr := ⟨_, rfl⟩
              obtain ⟨b0, b1, b2, b3, b4, b5⟩ := hM.box.cells
              have hsz := hM.size
              obtain ⟨w1, hw1⟩ : ∃ w1, w1 = wq.alloc (.cells (madeCells #[.int .i64 0] (i + 1)) 3) := ⟨_, rfl⟩
              have HO : Hid (OwnAt w1 wq.heap.size wq.heap.size (i + 1) (partRow x i p 0)) := by
                show OwnAt _ _ _ _ _
                rw [hw1, partRow_zero]
                exact made_own wq (i + 1) (by unfold maxLen; omega)
              have HB : Hid (Below wq.heap.size wq w1) := by show Below _ _ _; rw [hw1]; exact below_alloc _ _
              clear hM
              go_wp2_with fail
              rw [← hw1]
              clear hw1 hmk
              go_loopw [8] (fun kv wk => ∃ k : Nat, k ≤ i + 1 ∧ kv = .int .i64 k ∧ OwnAt wk wq.heap.size wq.heap.size (i + 1) (partRow x i p k) ∧ Below wq.heap.size wq wk) (fun kv _ => i + 1 - (intOf kv).toNat)
              case atStart => exact ⟨0, by omega, rfl, HO.out, HB.out⟩
              case round =>
                clear HO HB b0 b1 b2 b3 b4 b5
                obtain ⟨k, hk, rfl, hO, hB⟩ := hrel
                obtain ⟨b0, b1, b2, b3, b4, b5⟩ := (HM.out.keep hB).box.cells
                have HO := Go.Lib.hid hO
                have HB := Go.Lib.hid hB
                by_cases hkl : k ≤ i
                · have hki : (k : Int) ≤ (i : Int) := by omega
                  by_cases hpk : p = k
                  · have hpr : Hid (partRow x i p (k + 1) = partRow x i p k) := by show _ = _; subst hpk; exact partRow_same x i p
                    have t1 : ((p : Int) != (k : Int)) = false := by subst hpk; simp
                    have t2 : (p != k) = false := by subst hpk; simp
                    clear hO hB hpk
                    go_wp2
                    exact ⟨⟨k + 1, by omega, by go_num, by rw [hpr.out]; exact HO.out, HB.out⟩, by simp [intOf]; omega⟩
                  · have t1 : ((p : Int) != (k : Int)) = true := by simp; omega
                    have t2 : (p != k) = true := by simpa using hpk
                    have hgd : gd x p k = roundD (arcD x p k) 0 60 := if_neg hpk
                    have hpr : Hid ((partRow x i p k).set k (gd x p k) = partRow x i p (k + 1)) := partRow_set x i p k (by omega)
                    obtain ⟨c0, c1⟩ := hO.cellIn (j := k) (by omega)
                    have CA := fun W hb => arc_ref_from HI.out c d p k W hb
                    unfold instV at CA
                    have hwa : W64 (arcD x p k) := by
                      by_cases hpd : p < x.dist.length
                      · obtain ⟨_, _, _, rl, _, _, _, _, _, _, _, z1, z2⟩ := HI.out.arc hpd
                        by_cases hkr : k < rl
                        · obtain ⟨_, _, _, _, _, h5⟩ := z2 k hkr
                          exact h5
                        · rw [z1 k (by omega)]; exact ⟨by omega, by omega⟩
                      · rw [arcD_row (by omega)]; exact ⟨by omega, by omega⟩
                    have CR := fun W => round_any (arcD x p k) 0 60 hwa (by omega) (by omega) (by omega) W
                    rw [← hgd] at CR
                    have HLW := Go.Lib.hid (HM.out.low.trans (hB.mono HM.out.low.size))
                    clear hO hB hgd hwa hpk
                    generalize arcD x p k = av at *
                    generalize gd x p k = gv at *
                    go_wp2_with (first
                      | (go_at_call 17; refine (CA _ HLW.out).mono ?_; rintro e w5 ⟨rfl, hb5, hb6⟩; have HO5 : Hid (OwnAt w5 wq.heap.size wq.heap.size (i + 1) (partRow x i p k)) := own_keep HO.out hb5; have HB5 := Go.Lib.hid (HB.out.trans (hb5.mono HB.out.size)); obtain ⟨c0, c1⟩ := HO5.out.cellIn (j := k) (by omega); clear hb5 hb6)
                      | (go_at_call 15; refine (CR _).mono ?_; rintro e w6 ⟨rfl, rfl⟩))
                    exact ⟨⟨k + 1, by omega, by go_num, by rw [← hpr.out]; exact HO5.out.put k gv, HB5.out.setCell (Nat.le_refl _) _⟩, by simp [intOf]; omega⟩
                · have hkg : ¬ (k : Int) ≤ (i : Int) := by omega
                  have HM2 := Go.Lib.hid (HM.out.keep hB)
                  have hO' := hO
                  rw [partRow_all x i p k (by omega)] at hO'
                  have HO2 : Hid (wr.ownsRow (w.heap.size + 3) 3 1 (.slice (some ⟨wq.heap.size, 0, none⟩) (i + 1) (i + 1)) (goodRow x i p).length ((goodRow x i p).map (Value.int .i64))) := by
                    rw [goodRow_len]
                    exact own_down hO' hsz
                  obtain ⟨us, hu, hf⟩ := HM2.out.dist.row
                  have HF := Go.Lib.hid hf
                  have HU := Go.Lib.hid hu
                  obtain ⟨Pu, ku, rfl, _⟩ := HM2.out.dist.len
                  obtain ⟨o0, o1, o2, o3, o4, o5⟩ := HM2.out.out.cells6
                  have hs5 := HM2.out.size
                  have hrl6 : rows.length ≤ 6 := by rw [HRL.out]; omega
                  have HRN : Hid ((List.range (p + 1)).map (goodRow x i) = rows ++ [goodRow x i p]) := by show _ = _; rw [List.range_succ, List.map_append, HRW.out]; rfl
                  clear hO hB hO' hf
                  go_wp2_with (at_builtin; refine wpList_append_own _ rfl _ _ 23 rfl (w.heap.size + 3) 43 j0 (.slice none 0 0) 1 24 Tryz.underlying23 hj jz0 jz1 jz2 rfl (by decide) _ _ _ rfl (own_alloc hu _) ⟨wr.heap.size, 0, none⟩ 1 1 [.slice (some ⟨wq.heap.size, 0, none⟩) (i + 1) (i + 1)] rfl rfl (one_cell _ _ _) (by simp [Value.oneCell']) (by unfold maxLen; omega) (by omega) (by simp; omega) ?_; intro v' w3 hown' hgrow _; obtain ⟨q1, q2⟩ := HM2.out.push_d HU.out HF.out HO2.out hgrow hown'; have HM7 := Go.Lib.hid q2; have p4 := q1.cells6.2.2.2.2.2; have p6 := q1.free 5; obtain ⟨Px, kx, rfl, _⟩ := own_form hown'; clear q1 q2 hown' hgrow)
                  exact ⟨⟨p + 1, _, _, by omega, by go_num, HRN.out.symm, HM7.out⟩, by simp [intOf]; omega⟩
            · have hgt : ¬ (p : Int) ≤ (i : Int) := by omega
              obtain rfl : p = i + 1 := by omega
              have hR := hM.res
              obtain ⟨s0, s1, s2, s3, s4, s5⟩ := hR.cells6
              have fr : ∀ j, wr.frozen? ⟨w.heap.size + 1, j, none⟩ = false := fun j => hR.free j
              have HR := Go.Lib.hid hR
              obtain ⟨Pu, ku, rfl, _⟩ := hM.dist.len
              obtain ⟨o0, o1, o2, o3, o4, o5⟩ := hM.out.cells6
              have HMn : Hid (GoodAt w x A c B d dn g2 g3 g4 l rows (.slice Pv i kv) (.slice Pu (i + 1) ku) wr) := by have := HM.out; rw [HRL.out] at this; exact this
              rw [HRL.out] at o5
              have g0 : gi.days = (dn : Int) := by rw [HGI.out]; exact HDN.out
              have g1 : gi.veh = g2 := by rw [HGI.out]; exact HG2.out
              have g2' : gi.cap = g3 := by rw [HGI.out]; exact HG3.out
              have g3' : gi.len = g4 := by rw [HGI.out]; exact HG4.out
              have g4' : l.map (·.1) = gi.custs := by rw [HGI.out]; exact HCS.out
              have g5 : i = gi.custs.length := by rw [HGI.out]; exact HGL.out.symm
              have g6 : rows = gi.dist := by
                rw [HGI.out, HRW.out]
                show _ = (List.range ((goodCs x).length + 1)).map (goodRow x (goodCs x).length)
                rw [HGL.out]
              have g7 : i + 1 = gi.dist.length := by rw [← g6, HRL.out]
              have G0 := Go.Lib.hid g0
              have G1 := Go.Lib.hid g1
              have G2 := Go.Lib.hid g2'
              have G3 := Go.Lib.hid g3'
              have G4 := Go.Lib.hid g4'
              have G5 := Go.Lib.hid g5
              have G6 := Go.Lib.hid g6
              have G7 := Go.Lib.hid g7
              clear hR hM g0 g1 g2' g3' g4' g5 g6 g7 HM
              go_wp2
              have E := goodI_end (A := Pv) (B := Pu) (c := kv) (d := ku) G5.out G7.out G4.out HR.out HMn.out.custs (by rw [← G6.out]; exact HMn.out.dist) HMn.out.low
              rw [G0.out, G1.out, G2.out, G3.out] at E
              obtain ⟨Q, QO, QB⟩ := E
              generalize (World.setCell _ (⟨w.heap.size + 1, 5, none⟩ : Addr) (.slice Pu (i + 1) ku)) = W' at *
              obtain ⟨q0, q1, q2, q3, q4, q5⟩ := Q.cells6
              refine bodyPost_ret (v := .agg #[.int .i64 (dn : Int), .int .i64 g2, .int .i64 g3, .int .i64 g4, .slice Pv i kv, .slice Pu (i + 1) ku]) (by simp [results, Tryz.results8, go_sem, q0, q1, q2, q3, q4, q5]) rfl ⟨Pv, kv, Pu, ku, ?_, QO, QB⟩
              unfold instV
              rw [G0.out, G1.out, G2.out, G3.out, ← G5.out, ← G7.out]
end Go.Proofs.YtliomhkgkabbbaaGreatDoor
end
section
/- What is known of an instance that Good has made; Good, as the laws call it. -/
namespace Go.Proofs.YtliomhkgkabbbaaGreatDoor
open Go.RowKit
set_option linter.unusedVariables false
/-- What is known of an instance that Good has made. -/
structure Made (x y : Inst) : Prop where
  is : y = goodI x
  sq : Square y
  small : SmallD y
  diag : ∀ a, arcD y a a = 0
  n : y.custs.length ≤ 6
  m : y.dist.length = y.custs.length + 1
  wf : y.Wf
theorem made_of (x : Inst) : Made x (goodI x) := ⟨rfl, goodI_square x, goodI_small x, goodI_diag x, goodI_n x, goodI_dist_len x, goodI_wf x⟩
/-- The block of an instance that was made, and what it reads as. -/
structure YAt (W : World) (g : Nat) (y : Inst) (A : Option Addr) (c : Nat) (B : Option Addr) (d : Nat) : Prop where
  box : InstBox W g y A c B d
  inst : InstIs W y A B
theorem YAt.keep {W W' : World} {g : Nat} {y : Inst} {A : Option Addr} {c : Nat} {B : Option Addr} {d : Nat} (h : YAt W g y A c B d) (hb : Below W.heap.size W W') : YAt W' g y A c B d := ⟨h.box.keep hb, h.inst.keep hb⟩
/-- Good's contract, from a world on that has grown since. -/
theorem Good_from {w : World} {x y : Inst} {A B : Option Addr} (h : InstIs w x A B) (hy : Made x y) (c d : Nat) (W : World) (hb : Below w.heap.size w W) :
    Calls Tryz.prog 8 #[.agg #[.int .i64 x.days, .int .i64 x.veh, .int .i64 x.cap, .int .i64 x.len, .slice A x.custs.length c, .slice B x.dist.length d]] W fun e w' => ∃ A2 c2 B2 d2, e = .returned (.agg #[.int .i64 y.days, .int .i64 y.veh, .int .i64 y.cap, .int .i64 y.len, .slice A2 y.custs.length c2, .slice B2 y.dist.length d2]) ∧ OwnInst W.heap.size w' y A2 c2 B2 d2 ∧ YAt (w'.alloc (.cells #[.int .i64 y.days, .int .i64 y.veh, .int .i64 y.cap, .int .i64 y.len, .slice A2 y.custs.length c2, .slice B2 y.dist.length d2] 25)) w'.heap.size y A2 c2 B2 d2 ∧ Below W.heap.size W (w'.alloc (.cells #[.int .i64 y.days, .int .i64 y.veh, .int .i64 y.cap, .int .i64 y.len, .slice A2 y.custs.length c2, .slice B2 y.dist.length d2] 25)) ∧ Below W.heap.size W w' := by
  have hC := Good_any x A c B d W (h.keep hb)
  rw [← hy.is] at hC
  refine hC.mono fun e w' ⟨A2, c2, B2, d2, he, hO, hB⟩ => ⟨A2, c2, B2, d2, he, hO, ⟨InstBox.fresh _ _ _ _ _ _, (hO.inst hy.wf).keep (below_alloc _ _)⟩, hB.trans ((below_alloc w' _).mono hB.size), hB⟩
end Go.Proofs.YtliomhkgkabbbaaGreatDoor
end
