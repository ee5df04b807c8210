/- The least arcs that come to, and leave, each customer, off the code. -/
import Derived.Test.YtmfahjghfpckeaaDoorInstCheapB
import Derived.Test.YtmfahjghfpckeaaDoorDaysRef
import Derived.RegionTactic
import Derived.Deep.CutRange
namespace Go.Proofs.YtmfahjghfpckeaaDoor
open Go.RowKit
set_option linter.unusedVariables false
theorem made_own' (W : World) (base n : Nat) (hn : n ≤ maxLen) (hb : base ≤ W.heap.size) : OwnAt (W.alloc (.cells (madeCells #[.int .i64 0] n) 3)) base W.heap.size n (List.replicate n 0) := by
  unfold OwnAt
  refine ⟨by simp, .inr ⟨_, n, madeCells #[.int .i64 0] n, rfl, hb, heap_alloc_new W _, Nat.le_refl _, hn, by rw [size_madeCells]; simp, ?_⟩⟩
  rw [toList_madeCells_one, List.map_replicate]
  simp
theorem OwnAt.other {w : World} {base g n : Nat} {xs : List Int} (h : OwnAt w base g n xs) {p : Addr} (hp : g ≠ p.block) (u : Value) : OwnAt (w.setCell p u) base g n xs := by
  refine ⟨h.1, ?_⟩
  rcases h.2 with h0 | ⟨g', cap, cur, hv, hg, hh, r⟩
  · exact .inl h0
  · injection hv with hv _ hc
    injection hv with hv
    injection hv with hv
    subst hv
    subst hc
    exact .inr ⟨_, n, cur, rfl, hg, (Below.heap_setCell w p u _ hp).trans hh, r⟩
theorem OwnAt.keep {w w' : World} {base g n : Nat} {xs : List Int} (h : OwnAt w base g n xs) (hb : Below w.heap.size w w') : OwnAt w' base g n xs := own_keep h hb
/-- The first k of what is told. -/
def partF (f : Nat → Int) (n k : Nat) : List Int := (List.range n).map fun j => if j < k then f j else 0
theorem partF_zero (f : Nat → Int) (n : Nat) : partF f n 0 = List.replicate n 0 := by
  refine List.eq_replicate_iff.2 ⟨by simp [partF], fun b hb => ?_⟩
  obtain ⟨j, _, rfl⟩ := List.mem_map.1 hb
  rw [if_neg (by omega)]
theorem partF_set (f : Nat → Int) (n k : Nat) (hk : k < n) : (partF f n k).set k (f k) = partF f n (k + 1) := by
  refine List.ext_getElem (by simp [partF]) fun j h1 h2 => ?_
  simp only [partF, List.getElem_set, List.getElem_map, List.getElem_range]
  by_cases e : k = j
  · subst e; rw [if_pos rfl, if_pos (by omega)]
  · rw [if_neg e]
    by_cases h : j < k
    · rw [if_pos h, if_pos (by omega)]
    · rw [if_neg h, if_neg (by omega)]
theorem partF_all (f : Nat → Int) (n : Nat) : partF f n n = (List.range n).map f := by
  unfold partF
  refine List.map_congr_left fun j hj => ?_
  rw [if_pos (List.mem_range.1 hj)]
/-- What Cheap hands back. -/
def CheapEnd (w : World) (x : Inst) (e : Ending) (w' : World) : Prop := ∃ gc gl, e = .returned (.tuple #[.slice (some ⟨gc, 0, none⟩) x.custs.length x.custs.length, .slice (some ⟨gl, 0, none⟩) x.custs.length x.custs.length]) ∧
  Ints w' (some ⟨gc, 0, none⟩) x.custs.length ((List.range x.custs.length).map (comeD x)) ∧ Ints w' (some ⟨gl, 0, none⟩) x.custs.length ((List.range x.custs.length).map (leaveD x)) ∧ Below w.heap.size w w'
/-- Between two customers. -/
structure CheapAt (w : World) (x : Inst) (A : Option Addr) (c : Nat) (B : Option Addr) (d gc gl k1 k2 : Nat) (wr : World) : Prop where
  box : InstBox wr w.heap.size x A c B d
  come : OwnAt wr (w.heap.size + 1) gc x.custs.length (partF (comeD x) x.custs.length k1)
  leave : OwnAt wr (w.heap.size + 1) gl x.custs.length (partF (leaveD x) x.custs.length k2)
  low : Below w.heap.size w wr
theorem CheapAt.keep {w : World} {x : Inst} {A : Option Addr} {c : Nat} {B : Option Addr} {d gc gl k1 k2 : Nat} {wr w2 : World} (h : CheapAt w x A c B d gc gl k1 k2 wr) (hb : Below wr.heap.size wr w2) : CheapAt w x A c B d gc gl k1 k2 w2 :=
  ⟨h.box.keep hb, h.come.keep hb, h.leave.keep hb, h.low.trans (hb.mono h.low.size)⟩
section
variable {w : World} {x : Inst} {A : Option Addr} {c : Nat} {B : Option Addr} {d gc gl k1 k2 : Nat} {wr : World}
theorem CheapAt.put_come (h : CheapAt w x A c B d gc gl k1 k2 wr) (hg : gc ≠ gl) (hk : k1 < x.custs.length) : CheapAt w x A c B d gc gl (k1 + 1) k2 (wr.setCell ⟨gc, k1, none⟩ (.int .i64 (comeD x k1))) := by
  have h1 := h.come.ge
  refine ⟨BlkIs.far h.box (p := ⟨gc, k1, none⟩) (by show w.heap.size ≠ gc; omega) _, ?_, h.leave.other (p := ⟨gc, k1, none⟩) (fun e => hg e.symm) _, h.low.setCell (p := ⟨gc, k1, none⟩) (by show w.heap.size ≤ gc; omega) _⟩
  have := h.come.put k1 (comeD x k1)
  rw [partF_set _ _ _ hk] at this
  exact this
theorem CheapAt.put_leave (h : CheapAt w x A c B d gc gl k1 k2 wr) (hg : gc ≠ gl) (hk : k2 < x.custs.length) : CheapAt w x A c B d gc gl k1 (k2 + 1) (wr.setCell ⟨gl, k2, none⟩ (.int .i64 (leaveD x k2))) := by
  have h1 := h.leave.ge
  refine ⟨BlkIs.far h.box (p := ⟨gl, k2, none⟩) (by show w.heap.size ≠ gl; omega) _, h.come.other (p := ⟨gl, k2, none⟩) hg _, ?_, h.low.setCell (p := ⟨gl, k2, none⟩) (by show w.heap.size ≤ gl; omega) _⟩
  have := h.leave.put k2 (leaveD x k2)
  rw [partF_set _ _ _ hk] at this
  exact this
theorem CheapAt.lt (h : CheapAt w x A c B d gc gl k1 k2 wr) : gc < wr.heap.size ∧ gl < wr.heap.size := ⟨(World.ownsRow.lt h.come gc rfl).2, (World.ownsRow.lt h.leave gl rfl).2⟩
end
set_option maxHeartbeats 4000000 in
theorem cheap_code (x : Inst) (A : Option Addr) (c : Nat) (B : Option Addr) (d : Nat) (w : World) (h : InstIs w x A B) (hs : Square x) (hd : SmallD x) (hn : x.custs.length ≤ 100) :
    Calls Tryd.prog 18 #[instV x A c B d] w (CheapEnd w x) := by
  have hmf : ∀ (fn : Fn) (first cap : Array Value) (w : World), (Instr.makeFunc fn first cap).run Tryd.prog w = .ok (.func fn first cap) w := fun _ _ _ _ => rfl
  have hmk : ∀ W : World, (Instr.makeSlice 33 (.int .i64 (x.custs.length : Int)) (.int .i64 (x.custs.length : Int))).run Tryd.prog W = .ok (.slice (some ⟨W.heap.size, 0, none⟩) x.custs.length x.custs.length) (W.alloc (.cells (madeCells #[.int .i64 0] x.custs.length) 3)) := by
    intro W
    obtain ⟨k0, hk, kz0, kz1, kz2⟩ := info_parts info_int
    have := run_make (P := Tryd.prog) W 33 3 k0 (.int .i64 0) Tryd.underlying33 hk kz0 .i64 .i64 (x.custs.length : Int) (x.custs.length : Int) (by omega) (Int.le_refl _) (by rw [kz2]; omega) (by omega)
    rw [kz1, Int.toNat_natCast] at this
    simpa [Value.cells] using this
  have C1 := fun p ga W hp hb hJ ha => least1_any x A c B d p w.heap.size ga w W h hs hd hn hp hb hJ ha
  have C2 := fun p ga W hp hb hJ ha => least2_any x A c B d p w.heap.size ga w W h hs hd hn hp hb hJ ha
  have J := InstBox.fresh w x A c B d
  have hb := below_alloc w (.cells #[.int .i64 x.days, .int .i64 x.veh, .int .i64 x.cap, .int .i64 x.len, .slice A x.custs.length c, .slice B x.dist.length d] 25)
  have K0 : ∀ W, Below w.heap.size w W → InstBox W w.heap.size x A c B d → w.heap.size + 1 ≤ W.heap.size →
      CheapAt w x A c B d W.heap.size (W.heap.size + 1) 0 0 ((W.alloc (.cells (madeCells #[.int .i64 0] x.custs.length) 3)).alloc (.cells (madeCells #[.int .i64 0] x.custs.length) 3)) ∧
      CheapAt w x A c B d (W.heap.size + 1) W.heap.size 0 0 ((W.alloc (.cells (madeCells #[.int .i64 0] x.custs.length) 3)).alloc (.cells (madeCells #[.int .i64 0] x.custs.length) 3)) := fun W hB hJ hsz => by
    have hm : x.custs.length ≤ maxLen := by unfold maxLen; omega
    have a1 := (made_own' W (w.heap.size + 1) x.custs.length hm hsz).keep (below_alloc _ (.cells (madeCells #[.int .i64 0] x.custs.length) 3))
    have a2 := made_own' (W.alloc (.cells (madeCells #[.int .i64 0] x.custs.length) 3)) (w.heap.size + 1) x.custs.length hm (by simp; omega)
    rw [World.size_alloc] at a2
    have b2 : Below W.heap.size W ((W.alloc (.cells (madeCells #[.int .i64 0] x.custs.length) 3)).alloc (.cells (madeCells #[.int .i64 0] x.custs.length) 3)) := (below_alloc _ _).alloc (by simp) _
    exact ⟨⟨hJ.keep b2, by rw [partF_zero]; exact a1, by rw [partF_zero]; exact a2, hB.trans (b2.mono hB.size)⟩, ⟨hJ.keep b2, by rw [partF_zero]; exact a2, by rw [partF_zero]; exact a1, hB.trans (b2.mono hB.size)⟩⟩
  have K1 := K0 _ hb J (by simp)
  rw [World.size_alloc] at K1
  have HK0 := Go.Lib.hid K1
  unfold instV at *
  clear h hs hd J hb K0 K1
  go_enter Tryd.func18, Tryd.ntmps18
  go_wp2_with fail
  go_cut [4, 5] from 8 (fun a b wx => ∃ gc gl, a = .slice (some ⟨gc, 0, none⟩) x.custs.length x.custs.length ∧ b = .slice (some ⟨gl, 0, none⟩) x.custs.length x.custs.length ∧ gc ≠ gl ∧ CheapAt w x A c B d gc gl 0 0 wx)
  case first =>
    go_region
    all_goals
      go_wp2_with fail
      go_meet
      first
        | exact ⟨_, _, rfl, rfl, by omega, HK0.out.1.keep (below_drew _)⟩
        | exact ⟨_, _, rfl, rfl, by omega, HK0.out.2.keep (below_drew _)⟩
  case rest =>
    obtain ⟨gc, gl, rfl, rfl, hne, hM⟩ := hcut
    obtain ⟨j0, j1, j2, j3, j4, j5⟩ := hM.box.cells
    have HM := Go.Lib.hid hM
    have HNE := Go.Lib.hid hne
    clear hM hmk hne HK0
    go_wp2
    go_loopw [19] (fun kv wr => ∃ k : Nat, k ≤ x.custs.length ∧ kv = .int .i64 k ∧ CheapAt w x A c B d gc gl k k wr) (fun kv _ => x.custs.length - (intOf kv).toNat)
    case atStart => exact ⟨0, Nat.zero_le _, rfl, HM.out⟩
    case round =>
      clear HM j0 j1 j2 j3 j4 j5
      obtain ⟨k, hk, rfl, hM⟩ := hrel
      obtain ⟨j0, j1, j2, j3, j4, j5⟩ := hM.box.cells
      have HM := Go.Lib.hid hM
      clear hM
      by_cases hlt : k < x.custs.length
      · have CP := fun W' => place_any (k : Int) (by omega) (by omega) W'
        have hba := below_alloc wr (.cells #[.int .i64 ((k : Int) + 1)] 3)
        have HMa := Go.Lib.hid (HM.out.keep hba)
        have ha : (wr.alloc (.cells #[.int .i64 ((k : Int) + 1)] 3)).cell? ⟨wr.heap.size, 0, none⟩ = some (.int .i64 ((k : Int) + 1)) := (BlkIs.fresh wr 3 #[.int .i64 ((k : Int) + 1)]).cellAt 0
        have HA := Go.Lib.hid ha
        have D1 := C1 k wr.heap.size _ hlt HMa.out.low HMa.out.box ha
        have D2 := fun W hb hJ ha => C2 k wr.heap.size W hlt hb hJ ha
        have hlts := HM.out.lt
        have HLT := Go.Lib.hid hlts
        have HP1 : Hid (∀ v, v = comeD x k → ∀ W, CheapAt w x A c B d gc gl k k W → CheapAt w x A c B d gc gl (k + 1) k (W.setCell ⟨gc, k, none⟩ (.int .i64 v))) := fun v hv W hW => by rw [hv]; exact hW.put_come HNE.out hlt
        have HP2 : Hid (∀ v, v = leaveD x k → ∀ W, CheapAt w x A c B d gc gl (k + 1) k W → CheapAt w x A c B d gc gl (k + 1) (k + 1) (W.setCell ⟨gl, k, none⟩ (.int .i64 v))) := fun v hv W hW => by rw [hv]; exact hW.put_leave HNE.out hlt
        have E1 : leastD (fun o => arcD x o ((k : Int) + 1)) (k + 1) x.custs.length = comeD x k := rfl
        have E2 : leastD (fun o => arcD x ((k : Int) + 1) o) (k + 1) x.custs.length = leaveD x k := rfl
        rw [E1] at D1
        simp only [E2] at D2
        generalize hvc : comeD x k = vc at *
        generalize hvl : leaveD x k = vl at *
        have HV1 := Go.Lib.hid hvc
        have HV2 := Go.Lib.hid hvl
        obtain ⟨m0, m1, m2, m3, m4, m5⟩ := HMa.out.box.cells
        clear C1 C2 hba hlts E1 E2 hvc hvl
        go_wp2_with (first
          | (go_at_call 30; refine (CP _).mono ?_; rintro e w2 ⟨rfl, rfl⟩)
          | (go_at_call 31; (with_reducible refine D1.mono ?_); rintro e w5 ⟨rfl, hb5⟩; have HM5 := Go.Lib.hid (HMa.out.keep hb5); obtain ⟨g0, g1⟩ := HM5.out.come.cellIn hlt; have HM6 := Go.Lib.hid (HP1.out vc rfl _ HM5.out); obtain ⟨n0, n1, n2, n3, n4, n5⟩ := HM6.out.box.cells; have ha6 := (World.cell?_setCell_other w5 ⟨gc, k, none⟩ ⟨wr.heap.size, 0, none⟩ (.int .i64 vc) (far_off (by have := HLT.out.1; omega))).trans (keep_cell hb5 HA.out); have HA6 := Go.Lib.hid ha6; clear hb5)
          | (go_at_call 31; (with_reducible refine (D2 _ HM6.out.low HM6.out.box HA6.out).mono ?_); rintro e w7 ⟨rfl, hb7⟩; have HM7 := Go.Lib.hid (HM6.out.keep hb7); obtain ⟨g2, g3⟩ := HM7.out.leave.cellIn hlt; have HM8 := Go.Lib.hid (HP2.out vl rfl _ HM7.out); clear hb7))
        exact ⟨⟨k + 1, by omega, by go_num, HM8.out⟩, by simp [intOf]; omega⟩
      · obtain rfl : k = x.custs.length := by omega
        have HC := Go.Lib.hid (HM.out.come.ints)
        have HL := Go.Lib.hid (HM.out.leave.ints)
        go_wp2
        go_ret2
        exact ⟨gc, gl, rfl, by rw [← partF_all]; exact HC.out, by rw [← partF_all]; exact HL.out, HM.out.low⟩
end Go.Proofs.YtmfahjghfpckeaaDoor
