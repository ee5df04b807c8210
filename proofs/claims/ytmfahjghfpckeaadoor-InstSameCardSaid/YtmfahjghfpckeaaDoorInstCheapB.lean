/- The least arcs that come to, and leave, each customer, off the code: the two functions that tell arcs, and the least of what they tell. -/
import Derived.Test.YtmfahjghfpckeaaDoorInstCheap
namespace Go.Proofs.YtmfahjghfpckeaaDoor
open Go.RowKit
set_option linter.unusedVariables false
theorem told1_any (x : Inst) (A : Option Addr) (c : Nat) (B : Option Addr) (d : Nat) (o a : Int) (g ga : Nat) (w W : World) (h : InstIs w x A B) (hs : Square x) (hb : Below w.heap.size w W) (hJ : InstBox W g x A c B d) (ha : W.cell? ⟨ga, 0, none⟩ = some (.int .i64 a)) :
    Calls Tryd.prog 32 #[.int .i64 o, .pointer (some ⟨g, 0, none⟩), .pointer (some ⟨ga, 0, none⟩)] W fun e w' => e = .returned (.int .i64 (arcD x o a)) ∧ Below W.heap.size W w' := by
  have CA := arc_code_from h hs c d o a W hb
  unfold instV at CA
  obtain ⟨j0, j1, j2, j3, j4, j5⟩ := hJ.cells
  generalize arcD x o a = v at *
  clear h hs hJ hb
  go_enter Tryd.func32, Tryd.ntmps32
  go_wp2_with (go_at_call 14; refine CA.mono ?_; rintro e w1 ⟨rfl, hb1, hb2⟩)
  go_ret
  exact ⟨rfl, hb1⟩
theorem told2_any (x : Inst) (A : Option Addr) (c : Nat) (B : Option Addr) (d : Nat) (o a : Int) (g ga : Nat) (w W : World) (h : InstIs w x A B) (hs : Square x) (hb : Below w.heap.size w W) (hJ : InstBox W g x A c B d) (ha : W.cell? ⟨ga, 0, none⟩ = some (.int .i64 a)) :
    Calls Tryd.prog 33 #[.int .i64 o, .pointer (some ⟨g, 0, none⟩), .pointer (some ⟨ga, 0, none⟩)] W fun e w' => e = .returned (.int .i64 (arcD x a o)) ∧ Below W.heap.size W w' := by
  have CA := arc_code_from h hs c d a o W hb
  unfold instV at CA
  obtain ⟨j0, j1, j2, j3, j4, j5⟩ := hJ.cells
  generalize arcD x a o = v at *
  clear h hs hJ hb
  go_enter Tryd.func33, Tryd.ntmps33
  go_wp2_with (go_at_call 14; refine CA.mono ?_; rintro e w1 ⟨rfl, hb1, hb2⟩)
  go_ret
  exact ⟨rfl, hb1⟩
set_option maxHeartbeats 2000000 in
theorem least1_any (x : Inst) (A : Option Addr) (c : Nat) (B : Option Addr) (d : Nat) (p : Nat) (g ga : Nat) (w W : World) (h : InstIs w x A B) (hs : Square x) (hd : SmallD x) (hn : x.custs.length ≤ 100) (hp : p < x.custs.length) (hb : Below w.heap.size w W) (hJ : InstBox W g x A c B d) (ha : W.cell? ⟨ga, 0, none⟩ = some (.int .i64 ((p : Int) + 1))) :
    Calls Tryd.prog 31 #[instV x A c B d, .int .i64 ((p : Int) + 1), .func (.func 32) #[] #[.pointer (some ⟨g, 0, none⟩), .pointer (some ⟨ga, 0, none⟩)]] W fun e w' => e = .returned (.int .i64 (leastD (fun o => arcD x o ((p : Int) + 1)) (p + 1) x.custs.length)) ∧ Below W.heap.size W w' := by
  have hb0 := below_alloc W (.cells #[.int .i64 x.days, .int .i64 x.veh, .int .i64 x.cap, .int .i64 x.len, .slice A x.custs.length c, .slice B x.dist.length d] 25)
  have HJ0 := Go.Lib.hid (InstBox.fresh W x A c B d)
  have CT := fun (o : Int) (W' : World) (hW : Below W.heap.size W W') => told1_any x A c B d o ((p : Int) + 1) g ga w W' h hs (hb.trans (hW.mono hb.size)) (hJ.keep hW) (keep_cell hW ha)
  have HD := Go.Lib.hid hd
  have HB0 := Go.Lib.hid hb0
  unfold instV
  obtain ⟨T, hT⟩ : ∃ T, T = leastD (fun o => arcD x o ((p : Int) + 1)) (p + 1) x.custs.length := ⟨_, rfl⟩
  have HT := Go.Lib.hid hT
  rw [← hT]
  have b0 := hd 0 ((p : Int) + 1)
  have C0 := fun W' hW => CT 0 W' hW
  generalize hv0 : arcD x 0 ((p : Int) + 1) = v0 at *
  have HV0 := Go.Lib.hid hv0
  obtain ⟨b00, b01⟩ := b0
  clear h hs hd hJ ha hb hb0 hT hv0
  go_enter Tryd.func31, Tryd.ntmps31
  go_wp2_with (go_at_call 32; refine (C0 _ HB0.out).mono ?_; rintro e w1 ⟨rfl, hb1⟩; have HJ1 := Go.Lib.hid (HJ0.out.keep hb1); have HB1 := Go.Lib.hid (HB0.out.trans (hb1.mono HB0.out.size)); obtain ⟨j0, j1, j2, j3, j4, j5⟩ := HJ1.out.cells; clear hb1)
  go_loopw [7, 15] (fun nv kv wr => ∃ (k : Nat) (m : Int), k ≤ x.custs.length ∧ kv = .int .i64 k ∧ nv = .int .i64 m ∧ 0 ≤ m ∧ m ≤ 60 ∧ m = leastD (fun o => arcD x o ((p : Int) + 1)) (p + 1) k ∧ Below W.heap.size W wr) (fun _ kv _ => x.custs.length - (intOf kv).toNat)
  case atStart => exact ⟨0, v0, Nat.zero_le _, rfl, rfl, b00, b01, HV0.out.symm, HB1.out⟩
  case round =>
    clear HJ1 HB1 HJ0 HB0 C0 j0 j1 j2 j3 j4 j5
    obtain ⟨k, m, hk, rfl, rfl, m0, m1, hm, hB⟩ := hrel
    have HB := Go.Lib.hid hB
    have HM := Go.Lib.hid hm
    clear hB hm
    by_cases hlt : k < x.custs.length
    · have CP := fun W' => place_any (k : Int) (by omega) (by omega) W'
      by_cases hkp : k = p
      · have t1 : ((k : Int) + 1 != (p : Int) + 1) = false := by subst hkp; simp
        have HN : Hid (m = leastD (fun o => arcD x o ((p : Int) + 1)) (p + 1) (k + 1)) := by show _ = _; rw [HM.out, leastD, if_pos (by omega)]
        clear hkp
        go_wp2_with (first
          | (go_at_call 30; refine (CP _).mono ?_; rintro e w2 ⟨rfl, rfl⟩))
        exact ⟨⟨k + 1, m, by omega, by go_num, rfl, m0, m1, HN.out, HB.out⟩, by simp [intOf]; omega⟩
      · have t1 : ((k : Int) + 1 != (p : Int) + 1) = true := by simp; omega
        have bq := HD.out ((k : Int) + 1) ((p : Int) + 1)
        have HN : Hid (min m (arcD x ((k : Int) + 1) ((p : Int) + 1)) = leastD (fun o => arcD x o ((p : Int) + 1)) (p + 1) (k + 1)) := by
          show _ = _
          rw [leastD, if_neg (by omega), ← HM.out]
          rfl
        have C1 := fun W' hW => CT ((k : Int) + 1) W' hW
        clear hkp
        generalize arcD x ((k : Int) + 1) ((p : Int) + 1) = q at *
        obtain ⟨q0, q1⟩ := bq
        have HMN : Hid (∀ v, v = min m q → v = leastD (fun o => arcD x o ((p : Int) + 1)) (p + 1) (k + 1)) := fun v hv => by rw [hv, HN.out]
        clear HN
        go_wp2_with (first
          | (go_at_call 30; refine (CP _).mono ?_; rintro e w2 ⟨rfl, rfl⟩)
          | (go_at_call 32; refine (C1 _ HB.out).mono ?_; rintro e w3 ⟨rfl, hb3⟩; have HB3 := Go.Lib.hid (HB.out.trans (hb3.mono HB.out.size)); clear hb3))
        all_goals
          exact ⟨⟨k + 1, _, by omega, by go_num, rfl, by omega, by omega, HMN.out _ (by omega), HB3.out⟩, by simp [intOf]; omega⟩
    · obtain rfl : k = x.custs.length := by omega
      go_wp2
      go_ret
      exact ⟨ret_int (by rw [HT.out, HM.out]), HB.out⟩
set_option maxHeartbeats 2000000 in
theorem least2_any (x : Inst) (A : Option Addr) (c : Nat) (B : Option Addr) (d : Nat) (p : Nat) (g ga : Nat) (w W : World) (h : InstIs w x A B) (hs : Square x) (hd : SmallD x) (hn : x.custs.length ≤ 100) (hp : p < x.custs.length) (hb : Below w.heap.size w W) (hJ : InstBox W g x A c B d) (ha : W.cell? ⟨ga, 0, none⟩ = some (.int .i64 ((p : Int) + 1))) :
    Calls Tryd.prog 31 #[instV x A c B d, .int .i64 ((p : Int) + 1), .func (.func 33) #[] #[.pointer (some ⟨g, 0, none⟩), .pointer (some ⟨ga, 0, none⟩)]] W fun e w' => e = .returned (.int .i64 (leastD (fun o => arcD x ((p : Int) + 1) o) (p + 1) x.custs.length)) ∧ Below W.heap.size W w' := by
  have hb0 := below_alloc W (.cells #[.int .i64 x.days, .int .i64 x.veh, .int .i64 x.cap, .int .i64 x.len, .slice A x.custs.length c, .slice B x.dist.length d] 25)
  have HJ0 := Go.Lib.hid (InstBox.fresh W x A c B d)
  have CT := fun (o : Int) (W' : World) (hW : Below W.heap.size W W') => told2_any x A c B d o ((p : Int) + 1) g ga w W' h hs (hb.trans (hW.mono hb.size)) (hJ.keep hW) (keep_cell hW ha)
  have HD := Go.Lib.hid hd
  have HB0 := Go.Lib.hid hb0
  unfold instV
  obtain ⟨T, hT⟩ : ∃ T, T = leastD (fun o => arcD x ((p : Int) + 1) o) (p + 1) x.custs.length := ⟨_, rfl⟩
  have HT := Go.Lib.hid hT
  rw [← hT]
  have b0 := hd ((p : Int) + 1) 0
  have C0 := fun W' hW => CT 0 W' hW
  generalize hv0 : arcD x ((p : Int) + 1) 0 = v0 at *
  have HV0 := Go.Lib.hid hv0
  obtain ⟨b00, b01⟩ := b0
  clear h hs hd hJ ha hb hb0 hT hv0
  go_enter Tryd.func31, Tryd.ntmps31
  go_wp2_with (go_at_call 33; refine (C0 _ HB0.out).mono ?_; rintro e w1 ⟨rfl, hb1⟩; have HJ1 := Go.Lib.hid (HJ0.out.keep hb1); have HB1 := Go.Lib.hid (HB0.out.trans (hb1.mono HB0.out.size)); obtain ⟨j0, j1, j2, j3, j4, j5⟩ := HJ1.out.cells; clear hb1)
  go_loopw [7, 15] (fun nv kv wr => ∃ (k : Nat) (m : Int), k ≤ x.custs.length ∧ kv = .int .i64 k ∧ nv = .int .i64 m ∧ 0 ≤ m ∧ m ≤ 60 ∧ m = leastD (fun o => arcD x ((p : Int) + 1) o) (p + 1) k ∧ Below W.heap.size W wr) (fun _ kv _ => x.custs.length - (intOf kv).toNat)
  case atStart => exact ⟨0, v0, Nat.zero_le _, rfl, rfl, b00, b01, HV0.out.symm, HB1.out⟩
  case round =>
    clear HJ1 HB1 HJ0 HB0 C0 j0 j1 j2 j3 j4 j5
    obtain ⟨k, m, hk, rfl, rfl, m0, m1, hm, hB⟩ := hrel
    have HB := Go.Lib.hid hB
    have HM := Go.Lib.hid hm
    clear hB hm
    by_cases hlt : k < x.custs.length
    · have CP := fun W' => place_any (k : Int) (by omega) (by omega) W'
      by_cases hkp : k = p
      · have t1 : ((k : Int) + 1 != (p : Int) + 1) = false := by subst hkp; simp
        have HN : Hid (m = leastD (fun o => arcD x ((p : Int) + 1) o) (p + 1) (k + 1)) := by show _ = _; rw [HM.out, leastD, if_pos (by omega)]
        clear hkp
        go_wp2_with (first
          | (go_at_call 30; refine (CP _).mono ?_; rintro e w2 ⟨rfl, rfl⟩))
        exact ⟨⟨k + 1, m, by omega, by go_num, rfl, m0, m1, HN.out, HB.out⟩, by simp [intOf]; omega⟩
      · have t1 : ((k : Int) + 1 != (p : Int) + 1) = true := by simp; omega
        have bq := HD.out ((p : Int) + 1) ((k : Int) + 1)
        have HN : Hid (min m (arcD x ((p : Int) + 1) ((k : Int) + 1)) = leastD (fun o => arcD x ((p : Int) + 1) o) (p + 1) (k + 1)) := by
          show _ = _
          rw [leastD, if_neg (by omega), ← HM.out]
          rfl
        have C1 := fun W' hW => CT ((k : Int) + 1) W' hW
        clear hkp
        generalize arcD x ((p : Int) + 1) ((k : Int) + 1) = q at *
        obtain ⟨q0, q1⟩ := bq
        have HMN : Hid (∀ v, v = min m q → v = leastD (fun o => arcD x ((p : Int) + 1) o) (p + 1) (k + 1)) := fun v hv => by rw [hv, HN.out]
        clear HN
        go_wp2_with (first
          | (go_at_call 30; refine (CP _).mono ?_; rintro e w2 ⟨rfl, rfl⟩)
          | (go_at_call 33; refine (C1 _ HB.out).mono ?_; rintro e w3 ⟨rfl, hb3⟩; have HB3 := Go.Lib.hid (HB.out.trans (hb3.mono HB.out.size)); clear hb3))
        all_goals
          exact ⟨⟨k + 1, _, by omega, by go_num, rfl, by omega, by omega, HMN.out _ (by omega), HB3.out⟩, by simp [intOf]; omega⟩
    · obtain rfl : k = x.custs.length := by omega
      go_wp2
      go_ret
      exact ⟨ret_int (by rw [HT.out, HM.out]), HB.out⟩
end Go.Proofs.YtmfahjghfpckeaaDoor
