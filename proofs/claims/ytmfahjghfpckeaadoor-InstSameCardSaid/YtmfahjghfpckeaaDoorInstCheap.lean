/- The least arcs that come to, and leave, each customer: as they are told, and off the code and the document's. -/
import Derived.Test.YtmfahjghfpckeaaDoorInstRef
import Derived.IntWalk
import Derived.Laws.MakeOwn
namespace Go.Proofs.YtmfahjghfpckeaaDoor
open Go.RowKit
set_option linter.unusedVariables false
/-- The least of what is told of the depot, and of the first k customers' places but the place at. -/
def leastD (f : Nat → Int) (at' : Nat) : Nat → Int
  | 0 => f 0
  | k + 1 => if k + 1 = at' then leastD f at' k else min (leastD f at' k) (f (k + 1))
/-- The least arc that comes to customer c. -/
def comeD (x : Inst) (c : Nat) : Int := leastD (fun o => arcD x o ((c : Int) + 1)) (c + 1) x.custs.length
/-- The least arc that leaves customer c. -/
def leaveD (x : Inst) (c : Nat) : Int := leastD (fun o => arcD x ((c : Int) + 1) o) (c + 1) x.custs.length
theorem leastD_bd {f : Nat → Int} (h : ∀ o, 0 ≤ f o ∧ f o ≤ 60) (at' : Nat) : ∀ k, 0 ≤ leastD f at' k ∧ leastD f at' k ≤ 60
  | 0 => h 0
  | k + 1 => by
    have h1 := leastD_bd h at' k
    have h2 := h (k + 1)
    rw [leastD]
    split
    · exact h1
    · omega
theorem leastD_le {f : Nat → Int} {at' : Nat} : ∀ {k o : Nat}, o ≤ k → (o ≠ at' ∨ o = 0) → leastD f at' k ≤ f o
  | 0, o, h, _ => by
    obtain rfl : o = 0 := by omega
    exact Int.le_refl _
  | k + 1, o, h, ho => by
    rw [leastD]
    by_cases e : o = k + 1
    · rw [if_neg (by omega)]
      subst e
      omega
    · have := leastD_le (f := f) (at' := at') (k := k) (o := o) (by omega) ho
      split
      · exact this
      · omega
theorem comeD_bd {x : Inst} (h : SmallD x) (c : Nat) : 0 ≤ comeD x c ∧ comeD x c ≤ 60 := leastD_bd (fun o => h o _) _ _
theorem leaveD_bd {x : Inst} (h : SmallD x) (c : Nat) : 0 ≤ leaveD x c ∧ leaveD x c ≤ 60 := leastD_bd (fun o => h _ o) _ _
set_option maxHeartbeats 2000000 in
theorem cheap_ref (x : Inst) (A : Option Addr) (c : Nat) (B : Option Addr) (d : Nat) (p : Nat) (w : World) (h : InstIs w x A B) (hd : SmallD x) (hp : p < x.custs.length) (hn : x.custs.length ≤ 100) :
    Calls Tryd.prog 19 #[instV x A c B d, .int .i64 (p : Int)] w fun e w' => e = .returned (.tuple #[.int .i64 (comeD x p), .int .i64 (leaveD x p)]) ∧ Below w.heap.size w w' := by
  have CA := fun a b W hb => arc_ref_from h c d a b W hb
  have HJ := Go.Lib.hid (InstBox.fresh w x A c B d)
  have HB := Go.Lib.hid (below_alloc w (.cells #[.int .i64 x.days, .int .i64 x.veh, .int .i64 x.cap, .int .i64 x.len, .slice A x.custs.length c, .slice B x.dist.length d] 25))
  unfold instV at *
  have HD := Go.Lib.hid hd
  obtain ⟨vc, hvc⟩ : ∃ v, v = comeD x p := ⟨_, rfl⟩
  obtain ⟨vl, hvl⟩ : ∃ v, v = leaveD x p := ⟨_, rfl⟩
  rw [← hvc, ← hvl]
  have HC := Go.Lib.hid hvc
  have HV := Go.Lib.hid hvl
  clear h hd hvc hvl
  go_enter Tryd.func19, Tryd.ntmps19
  go_wp2
  go_loopw [6, 7, 8] (fun tv fv ov wr => ∃ (o : Nat) (t f : Int), o ≤ x.custs.length + 1 ∧ ov = .int .i64 o ∧ tv = .int .i64 t ∧ fv = .int .i64 f ∧ (o = 0 → t = -1 ∧ f = -1) ∧ (∀ k, o = k + 1 → t = leastD (fun o => arcD x o ((p : Int) + 1)) (p + 1) k ∧ f = leastD (fun o => arcD x ((p : Int) + 1) o) (p + 1) k) ∧ InstBox wr w.heap.size x A c B d ∧ Below w.heap.size w wr) (fun _ _ ov _ => x.custs.length + 1 - (intOf ov).toNat)
  case atStart => exact ⟨0, -1, -1, Nat.zero_le _, rfl, rfl, rfl, fun _ => ⟨rfl, rfl⟩, (fun k hk => by omega), HJ.out, HB.out⟩
  case round =>
    clear HJ HB
    obtain ⟨o, t, f, ho, rfl, rfl, rfl, h0, h1, hJ, hB⟩ := hrel
    have HJ := Go.Lib.hid hJ
    have HB := Go.Lib.hid hB
    have H0 := Go.Lib.hid h0
    have H1 := Go.Lib.hid h1
    obtain ⟨j0, j1, j2, j3, j4, j5⟩ := hJ.cells
    clear hJ hB h0 h1
    by_cases hle : o ≤ x.custs.length
    · have hle2 : (o : Int) ≤ (x.custs.length : Int) := by omega
      by_cases hop : o = p + 1
      · have t1 : ((o : Int) == (p : Int) + 1) = true := by simp; omega
        have HN : Hid (t = leastD (fun o => arcD x o ((p : Int) + 1)) (p + 1) o ∧ f = leastD (fun o => arcD x ((p : Int) + 1) o) (p + 1) o) := by
          obtain ⟨k, hk⟩ : ∃ k, o = k + 1 := ⟨p, hop⟩
          have := H1.out k hk
          show _ ∧ _
          rw [this.1, this.2]
          subst hk
          rw [leastD, if_pos hop, leastD, if_pos hop]
          exact ⟨rfl, rfl⟩
        clear hop
        go_wp2
        exact ⟨⟨o + 1, t, f, by omega, by go_num, rfl, rfl, (fun h => by omega), (fun k hk => by obtain rfl : o = k := (by omega); exact HN.out), HJ.out, HB.out⟩, by simp [intOf]; omega⟩
      · have t1 : ((o : Int) == (p : Int) + 1) = false := by simp; omega
        have b1 := HD.out o ((p : Int) + 1)
        have b2 := HD.out ((p : Int) + 1) o
        have C1 := fun W hb => CA o ((p : Int) + 1) W hb
        have C2 := fun W hb => CA ((p : Int) + 1) o W hb
        have HN0 : Hid (o = 0 → leastD (fun o => arcD x o ((p : Int) + 1)) (p + 1) o = arcD x o ((p : Int) + 1) ∧ leastD (fun o => arcD x ((p : Int) + 1) o) (p + 1) o = arcD x ((p : Int) + 1) o) := fun h => by subst h; exact ⟨rfl, rfl⟩
        have HN1 : Hid (∀ k, o = k + 1 → leastD (fun o => arcD x o ((p : Int) + 1)) (p + 1) o = min t (arcD x o ((p : Int) + 1)) ∧ leastD (fun o => arcD x ((p : Int) + 1) o) (p + 1) o = min f (arcD x ((p : Int) + 1) o)) := fun k hk => by
          have := H1.out k hk
          rw [this.1, this.2]
          subst hk
          rw [leastD, if_neg hop, leastD, if_neg hop]
          exact ⟨rfl, rfl⟩
        have hbt : Hid (∀ k, o = k + 1 → 0 ≤ t ∧ 0 ≤ f) := fun k hk => by
          have := H1.out k hk
          rw [this.1, this.2]
          exact ⟨(leastD_bd (fun o => HD.out o _) _ _).1, (leastD_bd (fun o => HD.out _ o) _ _).1⟩
        have hcase : (o = 0 ∧ t = -1 ∧ f = -1) ∨ (∃ k, o = k + 1) := by
          by_cases h : o = 0
          · exact .inl ⟨h, H0.out h⟩
          · exact .inr ⟨o - 1, by omega⟩
        clear hop
        generalize hg1 : arcD x o ((p : Int) + 1) = a1 at *
        generalize hg2 : arcD x ((p : Int) + 1) o = a2 at *
        have HA1 := Go.Lib.hid hg1
        have HA2 := Go.Lib.hid hg2
        obtain ⟨b10, b11⟩ := b1
        obtain ⟨b20, b21⟩ := b2
        clear hg1 hg2 CA
        rcases hcase with ⟨rfl, rfl, rfl⟩ | ⟨k, hk⟩
        · simp only [Int.natCast_zero] at C1 C2
          go_wp2_with (first
            | (go_at_call 15; (first | (with_reducible refine (C1 _ HB.out).mono ?_) | (with_reducible refine (C2 _ HB.out).mono ?_)); rintro e w6 ⟨rfl, hb6, hb7⟩; have HJ6 := Go.Lib.hid (HJ.out.keep hb6); obtain ⟨u0, u1, u2, u3, u4, u5⟩ := HJ6.out.cells; clear HJ HB; have HJ := HJ6; have HB := Go.Lib.hid hb7; clear HJ6 hb6 hb7))
          exact ⟨⟨1, a1, a2, by omega, by first | rfl | go_num, rfl, rfl, (fun h => by omega), (fun k hk => by obtain rfl : k = 0 := (by omega); exact ⟨(HN0.out (by first | rfl | trivial)).1.symm, (HN0.out (by first | rfl | trivial)).2.symm⟩), HJ.out, HB.out⟩, by simp [intOf]⟩
        · have hz := hbt.out k hk
          obtain ⟨z1, z2⟩ := hz
          have HM : Hid (∀ v, v = min t a1 → v = leastD (fun o => arcD x o ((p : Int) + 1)) (p + 1) o) := fun v hv => by rw [hv, (HN1.out k hk).1]
          have HM2 : Hid (∀ v, v = min f a2 → v = leastD (fun o => arcD x ((p : Int) + 1) o) (p + 1) o) := fun v hv => by rw [hv, (HN1.out k hk).2]
          clear hk
          go_wp2_with (first
            | (go_at_call 15; (first | (with_reducible refine (C1 _ HB.out).mono ?_) | (with_reducible refine (C2 _ HB.out).mono ?_)); rintro e w6 ⟨rfl, hb6, hb7⟩; have HJ6 := Go.Lib.hid (HJ.out.keep hb6); obtain ⟨u0, u1, u2, u3, u4, u5⟩ := HJ6.out.cells; clear HJ HB; have HJ := HJ6; have HB := Go.Lib.hid hb7; clear HJ6 hb6 hb7))
          all_goals
            exact ⟨⟨o + 1, _, _, by omega, by go_num, rfl, rfl, (fun h => by omega), (fun k hk => by obtain rfl : o = k := (by omega); exact ⟨HM.out _ (by omega), HM2.out _ (by omega)⟩), HJ.out, HB.out⟩, by simp [intOf]; omega⟩
    · obtain rfl : o = x.custs.length + 1 := by omega
      have hge : ¬ (((x.custs.length + 1 : Nat) : Int) ≤ (x.custs.length : Int)) := by omega
      have HE := Go.Lib.hid (H1.out x.custs.length rfl)
      go_wp2
      go_ret2
      exact ⟨by rw [HE.out.1, HE.out.2, HC.out, HV.out]; rfl, HB.out⟩
end Go.Proofs.YtmfahjghfpckeaaDoor
