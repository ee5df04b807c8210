/- The walk of NumFloors: it returns true for any two numbers, and writes nothing that was there. -/
import Derived.Test.YtnfjfejjbphgbaaBelow
import Derived.Deep.DeepCutAuto
namespace Go.Proofs.Ytnfjfejjbphgbaa
open Go.RowKit
set_option linter.unusedVariables false

theorem VarAt.store {w : World} {g g' : Nat} {A A0 A1 : Option Addr} {n c n0 c0 n1 c1 : Nat} {b b0 b1 : Bool} {L : Nat} {z : Int} (h : VarAt w g A n c b L z) (K : BlkIs w g' 24 #[.slice A0 n0 c0, .bool b0]) (hne : g ≠ g') :
    VarAt ((w.setCell ⟨g', 0, none⟩ (.slice A1 n1 c1)).setCell ⟨g', 1, none⟩ (.bool b1)) g A n c b L z := ⟨(h.1.far hne _).far hne _, h.2.store2 K⟩
theorem VarAt.put {w : World} {g : Nat} {A A0 : Option Addr} {n c n0 c0 : Nat} {b b0 : Bool} {L : Nat} {z : Int} (K : BlkIs w g 24 #[.slice A0 n0 c0, .bool b0]) (G : Bg w L (.agg #[.slice A n c, .bool b]) z) :
    VarAt ((w.setCell ⟨g, 0, none⟩ (.slice A n c)).setCell ⟨g, 1, none⟩ (.bool b)) g A n c b L z := ⟨by simpa using (K.put 0 (.slice A n c)).put 1 (.bool b), G.store2 K⟩
theorem VarAt.more {w : World} {g : Nat} {A : Option Addr} {n c : Nat} {b : Bool} {L L' : Nat} {z : Int} (h : VarAt w g A n c b L z) (hl : L ≤ L') : VarAt w g A n c b L' z := ⟨h.1, h.2.more hl⟩
theorem VarAt.cast {w : World} {g : Nat} {A : Option Addr} {n c : Nat} {b : Bool} {L : Nat} {z z' : Int} (h : VarAt w g A n c b L z) (e : z = z') : VarAt w g A n c b L z' := e ▸ h

theorem bg_zero (w : World) : Bg w 0 (.agg #[.slice none 0 0, .bool false]) 0 := ⟨none, 0, 0, [], false, rfl, Ints.nil _ _, Dig.nil, .inl rfl, fun _ => rfl, rfl, Nat.le_refl _, Nat.le_refl _⟩
theorem below_is {w : World} {L M : Nat} {v u : Value} {x y : Int} {f : Bool} (hx : Bg w L v x) (hy : Bg w M u y) (hf : decide (x < y) = f) (hL : L ≤ 800 := by decide) (hM : M ≤ 800 := by decide) :
    Calls Try.prog 22 #[v, u] w fun e w' => e = .returned (.bool f) ∧ Below w.heap.size w w' :=
  hf ▸ bigbelow_any (max L M) v u x y w (hx.more (by omega)) (hy.more (by omega)) (by omega)

set_option maxRecDepth 100000 in
set_option maxHeartbeats 2000000 in
theorem floors_main (a b f c : Int) (wa : (Lit.int .i64 a).wf = true) (wb : (Lit.int .i64 b).wf = true) (wf : (Lit.int .i64 f).wf = true) (wfc : (Lit.int .i64 c).wf = true)
    (FL : ∀ w, Calls Try.prog 20 #[.int .i64 a, .int .i64 b] w fun e w' => e = .returned (.tuple #[.int .i64 f, .bool true]) ∧ w = w')
    (CE : ∀ w, Calls Try.prog 21 #[.int .i64 a, .int .i64 b] w fun e w' => e = .returned (.tuple #[.int .i64 c, .bool true]) ∧ w = w')
    (hb0 : (b == 0) = false) (o : Bool) (hodd : (a == -9223372036854775808) = o) (hodd2 : o = true → (b == -1) = false)
    (HM : Hid (((0 < b → 0 ≤ a - b * f ∧ a - b * f < b) ∧ (b < 0 → 0 ≤ b * f - a ∧ b * f - a < -b)) ∧ ((0 < b → 0 ≤ b * c - a ∧ b * c - a < b) ∧ (b < 0 → 0 ≤ a - b * c ∧ a - b * c < -b)))) (w : World) :
    Calls Try.prog 5 #[.int .i64 a, .int .i64 b] w fun e w' => e = .returned (.bool true) ∧ Below w.heap.size w w' := by
  have OA := of_parts a wa
  have OB := of_parts b wb
  clear wa wb
  go_enter Try.func5, Try.ntmps5
  go_upto_region 3 with (first
      | (go_at_call 20; refine (FL _).mono ?_; rintro e w' ⟨rfl, rfl⟩)
      | (go_at_call 21; refine (CE _).mono ?_; rintro e w' ⟨rfl, rfl⟩))
  go_cut [9] (fun s9 wx => s9 = .bool false ∧ w = wx)
  case first =>
    cases o
    · go_wp2_with fail
      go_meet
      exact ⟨rfl, rfl⟩
    · have hodd3 := hodd2 rfl
      go_wp2_with fail
      go_meet
      exact ⟨rfl, rfl⟩
  case rest =>
    obtain ⟨rfl, rfl⟩ := hcut
    go_wp2_with (first
      | (go_at_call 10; refine (OA _).mono ?_; rintro e w1 ⟨A1, n1, k1, b1, rfl, ga, ba⟩; clear OA; have V1 := VarAt.new ga; have B1 := ba.trans ((below_alloc w1 (.cells #[.slice A1 n1 k1, .bool b1] 24)).mono ba.size); clear ga ba)
      | (go_at_call 10; refine (OB _).mono ?_; rintro e w2 ⟨A2, n2, k2, b2, rfl, gb, bb⟩; have V11 := VarAt.new gb; have V10 := (V1.keep bb).keep (below_alloc _ (.cells #[.slice A2 n2 k2, .bool b2] 24)); have l1 := (V1.keep bb).1.lt; have lw2 : w.heap.size ≤ w2.heap.size := Nat.le_trans B1.size bb.size; have CW := (B1.trans (bb.mono B1.size)).trans ((below_alloc w2 (.cells #[.slice A2 n2 k2, .bool b2] 24)).mono (B1.trans (bb.mono B1.size)).size); clear gb bb B1 V1))
    have l10 := V10.1.lt
    have l11 := V11.1.lt
    have l12 := CW.size
    have HW2 := Go.Lib.hid lw2
    clear lw2
    obtain ⟨u0, u1, u2, u3⟩ := V10.1.cells2
    obtain ⟨u4, u5, u6, u7⟩ := V11.1.cells2
    go_cut [12] (fun s12 wx => ∃ (g : Nat) (A : Option Addr) (n c : Nat) (b' : Bool), s12 = .pointer (some ⟨g, 0, none⟩) ∧ VarAt wx g A n c b' 20 (a + -(f * b)) ∧ VarAt wx w1.heap.size A1 n1 k1 b1 4 a ∧ VarAt wx w2.heap.size A2 n2 k2 b2 4 b ∧ Below w.heap.size w wx ∧ w2.heap.size < g)
    case first =>
      obtain ⟨W, hW⟩ : ∃ W, w2.alloc (.cells #[.slice A2 n2 k2, .bool b2] 24) = W := ⟨_, rfl⟩
      rw [hW] at V10 V11 CW l10 l11 l12 u0 u1 u2 u3 u4 u5 u6 u7 ⊢
      clear hW
      go_region_held3 (fun w' => w'.cell? ⟨w1.heap.size, 0, none⟩ = some (.slice A1 n1 k1) ∧ w'.cell? ⟨w1.heap.size, 1, none⟩ = some (.bool b1) ∧ w'.cell? ⟨w2.heap.size, 0, none⟩ = some (.slice A2 n2 k2) ∧ w'.cell? ⟨w2.heap.size, 1, none⟩ = some (.bool b2))
        (first | ((try dsimp only); (repeat' apply And.intro) <;> (first | assumption | (rw [far_two (by omega)]; assumption)); done) | go_keep)
        (first
        | (go_at_call 10; refine (of_from V11.2 f wf (by first | exact Below.refl _ _ | exact below_alloc _ _ | exact below_drew _ | exact below_drew_alloc _ _ | exact below_drew_alloc' _ _)).mono ?_; rintro e wn ⟨rv, rfl, GF, HB, hbc⟩; (first | (replace KA := KA.below HB KA.lt) | (have KA := fresh_left hbc) | (have KA := fresh_left' hbc) | skip); replace CW := CW.trans (HB.mono CW.size); replace V10 := V10.keep HB; replace V11 := V11.keep HB; obtain ⟨v0, v1, v2, v3⟩ := V10.1.cells2; obtain ⟨v4, v5, v6, v7⟩ := V11.1.cells2; have l10 := V10.1.lt; have l11 := V11.1.lt; have lc := HB.size; clear HB hbc)
        | (go_at_call 17; refine (times_from GF V11.2 (by decide) (by decide) (by first | exact Below.refl _ _ | exact below_alloc _ _ | exact below_drew _ | exact below_drew_alloc _ _ | exact below_drew_alloc' _ _)).mono ?_; rintro e wn ⟨rv, rfl, GT, HB, hbc⟩; (first | (replace KA := KA.below HB KA.lt) | (have KA := fresh_left hbc) | (have KA := fresh_left' hbc) | skip); replace CW := CW.trans (HB.mono CW.size); replace V10 := V10.keep HB; replace V11 := V11.keep HB; obtain ⟨v0, v1, v2, v3⟩ := V10.1.cells2; obtain ⟨v4, v5, v6, v7⟩ := V11.1.cells2; have l10 := V10.1.lt; have l11 := V11.1.lt; have lc := HB.size; clear HB hbc)
        | (go_at_call 15; refine (neg_from GT (by decide) (by first | exact Below.refl _ _ | exact below_alloc _ _ | exact below_drew _ | exact below_drew_alloc _ _ | exact below_drew_alloc' _ _)).mono ?_; rintro e wn ⟨rv, rfl, GN, HB, hbc⟩; (first | (replace KA := KA.below HB KA.lt) | (have KA := fresh_left hbc) | (have KA := fresh_left' hbc) | skip); replace CW := CW.trans (HB.mono CW.size); replace V10 := V10.keep HB; replace V11 := V11.keep HB; obtain ⟨v0, v1, v2, v3⟩ := V10.1.cells2; obtain ⟨v4, v5, v6, v7⟩ := V11.1.cells2; have l10 := V10.1.lt; have l11 := V11.1.lt; have lc := HB.size; clear HB hbc)
        | (go_at_call 13; refine (add_from V10.2 GN (by decide) (by decide) (by first | exact Below.refl _ _ | exact below_alloc _ _ | exact below_drew _ | exact below_drew_alloc _ _ | exact below_drew_alloc' _ _)).mono ?_; rintro e wn ⟨rv, rfl, GA, HB, hbc⟩; (first | (replace KA := KA.below HB KA.lt) | (have KA := fresh_left hbc) | (have KA := fresh_left' hbc) | skip); replace CW := CW.trans (HB.mono CW.size); replace V10 := V10.keep HB; replace V11 := V11.keep HB; obtain ⟨v0, v1, v2, v3⟩ := V10.1.cells2; obtain ⟨v4, v5, v6, v7⟩ := V11.1.cells2; have l10 := V10.1.lt; have l11 := V11.1.lt; have lc := HB.size; obtain ⟨A6, n6, c6, b6, rfl⟩ := GA.parts; (try obtain ⟨ka0, ka1, ka2, ka3⟩ := KA.cells2); clear HB hbc)
        )
      all_goals
        go_wp2_with fail
        go_meet
        first
          | exact ⟨_, A6, n6, c6, b6, rfl, VarAt.new (GA.more (by decide)), V10.keep (below_alloc _ _), V11.keep (below_alloc _ _), CW.trans ((below_alloc _ _).mono CW.size), by omega⟩
          | exact ⟨_, A6, n6, c6, b6, rfl, VarAt.put KA (GA.more (by decide)), V10.store KA (by omega), V11.store KA (by omega), (CW.setCell (by dsimp only; omega) _).setCell (by dsimp only; omega) _, by omega⟩
    case rest =>
      clear CW V10 V11 u0 u1 u2 u3 u4 u5 u6 u7 l10 l11 l12
      obtain ⟨g12, A3, n3, k3, b3, rfl, V12, V10, V11, CW, hg12⟩ := hcut
      have l10 := V10.1.lt
      have l11 := V11.1.lt
      have l12 := V12.1.lt
      have l9 := CW.size
      obtain ⟨u0, u1, u2, u3⟩ := V10.1.cells2
      obtain ⟨u4, u5, u6, u7⟩ := V11.1.cells2
      go_wp2_with fail
      go_cut [13] (fun s13 wx => ∃ (g : Nat) (A : Option Addr) (n k : Nat) (b' : Bool), s13 = .pointer (some ⟨g, 0, none⟩) ∧ VarAt wx g A n k b' 20 (c * b + -a) ∧ VarAt wx g12 A3 n3 k3 b3 20 (a + -(f * b)) ∧ VarAt wx w1.heap.size A1 n1 k1 b1 4 a ∧ VarAt wx w2.heap.size A2 n2 k2 b2 4 b ∧ Below w.heap.size w wx ∧ g12 < g)
      case first =>
        go_region_held3 (fun w' => w'.cell? ⟨w1.heap.size, 0, none⟩ = some (.slice A1 n1 k1) ∧ w'.cell? ⟨w1.heap.size, 1, none⟩ = some (.bool b1) ∧ w'.cell? ⟨w2.heap.size, 0, none⟩ = some (.slice A2 n2 k2) ∧ w'.cell? ⟨w2.heap.size, 1, none⟩ = some (.bool b2))
          (first | ((try dsimp only); (repeat' apply And.intro) <;> (first | assumption | (rw [far_two (by omega)]; assumption)); done) | go_keep)
          (first
        | (go_at_call 10; refine (of_from V11.2 c wfc (by first | exact Below.refl _ _ | exact below_alloc _ _ | exact below_drew _ | exact below_drew_alloc _ _ | exact below_drew_alloc' _ _)).mono ?_; rintro e wn ⟨rv, rfl, G0, HB, hbc⟩; (first | (replace KA := KA.below HB KA.lt) | (have KA := fresh_left hbc) | (have KA := fresh_left' hbc) | skip); replace CW := CW.trans (HB.mono CW.size); replace V10 := V10.keep HB; replace V11 := V11.keep HB; replace V12 := V12.keep HB; (try replace GF := GF.keep HB); (try replace GT := GT.keep HB); (try replace GN := GN.keep HB); obtain ⟨v0, v1, v2, v3⟩ := V10.1.cells2; obtain ⟨v4, v5, v6, v7⟩ := V11.1.cells2; have l10 := V10.1.lt; have l11 := V11.1.lt; have l12 := V12.1.lt; have lc := HB.size; have GF := G0; clear G0; clear HB hbc)
        | (go_at_call 17; refine (times_from GF V11.2 (by decide) (by decide) (by first | exact Below.refl _ _ | exact below_alloc _ _ | exact below_drew _ | exact below_drew_alloc _ _ | exact below_drew_alloc' _ _)).mono ?_; rintro e wn ⟨rv, rfl, G0, HB, hbc⟩; (first | (replace KA := KA.below HB KA.lt) | (have KA := fresh_left hbc) | (have KA := fresh_left' hbc) | skip); replace CW := CW.trans (HB.mono CW.size); replace V10 := V10.keep HB; replace V11 := V11.keep HB; replace V12 := V12.keep HB; (try replace GF := GF.keep HB); (try replace GT := GT.keep HB); (try replace GN := GN.keep HB); obtain ⟨v0, v1, v2, v3⟩ := V10.1.cells2; obtain ⟨v4, v5, v6, v7⟩ := V11.1.cells2; have l10 := V10.1.lt; have l11 := V11.1.lt; have l12 := V12.1.lt; have lc := HB.size; have GT := G0; clear G0; clear HB hbc)
        | (go_at_call 15; refine (neg_from V10.2 (by decide) (by first | exact Below.refl _ _ | exact below_alloc _ _ | exact below_drew _ | exact below_drew_alloc _ _ | exact below_drew_alloc' _ _)).mono ?_; rintro e wn ⟨rv, rfl, G0, HB, hbc⟩; (first | (replace KA := KA.below HB KA.lt) | (have KA := fresh_left hbc) | (have KA := fresh_left' hbc) | skip); replace CW := CW.trans (HB.mono CW.size); replace V10 := V10.keep HB; replace V11 := V11.keep HB; replace V12 := V12.keep HB; (try replace GF := GF.keep HB); (try replace GT := GT.keep HB); (try replace GN := GN.keep HB); obtain ⟨v0, v1, v2, v3⟩ := V10.1.cells2; obtain ⟨v4, v5, v6, v7⟩ := V11.1.cells2; have l10 := V10.1.lt; have l11 := V11.1.lt; have l12 := V12.1.lt; have lc := HB.size; have GN := G0; clear G0; clear HB hbc)
        | (go_at_call 13; refine (add_from GT GN (by decide) (by decide) (by first | exact Below.refl _ _ | exact below_alloc _ _ | exact below_drew _ | exact below_drew_alloc _ _ | exact below_drew_alloc' _ _)).mono ?_; rintro e wn ⟨rv, rfl, G0, HB, hbc⟩; (first | (replace KA := KA.below HB KA.lt) | (have KA := fresh_left hbc) | (have KA := fresh_left' hbc) | skip); replace CW := CW.trans (HB.mono CW.size); replace V10 := V10.keep HB; replace V11 := V11.keep HB; replace V12 := V12.keep HB; (try replace GF := GF.keep HB); (try replace GT := GT.keep HB); (try replace GN := GN.keep HB); obtain ⟨v0, v1, v2, v3⟩ := V10.1.cells2; obtain ⟨v4, v5, v6, v7⟩ := V11.1.cells2; have l10 := V10.1.lt; have l11 := V11.1.lt; have l12 := V12.1.lt; have lc := HB.size; have GA := G0; clear G0; obtain ⟨A6, n6, c6, b6, rfl⟩ := GA.parts; (try obtain ⟨ka0, ka1, ka2, ka3⟩ := KA.cells2); clear HB hbc)
          )
        all_goals
          go_wp2_with fail
          go_meet
          first
            | exact ⟨_, A6, n6, c6, b6, rfl, VarAt.new (GA.more (by decide)), V12.keep (below_alloc _ _), V10.keep (below_alloc _ _), V11.keep (below_alloc _ _), CW.trans ((below_alloc _ _).mono CW.size), by omega⟩
            | exact ⟨_, A6, n6, c6, b6, rfl, VarAt.put KA (GA.more (by decide)), V12.store KA (by omega), V10.store KA (by omega), V11.store KA (by omega), (CW.setCell (by dsimp only; omega) _).setCell (by dsimp only; omega) _, by omega⟩
      case rest =>
        clear CW V10 V11 V12 u0 u1 u2 u3 u4 u5 u6 u7 l10 l11 l12 l9
        obtain ⟨g13, A4, n4, k4, b4, rfl, V13, V12, V10, V11, CW, hg13⟩ := hcut
        have lw := CW.size
        have l10 := V10.1.lt
        have l11 := V11.1.lt
        clear V10
        replace V11 := V11.more (show 4 ≤ 20 by decide)
        have hlw : w.heap.size ≤ w2.heap.size := HW2.out
        go_upto_if 74 with fail
        go_cut [12] (fun s12 wx => s12 = .pointer (some ⟨g12, 0, none⟩) ∧ ∃ (L H Y : Int) (A3 : Option Addr) (n3 k3 : Nat) (b3 : Bool) (A4 : Option Addr) (n4 k4 : Nat) (b4 : Bool) (A2 : Option Addr) (n2 k2 : Nat) (b2 : Bool),
            VarAt wx g12 A3 n3 k3 b3 20 L ∧ VarAt wx g13 A4 n4 k4 b4 20 H ∧ VarAt wx w2.heap.size A2 n2 k2 b2 20 Y ∧ Below w.heap.size w wx ∧ Hid (0 ≤ L ∧ L < Y ∧ 0 ≤ H ∧ H < Y))
        case first =>
          by_cases hneg : b < 0
          · go_upto_region 11 with fail
            obtain ⟨e0, e1, e2, e3⟩ := V12.1.cells2
            go_wp2_with fail
            refine (neg_from V12.2 (by decide) (Below.refl _ _)).mono ?_
            rintro e w5 ⟨rv, rfl, G0, HB, hbc⟩
            obtain ⟨A9, n9, k9, b9, rfl⟩ := G0.parts
            replace CW := CW.trans (HB.mono CW.size)
            have KK := (V12.keep HB).1
            obtain ⟨d0, d1, d2, d3⟩ := KK.cells2
            replace V11 := (V11.keep HB).store (A1 := A9) (n1 := n9) (c1 := k9) (b1 := b9) KK (by omega)
            replace V13 := (V13.keep HB).store (A1 := A9) (n1 := n9) (c1 := k9) (b1 := b9) KK (by omega)
            replace V12 := VarAt.put KK G0
            replace CW := (CW.setCell (p := ⟨g12, 0, none⟩) (by dsimp only; omega) (.slice A9 n9 k9)).setCell (p := ⟨g12, 1, none⟩) (by dsimp only; omega) (.bool b9)
            go_upto_region 12 with fail
            obtain ⟨W, hW⟩ : ∃ W, (w5.setCell ⟨g12, 0, none⟩ (.slice A9 n9 k9)).setCell ⟨g12, 1, none⟩ (.bool b9) = W := ⟨_, rfl⟩
            rw [hW] at V12 V11 V13 CW ⊢
            clear hW KK G0 HB hbc d0 d1 d2 d3 e0 e1 e2 e3
            obtain ⟨e0, e1, e2, e3⟩ := V13.1.cells2
            go_wp2_with fail
            refine (neg_from V13.2 (by decide) (Below.refl _ _)).mono ?_
            rintro e w6 ⟨rv, rfl, G0, HB, hbc⟩
            obtain ⟨A9, n9, k9, b9, rfl⟩ := G0.parts
            replace CW := CW.trans (HB.mono CW.size)
            have KK := (V13.keep HB).1
            obtain ⟨d0, d1, d2, d3⟩ := KK.cells2
            replace V11 := (V11.keep HB).store (A1 := A9) (n1 := n9) (c1 := k9) (b1 := b9) KK (by omega)
            replace V12 := (V12.keep HB).store (A1 := A9) (n1 := n9) (c1 := k9) (b1 := b9) KK (by omega)
            replace V13 := VarAt.put KK G0
            replace CW := (CW.setCell (p := ⟨g13, 0, none⟩) (by dsimp only; omega) (.slice A9 n9 k9)).setCell (p := ⟨g13, 1, none⟩) (by dsimp only; omega) (.bool b9)
            go_upto_region 13 with fail
            obtain ⟨W, hW⟩ : ∃ W, (w6.setCell ⟨g13, 0, none⟩ (.slice A9 n9 k9)).setCell ⟨g13, 1, none⟩ (.bool b9) = W := ⟨_, rfl⟩
            rw [hW] at V13 V11 V12 CW ⊢
            clear hW KK G0 HB hbc d0 d1 d2 d3 e0 e1 e2 e3
            obtain ⟨e0, e1, e2, e3⟩ := V11.1.cells2
            go_wp2_with fail
            refine (neg_from V11.2 (by decide) (Below.refl _ _)).mono ?_
            rintro e w7 ⟨rv, rfl, G0, HB, hbc⟩
            obtain ⟨A9, n9, k9, b9, rfl⟩ := G0.parts
            replace CW := CW.trans (HB.mono CW.size)
            have KK := (V11.keep HB).1
            obtain ⟨d0, d1, d2, d3⟩ := KK.cells2
            replace V12 := (V12.keep HB).store (A1 := A9) (n1 := n9) (c1 := k9) (b1 := b9) KK (by omega)
            replace V13 := (V13.keep HB).store (A1 := A9) (n1 := n9) (c1 := k9) (b1 := b9) KK (by omega)
            replace V11 := VarAt.put KK G0
            replace CW := (CW.setCell (p := ⟨w2.heap.size, 0, none⟩) (by dsimp only; omega) (.slice A9 n9 k9)).setCell (p := ⟨w2.heap.size, 1, none⟩) (by dsimp only; omega) (.bool b9)
            go_upto_region 14 with fail
            obtain ⟨W, hW⟩ : ∃ W, (w7.setCell ⟨w2.heap.size, 0, none⟩ (.slice A9 n9 k9)).setCell ⟨w2.heap.size, 1, none⟩ (.bool b9) = W := ⟨_, rfl⟩
            rw [hW] at V11 V12 V13 CW ⊢
            clear hW KK G0 HB hbc d0 d1 d2 d3 e0 e1 e2 e3
            go_meet
            exact ⟨rfl, _, _, _, _, _, _, _, _, _, _, _, _, _, _, _, V12, V13, V11, CW, by
              show _ ∧ _
              have := HM.out
              rw [Int.mul_comm f b, Int.mul_comm c b]
              omega⟩
          · go_wp2_with fail
            go_meet
            exact ⟨rfl, _, _, _, _, _, _, _, _, _, _, _, _, _, _, _, V12, V13, V11, CW, by
              show _ ∧ _
              have := HM.out
              have hb : b ≠ 0 := by simpa using hb0
              rw [Int.mul_comm f b, Int.mul_comm c b]
              omega⟩
        case rest =>
          clear V11 V12 V13 CW l11 lw
          obtain ⟨rfl, L, H, Y, A3, n3, k3, b3, A4, n4, k4, b4, A2, n2, k2, b2, V12, V13, V11, CW, HF⟩ := hcut
          have V14 : VarAt (wc.alloc (.cells #[.slice none 0 0, .bool false] 24)) wc.heap.size none 0 0 false 0 0 := VarAt.new (bg_zero wc)
          replace V11 := V11.keep (below_alloc wc (.cells #[.slice none 0 0, .bool false] 24))
          replace V12 := V12.keep (below_alloc wc (.cells #[.slice none 0 0, .bool false] 24))
          replace V13 := V13.keep (below_alloc wc (.cells #[.slice none 0 0, .bool false] 24))
          replace CW := CW.trans ((below_alloc wc (.cells #[.slice none 0 0, .bool false] 24)).mono CW.size)
          go_upto_region 15 with fail
          obtain ⟨W, hW⟩ : ∃ W, wc.alloc (.cells #[.slice none 0 0, .bool false] 24) = W := ⟨_, rfl⟩
          rw [hW] at V11 V12 V13 V14 CW ⊢
          clear hW
          obtain ⟨e00, e01, e02, e03⟩ := V11.1.cells2
          obtain ⟨e04, e05, e06, e07⟩ := V12.1.cells2
          obtain ⟨f00, f01, f02, f03⟩ := V13.1.cells2
          obtain ⟨f04, f05, f06, f07⟩ := V14.1.cells2
          go_wp2_with fail
          refine (below_is V12.2 V14.2 (by have := HF.out; exact decide_eq_false (by omega))).mono ?_
          rintro e x1 ⟨rfl, HB⟩
          replace CW := CW.trans (HB.mono CW.size)
          replace V11 := V11.keep HB
          replace V12 := V12.keep HB
          replace V13 := V13.keep HB
          replace V14 := V14.keep HB
          obtain ⟨e10, e11, e12, e13⟩ := V11.1.cells2
          obtain ⟨e14, e15, e16, e17⟩ := V12.1.cells2
          obtain ⟨f10, f11, f12, f13⟩ := V13.1.cells2
          obtain ⟨f14, f15, f16, f17⟩ := V14.1.cells2
          clear HB
          go_wp2_with fail
          refine (below_is V12.2 V11.2 (by have := HF.out; exact decide_eq_true (by omega))).mono ?_
          rintro e x2 ⟨rfl, HB⟩
          replace CW := CW.trans (HB.mono CW.size)
          replace V11 := V11.keep HB
          replace V12 := V12.keep HB
          replace V13 := V13.keep HB
          replace V14 := V14.keep HB
          obtain ⟨e20, e21, e22, e23⟩ := V11.1.cells2
          obtain ⟨e24, e25, e26, e27⟩ := V12.1.cells2
          obtain ⟨f20, f21, f22, f23⟩ := V13.1.cells2
          obtain ⟨f24, f25, f26, f27⟩ := V14.1.cells2
          clear HB
          go_wp2_with fail
          refine (below_is V13.2 V14.2 (by have := HF.out; exact decide_eq_false (by omega))).mono ?_
          rintro e x3 ⟨rfl, HB⟩
          replace CW := CW.trans (HB.mono CW.size)
          replace V11 := V11.keep HB
          replace V12 := V12.keep HB
          replace V13 := V13.keep HB
          replace V14 := V14.keep HB
          obtain ⟨e30, e31, e32, e33⟩ := V11.1.cells2
          obtain ⟨e34, e35, e36, e37⟩ := V12.1.cells2
          obtain ⟨f30, f31, f32, f33⟩ := V13.1.cells2
          obtain ⟨f34, f35, f36, f37⟩ := V14.1.cells2
          clear HB
          go_wp2_with fail
          refine (below_is V13.2 V11.2 (by have := HF.out; exact decide_eq_true (by omega))).mono ?_
          rintro e x4 ⟨rfl, HB⟩
          replace CW := CW.trans (HB.mono CW.size)
          replace V11 := V11.keep HB
          replace V12 := V12.keep HB
          replace V13 := V13.keep HB
          replace V14 := V14.keep HB
          obtain ⟨e40, e41, e42, e43⟩ := V11.1.cells2
          obtain ⟨e44, e45, e46, e47⟩ := V12.1.cells2
          obtain ⟨f40, f41, f42, f43⟩ := V13.1.cells2
          obtain ⟨f44, f45, f46, f47⟩ := V14.1.cells2
          clear HB
          go_wp2_with (go_at_call 18; refine (lives_any _).mono ?_; rintro e w5 ⟨rfl, bl⟩)
          go_ret
          exact ⟨rfl, CW.trans (bl.mono CW.size)⟩

set_option maxHeartbeats 1000000 in
theorem floors_edge (a b : Int) (hd : dvB a b = false) (w : World) :
    Calls Try.prog 5 #[.int .i64 a, .int .i64 b] w fun e w' => e = .returned (.bool true) ∧ Below w.heap.size w w' := by
  have FL := floor_no a b hd
  have CE := ceil_no a b hd
  by_cases hb : b = 0
  · have hb0 : (b == 0) = true := beq_iff_eq.2 hb
    have hb1 : (b == -1) = false := beq_eq_false_iff_ne.2 (by omega)
    cases o : (a == -9223372036854775808)
    all_goals
      clear hd hb
      go_enter Try.func5, Try.ntmps5
      go_wp2_with (first
        | (go_at_call 20; refine (FL _).mono ?_; rintro e w' ⟨rfl, rfl⟩)
        | (go_at_call 21; refine (CE _).mono ?_; rintro e w' ⟨rfl, rfl⟩)
        | (go_at_call 18; refine (lives_any _).mono ?_; rintro e w5 ⟨rfl, bl⟩))
      go_ret
      exact ⟨rfl, bl⟩
  · have hb0 : (b == 0) = false := beq_eq_false_iff_ne.2 hb
    have hd' : b = -1 ∧ a = -9223372036854775808 := by
      unfold dvB at hd
      simp [hb] at hd
      exact ⟨hd.2, hd.1⟩
    have o : (a == -9223372036854775808) = true := beq_iff_eq.2 hd'.2
    have o2 : (b == -1) = true := beq_iff_eq.2 hd'.1
    clear hd hb hd'
    go_enter Try.func5, Try.ntmps5
    go_wp2_with (first
      | (go_at_call 20; refine (FL _).mono ?_; rintro e w' ⟨rfl, rfl⟩)
      | (go_at_call 21; refine (CE _).mono ?_; rintro e w' ⟨rfl, rfl⟩)
      | (go_at_call 18; refine (lives_any _).mono ?_; rintro e w5 ⟨rfl, bl⟩))
    go_ret
    exact ⟨rfl, bl⟩

theorem floors_any (a b : Int) (wa : (Lit.int .i64 a).wf = true) (wb : (Lit.int .i64 b).wf = true) (w : World) :
    Calls Try.prog 5 #[.int .i64 a, .int .i64 b] w fun e w' => e = .returned (.bool true) ∧ Below w.heap.size w w' := by
  cases hd : dvB a b
  · exact floors_edge a b hd w
  · obtain ⟨h0, h1⟩ := dvB_true hd
    exact floors_main a b (flo a b) (cei a b) wa wb (flo_wf (wf_iff.1 wa) hd) (cei_wf (wf_iff.1 wa) hd) (floor_yes a b wa hd) (ceil_yes a b wa hd) (beq_eq_false_iff_ne.2 h0) _ rfl
      (fun e => beq_eq_false_iff_ne.2 (h1.resolve_left (fun g => g (by simpa using e)))) ⟨flo_spec a b h0, cei_spec a b h0⟩ w
end Go.Proofs.Ytnfjfejjbphgbaa
