import Derived.Test.YtedkhdnfbdojcaaDoorK12
import Derived.Test.YtedkhdnfbdojcaaDoorK22
import Derived.Test.YtedkhdnfbdojcaaDoorK21
import Derived.Test.YtedkhdnfbdojcaaDoorK25
import Derived.Test.YtedkhdnfbdojcaaDoorK27
import Derived.Test.YtedkhdnfbdojcaaDoorK10
section
/- BookPrints walked: a plan's text is the document's, and is parsed as the same; or it is refused. -/
namespace Go.Proofs.YtedkhdnfbdojcaaDoor
open Go.RowKit Go.ChangeShapes Go.WideShapes
set_option linter.unusedVariables false
set_option maxRecDepth 20000
theorem same_self (q : PlanD) (P : Option Addr) (k : Nat) (C : Option Addr) (e : Nat) (w : World) (hq : WfP q) (h : PlanIs w P q) (h2 : PlanIs w C q) :
    Calls Tryd.prog 9 #[planV q P k, planV q C e] w fun E w' => E = .returned (.bool true) ∧ Below w.heap.size w w' := by
  have := planSame_ref q q P k C e w hq hq h h2
  rwa [decide_eq_true rfl] at this
set_option maxHeartbeats 8000000 in
theorem bookPrints_law (p : PlanD) (A : Option Addr) (c : Nat) (w : World) (hw : WfP p) (h : PlanIs w A p) :
    Calls Tryd.prog 3 #[planV p A c] w fun e W' => e = .returned (.bool true) ∧ Below w.heap.size w W' := by
  have CL := fun W => lives8_any W
  have HB0 := Go.Lib.hid (below_alloc w (.cells #[.slice A p.length c] 24))
  have CC := Cut_any p A c _ hw (h.keep HB0.out)
  have HK := Go.Lib.hid (Boxed.new w 24 (.slice A p.length c))
  have HQW := Go.Lib.hid (cutP_wf hw)
  have HQF := Go.Lib.hid (cutP_few p)
  have hqn := cutP_n p
  generalize cutP p = q at *
  have CP := fun P k W hI => bookPrint_code q P k W HQW.out HQF.out hI
  have CR := fun P k W hI => planPrint_ref q P k W HQW.out HQF.out.few hI
  have CS := fun P k C e W h1 h2 => same_self q P k C e W HQW.out h1 h2
  unfold planV at CC CP CR CS ⊢
  clear h hw
  cases hok : okPl q
  · rw [hok] at CP CR
    simp only [Bool.false_eq_true, if_false] at CP CR
    clear hok CS
    go_enter Tryd.func3, Tryd.ntmps3
    go_wp2_with (first
      | (go_at_call 4; refine CC.mono ?_; rintro e w1 ⟨v, rfl, ho, hb1⟩; obtain ⟨P, k, rfl, hk⟩ := OwnDays.len ho; have HX := Go.Lib.hid (CutIn.of HB0.out HK.out (Nat.le_refl _) hb1 ho); have f1 := (box_below HK.out hb1).frozen; have c1 := (box_below HK.out hb1).cell; have c2 := HX.out.box.cell; clear ho hb1)
      | (go_at_call 5; refine (CP _ _ _ HX.out.own.reads).mono ?_; rintro e w2 ⟨rfl, hb2⟩; have HX2 := Go.Lib.hid (HX.out.keep hb2); have d2 := HX2.out.box.cell; clear hb2)
      | (go_at_call 6; refine (CR _ _ _ HX2.out.own.reads).mono ?_; rintro e w3 ⟨rfl, hb3⟩; have HX3 := Go.Lib.hid (HX2.out.keep hb3); clear hb3)
      | (go_at_call 7; refine (CL _).mono ?_; rintro e w4 ⟨rfl, hb4⟩; have HX4 := Go.Lib.hid (HX3.out.keep hb4); clear hb4))
    go_ret
    exact ⟨rfl, HX4.out.low⟩
  · have CA := fun W => bookParse_yes q W HQW.out HQF.out hok
    rw [hok] at CP CR
    simp only [if_true] at CP CR
    obtain ⟨S, hS⟩ : ∃ S, S = strL (planT q) := ⟨_, rfl⟩
    rw [← hS] at CP CR CA
    clear hok hS
    go_enter Tryd.func3, Tryd.ntmps3
    go_wp2_with (first
      | (go_at_call 4; refine CC.mono ?_; rintro e w1 ⟨v, rfl, ho, hb1⟩; obtain ⟨P, k, rfl, hk⟩ := OwnDays.len ho; have HX := Go.Lib.hid (CutIn.of HB0.out HK.out (Nat.le_refl _) hb1 ho); have f1 := (box_below HK.out hb1).frozen; have c1 := (box_below HK.out hb1).cell; have c2 := HX.out.box.cell; clear ho hb1)
      | (go_at_call 5; refine (CP _ _ _ HX.out.own.reads).mono ?_; rintro e w2 ⟨rfl, hb2⟩; have HX2 := Go.Lib.hid (HX.out.keep hb2); have d2 := HX2.out.box.cell; clear hb2)
      | (go_at_call 6; refine (CR _ _ _ HX2.out.own.reads).mono ?_; rintro e w3 ⟨rfl, hb3⟩; have HX3 := Go.Lib.hid (HX2.out.keep hb3); clear hb3)
      | (go_at_call 8; refine (CA _).mono ?_; rintro e w4 ⟨v4, rfl, ho4, hb4⟩; obtain ⟨P4, k4, rfl, _⟩ := OwnDays.len ho4; have hba := below_alloc w4 (.cells #[.slice P4 q.length k4] 24); have HX4 := Go.Lib.hid ((HX3.out.keep hb4).keep hba); have HO4 := Go.Lib.hid (ho4.keep hba); have d4 := HX4.out.box.cell; clear ho4 hb4 hba)
      | (go_at_call 9; refine (CS _ _ _ _ _ HX4.out.own.reads HO4.out.reads).mono ?_; rintro e w5 ⟨rfl, hb5⟩; have HX5 := Go.Lib.hid (HX4.out.keep hb5); clear hb5)
      | (go_at_call 7; refine (CL _).mono ?_; rintro e w6 ⟨rfl, hb6⟩; have HX6 := Go.Lib.hid (HX5.out.keep hb6); clear hb6))
    go_ret
    exact ⟨rfl, HX6.out.low⟩
section
variable {H : Type} {enc : TypeId × Value → H} {base : Nat}
theorem bookPrints_frame (W : World) {v0 : Value} {d0 : DataW H} {p0 : List MemPlace} (k0 : DataW.Trod enc Tryd.prog W 0 (fun _ => true) true 24 v0 d0 p0) (o0 : Value.okWide Tryd.prog W .any base 24 v0) :
    Calls Tryd.prog 3 #[v0] W fun e w' => e = .returned (.bool true) ∧ Below W.heap.size W w' := by
  obtain ⟨q, A, c, rfl, hI, hw, _⟩ := plan_open k0 o0
  exact bookPrints_law q A c W hw hI
end
end Go.Proofs.YtedkhdnfbdojcaaDoor
end
