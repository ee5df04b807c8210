/- InstMay, off its code. -/
import Derived.Test.YtmfahjghfpckeaaDoorInstTurn
import Derived.Test.YtmfahjghfpckeaaDoorInstMayT
namespace Go.Proofs.YtmfahjghfpckeaaDoor
open Go.RowKit Go.WideShapes
set_option linter.unusedVariables false
theorem cut_inst {w : World} {x : Inst} {A B : Option Addr} (h : InstIs w x A B) (hn : 12 < x.custs.length) : ∃ z : Inst, z.days = x.days ∧ z.veh = x.veh ∧ z.cap = x.cap ∧ z.len = x.len ∧ z.custs.length = 12 ∧ z.dist.length = x.dist.length ∧ InstIs w z A B :=
  ⟨{ x with custs := x.custs.take 12 }, rfl, rfl, rfl, rfl, by show (x.custs.take 12).length = 12; rw [List.length_take]; omega, rfl, h.custs.cut 12, h.dist, ⟨h.wf.days, h.wf.veh, h.wf.cap, h.wf.len, fun c hc => h.wf.custs c (List.mem_of_mem_take hc), h.wf.dist, by show (x.custs.take 12).length ≤ _; rw [List.length_take]; have := h.wf.n; omega, h.wf.m⟩⟩
theorem May_code' {w : World} {x : Inst} {A B : Option Addr} {c d : Nat} {m : Bool} (hm : mayI x = m) (hT : Tab w) (h : InstIs w x A B) :
    Calls Tryd.prog 9 #[.agg #[.int .i64 x.days, .int .i64 x.veh, .int .i64 x.cap, .int .i64 x.len, .slice A x.custs.length c, .slice B x.dist.length d]] w fun e w' => e = .returned (.int .i64 (if m = true then 0 else 3)) ∧ Below w.heap.size w w' := by
  subst hm
  exact May_code x A c B d w hT h
theorem May_ref' {w : World} {x : Inst} {A B : Option Addr} {c d : Nat} {m : Bool} (hm : mayI x = m) (h : InstIs w x A B) :
    Calls Tryd.prog 10 #[.agg #[.int .i64 x.days, .int .i64 x.veh, .int .i64 x.cap, .int .i64 x.len, .slice A x.custs.length c, .slice B x.dist.length d]] w fun e w' => e = .returned (.bool m) ∧ Below w.heap.size w w' := by
  subst hm
  exact May_ref x A c B d w h
/-- A box whose cells are known. -/
def BoxI (W : World) (g : Nat) (a b e f : Int) (A : Option Addr) (n c : Nat) (B : Option Addr) (m d : Nat) : Prop := BlkIs W g 25 #[.int .i64 a, .int .i64 b, .int .i64 e, .int .i64 f, .slice A n c, .slice B m d]
theorem BoxI.keep {W W' : World} {g : Nat} {a b e f : Int} {A : Option Addr} {n c : Nat} {B : Option Addr} {m d : Nat} (h : BoxI W g a b e f A n c B m d) (hb : Below W.heap.size W W') : BoxI W' g a b e f A n c B m d := BlkIs.below h hb h.lt
theorem BoxI.cells {W : World} {g : Nat} {a b e f : Int} {A : Option Addr} {n c : Nat} {B : Option Addr} {m d : Nat} (h : BoxI W g a b e f A n c B m d) : W.cell? ⟨g, 0, none⟩ = some (.int .i64 a) ∧ W.cell? ⟨g, 1, none⟩ = some (.int .i64 b) ∧ W.cell? ⟨g, 2, none⟩ = some (.int .i64 e) ∧ W.cell? ⟨g, 3, none⟩ = some (.int .i64 f) ∧ W.cell? ⟨g, 4, none⟩ = some (.slice A n c) ∧ W.cell? ⟨g, 5, none⟩ = some (.slice B m d) := BlkIs.cells6 h
theorem after_turn {base : Nat} {w1 w2 : World} {y : Inst} {A B : Option Addr} (h : InstIs w2 y A B) (c d : Nat) (o : Obj) : InstIs (w2.alloc o) y A B ∧ Below w2.heap.size w2 (w2.alloc o) := ⟨h.keep (below_alloc _ _), below_alloc _ _⟩
set_option maxRecDepth 100000 in
set_option maxHeartbeats 8000000 in
theorem instMay_few (x : Inst) (A : Option Addr) (c : Nat) (B : Option Addr) (d : Nat) (turn v : Int) (w : World) (hT : Tab w) (h : InstIs w x A B) (hn : x.custs.length ≤ 12) (hc : x.custs.length ≤ c) (hv : W64 v) :
    Calls Tryd.prog 3 #[instV x A c B d, .int .i64 turn, .int .i64 v] w fun e w' => e = .returned (.bool true) ∧ Below w.heap.size w w' := by
  have hz := h
  obtain ⟨y, hy⟩ : ∃ y, Made x y := ⟨_, made_of x⟩
  have hb0 := below_alloc w (.cells #[.int .i64 x.days, .int .i64 x.veh, .int .i64 x.cap, .int .i64 x.len, .slice A x.custs.length c, .slice B x.dist.length d] 25)
  have HB0 := Go.Lib.hid hb0
  have CG := fun W hb => Good_from hz hy c d W hb
  have CT := fun A c B d base W ho hb => turned_any y A c B d base turn v W ho hb hy.wf hy.sq hy.n hv
  unfold instV at CT
  have HT := Go.Lib.hid hT
  have HZ := Go.Lib.hid hz
  have hnI : (x.custs.length : Int) ≤ 12 := by omega
  have hcI : (x.custs.length : Int) ≤ (c : Int) := by omega
  have HBd := Go.Lib.hid hb0.drew
  have HXd := Go.Lib.hid ((hz.keep hb0).keep (below_drew _))
  have hj0 : BoxI (w.alloc (.cells #[.int .i64 x.days, .int .i64 x.veh, .int .i64 x.cap, .int .i64 x.len, .slice A x.custs.length c, .slice B x.dist.length d] 25)) w.heap.size x.days x.veh x.cap x.len A (x.custs.length) c B x.dist.length d := BlkIs.fresh _ _ _
  obtain ⟨j0, j1, j2, j3, j4, j5⟩ := hj0.cells
  have HJd := Go.Lib.hid (hj0.keep (below_drew _))
  have CL := fun W hb => lives6_any W (HT.out.keep hb)
  have CY := fun W y' A c B d m hm hb hx => May_code' (w := W) (x := y') (A := A) (B := B) (c := c) (d := d) (m := m) hm (HT.out.keep hb) hx
  have CZ := fun W y' A c B d m hm hx => May_ref' (w := W) (x := y') (A := A) (B := B) (c := c) (d := d) (m := m) hm hx
  unfold instV
  cases hm : mayI x
  all_goals
    have CM := fun W hb hx => May_code' (w := W) (c := c) (d := d) (A := A) (B := B) hm (HT.out.keep hb) hx
    have CR := fun W hx => May_ref' (w := W) (c := c) (d := d) (A := A) (B := B) hm hx
    clear hm hj0 h hz hT hb0
    simp only [if_true, if_false, Bool.false_eq_true] at CM
    go_enter Tryd.func3, Tryd.ntmps3
    go_wp2_with fail
    go_region_held3 (fun w' => w'.cell? ⟨w.heap.size, 0, none⟩ = some (.int .i64 x.days) ∧ w'.cell? ⟨w.heap.size, 1, none⟩ = some (.int .i64 x.veh) ∧ w'.cell? ⟨w.heap.size, 2, none⟩ = some (.int .i64 x.cap) ∧ w'.cell? ⟨w.heap.size, 3, none⟩ = some (.int .i64 x.len) ∧ w'.cell? ⟨w.heap.size, 4, none⟩ = some (.slice A x.custs.length c) ∧ w'.cell? ⟨w.heap.size, 5, none⟩ = some (.slice B x.dist.length d))
      (first | exact HJd.out.cells | exact ⟨j0, j1, j2, j3, j4, j5⟩ | go_keep)
      (first
        | (go_at_call 9; (with_reducible refine (CM _ HBd.out HXd.out).mono ?_); rintro e w6 ⟨rfl, hb6⟩; have HX6 := Go.Lib.hid (HXd.out.keep hb6); have HJ6 := Go.Lib.hid (HJd.out.keep hb6); have HB6 := Go.Lib.hid (HBd.out.trans (hb6.mono HBd.out.size)); clear HXd HJd HBd; have HXd := HX6; have HJd := HJ6; have HBd := HB6; clear HX6 HJ6 HB6 hb6)
        | (go_at_call 10; (with_reducible refine (CR _ HXd.out).mono ?_); rintro e w6 ⟨rfl, hb6⟩; have HX6 := Go.Lib.hid (HXd.out.keep hb6); have HJ6 := Go.Lib.hid (HJd.out.keep hb6); have HB6 := Go.Lib.hid (HBd.out.trans (hb6.mono HBd.out.size)); clear HXd HJd HBd; have HXd := HX6; have HJd := HJ6; have HBd := HB6; clear HX6 HJ6 HB6 hb6))
    all_goals
      clear j0 j1 j2 j3 j4 j5
      obtain ⟨j0, j1, j2, j3, j4, j5⟩ := HJd.out.cells
      obtain ⟨wq, rfl⟩ : ∃ q, q = w6 := ⟨_, rfl⟩
      go_wp2_with (first
        | (go_at_call 12; refine (CG _ HBd.out).mono ?_; rintro e w1 ⟨A2, c2, B2, d2, rfl, hO, hY, hb1, hb1'⟩; have HO := Go.Lib.hid hO; have HB1 := Go.Lib.hid hb1'; clear hO hY hb1 hb1')
        | (go_at_call 11; refine (CT _ _ _ _ _ _ HO.out HB1.out.size).mono ?_; rintro e w2 ⟨y', d', rfl, hI, hb2⟩; have HI := Go.Lib.hid (hI.keep (below_alloc _ (.cells #[.int .i64 y'.days, .int .i64 y'.veh, .int .i64 y'.cap, .int .i64 y'.len, .slice A2 y'.custs.length c2, .slice B2 y'.dist.length d'] 25))); have HB2 := Go.Lib.hid (HBd.out.trans (((HB1.out.trans hb2).trans ((below_alloc w2 (.cells #[.int .i64 y'.days, .int .i64 y'.veh, .int .i64 y'.cap, .int .i64 y'.len, .slice A2 y'.custs.length c2, .slice B2 y'.dist.length d'] 25)).mono (HB1.out.trans hb2).size)).mono HBd.out.size)); clear hI hb2)
        )
      have hbx : BoxI (w2.alloc (.cells #[.int .i64 y'.days, .int .i64 y'.veh, .int .i64 y'.cap, .int .i64 y'.len, .slice A2 y'.custs.length c2, .slice B2 y'.dist.length d'] 25)) w2.heap.size y'.days y'.veh y'.cap y'.len A2 y'.custs.length c2 B2 y'.dist.length d' := BlkIs.fresh _ _ _
      have HBX := Go.Lib.hid hbx
      clear hbx CG CT CM CR j0 j1 j2 j3 j4 j5
      cases hm2 : mayI y'
      all_goals
        have CY1 := CY _ _ A2 c2 B2 d' _ hm2 HB2.out HI.out
        have CZ1 := fun W hx => CZ W _ A2 c2 B2 d' _ hm2 hx
        simp only [if_true, if_false, Bool.false_eq_true] at CY1
        clear hm2 CY CZ
        refine CY1.mono ?_
        rintro e w3 ⟨rfl, hb3⟩
        have HI3 := Go.Lib.hid (HI.out.keep hb3)
        have HB3 := Go.Lib.hid (HB2.out.trans (hb3.mono HB2.out.size))
        obtain ⟨k0, k1, k2, k3, k4, k5⟩ := (HBX.out.keep hb3).cells
        clear hb3
        go_wp2_with (first
          | (go_at_call 10; refine (CZ1 _ HI3.out).mono ?_; rintro e w4 ⟨rfl, hb4⟩; have HB4 := Go.Lib.hid (HB3.out.trans (hb4.mono HB3.out.size)); clear hb4)
          | (go_at_call 13; refine (CL _ HB4.out).mono ?_; rintro e w5 ⟨rfl, hb5⟩; have HB5 := Go.Lib.hid (HB4.out.trans (hb5.mono HB4.out.size)); clear hb5))
        go_ret
        exact ⟨rfl, HB5.out⟩
set_option maxRecDepth 100000 in
set_option maxHeartbeats 8000000 in
theorem instMay_big (x : Inst) (A : Option Addr) (c : Nat) (B : Option Addr) (d : Nat) (turn v : Int) (w : World) (hT : Tab w) (h : InstIs w x A B) (hn : 12 < x.custs.length) (hc : x.custs.length ≤ c) (hv : W64 v) :
    Calls Tryd.prog 3 #[instV x A c B d, .int .i64 turn, .int .i64 v] w fun e w' => e = .returned (.bool true) ∧ Below w.heap.size w w' := by
  obtain ⟨z, f1, f2, f3, f4, f5, f6, hz⟩ := cut_inst h hn
  obtain ⟨y, hy⟩ : ∃ y, Made z y := ⟨_, made_of z⟩
  have hb0 := below_alloc w (.cells #[.int .i64 x.days, .int .i64 x.veh, .int .i64 x.cap, .int .i64 x.len, .slice A 12 c, .slice B x.dist.length d] 25)
  have HB0 := Go.Lib.hid hb0
  have CG := fun W hb => Good_from hz hy c d W hb
  have CT := fun A c B d base W ho hb => turned_any y A c B d base turn v W ho hb hy.wf hy.sq hy.n hv
  unfold instV at CT
  have HT := Go.Lib.hid hT
  have HZ := Go.Lib.hid hz
  have hnI : (12 : Int) < (x.custs.length : Int) := by omega
  have hcI : (12 : Int) ≤ (c : Int) := by omega
  have HBd := Go.Lib.hid hb0.drew
  have HXd := Go.Lib.hid ((hz.keep hb0).keep (below_drew _))
  have hj0 : BoxI (w.alloc (.cells #[.int .i64 x.days, .int .i64 x.veh, .int .i64 x.cap, .int .i64 x.len, .slice A 12 c, .slice B x.dist.length d] 25)) w.heap.size x.days x.veh x.cap x.len A (12) c B x.dist.length d := BlkIs.fresh _ _ _
  obtain ⟨j0, j1, j2, j3, j4, j5⟩ := hj0.cells
  have HJd := Go.Lib.hid (hj0.keep (below_drew _))
  have CL := fun W hb => lives6_any W (HT.out.keep hb)
  have CY := fun W y' A c B d m hm hb hx => May_code' (w := W) (x := y') (A := A) (B := B) (c := c) (d := d) (m := m) hm (HT.out.keep hb) hx
  have CZ := fun W y' A c B d m hm hx => May_ref' (w := W) (x := y') (A := A) (B := B) (c := c) (d := d) (m := m) hm hx
  unfold instV
  cases hm : mayI z
  all_goals
    have CM := fun W hb hx => May_code' (w := W) (c := c) (d := d) (A := A) (B := B) hm (HT.out.keep hb) hx
    have CR := fun W hx => May_ref' (w := W) (c := c) (d := d) (A := A) (B := B) hm hx
    clear hm hj0 h hz hT hb0
    simp only [if_true, if_false, Bool.false_eq_true] at CM
    rw [f1, f2, f3, f4, f5, f6] at CG
    rw [f1, f2, f3, f4, f5, f6] at CM
    rw [f1, f2, f3, f4, f5, f6] at CR
    clear f1 f2 f3 f4 f5 f6
    go_enter Tryd.func3, Tryd.ntmps3
    go_wp2_with fail
    go_region_held3 (fun w' => w'.cell? ⟨w.heap.size, 0, none⟩ = some (.int .i64 x.days) ∧ w'.cell? ⟨w.heap.size, 1, none⟩ = some (.int .i64 x.veh) ∧ w'.cell? ⟨w.heap.size, 2, none⟩ = some (.int .i64 x.cap) ∧ w'.cell? ⟨w.heap.size, 3, none⟩ = some (.int .i64 x.len) ∧ w'.cell? ⟨w.heap.size, 4, none⟩ = some (.slice A 12 c) ∧ w'.cell? ⟨w.heap.size, 5, none⟩ = some (.slice B x.dist.length d))
      (first | exact HJd.out.cells | exact ⟨j0, j1, j2, j3, j4, j5⟩ | go_keep)
      (first
        | (go_at_call 9; (with_reducible refine (CM _ HBd.out HXd.out).mono ?_); rintro e w6 ⟨rfl, hb6⟩; have HX6 := Go.Lib.hid (HXd.out.keep hb6); have HJ6 := Go.Lib.hid (HJd.out.keep hb6); have HB6 := Go.Lib.hid (HBd.out.trans (hb6.mono HBd.out.size)); clear HXd HJd HBd; have HXd := HX6; have HJd := HJ6; have HBd := HB6; clear HX6 HJ6 HB6 hb6)
        | (go_at_call 10; (with_reducible refine (CR _ HXd.out).mono ?_); rintro e w6 ⟨rfl, hb6⟩; have HX6 := Go.Lib.hid (HXd.out.keep hb6); have HJ6 := Go.Lib.hid (HJd.out.keep hb6); have HB6 := Go.Lib.hid (HBd.out.trans (hb6.mono HBd.out.size)); clear HXd HJd HBd; have HXd := HX6; have HJd := HJ6; have HBd := HB6; clear HX6 HJ6 HB6 hb6))
    all_goals
      clear j0 j1 j2 j3 j4 j5
      obtain ⟨j0, j1, j2, j3, j4, j5⟩ := HJd.out.cells
      obtain ⟨wq, rfl⟩ : ∃ q, q = w6 := ⟨_, rfl⟩
      go_wp2_with (first
        | (go_at_call 12; refine (CG _ HBd.out).mono ?_; rintro e w1 ⟨A2, c2, B2, d2, rfl, hO, hY, hb1, hb1'⟩; have HO := Go.Lib.hid hO; have HB1 := Go.Lib.hid hb1'; clear hO hY hb1 hb1')
        | (go_at_call 11; refine (CT _ _ _ _ _ _ HO.out HB1.out.size).mono ?_; rintro e w2 ⟨y', d', rfl, hI, hb2⟩; have HI := Go.Lib.hid (hI.keep (below_alloc _ (.cells #[.int .i64 y'.days, .int .i64 y'.veh, .int .i64 y'.cap, .int .i64 y'.len, .slice A2 y'.custs.length c2, .slice B2 y'.dist.length d'] 25))); have HB2 := Go.Lib.hid (HBd.out.trans (((HB1.out.trans hb2).trans ((below_alloc w2 (.cells #[.int .i64 y'.days, .int .i64 y'.veh, .int .i64 y'.cap, .int .i64 y'.len, .slice A2 y'.custs.length c2, .slice B2 y'.dist.length d'] 25)).mono (HB1.out.trans hb2).size)).mono HBd.out.size)); clear hI hb2)
        )
      have hbx : BoxI (w2.alloc (.cells #[.int .i64 y'.days, .int .i64 y'.veh, .int .i64 y'.cap, .int .i64 y'.len, .slice A2 y'.custs.length c2, .slice B2 y'.dist.length d'] 25)) w2.heap.size y'.days y'.veh y'.cap y'.len A2 y'.custs.length c2 B2 y'.dist.length d' := BlkIs.fresh _ _ _
      have HBX := Go.Lib.hid hbx
      clear hbx CG CT CM CR j0 j1 j2 j3 j4 j5
      cases hm2 : mayI y'
      all_goals
        have CY1 := CY _ _ A2 c2 B2 d' _ hm2 HB2.out HI.out
        have CZ1 := fun W hx => CZ W _ A2 c2 B2 d' _ hm2 hx
        simp only [if_true, if_false, Bool.false_eq_true] at CY1
        clear hm2 CY CZ
        refine CY1.mono ?_
        rintro e w3 ⟨rfl, hb3⟩
        have HI3 := Go.Lib.hid (HI.out.keep hb3)
        have HB3 := Go.Lib.hid (HB2.out.trans (hb3.mono HB2.out.size))
        obtain ⟨k0, k1, k2, k3, k4, k5⟩ := (HBX.out.keep hb3).cells
        clear hb3
        go_wp2_with (first
          | (go_at_call 10; refine (CZ1 _ HI3.out).mono ?_; rintro e w4 ⟨rfl, hb4⟩; have HB4 := Go.Lib.hid (HB3.out.trans (hb4.mono HB3.out.size)); clear hb4)
          | (go_at_call 13; refine (CL _ HB4.out).mono ?_; rintro e w5 ⟨rfl, hb5⟩; have HB5 := Go.Lib.hid (HB4.out.trans (hb5.mono HB4.out.size)); clear hb5))
        go_ret
        exact ⟨rfl, HB5.out⟩
section
variable {H : Type} {enc : TypeId × Value → H} {base : Nat}
/-- The room of an instance's customers. -/
theorem inst_room {w : World} {x : Inst} {A : Option Addr} {c : Nat} {B : Option Addr} {e : Nat} {d : DataW H} {p : List MemPlace} (k : DataW.Trod enc Tryd.prog w 0 (fun _ => true) true 25 (instV x A c B e) d p) : x.custs.length ≤ c := by
  obtain ⟨fuel, h⟩ := k
  obtain ⟨xs, n, _, _, _, hxl, hf⟩ := DataW.trod_struct Tryd.underlying25 h
  obtain ⟨x4, hx4⟩ := field_one (T := 25) hxl hf (i := 4) rfl (by kernel_rfl) (by kernel_rfl) (by show 4 < 6; omega)
  rcases Go.Deep.open_slice Tryd.underlying22 hx4 with ⟨hcs, _⟩ | ⟨a, len, cap, m, n, D, Pl, hcs, _, hl, hm, hmm, _, hx⟩
  · simp only [List.cons.injEq, and_true] at hcs
    have hcs : Value.slice A x.custs.length c = .slice none 0 0 := hcs
    injection hcs with _ h1 h2
    omega
  · simp only [List.cons.injEq, and_true] at hcs
    have hcs : Value.slice A x.custs.length c = .slice (some a) len cap := hcs
    injection hcs with _ h1 h2
    omega
theorem instMay_frame (W : World) {v0 v1 v2 : Value} {d0 d2 : DataW H} {p0 p2 : List MemPlace} (k0 : DataW.Trod enc Tryd.prog W 0 (fun _ => true) true 25 v0 d0 p0) (o0 : Value.okWide Tryd.prog W .any base 25 v0)
    (o1 : Value.okWide Tryd.prog W .any base 3 v1) (k2 : DataW.Trod enc Tryd.prog W 0 (fun _ => true) true 3 v2 d2 p2) (o2 : Value.okWide Tryd.prog W .any base 3 v2) (hT : Tab W) :
    Calls Tryd.prog 3 #[v0, v1, v2] W fun e w' => e = .returned (.bool true) ∧ Below W.heap.size W w' := by
  obtain ⟨x, A, c, B, e, rfl, hI⟩ := inst_open k0 o0
  obtain ⟨a, rfl⟩ := okWide_int Tryd.underlying3 o1
  obtain ⟨b, rfl, h5⟩ := int_open k2 o2
  have hr := inst_room k0
  rcases Nat.lt_or_ge 12 x.custs.length with hn | hn
  · exact instMay_big x A c B e a b W hT hI hn hr h5
  · exact instMay_few x A c B e a b W hT hI hn hr h5
end
end Go.Proofs.YtmfahjghfpckeaaDoor
