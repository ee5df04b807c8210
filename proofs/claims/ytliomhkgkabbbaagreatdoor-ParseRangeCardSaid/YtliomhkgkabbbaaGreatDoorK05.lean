import Derived.Test.YtliomhkgkabbbaaGreatDoorK03
import Derived.RangeFuncNested
import Derived.RangeFuncBound
import Derived.RangeFuncLeaves
import Derived.RangeFuncBox
section
/- Ranges over functions: iterators that keep a state of their own in cells, and the loops over them; nothing of the program. -/
namespace Go.Proofs.YtliomhkgkabbbaaGreatDoor
open Go.RowKit
set_option linter.unusedVariables false
/-- Blocks of cells, and whatever lay below B, lie as they lay, but for those of Cs. -/
structure Rest (Cs : List Nat) (B : Nat) (w w' : World) : Prop where
  os : w'.os = w.os
  tape : w'.tape = w.tape
  output : w'.output = w.output
  size : w.heap.size ≤ w'.heap.size
  block : ∀ (k : Nat) (o : Obj), w.heap[k]? = some o → k ∉ Cs → (k < B ∨ o.isCells = true) → w'.heap[k]? = some o
theorem Rest.refl (Cs : List Nat) (B : Nat) (w : World) : Rest Cs B w w := ⟨rfl, rfl, rfl, Nat.le_refl _, fun _ _ h _ _ => h⟩
theorem Rest.trans {Cs : List Nat} {B : Nat} {a b c : World} (h : Rest Cs B a b) (k : Rest Cs B b c) : Rest Cs B a c :=
  ⟨k.os.trans h.os, k.tape.trans h.tape, k.output.trans h.output, Nat.le_trans h.size k.size, fun i o hi hn hc => k.block i o (h.block i o hi hn hc) hn hc⟩
theorem Rest.of_only {Cs : List Nat} {B : Nat} {w w' : World} (h : Only Cs w w') : Rest Cs B w w' :=
  ⟨h.os, h.tape, h.output, h.size, fun k o hk hn _ => (h.block k (Array.getElem?_eq_some_iff.1 hk).1 hn).trans hk⟩
theorem Rest.alloc (Cs : List Nat) (B : Nat) (w : World) (o : Obj) : Rest Cs B w (w.alloc o) := .of_only (.of_below (below_alloc w o))
/-- A block that holds no cells, from B on, is turned. -/
theorem Rest.putObj {Cs : List Nat} {B : Nat} {w : World} {l : Nat} {o : Obj} (o' : Obj) (hB : B ≤ l) (hl : w.heap[l]? = some o) (ho : o.isCells = false) : Rest Cs B w (w.putObj l o') := by
  refine ⟨rfl, rfl, rfl, by simp, fun k x hk hn hc => ?_⟩
  refine (World.putObj_heap_other (fun e => ?_)).trans hk
  subst e
  rcases hc with h | h
  · omega
  · rw [hl] at hk; cases hk; rw [ho] at h; cases h
theorem Rest.cells {Cs : List Nat} {B : Nat} {w w' : World} (h : Rest Cs B w w') {k : Nat} {cs : Array Value} {t : TypeId} {fz : Nat × Nat} (hk : w.heap[k]? = some (.cells cs t fz)) (hn : k ∉ Cs) : w'.heap[k]? = some (.cells cs t fz) := h.block k _ hk hn (.inr rfl)
/-- What the caller has told before the loop. -/
theorem Only.rest {F Cs : List Nat} {B : Nat} {a w w' : World} (h : Only F a w) (hr : Rest Cs B w w') (hC : ∀ c ∈ Cs, c ∈ F ∨ a.heap.size ≤ c) (hB : a.heap.size ≤ B) : Only F a w' :=
  ⟨hr.os.trans h.os, hr.tape.trans h.tape, hr.output.trans h.output, Nat.le_trans h.size hr.size, fun k hk hn => by
    have h1 := h.block k hk hn
    have hlt : k < w.heap.size := Nat.lt_of_lt_of_le hk h.size
    obtain ⟨o, ho⟩ : ∃ o, w.heap[k]? = some o := ⟨_, Array.getElem?_eq_getElem hlt⟩
    rw [← h1, ho]
    exact hr.block k o ho (fun hm => by rcases hC k hm with e | e; exact hn e; omega) (.inl (by omega))⟩
def Stays {β : Type} (Cs : List Nat) (B : Nat) (J : β → World → Prop) : Prop := ∀ s A A', J s A → Rest Cs B A A' → J s A'

/-- AN ITERATOR THAT GIVES xs, and may turn blocks of its own (Cs) meanwhile; a round keeps what lies below n₀. -/
def SeqC {α : Type} (F : Fence) (n : Nat) (P : Program) (gf : Nat) (lb : Array Value) (encs : α → Array Value) (Cs : List Nat) (n₀ : Nat) (xs : List α) (w : World) : Prop :=
  ∀ (l : Nat) (J Jx : List α → World → Prop) (W : World), Below n₀ w W →
    (∀ s A A', J s A → Only Cs A A' → J s A') → (∀ s A A', Jx s A → Only Cs A A' → Jx s A') →
    (∀ pre x W1, pre ++ [x] <+: xs → J pre W1 → YieldAt F (n - 1) P l (encs x) W1 fun e W' =>
      (e = .returned (.bool true) ∧ J (pre ++ [x]) W' ∧ Below n₀ W1 W') ∨ (e = .returned (.bool false) ∧ Jx (pre ++ [x]) W')) →
    J [] W →
    CallsIn F n P gf (#[.func (.yield l) #[] #[]] ++ lb) W fun e W' => (∃ v, e = .returned v) ∧ (J xs W' ∨ ∃ pre, pre <+: xs ∧ Jx pre W')

variable {F : Fence} {n : Nat} {P : Program}

/-- A LOOP OVER SUCH AN ITERATOR. -/
theorem range_c {α : Type} {g : Operand} {ps : Array Tmp} {assign body : Code} {Q : Exit → Act → World → Prop} {a : Act} {w : World}
    (hro : F.round = none) (h1 : 1 ≤ n) {gf : Nat} {lb : Array Value} (hg : a.eval g = .func (.func gf) #[] lb) (hFg : F.fn gf) (eg : ∀ args w, (callFunc gf args).run P w = .ok (.enter gf args) w)
    {encs : α → Array Value} {Cs : List Nat} {n₀ : Nat} {xs : List α} {w0 : World} (hseq : SeqC F (n - 1) P gf lb encs Cs n₀ xs w0)
    (hb0 : Below n₀ w0 w) (hn₀ : n₀ ≤ w.heap.size) (hC : ∀ c ∈ Cs, c < w.heap.size) (hps : ∀ x, (encs x).size = ps.size)
    (I : List α → World → Prop) (Ix : Code → List α → World → Prop) (hI : Stays Cs w.heap.size I) (hIx : ∀ c, Stays Cs w.heap.size (Ix c)) (h0 : I [] w)
    (Ax : α → Act → World → Prop) (hAx : ∀ x a', Stays Cs w.heap.size (fun (_ : Unit) W => Ax x a' W))
    (hassign : ∀ (l : Nat) (pre : List α) (x : α) (W : World) (K : Act → World → Prop), pre ++ [x] <+: xs → I pre W →
      (∀ a' W', KeepsFrom w.heap.size W W' → Below n₀ W W' → I pre W' → Ax x a' W' → K a' W') →
      assign.wpIn (F.inRound l) (n - 1 - 1) P (Exit.then K (fun _ _ _ => False)) { tmps := (ps.zip (encs x)).foldl (fun t (p, v) => t.setIfInBounds p v) a.tmps, defers := [] } W)
    (hbody : ∀ (l : Nat) (pre : List α) (x : α) (a' : Act) (W : World), w.heap.size ≤ l → (∃ r, W.heap[l]? = some (.loop r)) → pre ++ [x] <+: xs → I pre W → Ax x a' W →
      body.wpIn (F.inRound l) (n - 1 - 1) P (ownPostG w.heap.size (Below n₀) I Ix (pre ++ [x]) W) a' W)
    (hdone : ∀ (D : Nat) (W : World), w.heap.size ≤ D → I xs W → W.heap[D]? = some (.deferred (some [])) → Q .normal { a with defers := { target := .collected D, args := #[] } :: a.defers } W)
    (hstop : ∀ (D : Nat) (c : Code) (pre : List α) (W : World), w.heap.size ≤ D → pre <+: xs → Ix c pre W → W.heap[D]? = some (.deferred (some [])) → c.wpIn F n P Q { a with defers := { target := .collected D, args := #[] } :: a.defers } W) :
    (Code.rangeFunc g ps assign body).wpIn F n P Q a w := by
  refine wpIn_rangeFunc fun fn hfn => ?_
  rw [hro]
  -- the loop's two blocks: B, of the rounds' deferred calls, and the record behind it
  generalize hB : w.heap.size = B at *
  let rec_ : LoopState → Option Code → Obj := fun st pe => .loop { state := st, pending := pe, fn := fn, tmps := a.tmps, params := ps, assign := assign, body := body, defers := B }
  have recNo : ∀ st pe, (rec_ st pe).isCells = false := fun _ _ => rfl
  have e1 : (w.alloc (.deferred (some []))).heap.size = B + 1 := by rw [World.size_alloc, hB]
  let W1 := (w.alloc (.deferred (some []))).alloc (rec_ .ready none)
  have atRec : W1.heap[B + 1]? = some (rec_ .ready none) := by
    have := World.alloc_heap_new (w.alloc (.deferred (some []))) (rec_ .ready none)
    rwa [e1] at this
  have atDef : W1.heap[B]? = some (.deferred (some [])) := by
    have h := World.alloc_heap_new w (.deferred (some []))
    rw [hB] at h
    exact (Below.heap_alloc _ _ _ (by rw [e1]; omega)).trans h
  have start : Rest Cs B w W1 := (Rest.alloc Cs B w _).trans (Rest.alloc Cs B _ _)
  have low : Below n₀ w0 W1 := (hb0.alloc (by omega) _).alloc (by rw [e1]; omega) _
  refine ⟨B + 1, [{ target := .collected B, args := #[] }], W1, { target := .fn (.func gf) lb, args := #[.func (.yield (B + 1)) #[] #[]] }, W1, gf, #[.func (.yield (B + 1)) #[] #[]] ++ lb, W1, ?_, ?_, ?_, ?_, fun _ => h1, ?_⟩
  · have := run_enterLoop_outer (P := P) (w := w) fn a.tmps ps assign body
    rwa [hB] at this
  · simp only [resolve, hg]
    simp [go_sem]
  · intro f' hf'
    simp [Target.leads] at hf'
    exact hf' ▸ hFg
  · simp [invoke, go_sem, eg]
  refine (hseq (B + 1)
    (fun pre W => I pre W ∧ W.heap[B + 1]? = some (rec_ .ready none) ∧ W.heap[B]? = some (.deferred (some [])))
    (fun pre W => ∃ c, Ix c pre W ∧ W.heap[B + 1]? = some (rec_ .done (some c)) ∧ W.heap[B]? = some (.deferred (some [])))
    W1 low ?_ ?_ ?_ ⟨hI _ _ _ h0 start, atRec, atDef⟩).mono ?_
  · -- the iterator's own turns leave the caller's part, and the two blocks
    rintro s A A' ⟨h, hr, hd⟩ ho
    refine ⟨hI _ _ _ h (.of_only ho), (ho.block _ (Array.getElem?_eq_some_iff.1 hr).1 fun hm => ?_).trans hr, (ho.block _ (Array.getElem?_eq_some_iff.1 hd).1 fun hm => ?_).trans hd⟩
    · have := hC _ hm; omega
    · have := hC _ hm; omega
  · rintro s A A' ⟨c, h, hr, hd⟩ ho
    refine ⟨c, hIx c _ _ _ h (.of_only ho), (ho.block _ (Array.getElem?_eq_some_iff.1 hr).1 fun hm => ?_).trans hr, (ho.block _ (Array.getElem?_eq_some_iff.1 hd).1 fun hm => ?_).trans hd⟩
    · have := hC _ hm; omega
    · have := hC _ hm; omega
  · -- one round
    rintro pre x W hpre ⟨hi, hr, hd⟩
    refine ⟨fn, _, assign, body, run_yield hr (hps x), roundIn_of_wpIn hfn (hassign _ pre x W _ hpre hi ?_)⟩
    intro a' Wa hka hba hia hax
    have hra := hka.same _ _ (by omega) hr rfl
    have hda := hka.same _ _ (Nat.le_refl _) hd rfl
    have hla : B + 1 < Wa.heap.size := (Array.getElem?_eq_some_iff.1 hra).1
    refine ⟨_, run_beginRound hra rfl, ?_⟩
    have turn2 : ∀ (W : World) (o' : Obj), Below n₀ W (W.putObj (B + 1) o') := fun W o' => ⟨rfl, rfl, rfl, by simp, fun k hk => World.putObj_heap_other (by omega)⟩
    have busyRec : (Wa.putObj (B + 1) (rec_ .busy none)).heap[B + 1]? = some (rec_ .busy none) := World.putObj_heap_same hla
    have busyDef : (Wa.putObj (B + 1) (rec_ .busy none)).heap[B]? = some (.deferred (some [])) := (World.putObj_heap_other (by omega)).trans hda
    have busy : Rest Cs B Wa (Wa.putObj (B + 1) (rec_ .busy none)) := Rest.putObj _ (by omega) hra rfl
    refine wpIn_mono (hbody _ pre x a' _ (by omega) ⟨_, busyRec⟩ hpre (hI _ _ _ hia busy) (hAx x a' () _ _ hax busy)) ?_
    -- how the round ends
    have fin : ∀ (jump : Option Code) (W3 : World), KeepsFrom B (Wa.putObj (B + 1) (rec_ .busy none)) W3 →
        (Instr.endRound (B + 1) jump).run P W3 = .ok (.bool jump.isNone) (W3.putObj (B + 1) (rec_ (if jump.isNone then .ready else .done) jump)) ∧
        Rest Cs B W3 (W3.putObj (B + 1) (rec_ (if jump.isNone then .ready else .done) jump)) ∧
        (W3.putObj (B + 1) (rec_ (if jump.isNone then .ready else .done) jump)).heap[B + 1]? = some (rec_ (if jump.isNone then .ready else .done) jump) ∧
        (W3.putObj (B + 1) (rec_ (if jump.isNone then .ready else .done) jump)).heap[B]? = some (.deferred (some [])) := fun jump W3 hk => by
      have hr3 := hk.same _ _ (by omega) busyRec rfl
      have hd3 := hk.same _ _ (Nat.le_refl _) busyDef rfl
      exact ⟨run_endRound jump hr3, Rest.putObj _ (by omega) hr3 rfl, World.putObj_heap_same (Array.getElem?_eq_some_iff.1 hr3).1, (World.putObj_heap_other (by omega)).trans hd3⟩
    rintro e a3 W3 hp
    cases e with
    | normal =>
      obtain ⟨hk, hb, hi3⟩ := hp
      obtain ⟨hrun, hrest, hr4, hd4⟩ := fin none W3 hk
      exact ⟨_, _, hrun, .inl ⟨rfl, ⟨hI _ _ _ hi3 hrest, hr4, hd4⟩, (hba.trans (turn2 _ _)).trans (hb.trans (turn2 _ _))⟩⟩
    | ret =>
      obtain ⟨hk, hi3⟩ := hp
      obtain ⟨hrun, hrest, hr4, hd4⟩ := fin (some .ret) W3 hk
      exact ⟨_, _, hrun, .inr ⟨rfl, .ret, hIx _ _ _ _ hi3 hrest, hr4, hd4⟩⟩
    | exit id =>
      obtain ⟨hk, hi3⟩ := hp
      obtain ⟨hrun, hrest, hr4, hd4⟩ := fin (some (.exit id)) W3 hk
      exact ⟨_, _, hrun, .inr ⟨rfl, .exit id, hIx _ _ _ _ hi3 hrest, hr4, hd4⟩⟩
    | goto t =>
      obtain ⟨hk, hi3⟩ := hp
      obtain ⟨hrun, hrest, hr4, hd4⟩ := fin (some (.goto t)) W3 hk
      exact ⟨_, _, hrun, .inr ⟨rfl, .goto t, hIx _ _ _ _ hi3 hrest, hr4, hd4⟩⟩
    | panic ch => exact hp.elim
    | outgrown => exact hp.elim
  · -- behind the iterator
    rintro e W2 ⟨⟨v, rfl⟩, h⟩
    rcases h with ⟨hi, hr, hd⟩ | ⟨pre, hpre, c, hi, hr, hd⟩
    · exact ⟨none, _, run_endLoop hr (by simp), hdone B _ (by omega) (hI _ _ _ hi (Rest.putObj _ (by omega) hr rfl)) ((World.putObj_heap_other (by omega)).trans hd)⟩
    · exact ⟨some c, _, run_endLoop hr (by simp), hstop B c pre _ (by omega) hpre (hIx c _ _ _ hi (Rest.putObj _ (by omega) hr rfl)) ((World.putObj_heap_other (by omega)).trans hd)⟩
end Go.Proofs.YtliomhkgkabbbaaGreatDoor
end
section
/- What a loop that collects keeps: blocks of cells of one type, rows of its own; nothing of the program. -/
namespace Go.Proofs.YtliomhkgkabbbaaGreatDoor
open Go.RowKit
set_option linter.unusedVariables false
/-- Blocks of cells of type t lie as they lay, but for those of Cs. -/
def SameT (t : TypeId) (Cs : List Nat) (w w' : World) : Prop := ∀ (k : Nat) (cs : Array Value) (fz : Nat × Nat), k ∉ Cs → w.heap[k]? = some (.cells cs t fz) → w'.heap[k]? = some (.cells cs t fz)
theorem SameT.refl (t : TypeId) (Cs : List Nat) (w : World) : SameT t Cs w w := fun _ _ _ _ h => h
theorem SameT.trans {t : TypeId} {Cs : List Nat} {a b c : World} (h : SameT t Cs a b) (k : SameT t Cs b c) : SameT t Cs a c := fun i cs fz hn hi => k i cs fz hn (h i cs fz hn hi)
theorem SameT.of_rest {t : TypeId} {Cs : List Nat} {B : Nat} {w w' : World} (h : Rest Cs B w w') : SameT t Cs w w' := fun k cs fz hn hk => h.cells hk hn
theorem SameT.of_below {t : TypeId} {Cs : List Nat} {w w' : World} (h : Below w.heap.size w w') : SameT t Cs w w' := fun k cs fz hn hk => (h.block k (Array.getElem?_eq_some_iff.1 hk).1).trans hk
theorem SameT.alloc (t : TypeId) (Cs : List Nat) (w : World) (o : Obj) : SameT t Cs w (w.alloc o) := .of_below (below_alloc w o)
theorem SameT.box {t u : TypeId} {Cs : List Nat} {w : World} {B : Nat} {v : Value} (h : Boxed w B u v) (hu : t ≠ u) (v' : Value) : SameT t Cs w (w.setCell ⟨B, 0, none⟩ v') := fun k cs fz hn hk => by
  refine (Below.heap_setCell w _ v' k fun e => ?_).trans hk
  subst e
  rw [show w.heap[_]? = _ from h] at hk
  simp at hk
  exact hu hk.2.1.symm
theorem SameT.grown {t e : TypeId} {Cs : List Nat} {w w' : World} {v : Value} {b size n : Nat} {xs : List Value} (h : w.ownsRow b e size v n xs) (he : t ≠ e) (hg : w.grownBy w' v.ownBlock) : SameT t Cs w w' := fun k cs fz hn hk => by
  refine (hg.block k (Array.getElem?_eq_some_iff.1 hk).1 fun e' => ?_).trans hk
  rcases h.2 with ⟨rfl, _⟩ | ⟨g, cap, cur, rfl, _, hgb, _⟩
  · simp [Value.ownBlock] at e'
  · obtain rfl : k = g := by simpa [Value.ownBlock] using e'
    rw [hk] at hgb
    simp at hgb
    exact he hgb.2.1
theorem SameT.mono {t : TypeId} {Cs : List Nat} {w w' : World} (h : SameT t [] w w') : SameT t Cs w w' := fun k cs fz _ hk => h k cs fz (by simp) hk
/-- A row of the caller's own, wherever cells of its type lie as they lay. -/
theorem own_same {t : TypeId} {Cs : List Nat} {w w' : World} {b size n : Nat} {v : Value} {xs : List Value} (h : w.ownsRow b t size v n xs) (hs : SameT t Cs w w') (hC : ∀ c ∈ Cs, c < b) : w'.ownsRow b t size v n xs := by
  refine ⟨h.1, ?_⟩
  rcases h.2 with h0 | ⟨g, cap, cur, hv, hg, hh, r⟩
  · exact .inl h0
  · exact .inr ⟨g, cap, cur, hv, hg, hs g cur (0, 0) (fun hm => by have := hC _ hm; omega) hh, r⟩
theorem box_rest {w w' : World} {Cs : List Nat} {B B' : Nat} {t : TypeId} {v : Value} (h : Boxed w B t v) (hr : Rest Cs B' w w') (hn : B ∉ Cs) : Boxed w' B t v := hr.cells h hn
theorem box_below {w w' : World} {B : Nat} {t : TypeId} {v : Value} (h : Boxed w B t v) (hb : Below w.heap.size w w') : Boxed w' B t v := (hb.block B h.lt).trans h
theorem keeps_below {w w' : World} (h : Below w.heap.size w w') : KeepsOthers w w' := ⟨h.size, fun k o hk _ => (h.block k (Array.getElem?_eq_some_iff.1 hk).1).trans hk⟩
/-- Each of a list goes with the value at its place. -/
def Fit {α : Type} (R : α → Value → Prop) : List α → List Value → Prop
  | [], [] => True
  | x :: xs, u :: us => R x u ∧ Fit R xs us
  | _, _ => False
theorem Fit.nil {α : Type} {R : α → Value → Prop} : Fit R [] [] := trivial
theorem fit_snoc {α : Type} {R : α → Value → Prop} {x : α} {u : Value} (hx : R x u) : ∀ {xs : List α} {us : List Value}, Fit R xs us → Fit R (xs ++ [x]) (us ++ [u])
  | [], [], _ => ⟨hx, trivial⟩
  | _ :: _, _ :: _, h => ⟨h.1, fit_snoc hx h.2⟩
theorem Fit.snoc {α : Type} {R : α → Value → Prop} {xs : List α} {us : List Value} (h : Fit R xs us) {x : α} {u : Value} (hx : R x u) : Fit R (xs ++ [x]) (us ++ [u]) := fit_snoc hx h
theorem fit_mono {α : Type} {R R' : α → Value → Prop} (hR : ∀ x u, R x u → R' x u) : ∀ {xs : List α} {us : List Value}, Fit R xs us → Fit R' xs us
  | [], [], _ => trivial
  | _ :: _, _ :: _, h => ⟨hR _ _ h.1, fit_mono hR h.2⟩
theorem Fit.mono {α : Type} {R R' : α → Value → Prop} {xs : List α} {us : List Value} (h : Fit R xs us) (hR : ∀ x u, R x u → R' x u) : Fit R' xs us := fit_mono hR h
theorem fit_at {α : Type} {R : α → Value → Prop} : ∀ {xs : List α} {us : List Value}, Fit R xs us → ∀ (k : Nat) (hk : k < xs.length), ∃ hu : k < us.length, R xs[k] us[k]
  | [], [], _, k, hk => absurd hk (by simp)
  | _ :: _, _ :: _, h, 0, _ => ⟨by simp, h.1⟩
  | _ :: _, _ :: _, h, k + 1, hk => by
    obtain ⟨a, b⟩ := fit_at h.2 k (by simpa using hk)
    exact ⟨by simpa using a, b⟩
theorem Fit.at {α : Type} {R : α → Value → Prop} {xs : List α} {us : List Value} (h : Fit R xs us) (k : Nat) (hk : k < xs.length) : ∃ hu : k < us.length, R xs[k] us[k] := fit_at h k hk
theorem Fit.map {α β : Type} {R : β → Value → Prop} {g : α → β} : ∀ {xs : List α} {us : List Value}, Fit (fun x u => R (g x) u) xs us → Fit R (xs.map g) us
  | [], [], _ => trivial
  | _ :: _, _ :: _, h => ⟨h.1, Fit.map h.2⟩
/-- Where each is one value, the values are known. -/
theorem Fit.fn {α : Type} {f : α → Value} : ∀ {xs : List α} {us : List Value}, Fit (fun x u => u = f x) xs us → us = xs.map f
  | [], [], _ => rfl
  | _ :: _, _ :: _, h => by rw [h.1, Fit.fn h.2]; rfl

/-- Between two rounds of a loop that collects: its boxes, its row, and that nothing else has turned. -/
structure EachI {α : Type} (tM tL tO tB : TypeId) (fm : Value) (Cs : List Nat) (ok : α → Bool) (R : World → α → Value → Prop) (w : World) (pre : List α) (W : World) : Prop where
  mb : Boxed W w.heap.size tM fm
  r1 : Boxed W (w.heap.size + 1) tL (.slice none 0 0)
  r2 : Boxed W (w.heap.size + 1 + 1) tO (.bool false)
  row : ∃ v us, Boxed W (w.heap.size + 1 + 1 + 1) tL v ∧ W.ownsRow w.heap.size tB 1 v pre.length us ∧ Fit (R W) pre us
  good : ∀ x ∈ pre, ok x = true
  only : Only Cs w W
/-- A round has found one that is none. -/
structure EachX {α : Type} (tL tO : TypeId) (Cs : List Nat) (ok : α → Bool) (w : World) (c : Code) (pre : List α) (W : World) : Prop where
  ret : c = .ret
  r1 : Boxed W (w.heap.size + 1) tL (.slice none 0 0)
  r2 : Boxed W (w.heap.size + 1 + 1) tO (.bool false)
  bad : ∃ x ∈ pre, ok x = false
  only : Only Cs w W
section
variable {α : Type} {tM tL tO tB : TypeId} {fm : Value} {Cs : List Nat} {ok : α → Bool} {R : World → α → Value → Prop} {w : World} {B : Nat}
theorem EachI.stays {tR : TypeId} (hC : ∀ c ∈ Cs, c < w.heap.size) (hB : w.heap.size ≤ B) (hR : ∀ W W' x u, R W x u → SameT tR Cs W W' → R W' x u) : Stays Cs B (EachI tM tL tO tB fm Cs ok R w) := fun pre A A' h hr => by
  have no : ∀ k, w.heap.size ≤ k → k ∉ Cs := fun k hk hm => by have := hC _ hm; omega
  obtain ⟨v, us, hv, hrow, hf⟩ := h.row
  exact ⟨box_rest h.mb hr (no _ (by omega)), box_rest h.r1 hr (no _ (by omega)), box_rest h.r2 hr (no _ (by omega)), ⟨v, us, box_rest hv hr (no _ (by omega)), own_same hrow (.of_rest hr) hC, hf.mono fun x u hx => hR _ _ _ _ hx (.of_rest hr)⟩, h.good,
    h.only.rest hr (fun c hc => .inl hc) hB⟩
theorem EachX.stays (hC : ∀ c ∈ Cs, c < w.heap.size) (hB : w.heap.size ≤ B) (c : Code) : Stays Cs B (EachX tL tO Cs ok w c) := fun pre A A' h hr => by
  have no : ∀ k, w.heap.size ≤ k → k ∉ Cs := fun k hk hm => by have := hC _ hm; omega
  exact ⟨h.ret, box_rest h.r1 hr (no _ (by omega)), box_rest h.r2 hr (no _ (by omega)), h.bad, h.only.rest hr (fun c hc => .inl hc) hB⟩
/-- The four boxes as they are laid. -/
theorem EachI.start (hC : ∀ c ∈ Cs, c < w.heap.size) : EachI tM tL tO tB fm Cs ok R w [] ((((w.alloc (.cells #[fm] tM)).alloc (.cells #[.slice none 0 0] tL)).alloc (.cells #[.bool false] tO)).alloc (.cells #[.slice none 0 0] tL)) := by
  have a1 := Boxed.new (w.alloc (.cells #[fm] tM)) tL (.slice none 0 0)
  rw [World.size_alloc] at a1
  have a2 := Boxed.new ((w.alloc (.cells #[fm] tM)).alloc (.cells #[.slice none 0 0] tL)) tO (.bool false)
  rw [World.size_alloc, World.size_alloc] at a2
  have a3 := Boxed.new (((w.alloc (.cells #[fm] tM)).alloc (.cells #[.slice none 0 0] tL)).alloc (.cells #[.bool false] tO)) tL (.slice none 0 0)
  rw [World.size_alloc, World.size_alloc, World.size_alloc] at a3
  exact ⟨(((Boxed.new w tM fm).alloc _).alloc _).alloc _, (a1.alloc _).alloc _, a2.alloc _, ⟨_, [], a3, World.ownsRow_nil _ _ _ _, .nil⟩, fun x hx => by simp at hx, (((Only.refl Cs w).alloc _).alloc _).alloc _ |>.alloc _⟩
theorem EachI.below {tR : TypeId} {pre : List α} {W W' : World} (h : EachI tM tL tO tB fm Cs ok R w pre W) (hb : Below W.heap.size W W') (hR : ∀ W W' x u, R W x u → SameT tR Cs W W' → R W' x u) : EachI tM tL tO tB fm Cs ok R w pre W' := by
  obtain ⟨v, us, hv, hrow, hf⟩ := h.row
  exact ⟨box_below h.mb hb, box_below h.r1 hb, box_below h.r2 hb, ⟨v, us, box_below hv hb, own_keep hrow hb, hf.mono fun x u hx => hR _ _ _ _ hx (.of_below hb)⟩, h.good, h.only.below hb⟩
/-- One more is collected. -/
theorem EachI.more {tR : TypeId} {pre : List α} {W w1 : World} {x : α} {u v v' : Value} {us : List Value} {tmp : Obj} (h : EachI tM tL tO tB fm Cs ok R w pre W)
    (hR : ∀ W W' x u, R W x u → SameT tR Cs W W' → R W' x u) (t2 : tR ≠ tL) (t4 : tR ≠ tB) (e1 : tL ≠ tB) (e2 : tM ≠ tB) (e3 : tO ≠ tB) (hx : R W x u) (hok : ok x = true)
    (hv : Boxed W (w.heap.size + 1 + 1 + 1) tL v) (hrow : W.ownsRow w.heap.size tB 1 v pre.length us) (hf : Fit (R W) pre us)
    (hown : w1.ownsRow w.heap.size tB 1 v' (pre.length + 1) (us ++ [u])) (hgrow : (W.alloc tmp).grownBy w1 v.ownBlock) :
    Boxed w1 (w.heap.size + 1 + 1 + 1) tL v ∧ KeepsOthers W (w1.setCell ⟨w.heap.size + 1 + 1 + 1, 0, none⟩ v') ∧ Below w.heap.size W (w1.setCell ⟨w.heap.size + 1 + 1 + 1, 0, none⟩ v') ∧
      EachI tM tL tO tB fm Cs ok R w (pre ++ [x]) (w1.setCell ⟨w.heap.size + 1 + 1 + 1, 0, none⟩ v') := by
  have hle : w.heap.size ≤ W.heap.size := h.only.size
  obtain ⟨hv1, hv2, hr2, hk2, hb2⟩ := hv.appended e1 hrow hle (by omega) hown hgrow
  have ra := hrow.alloc tmp
  have st : SameT tR Cs W (w1.setCell ⟨w.heap.size + 1 + 1 + 1, 0, none⟩ v') := ((SameT.alloc tR Cs W tmp).trans (.grown ra t4 hgrow)).trans (.box hv1 t2 v')
  have other : ∀ {k : Nat} {t : TypeId} {z : Value}, Boxed W k t z → t ≠ tB → k ≠ w.heap.size + 1 + 1 + 1 → Boxed (w1.setCell ⟨w.heap.size + 1 + 1 + 1, 0, none⟩ v') k t z := fun hz ht hk => (((hz.alloc tmp).kept hgrow ((hz.alloc tmp).not_row ht ra)).other hk v')
  have on : Only Cs w (w1.setCell ⟨w.heap.size + 1 + 1 + 1, 0, none⟩ v') :=
    ⟨hb2.os.trans h.only.os, hb2.tape.trans h.only.tape, hb2.output.trans h.only.output, Nat.le_trans h.only.size hb2.size, fun k hk hn => (hb2.block k hk).trans (h.only.block k hk hn)⟩
  exact ⟨hv1, hk2, hb2, other h.mb e2 (by omega), other h.r1 e1 (by omega), other h.r2 e3 (by omega), ⟨v', us ++ [u], hv2, by rw [List.length_append]; exact hr2, (hf.mono fun y z hy => hR _ _ _ _ hy st).snoc (hR _ _ _ _ hx st)⟩,
    fun y hy => (List.mem_append.1 hy).elim (h.good y) (fun e => by simp at e; subst e; exact hok), on⟩
/-- One that is none: the results are stored. -/
theorem EachI.bad {pre : List α} {W : World} {x : α} (h : EachI tM tL tO tB fm Cs ok R w pre W) (hok : ok x = false) :
    KeepsOthers W ((W.setCell ⟨w.heap.size + 1, 0, none⟩ (.slice none 0 0)).setCell ⟨w.heap.size + 1 + 1, 0, none⟩ (.bool false)) ∧
      EachX tL tO Cs ok w .ret (pre ++ [x]) ((W.setCell ⟨w.heap.size + 1, 0, none⟩ (.slice none 0 0)).setCell ⟨w.heap.size + 1 + 1, 0, none⟩ (.bool false)) := by
  refine ⟨(KeepsOthers.setCell _ _ _).trans (KeepsOthers.setCell _ _ _), rfl, (h.r1.set _).other (by omega) _, (h.r2.other (by omega) _).set _, ⟨x, by simp, hok⟩, ?_⟩
  have hb : Below w.heap.size W ((W.setCell ⟨w.heap.size + 1, 0, none⟩ (.slice none 0 0)).setCell ⟨w.heap.size + 1 + 1, 0, none⟩ (.bool false)) := ((Below.refl _ _).setCell (p := ⟨w.heap.size + 1, 0, none⟩) (by simp) _).setCell (p := ⟨w.heap.size + 1 + 1, 0, none⟩) (by simp; omega) _
  exact ⟨hb.os.trans h.only.os, hb.tape.trans h.only.tape, hb.output.trans h.only.output, Nat.le_trans h.only.size hb.size, fun k hk hn => (hb.block k hk).trans (h.only.block k hk hn)⟩
end
end Go.Proofs.YtliomhkgkabbbaaGreatDoor
end
