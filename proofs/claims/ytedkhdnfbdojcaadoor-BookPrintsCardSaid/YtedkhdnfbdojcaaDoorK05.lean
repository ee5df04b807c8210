import Derived.Test.YtedkhdnfbdojcaaDoorK04
import Derived.RangeFuncNested
import Derived.RangeFuncBound
import Derived.RangeFuncLeaves
import Derived.RangeFuncBox
section
/- Ranges over functions: iterators that keep a state of their own in cells, and the loops over them; nothing of the program. -/
namespace Go.Proofs.YtedkhdnfbdojcaaDoor
open Go.RowKit
set_option linter.unusedVariables false
/-- Blocks of cells, and whatever lay below B, lie as they lay, but for those of Cs. -/
structure Rest (Cs : List Nat) (B : Nat) (w w' : World) : Prop where
  os : w'.os = w.os
  tape : w'.tape = w.tape
  output : w'.output = w.output
  size : w.heap.size ≤ w'.heap.size
  block : ∀ (k : Nat) (o : Obj), w.heap[k]? = some o → k ∉ Cs → (k < B ∨ o.isCells = true) → w'.heap[k]? = some o
theorem Rest.refl (Cs : List Nat) (B : Nat) (w : World) : Rest Cs B w w := ⟨rfl, rfl, rfl, Nat.le_refl _, fun _ _ h _ _ => h⟩
theorem Rest.trans {Cs : List Nat} {B : Nat} {a b c : World} (h : Rest Cs B a b) (k : Rest Cs B b c) : Rest Cs B a c :=
  ⟨k.os.trans h.os, k.tape.trans h.tape, k.output.trans h.output, Nat.le_trans h.size k.size, fun i o hi hn hc => k.block i o (h.block i o hi hn hc) hn hc⟩
theorem Rest.of_only {Cs : List Nat} {B : Nat} {w w' : World} (h : Only Cs w w') : Rest Cs B w w' :=
  ⟨h.os, h.tape, h.output, h.size, fun k o hk hn _ => (h.block k (Array.getElem?_eq_some_iff.1 hk).1 hn).trans hk⟩
theorem Rest.alloc (Cs : List Nat) (B : Nat) (w : World) (o : Obj) : Rest Cs B w (w.alloc o) := .of_only (.of_below (below_alloc w o))
/-- A block that holds no cells, from B on, is turned. -/
theorem Rest.putObj {Cs : List Nat} {B : Nat} {w : World} {l : Nat} {o : Obj} (o' : Obj) (hB : B ≤ l) (hl : w.heap[l]? = some o) (ho : o.isCells = false) : Rest Cs B w (w.putObj l o') := by
  refine ⟨rfl, rfl, rfl, by simp, fun k x hk hn hc => ?_⟩
  refine (World.putObj_heap_other (fun e => ?_)).trans hk
  subst e
  rcases hc with h | h
  · omega
  · rw [hl] at hk; cases hk; rw [ho] at h; cases h
theorem Rest.cells {Cs : List Nat} {B : Nat} {w w' : World} (h : Rest Cs B w w') {k : Nat} {cs : Array Value} {t : TypeId} {fz : Nat × Nat} (hk : w.heap[k]? = some (.cells cs t fz)) (hn : k ∉ Cs) : w'.heap[k]? = some (.cells cs t fz) := h.block k _ hk hn (.inr rfl)
/-- What the caller has told before the loop. -/
theorem Only.rest {F Cs : List Nat} {B : Nat} {a w w' : World} (h : Only F a w) (hr : Rest Cs B w w') (hC : ∀ c ∈ Cs, c ∈ F ∨ a.heap.size ≤ c) (hB : a.heap.size ≤ B) : Only F a w' :=
  ⟨hr.os.trans h.os, hr.tape.trans h.tape, hr.output.trans h.output, Nat.le_trans h.size hr.size, fun k hk hn => by
    have h1 := h.block k hk hn
    have hlt : k < w.heap.size := Nat.lt_of_lt_of_le hk h.size
    obtain ⟨o, ho⟩ : ∃ o, w.heap[k]? = some o := ⟨_, Array.getElem?_eq_getElem hlt⟩
    rw [← h1, ho]
    exact hr.block k o ho (fun hm => by rcases hC k hm with e | e; exact hn e; omega) (.inl (by omega))⟩
def Stays {β : Type} (Cs : List Nat) (B : Nat) (J : β → World → Prop) : Prop := ∀ s A A', J s A → Rest Cs B A A' → J s A'

/-- AN ITERATOR THAT GIVES xs, and may turn blocks of its own (Cs) meanwhile; a round keeps what lies below n₀. -/
def SeqC {α : Type} (F : Fence) (n : Nat) (P : Program) (gf : Nat) (lb : Array Value) (encs : α → Array Value) (Cs : List Nat) (n₀ : Nat) (xs : List α) (w : World) : Prop :=
  ∀ (l : Nat) (J Jx : List α → World → Prop) (W : World), Below n₀ w W →
    (∀ s A A', J s A → Only Cs A A' → J s A') → (∀ s A A', Jx s A → Only Cs A A' → Jx s A') →
    (∀ pre x W1, pre ++ [x] <+: xs → J pre W1 → YieldAt F (n - 1) P l (encs x) W1 fun e W' =>
      (e = .returned (.bool true) ∧ J (pre ++ [x]) W' ∧ Below n₀ W1 W') ∨ (e = .returned (.bool false) ∧ Jx (pre ++ [x]) W')) →
    J [] W →
    CallsIn F n P gf (#[.func (.yield l) #[] #[]] ++ lb) W fun e W' => (∃ v, e = .returned v) ∧ (J xs W' ∨ ∃ pre, pre <+: xs ∧ Jx pre W')

/-- .. where K holds at its start, and its rounds keep Kp. -/
def SeqR {α : Type} (F : Fence) (n : Nat) (P : Program) (gf : Nat) (lb : Array Value) (encs : α → Array Value) (Cs : List Nat) (n₀ : Nat) (xs : List α) (w : World) (K : World → Prop) (Kp : World → World → Prop) : Prop :=
  ∀ (l : Nat) (J Jx : List α → World → Prop) (W : World), Below n₀ w W → K W →
    (∀ s A A', J s A → Only Cs A A' → J s A') → (∀ s A A', Jx s A → Only Cs A A' → Jx s A') →
    (∀ pre x W1, pre ++ [x] <+: xs → J pre W1 → YieldAt F (n - 1) P l (encs x) W1 fun e W' =>
      (e = .returned (.bool true) ∧ J (pre ++ [x]) W' ∧ Kp W1 W') ∨ (e = .returned (.bool false) ∧ Jx (pre ++ [x]) W')) →
    J [] W →
    CallsIn F n P gf (#[.func (.yield l) #[] #[]] ++ lb) W fun e W' => (∃ v, e = .returned v) ∧ (J xs W' ∨ ∃ pre, pre <+: xs ∧ Jx pre W')
/-- .. where K holds at its start. -/
def SeqK {α : Type} (F : Fence) (n : Nat) (P : Program) (gf : Nat) (lb : Array Value) (encs : α → Array Value) (Cs : List Nat) (n₀ : Nat) (xs : List α) (w : World) (K : World → Prop) : Prop :=
  SeqR F n P gf lb encs Cs n₀ xs w K (Below n₀)

variable {F : Fence} {n : Nat} {P : Program}

/-- A LOOP OVER SUCH AN ITERATOR. -/
theorem range_r {α : Type} {g : Operand} {ps : Array Tmp} {assign body : Code} {Q : Exit → Act → World → Prop} {a : Act} {w : World}
    (hro : F.round = none) (h1 : 1 ≤ n) {gf : Nat} {lb : Array Value} (hg : a.eval g = .func (.func gf) #[] lb) (hFg : F.fn gf) (eg : ∀ args w, (callFunc gf args).run P w = .ok (.enter gf args) w)
    {encs : α → Array Value} {Cs : List Nat} {n₀ : Nat} {xs : List α} {w0 : World} {K0 : World → Prop} {Kp : World → World → Prop} (hseq : SeqR F (n - 1) P gf lb encs Cs n₀ xs w0 K0 Kp) (hKt : ∀ a b c, Kp a b → Kp b c → Kp a c) (hKp : ∀ W l o', w.heap.size ≤ l → Kp W (W.putObj l o'))
    (hb0 : Below n₀ w0 w) (hn₀ : n₀ ≤ w.heap.size) (hC : ∀ c ∈ Cs, c < w.heap.size) (hps : ∀ x, (encs x).size = ps.size) (hK0 : ∀ W, Rest Cs w.heap.size w W → K0 W)
    (I : List α → World → Prop) (Ix : Code → List α → World → Prop) (hI : Stays Cs w.heap.size I) (hIx : ∀ c, Stays Cs w.heap.size (Ix c)) (h0 : I [] w)
    (Ax : α → Act → World → Prop) (hAx : ∀ x a', Stays Cs w.heap.size (fun (_ : Unit) W => Ax x a' W))
    (hassign : ∀ (l : Nat) (pre : List α) (x : α) (W : World) (K : Act → World → Prop), pre ++ [x] <+: xs → I pre W →
      (∀ a' W', KeepsFrom w.heap.size W W' → Kp W W' → I pre W' → Ax x a' W' → K a' W') →
      assign.wpIn (F.inRound l) (n - 1 - 1) P (Exit.then K (fun _ _ _ => False)) { tmps := (ps.zip (encs x)).foldl (fun t (p, v) => t.setIfInBounds p v) a.tmps, defers := [] } W)
    (hbody : ∀ (l : Nat) (pre : List α) (x : α) (a' : Act) (W : World), w.heap.size ≤ l → (∃ r, W.heap[l]? = some (.loop r)) → pre ++ [x] <+: xs → I pre W → Ax x a' W →
      body.wpIn (F.inRound l) (n - 1 - 1) P (ownPostG w.heap.size Kp I Ix (pre ++ [x]) W) a' W)
    (hdone : ∀ (D : Nat) (W : World), w.heap.size ≤ D → I xs W → W.heap[D]? = some (.deferred (some [])) → Q .normal { a with defers := { target := .collected D, args := #[] } :: a.defers } W)
    (hstop : ∀ (D : Nat) (c : Code) (pre : List α) (W : World), w.heap.size ≤ D → pre <+: xs → Ix c pre W → W.heap[D]? = some (.deferred (some [])) → c.wpIn F n P Q { a with defers := { target := .collected D, args := #[] } :: a.defers } W) :
    (Code.rangeFunc g ps assign body).wpIn F n P Q a w := by
  refine wpIn_rangeFunc fun fn hfn => ?_
  rw [hro]
  -- the loop's two blocks: B, of the rounds' deferred calls, and the record behind it
  generalize hB : w.heap.size = B at *
  let rec_ : LoopState → Option Code → Obj := fun st pe => .loop { state := st, pending := pe, fn := fn, tmps := a.tmps, params := ps, assign := assign, body := body, defers := B }
  have recNo : ∀ st pe, (rec_ st pe).isCells = false := fun _ _ => rfl
  have e1 : (w.alloc (.deferred (some []))).heap.size = B + 1 := by rw [World.size_alloc, hB]
  let W1 := (w.alloc (.deferred (some []))).alloc (rec_ .ready none)
  have atRec : W1.heap[B + 1]? = some (rec_ .ready none) := by
    have := World.alloc_heap_new (w.alloc (.deferred (some []))) (rec_ .ready none)
    rwa [e1] at this
  have atDef : W1.heap[B]? = some (.deferred (some [])) := by
    have h := World.alloc_heap_new w (.deferred (some []))
    rw [hB] at h
    exact (Below.heap_alloc _ _ _ (by rw [e1]; omega)).trans h
  have start : Rest Cs B w W1 := (Rest.alloc Cs B w _).trans (Rest.alloc Cs B _ _)
  have low : Below n₀ w0 W1 := (hb0.alloc (by omega) _).alloc (by rw [e1]; omega) _
  refine ⟨B + 1, [{ target := .collected B, args := #[] }], W1, { target := .fn (.func gf) lb, args := #[.func (.yield (B + 1)) #[] #[]] }, W1, gf, #[.func (.yield (B + 1)) #[] #[]] ++ lb, W1, ?_, ?_, ?_, ?_, fun _ => h1, ?_⟩
  · have := run_enterLoop_outer (P := P) (w := w) fn a.tmps ps assign body
    rwa [hB] at this
  · simp only [resolve, hg]
    simp [go_sem]
  · intro f' hf'
    simp [Target.leads] at hf'
    exact hf' ▸ hFg
  · simp [invoke, go_sem, eg]
  refine (hseq (B + 1)
    (fun pre W => I pre W ∧ W.heap[B + 1]? = some (rec_ .ready none) ∧ W.heap[B]? = some (.deferred (some [])))
    (fun pre W => ∃ c, Ix c pre W ∧ W.heap[B + 1]? = some (rec_ .done (some c)) ∧ W.heap[B]? = some (.deferred (some [])))
    W1 low (hK0 _ start) ?_ ?_ ?_ ⟨hI _ _ _ h0 start, atRec, atDef⟩).mono ?_
  · -- the iterator's own turns leave the caller's part, and the two blocks
    rintro s A A' ⟨h, hr, hd⟩ ho
    refine ⟨hI _ _ _ h (.of_only ho), (ho.block _ (Array.getElem?_eq_some_iff.1 hr).1 fun hm => ?_).trans hr, (ho.block _ (Array.getElem?_eq_some_iff.1 hd).1 fun hm => ?_).trans hd⟩
    · have := hC _ hm; omega
    · have := hC _ hm; omega
  · rintro s A A' ⟨c, h, hr, hd⟩ ho
    refine ⟨c, hIx c _ _ _ h (.of_only ho), (ho.block _ (Array.getElem?_eq_some_iff.1 hr).1 fun hm => ?_).trans hr, (ho.block _ (Array.getElem?_eq_some_iff.1 hd).1 fun hm => ?_).trans hd⟩
    · have := hC _ hm; omega
    · have := hC _ hm; omega
  · -- one round
    rintro pre x W hpre ⟨hi, hr, hd⟩
    refine ⟨fn, _, assign, body, run_yield hr (hps x), roundIn_of_wpIn hfn (hassign _ pre x W _ hpre hi ?_)⟩
    intro a' Wa hka hba hia hax
    have hra := hka.same _ _ (by omega) hr rfl
    have hda := hka.same _ _ (Nat.le_refl _) hd rfl
    have hla : B + 1 < Wa.heap.size := (Array.getElem?_eq_some_iff.1 hra).1
    refine ⟨_, run_beginRound hra rfl, ?_⟩
    have turn2 : ∀ (W : World) (o' : Obj), Kp W (W.putObj (B + 1) o') := fun W o' => hKp W (B + 1) o' (by omega)
    have busyRec : (Wa.putObj (B + 1) (rec_ .busy none)).heap[B + 1]? = some (rec_ .busy none) := World.putObj_heap_same hla
    have busyDef : (Wa.putObj (B + 1) (rec_ .busy none)).heap[B]? = some (.deferred (some [])) := (World.putObj_heap_other (by omega)).trans hda
    have busy : Rest Cs B Wa (Wa.putObj (B + 1) (rec_ .busy none)) := Rest.putObj _ (by omega) hra rfl
    refine wpIn_mono (hbody _ pre x a' _ (by omega) ⟨_, busyRec⟩ hpre (hI _ _ _ hia busy) (hAx x a' () _ _ hax busy)) ?_
    -- how the round ends
    have fin : ∀ (jump : Option Code) (W3 : World), KeepsFrom B (Wa.putObj (B + 1) (rec_ .busy none)) W3 →
        (Instr.endRound (B + 1) jump).run P W3 = .ok (.bool jump.isNone) (W3.putObj (B + 1) (rec_ (if jump.isNone then .ready else .done) jump)) ∧
        Rest Cs B W3 (W3.putObj (B + 1) (rec_ (if jump.isNone then .ready else .done) jump)) ∧
        (W3.putObj (B + 1) (rec_ (if jump.isNone then .ready else .done) jump)).heap[B + 1]? = some (rec_ (if jump.isNone then .ready else .done) jump) ∧
        (W3.putObj (B + 1) (rec_ (if jump.isNone then .ready else .done) jump)).heap[B]? = some (.deferred (some [])) := fun jump W3 hk => by
      have hr3 := hk.same _ _ (by omega) busyRec rfl
      have hd3 := hk.same _ _ (Nat.le_refl _) busyDef rfl
      exact ⟨run_endRound jump hr3, Rest.putObj _ (by omega) hr3 rfl, World.putObj_heap_same (Array.getElem?_eq_some_iff.1 hr3).1, (World.putObj_heap_other (by omega)).trans hd3⟩
    rintro e a3 W3 hp
    cases e with
    | normal =>
      obtain ⟨hk, hb, hi3⟩ := hp
      obtain ⟨hrun, hrest, hr4, hd4⟩ := fin none W3 hk
      exact ⟨_, _, hrun, .inl ⟨rfl, ⟨hI _ _ _ hi3 hrest, hr4, hd4⟩, hKt _ _ _ (hKt _ _ _ hba (turn2 _ _)) (hKt _ _ _ hb (turn2 _ _))⟩⟩
    | ret =>
      obtain ⟨hk, hi3⟩ := hp
      obtain ⟨hrun, hrest, hr4, hd4⟩ := fin (some .ret) W3 hk
      exact ⟨_, _, hrun, .inr ⟨rfl, .ret, hIx _ _ _ _ hi3 hrest, hr4, hd4⟩⟩
    | exit id =>
      obtain ⟨hk, hi3⟩ := hp
      obtain ⟨hrun, hrest, hr4, hd4⟩ := fin (some (.exit id)) W3 hk
      exact ⟨_, _, hrun, .inr ⟨rfl, .exit id, hIx _ _ _ _ hi3 hrest, hr4, hd4⟩⟩
    | goto t =>
      obtain ⟨hk, hi3⟩ := hp
      obtain ⟨hrun, hrest, hr4, hd4⟩ := fin (some (.goto t)) W3 hk
      exact ⟨_, _, hrun, .inr ⟨rfl, .goto t, hIx _ _ _ _ hi3 hrest, hr4, hd4⟩⟩
    | panic ch => exact hp.elim
    | outgrown => exact hp.elim
  · -- behind the iterator
    rintro e W2 ⟨⟨v, rfl⟩, h⟩
    rcases h with ⟨hi, hr, hd⟩ | ⟨pre, hpre, c, hi, hr, hd⟩
    · exact ⟨none, _, run_endLoop hr (by simp), hdone B _ (by omega) (hI _ _ _ hi (Rest.putObj _ (by omega) hr rfl)) ((World.putObj_heap_other (by omega)).trans hd)⟩
    · exact ⟨some c, _, run_endLoop hr (by simp), hstop B c pre _ (by omega) hpre (hIx c _ _ _ hi (Rest.putObj _ (by omega) hr rfl)) ((World.putObj_heap_other (by omega)).trans hd)⟩
theorem range_k {α : Type} {g : Operand} {ps : Array Tmp} {assign body : Code} {Q : Exit → Act → World → Prop} {a : Act} {w : World}
    (hro : F.round = none) (h1 : 1 ≤ n) {gf : Nat} {lb : Array Value} (hg : a.eval g = .func (.func gf) #[] lb) (hFg : F.fn gf) (eg : ∀ args w, (callFunc gf args).run P w = .ok (.enter gf args) w)
    {encs : α → Array Value} {Cs : List Nat} {n₀ : Nat} {xs : List α} {w0 : World} {K0 : World → Prop} (hseq : SeqK F (n - 1) P gf lb encs Cs n₀ xs w0 K0)
    (hb0 : Below n₀ w0 w) (hn₀ : n₀ ≤ w.heap.size) (hC : ∀ c ∈ Cs, c < w.heap.size) (hps : ∀ x, (encs x).size = ps.size) (hK0 : ∀ W, Rest Cs w.heap.size w W → K0 W)
    (I : List α → World → Prop) (Ix : Code → List α → World → Prop) (hI : Stays Cs w.heap.size I) (hIx : ∀ c, Stays Cs w.heap.size (Ix c)) (h0 : I [] w)
    (Ax : α → Act → World → Prop) (hAx : ∀ x a', Stays Cs w.heap.size (fun (_ : Unit) W => Ax x a' W))
    (hassign : ∀ (l : Nat) (pre : List α) (x : α) (W : World) (K : Act → World → Prop), pre ++ [x] <+: xs → I pre W →
      (∀ a' W', KeepsFrom w.heap.size W W' → Below n₀ W W' → I pre W' → Ax x a' W' → K a' W') →
      assign.wpIn (F.inRound l) (n - 1 - 1) P (Exit.then K (fun _ _ _ => False)) { tmps := (ps.zip (encs x)).foldl (fun t (p, v) => t.setIfInBounds p v) a.tmps, defers := [] } W)
    (hbody : ∀ (l : Nat) (pre : List α) (x : α) (a' : Act) (W : World), w.heap.size ≤ l → (∃ r, W.heap[l]? = some (.loop r)) → pre ++ [x] <+: xs → I pre W → Ax x a' W →
      body.wpIn (F.inRound l) (n - 1 - 1) P (ownPostG w.heap.size (Below n₀) I Ix (pre ++ [x]) W) a' W)
    (hdone : ∀ (D : Nat) (W : World), w.heap.size ≤ D → I xs W → W.heap[D]? = some (.deferred (some [])) → Q .normal { a with defers := { target := .collected D, args := #[] } :: a.defers } W)
    (hstop : ∀ (D : Nat) (c : Code) (pre : List α) (W : World), w.heap.size ≤ D → pre <+: xs → Ix c pre W → W.heap[D]? = some (.deferred (some [])) → c.wpIn F n P Q { a with defers := { target := .collected D, args := #[] } :: a.defers } W) :
    (Code.rangeFunc g ps assign body).wpIn F n P Q a w :=
  range_r hro h1 hg hFg eg hseq (fun _ _ _ h k => h.trans k) (fun W l o' hl => ⟨rfl, rfl, rfl, by simp, fun k hk => World.putObj_heap_other (by omega)⟩) hb0 hn₀ hC hps hK0 I Ix hI hIx h0 Ax hAx hassign hbody hdone hstop
theorem range_c {α : Type} {g : Operand} {ps : Array Tmp} {assign body : Code} {Q : Exit → Act → World → Prop} {a : Act} {w : World}
    (hro : F.round = none) (h1 : 1 ≤ n) {gf : Nat} {lb : Array Value} (hg : a.eval g = .func (.func gf) #[] lb) (hFg : F.fn gf) (eg : ∀ args w, (callFunc gf args).run P w = .ok (.enter gf args) w)
    {encs : α → Array Value} {Cs : List Nat} {n₀ : Nat} {xs : List α} {w0 : World} (hseq : SeqC F (n - 1) P gf lb encs Cs n₀ xs w0)
    (hb0 : Below n₀ w0 w) (hn₀ : n₀ ≤ w.heap.size) (hC : ∀ c ∈ Cs, c < w.heap.size) (hps : ∀ x, (encs x).size = ps.size)
    (I : List α → World → Prop) (Ix : Code → List α → World → Prop) (hI : Stays Cs w.heap.size I) (hIx : ∀ c, Stays Cs w.heap.size (Ix c)) (h0 : I [] w)
    (Ax : α → Act → World → Prop) (hAx : ∀ x a', Stays Cs w.heap.size (fun (_ : Unit) W => Ax x a' W))
    (hassign : ∀ (l : Nat) (pre : List α) (x : α) (W : World) (K : Act → World → Prop), pre ++ [x] <+: xs → I pre W →
      (∀ a' W', KeepsFrom w.heap.size W W' → Below n₀ W W' → I pre W' → Ax x a' W' → K a' W') →
      assign.wpIn (F.inRound l) (n - 1 - 1) P (Exit.then K (fun _ _ _ => False)) { tmps := (ps.zip (encs x)).foldl (fun t (p, v) => t.setIfInBounds p v) a.tmps, defers := [] } W)
    (hbody : ∀ (l : Nat) (pre : List α) (x : α) (a' : Act) (W : World), w.heap.size ≤ l → (∃ r, W.heap[l]? = some (.loop r)) → pre ++ [x] <+: xs → I pre W → Ax x a' W →
      body.wpIn (F.inRound l) (n - 1 - 1) P (ownPostG w.heap.size (Below n₀) I Ix (pre ++ [x]) W) a' W)
    (hdone : ∀ (D : Nat) (W : World), w.heap.size ≤ D → I xs W → W.heap[D]? = some (.deferred (some [])) → Q .normal { a with defers := { target := .collected D, args := #[] } :: a.defers } W)
    (hstop : ∀ (D : Nat) (c : Code) (pre : List α) (W : World), w.heap.size ≤ D → pre <+: xs → Ix c pre W → W.heap[D]? = some (.deferred (some [])) → c.wpIn F n P Q { a with defers := { target := .collected D, args := #[] } :: a.defers } W) :
    (Code.rangeFunc g ps assign body).wpIn F n P Q a w :=
  range_k hro h1 hg hFg eg (K0 := fun _ => True) (fun l J Jx W hW _ => hseq l J Jx W hW) hb0 hn₀ hC hps (fun _ _ => trivial) I Ix hI hIx h0 Ax hAx hassign hbody hdone hstop
end Go.Proofs.YtedkhdnfbdojcaaDoor
end
section
/- What a loop that collects keeps: blocks of cells of one type, rows of its own; nothing of the program. -/
namespace Go.Proofs.YtedkhdnfbdojcaaDoor
open Go.RowKit
set_option linter.unusedVariables false
/-- Blocks of cells of type t lie as they lay, but for those of Cs. -/
def SameT (t : TypeId) (Cs : List Nat) (w w' : World) : Prop := ∀ (k : Nat) (cs : Array Value) (fz : Nat × Nat), k ∉ Cs → w.heap[k]? = some (.cells cs t fz) → w'.heap[k]? = some (.cells cs t fz)
theorem SameT.refl (t : TypeId) (Cs : List Nat) (w : World) : SameT t Cs w w := fun _ _ _ _ h => h
theorem SameT.trans {t : TypeId} {Cs : List Nat} {a b c : World} (h : SameT t Cs a b) (k : SameT t Cs b c) : SameT t Cs a c := fun i cs fz hn hi => k i cs fz hn (h i cs fz hn hi)
theorem SameT.of_rest {t : TypeId} {Cs : List Nat} {B : Nat} {w w' : World} (h : Rest Cs B w w') : SameT t Cs w w' := fun k cs fz hn hk => h.cells hk hn
theorem SameT.of_below {t : TypeId} {Cs : List Nat} {w w' : World} (h : Below w.heap.size w w') : SameT t Cs w w' := fun k cs fz hn hk => (h.block k (Array.getElem?_eq_some_iff.1 hk).1).trans hk
theorem SameT.alloc (t : TypeId) (Cs : List Nat) (w : World) (o : Obj) : SameT t Cs w (w.alloc o) := .of_below (below_alloc w o)
theorem SameT.box {t u : TypeId} {Cs : List Nat} {w : World} {B : Nat} {v : Value} (h : Boxed w B u v) (hu : t ≠ u) (v' : Value) : SameT t Cs w (w.setCell ⟨B, 0, none⟩ v') := fun k cs fz hn hk => by
  refine (Below.heap_setCell w _ v' k fun e => ?_).trans hk
  subst e
  rw [show w.heap[_]? = _ from h] at hk
  simp at hk
  exact hu hk.2.1.symm
theorem SameT.grown {t e : TypeId} {Cs : List Nat} {w w' : World} {v : Value} {b size n : Nat} {xs : List Value} (h : w.ownsRow b e size v n xs) (he : t ≠ e) (hg : w.grownBy w' v.ownBlock) : SameT t Cs w w' := fun k cs fz hn hk => by
  refine (hg.block k (Array.getElem?_eq_some_iff.1 hk).1 fun e' => ?_).trans hk
  rcases h.2 with ⟨rfl, _⟩ | ⟨g, cap, cur, rfl, _, hgb, _⟩
  · simp [Value.ownBlock] at e'
  · obtain rfl : k = g := by simpa [Value.ownBlock] using e'
    rw [hk] at hgb
    simp at hgb
    exact he hgb.2.1
theorem SameT.mono {t : TypeId} {Cs : List Nat} {w w' : World} (h : SameT t [] w w') : SameT t Cs w w' := fun k cs fz _ hk => h k cs fz (by simp) hk
/-- A row of the caller's own, wherever cells of its type lie as they lay. -/
theorem own_same {t : TypeId} {Cs : List Nat} {w w' : World} {b size n : Nat} {v : Value} {xs : List Value} (h : w.ownsRow b t size v n xs) (hs : SameT t Cs w w') (hC : ∀ c ∈ Cs, c < b) : w'.ownsRow b t size v n xs := by
  refine ⟨h.1, ?_⟩
  rcases h.2 with h0 | ⟨g, cap, cur, hv, hg, hh, r⟩
  · exact .inl h0
  · exact .inr ⟨g, cap, cur, hv, hg, hs g cur (0, 0) (fun hm => by have := hC _ hm; omega) hh, r⟩
theorem box_rest {w w' : World} {Cs : List Nat} {B B' : Nat} {t : TypeId} {v : Value} (h : Boxed w B t v) (hr : Rest Cs B' w w') (hn : B ∉ Cs) : Boxed w' B t v := hr.cells h hn
theorem box_below {w w' : World} {B : Nat} {t : TypeId} {v : Value} (h : Boxed w B t v) (hb : Below w.heap.size w w') : Boxed w' B t v := (hb.block B h.lt).trans h
theorem keeps_below {w w' : World} (h : Below w.heap.size w w') : KeepsOthers w w' := ⟨h.size, fun k o hk _ => (h.block k (Array.getElem?_eq_some_iff.1 hk).1).trans hk⟩
/-- Each of a list goes with the value at its place. -/
def Fit {α : Type} (R : α → Value → Prop) : List α → List Value → Prop
  | [], [] => True
  | x :: xs, u :: us => R x u ∧ Fit R xs us
  | _, _ => False
theorem Fit.nil {α : Type} {R : α → Value → Prop} : Fit R [] [] := trivial
theorem fit_snoc {α : Type} {R : α → Value → Prop} {x : α} {u : Value} (hx : R x u) : ∀ {xs : List α} {us : List Value}, Fit R xs us → Fit R (xs ++ [x]) (us ++ [u])
  | [], [], _ => ⟨hx, trivial⟩
  | _ :: _, _ :: _, h => ⟨h.1, fit_snoc hx h.2⟩
theorem Fit.snoc {α : Type} {R : α → Value → Prop} {xs : List α} {us : List Value} (h : Fit R xs us) {x : α} {u : Value} (hx : R x u) : Fit R (xs ++ [x]) (us ++ [u]) := fit_snoc hx h
theorem fit_mono {α : Type} {R R' : α → Value → Prop} (hR : ∀ x u, R x u → R' x u) : ∀ {xs : List α} {us : List Value}, Fit R xs us → Fit R' xs us
  | [], [], _ => trivial
  | _ :: _, _ :: _, h => ⟨hR _ _ h.1, fit_mono hR h.2⟩
theorem Fit.mono {α : Type} {R R' : α → Value → Prop} {xs : List α} {us : List Value} (h : Fit R xs us) (hR : ∀ x u, R x u → R' x u) : Fit R' xs us := fit_mono hR h
theorem fit_at {α : Type} {R : α → Value → Prop} : ∀ {xs : List α} {us : List Value}, Fit R xs us → ∀ (k : Nat) (hk : k < xs.length), ∃ hu : k < us.length, R xs[k] us[k]
  | [], [], _, k, hk => absurd hk (by simp)
  | _ :: _, _ :: _, h, 0, _ => ⟨by simp, h.1⟩
  | _ :: _, _ :: _, h, k + 1, hk => by
    obtain ⟨a, b⟩ := fit_at h.2 k (by simpa using hk)
    exact ⟨by simpa using a, b⟩
theorem Fit.at {α : Type} {R : α → Value → Prop} {xs : List α} {us : List Value} (h : Fit R xs us) (k : Nat) (hk : k < xs.length) : ∃ hu : k < us.length, R xs[k] us[k] := fit_at h k hk
theorem Fit.map {α β : Type} {R : β → Value → Prop} {g : α → β} : ∀ {xs : List α} {us : List Value}, Fit (fun x u => R (g x) u) xs us → Fit R (xs.map g) us
  | [], [], _ => trivial
  | _ :: _, _ :: _, h => ⟨h.1, Fit.map h.2⟩
/-- Where each is one value, the values are known. -/
theorem Fit.fn {α : Type} {f : α → Value} : ∀ {xs : List α} {us : List Value}, Fit (fun x u => u = f x) xs us → us = xs.map f
  | [], [], _ => rfl
  | _ :: _, _ :: _, h => by rw [h.1, Fit.fn h.2]; rfl

/-- Between two rounds of a loop that collects: its boxes, its row, and that nothing else has turned. -/
structure EachI {α : Type} (tM tL tO tB : TypeId) (fm : Value) (Cs : List Nat) (ok : α → Bool) (R : World → α → Value → Prop) (w : World) (pre : List α) (W : World) : Prop where
  mb : Boxed W w.heap.size tM fm
  r1 : Boxed W (w.heap.size + 1) tL (.slice none 0 0)
  r2 : Boxed W (w.heap.size + 1 + 1) tO (.bool false)
  row : ∃ v us, Boxed W (w.heap.size + 1 + 1 + 1) tL v ∧ W.ownsRow w.heap.size tB 1 v pre.length us ∧ Fit (R W) pre us
  good : ∀ x ∈ pre, ok x = true
  only : Only Cs w W
/-- A round has found one that is none. -/
structure EachX {α : Type} (tL tO : TypeId) (Cs : List Nat) (ok : α → Bool) (w : World) (c : Code) (pre : List α) (W : World) : Prop where
  ret : c = .ret
  r1 : Boxed W (w.heap.size + 1) tL (.slice none 0 0)
  r2 : Boxed W (w.heap.size + 1 + 1) tO (.bool false)
  bad : ∃ x ∈ pre, ok x = false
  only : Only Cs w W
section
variable {α : Type} {tM tL tO tB : TypeId} {fm : Value} {Cs : List Nat} {ok : α → Bool} {R : World → α → Value → Prop} {w : World} {B : Nat}
theorem EachI.stays {tR : TypeId} (hC : ∀ c ∈ Cs, c < w.heap.size) (hB : w.heap.size ≤ B) (hR : ∀ W W' x u, R W x u → SameT tR Cs W W' → R W' x u) : Stays Cs B (EachI tM tL tO tB fm Cs ok R w) := fun pre A A' h hr => by
  have no : ∀ k, w.heap.size ≤ k → k ∉ Cs := fun k hk hm => by have := hC _ hm; omega
  obtain ⟨v, us, hv, hrow, hf⟩ := h.row
  exact ⟨box_rest h.mb hr (no _ (by omega)), box_rest h.r1 hr (no _ (by omega)), box_rest h.r2 hr (no _ (by omega)), ⟨v, us, box_rest hv hr (no _ (by omega)), own_same hrow (.of_rest hr) hC, hf.mono fun x u hx => hR _ _ _ _ hx (.of_rest hr)⟩, h.good,
    h.only.rest hr (fun c hc => .inl hc) hB⟩
theorem EachX.stays (hC : ∀ c ∈ Cs, c < w.heap.size) (hB : w.heap.size ≤ B) (c : Code) : Stays Cs B (EachX tL tO Cs ok w c) := fun pre A A' h hr => by
  have no : ∀ k, w.heap.size ≤ k → k ∉ Cs := fun k hk hm => by have := hC _ hm; omega
  exact ⟨h.ret, box_rest h.r1 hr (no _ (by omega)), box_rest h.r2 hr (no _ (by omega)), h.bad, h.only.rest hr (fun c hc => .inl hc) hB⟩
/-- The four boxes as they are laid. -/
theorem EachI.start (hC : ∀ c ∈ Cs, c < w.heap.size) : EachI tM tL tO tB fm Cs ok R w [] ((((w.alloc (.cells #[fm] tM)).alloc (.cells #[.slice none 0 0] tL)).alloc (.cells #[.bool false] tO)).alloc (.cells #[.slice none 0 0] tL)) := by
  have a1 := Boxed.new (w.alloc (.cells #[fm] tM)) tL (.slice none 0 0)
  rw [World.size_alloc] at a1
  have a2 := Boxed.new ((w.alloc (.cells #[fm] tM)).alloc (.cells #[.slice none 0 0] tL)) tO (.bool false)
  rw [World.size_alloc, World.size_alloc] at a2
  have a3 := Boxed.new (((w.alloc (.cells #[fm] tM)).alloc (.cells #[.slice none 0 0] tL)).alloc (.cells #[.bool false] tO)) tL (.slice none 0 0)
  rw [World.size_alloc, World.size_alloc, World.size_alloc] at a3
  exact ⟨(((Boxed.new w tM fm).alloc _).alloc _).alloc _, (a1.alloc _).alloc _, a2.alloc _, ⟨_, [], a3, World.ownsRow_nil _ _ _ _, .nil⟩, fun x hx => by simp at hx, (((Only.refl Cs w).alloc _).alloc _).alloc _ |>.alloc _⟩
theorem EachI.below {tR : TypeId} {pre : List α} {W W' : World} (h : EachI tM tL tO tB fm Cs ok R w pre W) (hb : Below W.heap.size W W') (hR : ∀ W W' x u, R W x u → SameT tR Cs W W' → R W' x u) : EachI tM tL tO tB fm Cs ok R w pre W' := by
  obtain ⟨v, us, hv, hrow, hf⟩ := h.row
  exact ⟨box_below h.mb hb, box_below h.r1 hb, box_below h.r2 hb, ⟨v, us, box_below hv hb, own_keep hrow hb, hf.mono fun x u hx => hR _ _ _ _ hx (.of_below hb)⟩, h.good, h.only.below hb⟩
/-- One more is collected. -/
theorem EachI.more {tR : TypeId} {pre : List α} {W w1 : World} {x : α} {u v v' : Value} {us : List Value} {tmp : Obj} (h : EachI tM tL tO tB fm Cs ok R w pre W)
    (hR : ∀ W W' x u, R W x u → SameT tR Cs W W' → R W' x u) (t2 : tR ≠ tL) (t4 : tR ≠ tB) (e1 : tL ≠ tB) (e2 : tM ≠ tB) (e3 : tO ≠ tB) (hx : R W x u) (hok : ok x = true)
    (hv : Boxed W (w.heap.size + 1 + 1 + 1) tL v) (hrow : W.ownsRow w.heap.size tB 1 v pre.length us) (hf : Fit (R W) pre us)
    (hown : w1.ownsRow w.heap.size tB 1 v' (pre.length + 1) (us ++ [u])) (hgrow : (W.alloc tmp).grownBy w1 v.ownBlock) :
    Boxed w1 (w.heap.size + 1 + 1 + 1) tL v ∧ KeepsOthers W (w1.setCell ⟨w.heap.size + 1 + 1 + 1, 0, none⟩ v') ∧ Below w.heap.size W (w1.setCell ⟨w.heap.size + 1 + 1 + 1, 0, none⟩ v') ∧
      EachI tM tL tO tB fm Cs ok R w (pre ++ [x]) (w1.setCell ⟨w.heap.size + 1 + 1 + 1, 0, none⟩ v') := by
  have hle : w.heap.size ≤ W.heap.size := h.only.size
  obtain ⟨hv1, hv2, hr2, hk2, hb2⟩ := hv.appended e1 hrow hle (by omega) hown hgrow
  have ra := hrow.alloc tmp
  have st : SameT tR Cs W (w1.setCell ⟨w.heap.size + 1 + 1 + 1, 0, none⟩ v') := ((SameT.alloc tR Cs W tmp).trans (.grown ra t4 hgrow)).trans (.box hv1 t2 v')
  have other : ∀ {k : Nat} {t : TypeId} {z : Value}, Boxed W k t z → t ≠ tB → k ≠ w.heap.size + 1 + 1 + 1 → Boxed (w1.setCell ⟨w.heap.size + 1 + 1 + 1, 0, none⟩ v') k t z := fun hz ht hk => (((hz.alloc tmp).kept hgrow ((hz.alloc tmp).not_row ht ra)).other hk v')
  have on : Only Cs w (w1.setCell ⟨w.heap.size + 1 + 1 + 1, 0, none⟩ v') :=
    ⟨hb2.os.trans h.only.os, hb2.tape.trans h.only.tape, hb2.output.trans h.only.output, Nat.le_trans h.only.size hb2.size, fun k hk hn => (hb2.block k hk).trans (h.only.block k hk hn)⟩
  exact ⟨hv1, hk2, hb2, other h.mb e2 (by omega), other h.r1 e1 (by omega), other h.r2 e3 (by omega), ⟨v', us ++ [u], hv2, by rw [List.length_append]; exact hr2, (hf.mono fun y z hy => hR _ _ _ _ hy st).snoc (hR _ _ _ _ hx st)⟩,
    fun y hy => (List.mem_append.1 hy).elim (h.good y) (fun e => by simp at e; subst e; exact hok), on⟩
/-- One that is none: the results are stored. -/
theorem EachI.bad {pre : List α} {W : World} {x : α} (h : EachI tM tL tO tB fm Cs ok R w pre W) (hok : ok x = false) :
    KeepsOthers W ((W.setCell ⟨w.heap.size + 1, 0, none⟩ (.slice none 0 0)).setCell ⟨w.heap.size + 1 + 1, 0, none⟩ (.bool false)) ∧
      EachX tL tO Cs ok w .ret (pre ++ [x]) ((W.setCell ⟨w.heap.size + 1, 0, none⟩ (.slice none 0 0)).setCell ⟨w.heap.size + 1 + 1, 0, none⟩ (.bool false)) := by
  refine ⟨(KeepsOthers.setCell _ _ _).trans (KeepsOthers.setCell _ _ _), rfl, (h.r1.set _).other (by omega) _, (h.r2.other (by omega) _).set _, ⟨x, by simp, hok⟩, ?_⟩
  have hb : Below w.heap.size W ((W.setCell ⟨w.heap.size + 1, 0, none⟩ (.slice none 0 0)).setCell ⟨w.heap.size + 1 + 1, 0, none⟩ (.bool false)) := ((Below.refl _ _).setCell (p := ⟨w.heap.size + 1, 0, none⟩) (by simp) _).setCell (p := ⟨w.heap.size + 1 + 1, 0, none⟩) (by simp; omega) _
  exact ⟨hb.os.trans h.only.os, hb.tape.trans h.only.tape, hb.output.trans h.only.output, Nat.le_trans h.only.size hb.size, fun k hk hn => (hb.block k hk).trans (h.only.block k hk hn)⟩
end
end Go.Proofs.YtedkhdnfbdojcaaDoor
end
section
/- Plans, as data and in memory: what slices of stops, tours and days read as, that it stays so; rows of them that are the call's own. -/
namespace Go.Proofs.YtedkhdnfbdojcaaDoor
open Go.RowKit
set_option linter.unusedVariables false
/-- A stop: its customer and its quantity. -/
abbrev StopD := Int × Int
abbrev TourD := List StopD
abbrev DayD := List TourD
abbrev PlanD := List DayD
/-- A slice whose things, of z cells each, are those of l. -/
def RowAt {α : Type} (z : Nat) (R : World → Nat → Nat → α → Prop) (w : World) (A : Option Addr) (l : List α) : Prop :=
  ∀ i (hi : i < l.length), ∃ b off, A = some ⟨b, off, none⟩ ∧ R w b (off + i * z) l[i]
/-- A cell that holds such a slice. -/
def ListAt {α : Type} (z : Nat) (R : World → Nat → Nat → α → Prop) (w : World) (b o : Nat) (l : List α) : Prop :=
  ∃ P k, w.cell? ⟨b, o, none⟩ = some (.slice P l.length k) ∧ RowAt z R w P l ∧ l.length ≤ k
def StopAt (w : World) (b o : Nat) (s : StopD) : Prop := w.cell? ⟨b, o, none⟩ = some (.int .i64 s.1) ∧ w.cell? ⟨b, o + 1, none⟩ = some (.int .i64 s.2)
def TourAt : World → Nat → Nat → TourD → Prop := ListAt 2 StopAt
def DayAt : World → Nat → Nat → DayD → Prop := ListAt 1 TourAt
/-- What a slice of days reads as. -/
def PlanIs : World → Option Addr → PlanD → Prop := RowAt 1 DayAt
/-- What stays when nothing of a world turns. -/
def Keeps {α : Type} (R : World → Nat → Nat → α → Prop) : Prop := ∀ (w w' : World) (b o : Nat) (x : α), R w b o x → Below w.heap.size w w' → R w' b o x
theorem cell_keep {w w' : World} {a : Addr} {v : Value} (h : w.cell? a = some v) (hb : Below w.heap.size w w') : w'.cell? a = some v := (hb.cell (World.block_lt_of_cell? w _ h)).trans h
theorem RowAt.keep' {α : Type} {z : Nat} {R : World → Nat → Nat → α → Prop} (hR : Keeps R) {w w' : World} {A : Option Addr} {l : List α} (h : RowAt z R w A l) (hb : Below w.heap.size w w') : RowAt z R w' A l := fun i hi => by
  obtain ⟨b, off, e, hr⟩ := h i hi
  exact ⟨b, off, e, hR _ _ _ _ _ hr hb⟩
theorem ListAt.keep' {α : Type} {z : Nat} {R : World → Nat → Nat → α → Prop} (hR : Keeps R) : Keeps (ListAt z R) := fun _ _ _ _ _ ⟨P, k, h1, h2, h3⟩ hb => ⟨P, k, cell_keep h1 hb, h2.keep' hR hb, h3⟩
theorem StopAt.keep : Keeps StopAt := fun _ _ _ _ _ h hb => ⟨cell_keep h.1 hb, cell_keep h.2 hb⟩
theorem TourAt.keep : Keeps TourAt := ListAt.keep' StopAt.keep
theorem DayAt.keep : Keeps DayAt := ListAt.keep' TourAt.keep
theorem PlanIs.keep {w w' : World} {A : Option Addr} {p : PlanD} (h : PlanIs w A p) (hb : Below w.heap.size w w') : PlanIs w' A p := RowAt.keep' DayAt.keep h hb
theorem RowAt.cut {α : Type} {z : Nat} {R : World → Nat → Nat → α → Prop} {w : World} {A : Option Addr} {l : List α} (h : RowAt z R w A l) (n : Nat) : RowAt z R w A (l.take n) := fun i hi => by
  rw [List.length_take] at hi
  rw [List.getElem_take]
  exact h i (by omega)
theorem RowAt.nil {α : Type} {z : Nat} {R : World → Nat → Nat → α → Prop} {w : World} {A : Option Addr} : RowAt z R w A ([] : List α) := fun i hi => absurd hi (by simp)
/-- Its numbers are the machine's, its lists no longer than any. -/
structure WfP (p : PlanD) : Prop where
  n : p.length ≤ maxLen
  day : ∀ d ∈ p, d.length ≤ maxLen
  tour : ∀ d ∈ p, ∀ t ∈ d, t.length ≤ maxLen
  stop : ∀ d ∈ p, ∀ t ∈ d, ∀ s ∈ t, W64 s.1 ∧ W64 s.2
/-- A plan as it is handed over. -/
def planV (p : PlanD) (A : Option Addr) (c : Nat) : Value := .agg #[.slice A p.length c]

/-! ### Rows of the call's own -/
def cellsS (t : TourD) : List Value := t.flatMap fun s => [.int .i64 s.1, .int .i64 s.2]
theorem cellsS_snoc (t : TourD) (s : StopD) : cellsS (t ++ [s]) = cellsS t ++ [.int .i64 s.1, .int .i64 s.2] := by simp [cellsS]
theorem cellsS_at : ∀ {t : TourD} {i : Nat} (hi : i < t.length), (cellsS t)[i * 2]? = some (.int .i64 t[i].1) ∧ (cellsS t)[i * 2 + 1]? = some (.int .i64 t[i].2)
  | s :: r, 0, _ => ⟨rfl, rfl⟩
  | s :: r, i + 1, hi => by
    have := cellsS_at (t := r) (i := i) (by simpa using hi)
    have e1 : (i + 1) * 2 = (i * 2 + 1) + 1 := by omega
    have e2 : (i + 1) * 2 + 1 = ((i * 2 + 1) + 1) + 1 := by omega
    rw [e1]
    exact ⟨this.1, this.2⟩
def OwnStops (base : Nat) (W : World) (v : Value) (t : TourD) : Prop := W.ownsRow base 43 2 v t.length (cellsS t)
def OwnTours (base : Nat) (W : World) (v : Value) (d : DayD) : Prop := ∃ us, W.ownsRow base 41 1 v d.length us ∧ Fit (fun t u => OwnStops base W u t) d us
def OwnDays (base : Nat) (W : World) (v : Value) (p : PlanD) : Prop := ∃ us, W.ownsRow base 38 1 v p.length us ∧ Fit (fun d u => OwnTours base W u d) p us
theorem OwnStops.nil (base : Nat) (W : World) : OwnStops base W (.slice none 0 0) [] := World.ownsRow_nil _ _ _ _
theorem OwnTours.nil (base : Nat) (W : World) : OwnTours base W (.slice none 0 0) [] := ⟨[], World.ownsRow_nil _ _ _ _, .nil⟩
theorem OwnDays.nil (base : Nat) (W : World) : OwnDays base W (.slice none 0 0) [] := ⟨[], World.ownsRow_nil _ _ _ _, .nil⟩
section
variable {base base' : Nat} {W W' : World} {v u : Value} {t : TourD} {d : DayD} {p : PlanD}
theorem OwnStops.keep (h : OwnStops base W v t) (hb : Below W.heap.size W W') : OwnStops base W' v t := own_keep h hb
theorem OwnTours.keep (h : OwnTours base W v d) (hb : Below W.heap.size W W') : OwnTours base W' v d := by
  obtain ⟨us, h1, h2⟩ := h
  exact ⟨us, own_keep h1 hb, h2.mono fun t u hr => OwnStops.keep hr hb⟩
theorem OwnDays.keep (h : OwnDays base W v p) (hb : Below W.heap.size W W') : OwnDays base W' v p := by
  obtain ⟨us, h1, h2⟩ := h
  exact ⟨us, own_keep h1 hb, h2.mono fun d u hr => OwnTours.keep hr hb⟩
theorem OwnStops.far (h : OwnStops base W v t) {a : Addr} (ha : a.block < base) (x : Value) : OwnStops base (W.setCell a x) v t := own_far h ha x
theorem OwnTours.far (h : OwnTours base W v d) {a : Addr} (ha : a.block < base) (x : Value) : OwnTours base (W.setCell a x) v d := by
  obtain ⟨us, h1, h2⟩ := h
  exact ⟨us, own_far h1 ha x, h2.mono fun t u hr => OwnStops.far hr ha x⟩
theorem OwnDays.far (h : OwnDays base W v p) {a : Addr} (ha : a.block < base) (x : Value) : OwnDays base (W.setCell a x) v p := by
  obtain ⟨us, h1, h2⟩ := h
  exact ⟨us, own_far h1 ha x, h2.mono fun d u hr => OwnTours.far hr ha x⟩
theorem OwnStops.down (h : OwnStops base W v t) (hb : base' ≤ base) : OwnStops base' W v t := own_down h hb
theorem OwnTours.down (h : OwnTours base W v d) (hb : base' ≤ base) : OwnTours base' W v d := by
  obtain ⟨us, h1, h2⟩ := h
  exact ⟨us, own_down h1 hb, h2.mono fun t u hr => OwnStops.down hr hb⟩
theorem OwnDays.down (h : OwnDays base W v p) (hb : base' ≤ base) : OwnDays base' W v p := by
  obtain ⟨us, h1, h2⟩ := h
  exact ⟨us, own_down h1 hb, h2.mono fun d u hr => OwnTours.down hr hb⟩
/-- One more tour, one more day. -/
theorem OwnTours.more (h : OwnTours base W v d) {us : List Value} (hrow : W.ownsRow base 41 1 v d.length us) (hf : Fit (fun t u => OwnStops base W u t) d us) (hg : W.grownBy W' v.ownBlock) (ht : OwnStops base W u t) {v' : Value}
    (hown : W'.ownsRow base 41 1 v' (d.length + 1) (us ++ [u])) : OwnTours base W' v' (d ++ [t]) := by
  refine ⟨us ++ [u], by rw [List.length_append]; exact hown, ?_⟩
  have g : SameT 43 [] W W' := .grown hrow (by decide) hg
  exact (hf.mono fun y z hy => own_same hy g (by simp)).snoc (own_same ht g (by simp))
theorem OwnDays.more (h : OwnDays base W v p) {us : List Value} (hrow : W.ownsRow base 38 1 v p.length us) (hf : Fit (fun d u => OwnTours base W u d) p us) (hg : W.grownBy W' v.ownBlock) (hd : OwnTours base W u d) {v' : Value}
    (hown : W'.ownsRow base 38 1 v' (p.length + 1) (us ++ [u])) : OwnDays base W' v' (p ++ [d]) := by
  refine ⟨us ++ [u], by rw [List.length_append]; exact hown, ?_⟩
  have g1 : SameT 43 [] W W' := .grown hrow (by decide) hg
  have g2 : SameT 41 [] W W' := .grown hrow (by decide) hg
  have st : ∀ y z, OwnTours base W z y → OwnTours base W' z y := fun y z ⟨vs, k1, k2⟩ => ⟨vs, own_same k1 g2 (by simp), k2.mono fun a b hab => own_same hab g1 (by simp)⟩
  exact (hf.mono st).snoc (st _ _ hd)
/-! What they read as. -/
theorem OwnStops.len (h : OwnStops base W v t) : ∃ A k, v = .slice A t.length k ∧ t.length ≤ k := by
  rcases h.2 with ⟨rfl, h0⟩ | ⟨g, cap, cur, rfl, _, _, hc, _⟩
  · exact ⟨none, 0, by rw [h0], by rw [h0]; exact Nat.le_refl _⟩
  · exact ⟨_, _, rfl, hc⟩
theorem OwnTours.len (h : OwnTours base W v d) : ∃ A k, v = .slice A d.length k ∧ d.length ≤ k := by
  obtain ⟨us, h1, _⟩ := h
  rcases h1.2 with ⟨rfl, h0⟩ | ⟨g, cap, cur, rfl, _, _, hc, _⟩
  · exact ⟨none, 0, by rw [h0], by rw [h0]; exact Nat.le_refl _⟩
  · exact ⟨_, _, rfl, hc⟩
theorem OwnDays.len (h : OwnDays base W v p) : ∃ A k, v = .slice A p.length k ∧ p.length ≤ k := by
  obtain ⟨us, h1, _⟩ := h
  rcases h1.2 with ⟨rfl, h0⟩ | ⟨g, cap, cur, rfl, _, _, hc, _⟩
  · exact ⟨none, 0, by rw [h0], by rw [h0]; exact Nat.le_refl _⟩
  · exact ⟨_, _, rfl, hc⟩
theorem cellsS_len : ∀ t : TourD, (cellsS t).length = t.length * 2
  | [] => rfl
  | s :: r => by
    have := cellsS_len r
    show (cellsS r).length + 1 + 1 = _
    rw [this, List.length_cons]
    omega
theorem OwnStops.reads {A : Option Addr} {n k : Nat} (h : OwnStops base W (.slice A n k) t) : RowAt 2 StopAt W A t := fun i hi => by
  obtain ⟨g, cap, hv, _, _⟩ := World.ownsRow.form h (by omega)
  injection hv with hA hn hc
  subst hA; subst hn; subst hc
  refine ⟨g, 0, rfl, ?_, ?_⟩
  · rw [Nat.zero_add, World.ownsRow.cellAt h (i * 2) (by omega), (cellsS_at hi).1]
  · rw [Nat.zero_add, World.ownsRow.cellAt h (i * 2 + 1) (by omega), (cellsS_at hi).2]
theorem OwnTours.reads {A : Option Addr} {n k : Nat} (h : OwnTours base W (.slice A n k) d) : RowAt 1 TourAt W A d := fun i hi => by
  obtain ⟨us, h1, h2⟩ := h
  obtain ⟨g, cap, hv, _, _⟩ := World.ownsRow.form h1 (by omega)
  injection hv with hA hn hc
  subst hA; subst hn; subst hc
  obtain ⟨hu, hs⟩ := h2.at i hi
  obtain ⟨P, q, e, hq⟩ := OwnStops.len hs
  refine ⟨g, 0, rfl, P, q, ?_, OwnStops.reads (e ▸ hs), hq⟩
  rw [Nat.zero_add, World.ownsRow.cellAt h1 (i * 1) (by omega), Nat.mul_one, List.getElem?_eq_getElem hu, e]
theorem OwnDays.reads {A : Option Addr} {n k : Nat} (h : OwnDays base W (.slice A n k) p) : PlanIs W A p := fun i hi => by
  obtain ⟨us, h1, h2⟩ := h
  obtain ⟨g, cap, hv, _, _⟩ := World.ownsRow.form h1 (by omega)
  injection hv with hA hn hc
  subst hA; subst hn; subst hc
  obtain ⟨hu, hs⟩ := h2.at i hi
  obtain ⟨P, q, e, hq⟩ := OwnTours.len hs
  refine ⟨g, 0, rfl, P, q, ?_, OwnTours.reads (e ▸ hs), hq⟩
  rw [Nat.zero_add, World.ownsRow.cellAt h1 (i * 1) (by omega), Nat.mul_one, List.getElem?_eq_getElem hu, e]
end
end Go.Proofs.YtedkhdnfbdojcaaDoor
end
section
/- append of a stop, a tour, a day to a row of the call's own; a plan cut short. -/
namespace Go.Proofs.YtedkhdnfbdojcaaDoor
open Go.RowKit
set_option linter.unusedVariables false
theorem info_stop : (Tryd.prog.info? 43).map (fun i => (i.zero, i.size, i.bytes)) = some (some (.agg #[.int .i64 0, .int .i64 0]), 2, 16) := by kernel_rfl
theorem info_tour : (Tryd.prog.info? 41).map (fun i => (i.zero, i.size, i.bytes)) = some (some (.agg #[.slice none 0 0]), 1, 24) := by kernel_rfl
theorem info_day : (Tryd.prog.info? 38).map (fun i => (i.zero, i.size, i.bytes)) = some (some (.agg #[.slice none 0 0]), 1, 24) := by kernel_rfl
theorem own_low {w w' : World} {B n : Nat} {e : TypeId} {size : Nat} {v : Value} {xs : List Value} (hown : w.ownsRow B e size v n xs) (hB : B ≤ w.heap.size) (o : Obj) (hg : (w.alloc o).grownBy w' v.ownBlock) : Below B w w' :=
  ((Below.refl B w).alloc hB o).grown hg (by simp; omega) (fun k hk => (hown.lt k hk).1)
section
variable {ops : Array Oper} {rest : List Oper} {o : Oper} {a : Act} {Q : Exit → Act → World → Prop} {W0 : World} {B : Nat} {v u : Value}
theorem wpList_app_stop {t : TourD} {y : StopD} (hown : OwnStops B W0 v t) (hB : B ≤ W0.heap.size) (hm : t.length < 1048576) (hgd : o.guard = none) (s x : Operand)
    (ho : o.op = .call { callee := .builtin .append, args := #[s, x], argTypes := #[39, 39] }) (hs : a.eval s = v) (hx : a.eval x = .slice (some ⟨W0.heap.size, 0, none⟩) 1 1)
    (h : ∀ P k w', OwnStops B w' (.slice P (t.length + 1) k) (t ++ [y]) → Below B W0 w' → wpList Tryd.prog ops Q rest (a.put o.dst (.slice P (t.length + 1) k)) w') :
    wpList Tryd.prog ops Q (o :: rest) a (W0.alloc (.cells #[.int .i64 y.1, .int .i64 y.2] 43)) := by
  obtain ⟨i0, hi, hz0, hz1, hz2⟩ := info_parts info_stop
  refine wpList_append_own _ hgd s x 39 ho B 43 i0 (.agg #[.int .i64 0, .int .i64 0]) 2 16 Tryd.underlying39 hi hz0 hz1 hz2 rfl (by decide) v t.length (cellsS t) hs (World.ownsRow.alloc hown _) ⟨W0.heap.size, 0, none⟩ 1 1 [.int .i64 y.1, .int .i64 y.2] hx rfl (fun j u hj => World.news_of_block (heap_alloc_new W0 _) j u hj) (by intro u hu; simp at hu; rcases hu with rfl | rfl <;> rfl) (by unfold maxLen; omega) (by omega) (by simp; omega) ?_
  intro v' w' h1 h2 _
  have hq : OwnStops B w' v' (t ++ [y]) := by
    unfold OwnStops
    rw [cellsS_snoc, List.length_append]
    exact h1
  obtain ⟨P, k, rfl, _⟩ := OwnStops.len hq
  rw [List.length_append] at hq ⊢
  exact h P k w' hq (own_low hown hB _ h2)
theorem wpList_app_tour {d : DayD} {t : TourD} (hown : OwnTours B W0 v d) (ht : OwnStops B W0 u t) (hB : B ≤ W0.heap.size) (hm : d.length < 1048576) (hgd : o.guard = none) (s x : Operand)
    (ho : o.op = .call { callee := .builtin .append, args := #[s, x], argTypes := #[36, 36] }) (hs : a.eval s = v) (hx : a.eval x = .slice (some ⟨W0.heap.size, 0, none⟩) 1 1)
    (h : ∀ P k w', OwnTours B w' (.slice P (d.length + 1) k) (d ++ [t]) → Below B W0 w' → wpList Tryd.prog ops Q rest (a.put o.dst (.slice P (d.length + 1) k)) w') :
    wpList Tryd.prog ops Q (o :: rest) a (W0.alloc (.cells #[u] 41)) := by
  obtain ⟨i0, hi, hz0, hz1, hz2⟩ := info_parts info_tour
  obtain ⟨us, h1, h2⟩ := hown
  have hk := below_alloc W0 (.cells #[u] 41)
  obtain ⟨P, q, rfl, _⟩ := OwnStops.len ht
  refine wpList_append_own _ hgd s x 36 ho B 41 i0 (.agg #[.slice none 0 0]) 1 24 Tryd.underlying36 hi hz0 hz1 hz2 rfl (by decide) v d.length us hs (h1.alloc _) ⟨W0.heap.size, 0, none⟩ 1 1 [.slice P t.length q] hx rfl (one_cell _ _ _) (by intro u hu; simp at hu; subst hu; rfl) (by unfold maxLen; omega) (by omega) (by simp; omega) ?_
  intro v' w' g1 g2 _
  have hq := OwnTours.more ⟨us, own_keep h1 hk, h2.mono fun t u hr => OwnStops.keep hr hk⟩ (own_keep h1 hk) (h2.mono fun t u hr => OwnStops.keep hr hk) g2 (OwnStops.keep ht hk) g1
  obtain ⟨P', k', rfl, _⟩ := OwnTours.len hq
  rw [List.length_append] at hq ⊢
  exact h P' k' w' hq (own_low h1 hB _ g2)
theorem wpList_app_day {p : PlanD} {d : DayD} (hown : OwnDays B W0 v p) (ht : OwnTours B W0 u d) (hB : B ≤ W0.heap.size) (hm : p.length < 1048576) (hgd : o.guard = none) (s x : Operand)
    (ho : o.op = .call { callee := .builtin .append, args := #[s, x], argTypes := #[22, 22] }) (hs : a.eval s = v) (hx : a.eval x = .slice (some ⟨W0.heap.size, 0, none⟩) 1 1)
    (h : ∀ P k w', OwnDays B w' (.slice P (p.length + 1) k) (p ++ [d]) → Below B W0 w' → wpList Tryd.prog ops Q rest (a.put o.dst (.slice P (p.length + 1) k)) w') :
    wpList Tryd.prog ops Q (o :: rest) a (W0.alloc (.cells #[u] 38)) := by
  obtain ⟨i0, hi, hz0, hz1, hz2⟩ := info_parts info_day
  obtain ⟨us, h1, h2⟩ := hown
  have hk := below_alloc W0 (.cells #[u] 38)
  obtain ⟨P, q, rfl, _⟩ := OwnTours.len ht
  refine wpList_append_own _ hgd s x 22 ho B 38 i0 (.agg #[.slice none 0 0]) 1 24 Tryd.underlying22 hi hz0 hz1 hz2 rfl (by decide) v p.length us hs (h1.alloc _) ⟨W0.heap.size, 0, none⟩ 1 1 [.slice P d.length q] hx rfl (one_cell _ _ _) (by intro u hu; simp at hu; subst hu; rfl) (by unfold maxLen; omega) (by omega) (by simp; omega) ?_
  intro v' w' g1 g2 _
  have hq := OwnDays.more ⟨us, own_keep h1 hk, h2.mono fun d u hr => OwnTours.keep hr hk⟩ (own_keep h1 hk) (h2.mono fun d u hr => OwnTours.keep hr hk) g2 (OwnTours.keep ht hk) g1
  obtain ⟨P', k', rfl, _⟩ := OwnDays.len hq
  rw [List.length_append] at hq ⊢
  exact h P' k' w' hq (own_low h1 hB _ g2)
end
end Go.Proofs.YtedkhdnfbdojcaaDoor
end
