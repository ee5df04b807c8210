/- A heap in memory: its things in a slice, its places in a map; what stays of it; nothing of the program but its types' numbers. -/
import Derived.Test.YtgpnpopmlommaaaHeapMap
import Derived.Test.YtgpnpopmlommaaaHeapRows
import Derived.Maps.AppendAt
import Derived.Deep.RegionLaw
namespace Go.Proofs.Ytgpnpopmlommaaa
open Go.RowKit Go.Maps
set_option linter.unusedVariables false
section
variable {α : Type}
/-- Block a holds n things of q, of type e; there is room for c. -/
def RowIs (V : α → Value) (e : TypeId) (w : World) (a c : Nat) (q : Nat → Thing α) (n : Nat) : Prop :=
  ∃ cur, w.heap[a]? = some (.cells cur e (0, 0)) ∧ n ≤ c ∧ c ≤ maxLen ∧ cur.size = c * 2 ∧ ∀ k, k < n → cur[k * 2]? = some (.int .i64 (q k).1) ∧ cur[k * 2 + 1]? = some (V (q k).2)
/-- Where each number stands. -/
def PlaceOf (q : Nat → Thing α) (n : Nat) (f : Int → Option Int) : Prop := ∀ id x, f id = some x ↔ ∃ k : Nat, k < n ∧ x = (k : Int) ∧ (q k).1 = id
/-- Nothing but the blocks of F, and new ones, has turned. -/
structure Only (F : List Nat) (w w' : World) : Prop where
  os : w'.os = w.os
  tape : w'.tape = w.tape
  output : w'.output = w.output
  size : w.heap.size ≤ w'.heap.size
  block : ∀ k, k < w.heap.size → k ∉ F → w'.heap[k]? = w.heap[k]?
theorem Only.refl (F : List Nat) (w : World) : Only F w w := ⟨rfl, rfl, rfl, Nat.le_refl _, fun _ _ _ => rfl⟩
theorem Only.trans {F F' : List Nat} {a b c : World} (h : Only F a b) (k : Only F' b c) (hF : ∀ x ∈ F', x ∈ F ∨ a.heap.size ≤ x) : Only F a c :=
  ⟨k.os.trans h.os, k.tape.trans h.tape, k.output.trans h.output, Nat.le_trans h.size k.size, fun i hi hn => (k.block i (Nat.lt_of_lt_of_le hi h.size) (fun hm => by rcases hF i hm with e | e; exact hn e; omega)).trans (h.block i hi hn)⟩
theorem Only.trans' {F : List Nat} {a b c : World} (h : Only F a b) (k : Only F b c) : Only F a c := h.trans k fun x hx => .inl hx
theorem Only.of_below {F : List Nat} {w w' : World} (h : Below w.heap.size w w') : Only F w w' := ⟨h.os, h.tape, h.output, h.size, fun k hk _ => h.block k hk⟩
theorem Only.of_grown {F : List Nat} {w w' : World} {r : Nat} (h : w.grownBy w' (some r)) (hr : r ∈ F) : Only F w w' := ⟨h.os, h.tape, h.output, h.size, fun k hk hn => h.block k hk (fun e => hn (by cases e; exact hr))⟩
theorem Only.of_grown' {F : List Nat} {w w' : World} {r : Option Nat} (h : w.grownBy w' r) (hr : ∀ k, r = some k → k ∈ F) : Only F w w' := ⟨h.os, h.tape, h.output, h.size, fun k hk hn => h.block k hk (fun e => hn (hr k e.symm))⟩
theorem Only.setCell {F : List Nat} {a w : World} (h : Only F a w) {p : Addr} (hp : p.block ∈ F) (u : Value) : Only F a (w.setCell p u) :=
  h.trans' ⟨rfl, rfl, rfl, by simp [World.setCell], fun k hk hn => Below.heap_setCell _ _ _ _ (fun e => hn (e ▸ hp))⟩
theorem Only.alloc {F : List Nat} {a w : World} (h : Only F a w) (o : Obj) : Only F a (w.alloc o) := h.trans' (.of_below (below_alloc w o))
theorem Only.drew {F : List Nat} {a w : World} (h : Only F a w) : Only F a w.drew := ⟨h.os, h.tape, h.output, h.size, h.block⟩
theorem Only.below {F : List Nat} {a w w' : World} (h : Only F a w) (hb : Below w.heap.size w w') : Only F a w' := h.trans' (.of_below hb)
theorem Only.to_below {F : List Nat} {B : Nat} {w w' : World} (h : Only F w w') (hB : B ≤ w.heap.size) (hF : ∀ x ∈ F, B ≤ x) : Below B w w' :=
  ⟨h.os, h.tape, h.output, h.size, fun k hk => h.block k (by omega) (fun hm => by have := hF k hm; omega)⟩
theorem Only.more {F F' : List Nat} {w w' : World} (h : Only F w w') (hF : ∀ x ∈ F, x ∈ F') : Only F' w w' := ⟨h.os, h.tape, h.output, h.size, fun k hk hn => h.block k hk (fun hm => hn (hF k hm))⟩
/-- The things behind a slice's value, and the blocks that it leads to. -/
def Things (V : α → Value) (e : TypeId) (w : World) (s : Value) (q : Nat → Thing α) (n : Nat) (G : List Nat) : Prop :=
  (s = .slice none 0 0 ∧ n = 0 ∧ G = []) ∨ ∃ a c, s = .slice (some ⟨a, 0, none⟩) n c ∧ G = [a] ∧ RowIs V e w a c q n
/-- At block g lies a heap's row: n things of q; F: its blocks. -/
def HeapIs (V : α → Value) (W : α → Prop) (eh e : TypeId) (w : World) (g : Nat) (F : List Nat) (q : Nat → Thing α) (n : Nat) : Prop :=
  ∃ s m G f, BlkIs w g eh #[s, .map (some m)] ∧ Things V e w s q n G ∧ MapIs w m n f ∧ PlaceOf q n f ∧ F = g :: m :: G ∧ n ≤ 1048576 ∧ ∀ k, k < n → (Lit.int .i64 (q k).1).wf = true ∧ W (q k).2
variable {V : α → Value} {W : α → Prop} {eh e : TypeId} {w w' : World} {g a c n : Nat} {F : List Nat} {q : Nat → Thing α}
theorem RowIs.lt (h : RowIs V e w a c q n) : a < w.heap.size := by
  obtain ⟨cur, hb, _⟩ := h
  rcases Nat.lt_or_ge a w.heap.size with hlt | hge
  · exact hlt
  · rw [Array.getElem?_eq_none hge] at hb; cases hb
theorem RowIs.keep (h : RowIs V e w a c q n) (hb : w'.heap[a]? = w.heap[a]?) : RowIs V e w' a c q n := by
  obtain ⟨cur, h1, r⟩ := h
  exact ⟨cur, hb.trans h1, r⟩
theorem RowIs.cell (h : RowIs V e w a c q n) {k : Nat} (hk : k < n) : w.cell? ⟨a, k * 2, none⟩ = some (.int .i64 (q k).1) ∧ w.cell? ⟨a, k * 2 + 1, none⟩ = some (V (q k).2) := by
  obtain ⟨cur, h1, _, _, _, h2⟩ := h
  obtain ⟨g1, g2⟩ := h2 k hk
  simp [World.cell?, h1, g1, g2]
theorem RowIs.free (h : RowIs V e w a c q n) (i : Nat) : w.frozen? ⟨a, i, none⟩ = false := by
  obtain ⟨cur, h1, _⟩ := h
  simp [World.frozen?, h1]
/-- Another thing at place k. -/
def upd (q : Nat → Thing α) (k : Nat) (x : Thing α) : Nat → Thing α := fun j => if j = k then x else q j
theorem RowIs.put (h : RowIs V e w a c q n) {k : Nat} (x : Thing α) : RowIs V e ((w.setCell ⟨a, k * 2, none⟩ (.int .i64 x.1)).setCell ⟨a, k * 2 + 1, none⟩ (V x.2)) a c (upd q k x) n := by
  obtain ⟨cur, h1, h2, h3, h4, h5⟩ := h
  refine ⟨(cur.setIfInBounds (k * 2) (.int .i64 x.1)).setIfInBounds (k * 2 + 1) (V x.2), ?_, h2, h3, by simpa using h4, fun j hj => ?_⟩
  · simp [World.setCell, Array.getElem?_modify, h1]
  · obtain ⟨g1, g2⟩ := h5 j hj
    have hlt : j * 2 + 1 < cur.size := by omega
    unfold upd
    by_cases e : j = k
    · subst e
      rw [if_pos rfl]
      constructor
      · rw [Array.getElem?_setIfInBounds_ne (by omega), Array.getElem?_setIfInBounds_self_of_lt (by omega)]
      · rw [Array.getElem?_setIfInBounds_self_of_lt (by simp; omega)]
    · rw [if_neg e]
      constructor
      · rw [Array.getElem?_setIfInBounds_ne (by omega), Array.getElem?_setIfInBounds_ne (by omega)]; exact g1
      · rw [Array.getElem?_setIfInBounds_ne (by omega), Array.getElem?_setIfInBounds_ne (by omega)]; exact g2
theorem upd_two (q : Nat → Thing α) (i j : Nat) : upd (upd q i (q j)) j (q i) = sw q i j := by
  funext k
  unfold upd sw
  by_cases h1 : k = i
  · subst h1
    by_cases h2 : k = j
    · subst h2; simp
    · simp [h2]
  · simp [h1]
theorem RowIs.swap (h : RowIs V e w a c q n) {i j : Nat} {x y : Thing α} (hx : x = q i) (hy : y = q j) : RowIs V e (((((w.setCell ⟨a, i * 2, none⟩ (.int .i64 y.1)).setCell ⟨a, i * 2 + 1, none⟩ (V y.2)).setCell ⟨a, j * 2, none⟩ (.int .i64 x.1)).setCell ⟨a, j * 2 + 1, none⟩ (V x.2)).drew) a c (sw q i j) n := by
  subst hx; subst hy
  have := (h.put (k := i) (q j)).put (k := j) (q i)
  rw [upd_two] at this
  exact this
theorem four_only (w : World) (a : Nat) (o1 o2 o3 o4 : Nat) (u1 u2 u3 u4 : Value) : Only [a] w ((((w.setCell ⟨a, o1, none⟩ u1).setCell ⟨a, o2, none⟩ u2).setCell ⟨a, o3, none⟩ u3).setCell ⟨a, o4, none⟩ u4).drew :=
  (((((Only.refl [a] w).setCell (p := ⟨a, o1, none⟩) (by simp) _).setCell (p := ⟨a, o2, none⟩) (by simp) _).setCell (p := ⟨a, o3, none⟩) (by simp) _).setCell (p := ⟨a, o4, none⟩) (by simp) _).drew
theorem PlaceOf.none {q : Nat → Thing α} {f : Int → Option Int} (h : PlaceOf q n f) {id : Int} (hf : f id = none) : ∀ k, k < n → (q k).1 ≠ id := fun k hk e => by
  have := (h id k).2 ⟨k, hk, rfl, e⟩
  rw [hf] at this; cases this
theorem PlaceOf.at {q : Nat → Thing α} {f : Int → Option Int} (h : PlaceOf q n f) {k : Nat} (hk : k < n) : f (q k).1 = some (k : Int) := (h _ _).2 ⟨k, hk, rfl, rfl⟩
theorem PlaceOf.inj {q : Nat → Thing α} {f : Int → Option Int} (h : PlaceOf q n f) {i j : Nat} (hi : i < n) (hj : j < n) (e : (q i).1 = (q j).1) : i = j := by
  have a := h.at hi
  rw [e, h.at hj] at a
  injection a with a; omega
theorem PlaceOf.sw {q : Nat → Thing α} {f : Int → Option Int} (h : PlaceOf q n f) {i j : Nat} (hi : i < n) (hj : j < n) : PlaceOf (sw q i j) n (updF (updF f (q j).1 (some (i : Int))) (q i).1 (some (j : Int))) := by
  intro id x
  unfold updF
  by_cases e1 : id = (q i).1
  · subst e1
    rw [if_pos rfl]
    constructor
    · intro e; cases e
      exact ⟨j, hj, rfl, by rw [sw_right]⟩
    · rintro ⟨k, hk, rfl, e⟩
      congr 1
      by_cases ek : k = i
      · subst ek
        rw [sw_left] at e
        rw [h.inj hj hi e]
      · by_cases ek2 : k = j
        · rw [ek2]
        · rw [sw_other q ek ek2] at e
          exact absurd (h.inj hk hi e) ek
  · rw [if_neg e1]
    by_cases e2 : id = (q j).1
    · subst e2
      rw [if_pos rfl]
      constructor
      · intro e; cases e
        exact ⟨i, hi, rfl, by rw [sw_left]⟩
      · rintro ⟨k, hk, rfl, e⟩
        congr 1
        by_cases ek : k = i
        · rw [ek]
        · by_cases ek2 : k = j
          · subst ek2
            rw [sw_right] at e
            exact absurd e.symm e1
          · rw [sw_other q ek ek2] at e
            exact absurd (h.inj hk hj e) ek2
    · rw [if_neg e2, h id x]
      constructor
      · rintro ⟨k, hk, rfl, e⟩
        refine ⟨k, hk, rfl, ?_⟩
        rw [sw_other q (fun a => e1 (by rw [← e, a])) (fun a => e2 (by rw [← e, a]))]
        exact e
      · rintro ⟨k, hk, rfl, e⟩
        by_cases ek : k = i
        · subst ek; rw [sw_left] at e; exact absurd e.symm e2
        · by_cases ek2 : k = j
          · subst ek2; rw [sw_right] at e; exact absurd e.symm e1
          · rw [sw_other q ek ek2] at e
            exact ⟨k, hk, rfl, e⟩
theorem PlaceOf.push {q : Nat → Thing α} {f : Int → Option Int} (h : PlaceOf q n f) {x : Thing α} (hx : f x.1 = Option.none) : PlaceOf (upd q n x) (n + 1) (updF f x.1 (some (n : Int))) := by
  intro id y
  unfold updF upd
  by_cases e : id = x.1
  · subst e
    rw [if_pos rfl]
    constructor
    · intro e; cases e
      exact ⟨n, by omega, rfl, by rw [if_pos rfl]⟩
    · rintro ⟨k, hk, rfl, e⟩
      by_cases ek : k = n
      · rw [ek]
      · rw [if_neg ek] at e
        exact absurd e (h.none hx k (by omega))
  · rw [if_neg e, h id y]
    constructor
    · rintro ⟨k, hk, rfl, e2⟩
      exact ⟨k, by omega, rfl, by rw [if_neg (by omega)]; exact e2⟩
    · rintro ⟨k, hk, rfl, e2⟩
      by_cases ek : k = n
      · subst ek; rw [if_pos rfl] at e2; exact absurd e2.symm e
      · rw [if_neg ek] at e2
        exact ⟨k, by omega, rfl, e2⟩
theorem PlaceOf.pop {q : Nat → Thing α} {f : Int → Option Int} (h : PlaceOf q (n + 1) f) : PlaceOf q n (updF f (q n).1 Option.none) := by
  intro id y
  unfold updF
  by_cases e : id = (q n).1
  · rw [if_pos e]
    constructor
    · intro e; cases e
    · rintro ⟨k, hk, rfl, e2⟩
      have := h.inj (i := k) (j := n) (by omega) (by omega) (e2.trans e)
      omega
  · rw [if_neg e, h id y]
    constructor
    · rintro ⟨k, hk, rfl, e2⟩
      refine ⟨k, ?_, rfl, e2⟩
      rcases Nat.lt_or_ge k n with a | a
      · exact a
      · have : k = n := by omega
        subst this; exact absurd e2.symm e
    · rintro ⟨k, hk, rfl, e2⟩
      exact ⟨k, by omega, rfl, e2⟩
theorem PlaceOf.fresh (q : Nat → Thing α) : PlaceOf q 0 (fun _ => Option.none) := fun id x => ⟨fun e => (by cases e), fun ⟨k, hk, _⟩ => (by omega)⟩
theorem HeapIs.blocks (h : HeapIs V W eh e w g F q n) : ∀ b ∈ F, b < w.heap.size := by
  obtain ⟨s, m, G, f, hb, ht, hm, hp, rfl, hn, hw⟩ := h
  intro b hbm
  rcases List.mem_cons.1 hbm with rfl | hbm
  · exact hb.lt
  · rcases List.mem_cons.1 hbm with rfl | hbm
    · exact hm.lt
    · rcases ht with ⟨_, _, rfl⟩ | ⟨a, c, _, rfl, hr⟩
      · cases hbm
      · rcases List.mem_cons.1 hbm with rfl | hbm
        · exact hr.lt
        · cases hbm
theorem HeapIs.keep (h : HeapIs V W eh e w g F q n) (hb : ∀ b ∈ F, w'.heap[b]? = w.heap[b]?) : HeapIs V W eh e w' g F q n := by
  obtain ⟨s, m, G, f, h1, ht, hm, hp, rfl, hn, hw⟩ := h
  refine ⟨s, m, G, f, (hb g (by simp)).trans h1, ?_, hm.keep (hb m (by simp)), hp, rfl, hn, hw⟩
  rcases ht with hl | ⟨a, c, e1, rfl, hr⟩
  · exact .inl hl
  · exact .inr ⟨a, c, e1, rfl, hr.keep (hb a (by simp))⟩
theorem HeapIs.below (h : HeapIs V W eh e w g F q n) (hb : Below w.heap.size w w') : HeapIs V W eh e w' g F q n := h.keep fun b hbm => hb.block b (h.blocks b hbm)
theorem HeapIs.only {F' : List Nat} (h : HeapIs V W eh e w g F q n) (ho : Only F' w w') (hd : ∀ b ∈ F, b ∉ F') : HeapIs V W eh e w' g F q n := h.keep fun b hbm => ho.block b (h.blocks b hbm) (hd b hbm)
theorem HeapIs.size (h : HeapIs V W eh e w g F q n) : n ≤ 1048576 := by
  obtain ⟨s, m, G, f, h1, ht, hm, hp, rfl, hn, hw⟩ := h
  exact hn
theorem HeapIs.congr {r : Nat → Thing α} (h : HeapIs V W eh e w g F q n) (hr : ∀ k, k < n → r k = q k) : HeapIs V W eh e w g F r n := by
  obtain ⟨s, m, G, f, h1, ht, hm, hp, rfl, hn, hw⟩ := h
  refine ⟨s, m, G, f, h1, ?_, hm, ?_, rfl, hn, fun k hk => by rw [hr k hk]; exact hw k hk⟩
  · rcases ht with hl | ⟨a, c, e1, rfl, cur, g1, g2, g3, g4, g5⟩
    · exact .inl hl
    · exact .inr ⟨a, c, e1, rfl, cur, g1, g2, g3, g4, fun k hk => by rw [hr k hk]; exact g5 k hk⟩
  · intro id x
    rw [hp id x]
    constructor
    · rintro ⟨k, hk, rfl, e2⟩; exact ⟨k, hk, rfl, by rw [hr k hk]; exact e2⟩
    · rintro ⟨k, hk, rfl, e2⟩; exact ⟨k, hk, rfl, by rw [← hr k hk]; exact e2⟩
theorem BlkIs.only {F' : List Nat} {t : TypeId} {cs : Array Value} (h : BlkIs w g t cs) (ho : Only F' w w') (hd : g ∉ F') : BlkIs w' g t cs := (ho.block g h.lt hd).trans h
theorem RowIs.only {F' : List Nat} (h : RowIs V e w a c q n) (ho : Only F' w w') (hd : a ∉ F') : RowIs V e w' a c q n := h.keep (ho.block a h.lt hd)
theorem MapIs.only {F' : List Nat} {m : Nat} {f : Int → Option Int} (h : MapIs w m n f) (ho : Only F' w w') (hd : m ∉ F') : MapIs w' m n f := h.keep (ho.block m h.lt hd)
/-- A heap's blocks are three. -/
theorem three_apart {t : TypeId} {cs : Array Value} {m : Nat} {f : Int → Option Int} (hb : BlkIs w g t cs) (hm : MapIs w m n f) (hr : RowIs V e w a c q n) (ht : t ≠ e) : g ≠ m ∧ g ≠ a ∧ m ≠ a := by
  obtain ⟨es, clock, hm⟩ := hm.block
  obtain ⟨cur, h1, _⟩ := hr
  unfold BlkIs at hb
  refine ⟨fun e => ?_, fun e => ?_, fun e => ?_⟩
  · subst e; rw [hb] at hm; injection hm with hm; injection hm
  · subst e; rw [hb] at h1; injection h1 with h1; injection h1 with _ h1; exact ht h1
  · subst e; rw [hm] at h1; injection h1 with h1; injection h1
theorem two_apart {t : TypeId} {cs : Array Value} {m : Nat} {f : Int → Option Int} (hb : BlkIs w g t cs) (hm : MapIs w m n f) : g ≠ m := by
  obtain ⟨es, clock, hm⟩ := hm.block
  unfold BlkIs at hb
  intro e
  subst e; rw [hb] at hm; injection hm with hm; injection hm
/-- The cells of a slice of things. -/
def CellsAre (V : α → Value) (q : Nat → Thing α) (n : Nat) (xs : List Value) : Prop := ∀ k, k < n → xs[k * 2]? = some (.int .i64 (q k).1) ∧ xs[k * 2 + 1]? = some (V (q k).2)
theorem Things.own {s : Value} {G : List Nat} (h : Things V e w s q n G) : ∃ xs, w.ownsRow 0 e 2 s n xs ∧ CellsAre V q n xs ∧ ∀ k, s.ownBlock = some k → G = [k] := by
  rcases h with ⟨rfl, rfl, rfl⟩ | ⟨a, c, rfl, rfl, cur, h1, h2, h3, h4, h5⟩
  · exact ⟨[], World.ownsRow_nil _ _ _ _, fun k hk => by omega, fun k hk => by cases hk⟩
  · refine ⟨cur.toList.take (n * 2), ⟨?_, .inr ⟨a, c, cur, rfl, Nat.zero_le _, h1, h2, h3, h4, rfl⟩⟩, fun k hk => ?_, fun k hk => ?_⟩
    · rw [List.length_take_of_le (by simp; omega)]
    · obtain ⟨g1, g2⟩ := h5 k hk
      rw [List.getElem?_take_of_lt (by omega), List.getElem?_take_of_lt (by omega)]
      simpa using ⟨g1, g2⟩
    · simp [Value.ownBlock] at hk; rw [hk]
theorem Things.of_own {s : Value} {xs : List Value} (h : w.ownsRow 0 e 2 s n xs) (hx : CellsAre V q n xs) (hn : 0 < n) : ∃ a c, s = .slice (some ⟨a, 0, none⟩) n c ∧ s.ownBlock = some a ∧ Things V e w s q n [a] := by
  rcases h.2 with ⟨rfl, rfl⟩ | ⟨a, c, cur, rfl, _, h1, h2, h3, h4, h5⟩
  · omega
  · refine ⟨a, c, rfl, rfl, .inr ⟨a, c, rfl, rfl, cur, h1, h2, h3, h4, fun k hk => ?_⟩⟩
    obtain ⟨g1, g2⟩ := hx k hk
    rw [← h5, List.getElem?_take_of_lt (by omega), Array.getElem?_toList] at g1 g2
    exact ⟨g1, g2⟩
theorem CellsAre.push {xs : List Value} (h : CellsAre V q n xs) (hl : xs.length = n * 2) (x : Thing α) : CellsAre V (upd q n x) (n + 1) (xs ++ [.int .i64 x.1, V x.2]) := by
  intro k hk
  unfold upd
  by_cases e : k = n
  · subst e
    rw [if_pos rfl, List.getElem?_append_right (by omega), List.getElem?_append_right (by omega), hl]
    have e1 : k * 2 - k * 2 = 0 := by omega
    have e2 : k * 2 + 1 - k * 2 = 1 := by omega
    rw [e1, e2]
    exact ⟨rfl, rfl⟩
  · rw [if_neg e, List.getElem?_append_left (by omega), List.getElem?_append_left (by omega)]
    exact h k (by omega)
theorem Things.below {s : Value} {G : List Nat} (h : Things V e w s q n G) (hb : Below w.heap.size w w') : Things V e w' s q n G := by
  rcases h with h | ⟨a, c, rfl, rfl, hr⟩
  · exact .inl h
  · exact .inr ⟨a, c, rfl, rfl, hr.keep (hb.block a hr.lt)⟩
end
theorem Things.form {α : Type} {V : α → Value} {e : TypeId} {w : World} {q : Nat → Thing α} {n : Nat} {s : Value} {G : List Nat} (h : Things V e w s q n G) : ∃ A c, s = .slice A n c := by
  rcases h with ⟨rfl, rfl, rfl⟩ | ⟨a, c, rfl, rfl, hr⟩
  · exact ⟨_, _, rfl⟩
  · exact ⟨_, _, rfl⟩
theorem Things.apart {α : Type} {V : α → Value} {e : TypeId} {w : World} {q : Nat → Thing α} {n g m : Nat} {s : Value} {G : List Nat} {t : TypeId} {cs : Array Value} {f : Int → Option Int} {N : Nat} (h : Things V e w s q n G) (hb : BlkIs w g t cs) (hm : MapIs w m N f) (ht : t ≠ e) : g ∉ G ∧ m ∉ G ∧ g ≠ m := by
  rcases h with ⟨rfl, rfl, rfl⟩ | ⟨a, c, rfl, rfl, hr⟩
  · exact ⟨by simp, by simp, two_apart hb hm⟩
  · have hgm := two_apart hb hm
    obtain ⟨es, clock, hm⟩ := hm.block
    obtain ⟨cur, h1, _⟩ := hr
    unfold BlkIs at hb
    refine ⟨fun e => ?_, fun e => ?_, hgm⟩
    · rw [List.mem_singleton] at e; subst e; rw [hb] at h1; injection h1 with h1; injection h1 with _ h1; exact ht h1
    · rw [List.mem_singleton] at e; subst e; rw [hm] at h1; injection h1 with h1; injection h1
theorem Things.only {α : Type} {V : α → Value} {e : TypeId} {w w' : World} {q : Nat → Thing α} {n : Nat} {s : Value} {G F' : List Nat} (h : Things V e w s q n G) (ho : Only F' w w') (hd : ∀ a ∈ G, a ∉ F') : Things V e w' s q n G := by
  rcases h with h | ⟨a, c, rfl, rfl, hr⟩
  · exact .inl h
  · exact .inr ⟨a, c, rfl, rfl, hr.only ho (hd a (by simp))⟩
/-- append onto a slice of the call's own, at a step of a region that draws its order. -/
theorem step_append_own {P : Program} {ops : Array Oper} {o : Oper} {a : Act} {w : World} {K : Act → World → Prop} {Q : Exit → Act → World → Prop} {E : Prop}
    (hg : o.guard = none) (s x : Operand) (t : TypeId) (hop : o.op = Op.call { callee := Callee.builtin Builtin.append, args := #[s, x], argTypes := #[t, t] })
    (base : Nat) (e : TypeId) (i : TypeInfo) (z : Value) (size bytes : Nat) (h1 : P.underlying t = some (.slice e)) (h2 : P.info? e = some i) (h3 : i.zero = some z) (h4 : i.size = size) (h5 : i.bytes = bytes) (h6 : z.cells.size = size) (h7 : 0 < size)
    (v : Value) (n : Nat) (xs : List Value) (hs : a.eval s = v) (hown : w.ownsRow base e size v n xs)
    (ad : Addr) (m c : Nat) (news : List Value) (hx : a.eval x = .slice (some ad) m c) (hn : news.length = m * size) (hc : ∀ j u, news[j]? = some u → w.cell? (ad.add j) = some u) (h1c : ∀ u ∈ news, u.oneCell' = true)
    (b1 : n + m ≤ maxLen) (b2 : (n + m) * bytes ≤ 140737488355328) (hbase : base ≤ w.heap.size)
    (hK : ∀ v' w', w'.ownsRow base e size v' (n + m) (xs ++ news) → w.grownBy w' v.ownBlock → (v'.ownBlock = v.ownBlock ∨ v'.ownBlock = some w.heap.size) → K (a.put o.dst v') w') :
    if Region.wanted o (yielded ops a.tmps) = true then Oper.wp P o a w K Q else E := by
  have hw : Region.wanted o (yielded ops a.tmps) = true := by simp [Region.wanted, hg]
  rw [if_pos hw]
  obtain ⟨v', w', hrun, r1, r2, _, r3⟩ := run_append_own_at (P := P) w base t o.type e i z size bytes h1 h2 h3 h4 h5 h6 h7 v n xs hown ad m c news hn hc h1c b1 b2 hbase
  unfold Oper.wp
  simp [execOp, hop, resolve, invoke, builtin, hs, hx, hrun, Result.andThen]
  exact hK v' w' r1 r2 r3
end Go.Proofs.Ytgpnpopmlommaaa
