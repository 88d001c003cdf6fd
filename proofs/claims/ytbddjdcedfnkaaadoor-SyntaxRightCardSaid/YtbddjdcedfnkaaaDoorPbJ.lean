/- The nodes that the statement on Right puts together, told plainly, and in memory. The statement on Right: the walk. -/
import Derived.Test.YtbddjdcedfnkaaaDoorPbH
import Derived.Deep.CutBlock
namespace Go.Proofs.YtbddjdcedfnkaaaDoor
section
open Go Go.RowKit
/-- A part of a sort. -/
def leafT (s : W4) : Tr := .mk 1 s 0 0 false 0 0 []
def emptyT : Tr := .mk 0 noW 0 0 false 0 0 []
def childT (s : W4) (x : Int) : Tr :=
  if x = 1 then leafT s else if x = 2 ∨ x = 3 then .mk x noW 0 0 false 0 0 [emptyT] else if x = 4 ∨ x = 5 then .mk x noW 0 0 false 0 0 [leafT noW, leafT s] else emptyT
def noneB (l : List Int) : Bool := l.any fun x => !(decide (x = 1) || (decide (x = 2 ∨ x = 3) || decide (x = 4 ∨ x = 5)))
def catsB (l : List Int) : Bool := l.any fun x => decide (x = 4)
def altsB (l : List Int) : Bool := l.any fun x => decide (x = 5)
theorem any_snoc {α : Type} (p : α → Bool) (l : List α) (j : Nat) (x : α) (h : l[j]? = some x) : (l.take (j + 1)).any p = ((l.take j).any p || p x) := by
  rw [List.take_add_one, h, List.any_append]; simp
theorem map_snoc {α β : Type} (f : α → β) (l : List α) (j : Nat) (x : α) (h : l[j]? = some x) : (l.take (j + 1)).map f = (l.take j).map f ++ [f x] := by
  rw [List.take_add_one, h, List.map_append]; rfl
theorem nd_leaf {w : World} {A : Nat → Prop} {q : Nat} {k : Int} {s : W4} (hA : A q) (h : w.heap[q]? = some (ndOb k s 0 0 false (.slice none 0 0) 0 0)) : NdAt w A (.mk k s 0 0 false 0 0 []) (ndPtr q) :=
  .node k s 0 0 false 0 0 [] q none 0 (fun _ => undef) hA h (fun i t hi => by simp at hi) (fun i t hi => by simp at hi)
theorem nd_two {w : World} {A : Nat → Prop} {q c q1 q2 : Nat} {k : Int} {t1 t2 : Tr} {ty : TypeId} (hA : A q) (hc : A c) (hq : w.heap[q]? = some (ndOb k noW 0 0 false (.slice (some ⟨c, 0, none⟩) 2 2) 0 0)) (hcc : w.heap[c]? = some (.cells #[ndPtr q1, ndPtr q2] ty))
    (h1 : NdAt w A t1 (ndPtr q1)) (h2 : NdAt w A t2 (ndPtr q2)) : NdAt w A (.mk k noW 0 0 false 0 0 [t1, t2]) (ndPtr q) := by
  refine .node k noW 0 0 false 0 0 [t1, t2] q (some ⟨c, 0, none⟩) 2 (fun i => if i = 0 then ndPtr q1 else ndPtr q2) hA hq (fun i t' hi => ?_) (fun i t' hi => ?_)
  · match i, hi with
    | 0, hi => exact ⟨c, rfl, hc, Reg.size_of_get hcc, Joins.cell_of_block hcc 0⟩
    | 1, hi => exact ⟨c, rfl, hc, Reg.size_of_get hcc, Joins.cell_of_block hcc 1⟩
    | i + 2, hi => simp at hi
  · match i, hi with
    | 0, hi =>
      obtain rfl : t1 = t' := by simpa using hi
      exact h1
    | 1, hi =>
      obtain rfl : t2 = t' := by simpa using hi
      exact h2
    | i + 2, hi => simp at hi
/-- .. while two sets, their slice, and the node that holds them are laid, as operations 5, 8, 9 and 11. -/
abbrev Gh4 := Nat × Nat × Nat × Nat
structure NdQ (W : World) (s : W4) (x : Int) (g : Gh4) (l : Array Bool) (X : World) : Prop where
  bel : Below W.heap.size W X
  a5 : l.getD 5 false = true → X.heap[g.1]? = some (ndOb 1 noW 0 0 false (.slice none 0 0) 0 0) ∧ W.heap.size ≤ g.1
  a8 : l.getD 8 false = true → X.heap[g.2.1]? = some (ndOb 1 s 0 0 false (.slice none 0 0) 0 0) ∧ W.heap.size ≤ g.2.1
  a9 : l.getD 9 false = true → X.heap[g.2.2.1]? = some (.cells #[ndPtr g.1, ndPtr g.2.1] 27) ∧ W.heap.size ≤ g.2.2.1
  a11 : l.getD 11 false = true → X.heap[g.2.2.2]? = some (ndOb x noW 0 0 false (.slice (some ⟨g.2.2.1, 0, none⟩) 2 2) 0 0) ∧ W.heap.size ≤ g.2.2.2
  o9 : l.getD 9 false = true → l.getD 5 false = true ∧ l.getD 8 false = true
  o10 : l.getD 10 false = true → l.getD 9 false = true
  o11 : l.getD 11 false = true → l.getD 10 false = true
  o12 : l.getD 12 false = true → l.getD 11 false = true
theorem NdQ.up {W : World} {s : W4} {x : Int} {g : Gh4} {i : Nat} {l : Array Bool} {X Y : World} (h : NdQ W s x g l X) (h5 : i ≠ 5) (h8 : i ≠ 8) (h9 : i ≠ 9) (h11 : i ≠ 11) (h10 : i = 10 → l.getD 9 false = true) (h12 : i = 12 → l.getD 11 false = true) (hb : Below X.heap.size X Y) : NdQ W s x g (l.setIfInBounds i true) Y := by
  refine ⟨h.bel.trans (hb.mono h.bel.size), fun e => ?_, fun e => ?_, fun e => ?_, fun e => ?_, fun e => ?_, fun e => ?_, fun e => ?_, fun e => ?_⟩
  · rw [getD_set_ne false h5] at e; exact ⟨below_kept hb (h.a5 e).1, (h.a5 e).2⟩
  · rw [getD_set_ne false h8] at e; exact ⟨below_kept hb (h.a8 e).1, (h.a8 e).2⟩
  · rw [getD_set_ne false h9] at e; exact ⟨below_kept hb (h.a9 e).1, (h.a9 e).2⟩
  · rw [getD_set_ne false h11] at e; exact ⟨below_kept hb (h.a11 e).1, (h.a11 e).2⟩
  · rw [getD_set_ne false h9] at e; exact ⟨getD_set_true (h.o9 e).1, getD_set_true (h.o9 e).2⟩
  · by_cases hi : i = 10
    · exact getD_set_true (h10 hi)
    · rw [getD_set_ne false hi] at e; exact getD_set_true (h.o10 e)
  · rw [getD_set_ne false h11] at e; exact getD_set_true (h.o11 e)
  · by_cases hi : i = 12
    · exact getD_set_true (h12 hi)
    · rw [getD_set_ne false hi] at e; exact getD_set_true (h.o12 e)
section
variable {W : World} {s : W4} {x : Int} {g : Gh4} {l : Array Bool} {X : World} {v : Value} {told : Gh4 → Nat → Value}
theorem NdQ.made5 (h : NdQ W s x g l X) (_hin : 5 < l.size) (hun : ¬ l.getD 5 false = true) (hsame : ∀ q' i, i ≠ 5 → told (q', g.2.1, g.2.2.1, g.2.2.2) i = told g i) (hv : v = told (X.heap.size, g.2.1, g.2.2.1, g.2.2.2) 5) :
    Reg.GoodG told (NdQ W s x) 5 g l v (X.alloc (ndOb 1 noW 0 0 false (.slice none 0 0) 0 0)) := by
  have n9 : ¬ l.getD 9 false = true := fun e => hun (h.o9 e).1
  have n10 : ¬ l.getD 10 false = true := fun e => n9 (h.o10 e)
  have n11 : ¬ l.getD 11 false = true := fun e => n10 (h.o11 e)
  have n12 : ¬ l.getD 12 false = true := fun e => n11 (h.o12 e)
  have hb := below1 X (ndOb 1 noW 0 0 false (.slice none 0 0) 0 0)
  refine ⟨(X.heap.size, g.2.1, g.2.2.1, g.2.2.2), fun i hi => hsame _ i (fun e => hun (e ▸ hi)), hv, ⟨h.bel.trans (hb.mono h.bel.size), fun _ => ⟨heap_new _ _, h.bel.size⟩, fun e => ?_, fun e => ?_, fun e => ?_, fun e => ?_, fun e => ?_, fun e => ?_, fun e => ?_⟩⟩
  · rw [getD_set_ne false (by decide)] at e; exact ⟨below_kept hb (h.a8 e).1, (h.a8 e).2⟩
  · rw [getD_set_ne false (by decide)] at e; exact absurd e n9
  · rw [getD_set_ne false (by decide)] at e; exact absurd e n11
  · rw [getD_set_ne false (by decide)] at e; exact absurd e n9
  · rw [getD_set_ne false (by decide)] at e; exact absurd e n10
  · rw [getD_set_ne false (by decide)] at e; exact absurd e n11
  · rw [getD_set_ne false (by decide)] at e; exact absurd e n12
theorem NdQ.made8 (h : NdQ W s x g l X) (_hin : 8 < l.size) (hun : ¬ l.getD 8 false = true) (hsame : ∀ q' i, i ≠ 8 → told (g.1, q', g.2.2.1, g.2.2.2) i = told g i) (hv : v = told (g.1, X.heap.size, g.2.2.1, g.2.2.2) 8) :
    Reg.GoodG told (NdQ W s x) 8 g l v (X.alloc (ndOb 1 s 0 0 false (.slice none 0 0) 0 0)) := by
  have n9 : ¬ l.getD 9 false = true := fun e => hun (h.o9 e).2
  have n10 : ¬ l.getD 10 false = true := fun e => n9 (h.o10 e)
  have n11 : ¬ l.getD 11 false = true := fun e => n10 (h.o11 e)
  have n12 : ¬ l.getD 12 false = true := fun e => n11 (h.o12 e)
  have hb := below1 X (ndOb 1 s 0 0 false (.slice none 0 0) 0 0)
  refine ⟨(g.1, X.heap.size, g.2.2.1, g.2.2.2), fun i hi => hsame _ i (fun e => hun (e ▸ hi)), hv, ⟨h.bel.trans (hb.mono h.bel.size), fun e => ?_, fun _ => ⟨heap_new _ _, h.bel.size⟩, fun e => ?_, fun e => ?_, fun e => ?_, fun e => ?_, fun e => ?_, fun e => ?_⟩⟩
  · rw [getD_set_ne false (by decide)] at e; exact ⟨below_kept hb (h.a5 e).1, (h.a5 e).2⟩
  · rw [getD_set_ne false (by decide)] at e; exact absurd e n9
  · rw [getD_set_ne false (by decide)] at e; exact absurd e n11
  · rw [getD_set_ne false (by decide)] at e; exact absurd e n9
  · rw [getD_set_ne false (by decide)] at e; exact absurd e n10
  · rw [getD_set_ne false (by decide)] at e; exact absurd e n11
  · rw [getD_set_ne false (by decide)] at e; exact absurd e n12
theorem NdQ.made9 (h : NdQ W s x g l X) (_hin : 9 < l.size) (hun : ¬ l.getD 9 false = true) (h5 : l.getD 5 false = true) (h8 : l.getD 8 false = true) (hsame : ∀ q' i, i ≠ 9 → i ≠ 10 → told (g.1, g.2.1, q', g.2.2.2) i = told g i) (hv : v = told (g.1, g.2.1, X.heap.size, g.2.2.2) 9) :
    Reg.GoodG told (NdQ W s x) 9 g l v (X.alloc (.cells #[ndPtr g.1, ndPtr g.2.1] 27)) := by
  have n10 : ¬ l.getD 10 false = true := fun e => hun (h.o10 e)
  have n11 : ¬ l.getD 11 false = true := fun e => n10 (h.o11 e)
  have n12 : ¬ l.getD 12 false = true := fun e => n11 (h.o12 e)
  have hb := below1 X (.cells #[ndPtr g.1, ndPtr g.2.1] 27)
  refine ⟨(g.1, g.2.1, X.heap.size, g.2.2.2), fun i hi => hsame _ i (fun e => hun (e ▸ hi)) (fun e => n10 (e ▸ hi)), hv, ⟨h.bel.trans (hb.mono h.bel.size), fun e => ?_, fun e => ?_, fun _ => ⟨heap_new _ _, h.bel.size⟩, fun e => ?_, fun e => ⟨getD_set_true h5, getD_set_true h8⟩, fun e => ?_, fun e => ?_, fun e => ?_⟩⟩
  · exact ⟨below_kept hb (h.a5 h5).1, (h.a5 h5).2⟩
  · exact ⟨below_kept hb (h.a8 h8).1, (h.a8 h8).2⟩
  · rw [getD_set_ne false (by decide)] at e; exact absurd e n11
  · rw [getD_set_ne false (by decide)] at e; exact absurd e n10
  · rw [getD_set_ne false (by decide)] at e; exact absurd e n11
  · rw [getD_set_ne false (by decide)] at e; exact absurd e n12
theorem NdQ.made11 (h : NdQ W s x g l X) (hin : 11 < l.size) (hun : ¬ l.getD 11 false = true) (h10 : l.getD 10 false = true) (hsame : ∀ q' i, i ≠ 11 → i ≠ 12 → told (g.1, g.2.1, g.2.2.1, q') i = told g i) (hv : v = told (g.1, g.2.1, g.2.2.1, X.heap.size) 11) :
    Reg.GoodG told (NdQ W s x) 11 g l v (X.alloc (ndOb x noW 0 0 false (.slice (some ⟨g.2.2.1, 0, none⟩) 2 2) 0 0)) := by
  have n12 : ¬ l.getD 12 false = true := fun e => hun (h.o12 e)
  have hb := below1 X (ndOb x noW 0 0 false (.slice (some ⟨g.2.2.1, 0, none⟩) 2 2) 0 0)
  have h9 := h.o10 h10
  have h58 := h.o9 h9
  refine ⟨(g.1, g.2.1, g.2.2.1, X.heap.size), fun i hi => hsame _ i (fun e => hun (e ▸ hi)) (fun e => n12 (e ▸ hi)), hv, ⟨h.bel.trans (hb.mono h.bel.size), fun _ => ⟨below_kept hb (h.a5 h58.1).1, (h.a5 h58.1).2⟩, fun _ => ⟨below_kept hb (h.a8 h58.2).1, (h.a8 h58.2).2⟩, fun _ => ⟨below_kept hb (h.a9 h9).1, (h.a9 h9).2⟩, fun _ => ⟨heap_new _ _, h.bel.size⟩, fun _ => ⟨getD_set_true h58.1, getD_set_true h58.2⟩, fun _ => getD_set_true h9, fun _ => getD_set_true h10, fun _ => Reg.set_self hin⟩⟩
end
/-- What is laid at the head of the loop: the set, the node and its parts so far. -/
structure RtInv (w wr : World) (ks : List Int) (s : W4) (kind lo hi : Int) (z : Bool) (j : Nat) : Prop where
  bel : Below w.heap.size w wr
  set : wr.heap[w.heap.size]? = some (.cells #[.int .u64 s.a, .int .u64 s.b, .int .u64 s.c, .int .u64 s.d] 25)
  nd : ∃ us v, NdGr (w.heap.size + 2) ((ks.take j).map (childT s)) us v wr ∧ wr.heap[w.heap.size + 1]? = some (ndOb kind s lo hi z v 0 0)
theorem RtInv.below {w wr w' : World} {ks : List Int} {s : W4} {kind lo hi : Int} {z : Bool} {j : Nat} (h : RtInv w wr ks s kind lo hi z j) (hb : Below wr.heap.size wr w') : RtInv w w' ks s kind lo hi z j := by
  obtain ⟨us, v, h1, h2⟩ := h.nd
  exact ⟨h.bel.trans (hb.mono h.bel.size), below_kept hb h.set, us, v, h1.keep (grown_below (some w.heap.size) hb) (by omega), below_kept hb h2⟩
theorem grown_set (w : World) (g j : Nat) (u : Value) : w.grownBy (w.setCell ⟨g, j, none⟩ u) (some g) :=
  ⟨rfl, rfl, rfl, by simp, fun k _ hne => Below.heap_setCell w ⟨g, j, none⟩ u k (fun e => hne (by rw [e]))⟩
/-- A part put behind the others. -/
theorem RtInv.add {w wr wx w4 : World} {ks : List Int} {s : W4} {kind lo hi : Int} {z : Bool} {j : Nat} {x : Int} {q : Nat} {us : List Value} {v v4 : Value} {o : Obj} (h : RtInv w wr ks s kind lo hi z j) (hx : ks[j]? = some x) (hb : Below wr.heap.size wr wx) (hn : NdAt wx (fun b => wr.heap.size ≤ b) (childT s x) (ndPtr q))
    (hG : NdGr (w.heap.size + 2) ((ks.take j).map (childT s)) us v wr) (hN : wr.heap[w.heap.size + 1]? = some (ndOb kind s lo hi z v 0 0))
    (ho : w4.ownsRow (w.heap.size + 2) 27 1 v4 (((ks.take j).map (childT s)).length + 1) (us ++ [ndPtr q])) (hg : (wx.alloc o).grownBy w4 v.ownBlock) (hat : v4.ownBlock = v.ownBlock ∨ v4.ownBlock = some (wx.alloc o).heap.size) :
    RtInv w (w4.setCell ⟨w.heap.size + 1, 8, none⟩ v4) ks s kind lo hi z (j + 1) := by
  have hGx := hG.keep (grown_below (some w.heap.size) hb) (by omega)
  have hlo : ∀ b, v.ownBlock = some b → b < wr.heap.size := fun b e => (ownsLt hG.own e).2
  have hv2 : ∀ b, v.ownBlock = some b → w.heap.size + 2 ≤ b := fun b e => (ownsLt hG.own e).1
  have hBw : w.heap.size + 2 ≤ wr.heap.size := by have := Reg.size_of_get hN; omega
  have hA := hGx.add hlo hBw hn ho hg hat
  have hsz := hb.size
  have old : ∀ b, b < w.heap.size + 2 → w4.heap[b]? = wr.heap[b]? := fun b hlt => (hg.block b (by rw [World.size_alloc]; omega) (fun e => by have := hv2 b e.symm; omega)).trans (((below1 wx o).block b (by omega)).trans (hb.block b (by omega)))
  have hsz4 := hg.size
  rw [World.size_alloc] at hsz4
  refine ⟨⟨hg.os.trans (hb.os.trans h.bel.os), hg.tape.trans (hb.tape.trans h.bel.tape), hg.output.trans (hb.output.trans h.bel.output), ?_, fun b hlt => ?_⟩, ?_, us ++ [ndPtr q], v4, ?_, ?_⟩
  · have := h.bel.size; simp; omega
  · rw [Below.heap_setCell w4 ⟨w.heap.size + 1, 8, none⟩ v4 b (by show b ≠ w.heap.size + 1; omega), old b (by omega)]; exact h.bel.block b hlt
  · rw [Below.heap_setCell w4 ⟨w.heap.size + 1, 8, none⟩ v4 _ (by show w.heap.size ≠ w.heap.size + 1; omega), old _ (by omega)]; exact h.set
  · rw [map_snoc _ _ _ _ hx]
    exact hA.keep (grown_set w4 (w.heap.size + 1) 8 v4) (by omega)
  · rw [Joins.block_setCell ((old _ (by omega)).trans hN) v4]; rfl
/-- What the statement asks. -/
def wantR (kind : Int) (s : W4) (lo hi : Int) (z : Bool) (ks : List Int) : Bool :=
  (!soundS kind s && !soundN kind lo hi z) &&
  if kind = 0 ∨ kind = 1 then decide (ks.length = 0) else if kind = 2 ∨ kind = 3 then decide (ks.length = 1)
  else if kind = 4 then decide (1 < ks.length) && (!noneB ks && (!catsB ks && !altsB ks)) else if kind = 5 then decide (1 < ks.length) && !altsB ks
  else if kind = 6 then decide (ks.length = 1) && (!noneB ks && (!catsB ks && (!altsB ks && countedR lo hi))) else false
theorem kd_child (s : W4) (x : Int) : kdT (childT s x) = if x = 1 then 1 else if x = 2 ∨ x = 3 then x else if x = 4 ∨ x = 5 then x else 0 := by
  unfold childT; split
  · rfl
  · split
    · rfl
    · split <;> rfl
theorem without_child (s : W4) (ks : List Int) (kinds : List Int) (p : Int → Bool) (hp : ∀ x, (!decide (kdT (childT s x) ∈ kinds)) = p x) : withoutR (ks.map (childT s)) kinds = ks.all p := by
  unfold withoutR
  rw [List.all_map]
  congr 1
  funext x
  exact hp x
theorem sound_child (s : W4) (x : Int) : foldR rightN (childT s x) ≤ 1 := by
  have hl : ∀ s', foldR rightN (leafT s') = 0 := fun s' => by
    rw [foldR_eq]; simp [rightN, leafT, prts, soundR, soundS, soundN, soundK, deepR, maxR]
  have he : foldR rightN emptyT = 0 := by
    rw [foldR_eq]; simp [rightN, emptyT, prts, soundR, soundS, soundN, soundK, deepR, maxR, noSet, noW]
  have hk : ∀ s', kdT (leafT s') = 1 := fun _ => rfl
  unfold childT
  split
  · rw [hl]; decide
  · split
    · rename_i h
      rw [foldR_eq]
      rcases h with rfl | rfl <;> simp [rightN, prts, soundR, soundS, soundN, soundK, deepR, maxR, noSet, noW, withoutR, he]
    · split
      · rename_i h
        rw [foldR_eq]
        rcases h with rfl | rfl <;> simp [rightN, prts, soundR, soundS, soundN, soundK, deepR, maxR, noSet, noW, withoutR, hl, hk]
      · rw [he]; decide
theorem noSet_iff (s : W4) : noSet s = true ↔ s = noW := by
  cases s with
  | mk a b c d => simp [noSet, noW, and_assoc]
/-- What is asked is what Right tells. -/
theorem want_right (kind : Int) (s : W4) (lo hi : Int) (z : Bool) (ks : List Int) : decide (foldR rightN (.mk kind s lo hi z 0 0 (ks.map (childT s))) ≤ 200) = wantR kind s lo hi z ks := by
  have hle : ∀ x ∈ (ks.map (childT s)).map (foldR rightN), x ≤ 1 := fun x hx => by
    obtain ⟨t, ht, rfl⟩ := List.mem_map.1 hx
    obtain ⟨y, _, rfl⟩ := List.mem_map.1 ht
    exact sound_child s y
  have hd := deepR_bound (.mk kind s lo hi z 0 0 (ks.map (childT s))) _ 1 (by omega) hle
  have hS : decide (foldR rightN (.mk kind s lo hi z 0 0 (ks.map (childT s))) ≤ 200) = soundR (.mk kind s lo hi z 0 0 (ks.map (childT s))) := by
    rw [foldR_eq]
    show decide (rightN _ ((ks.map (childT s)).map (foldR rightN)) ≤ 200) = _
    generalize (ks.map (childT s)).map (foldR rightN) = ps at *
    unfold rightN
    cases h : soundR (.mk kind s lo hi z 0 0 (ks.map (childT s))) with
    | true => rw [if_pos rfl]; exact decide_eq_true (by omega)
    | false => rw [if_neg (by decide)]; rfl
  rw [hS]
  have w0 : withoutR (ks.map (childT s)) [] = true := by rw [without_child s ks [] (fun _ => true) (fun x => by simp)]; simp
  have w4 : withoutR (ks.map (childT s)) [0, 4, 5] = (!noneB ks && (!catsB ks && !altsB ks)) := by
    rw [without_child s ks [0, 4, 5] (fun x => decide (x = 1) || decide (x = 2 ∨ x = 3)) (fun x => by
      rw [kd_child]
      by_cases h1 : x = 1
      · simp [h1]
      · by_cases h2 : x = 2 ∨ x = 3
        · rcases h2 with rfl | rfl <;> simp
        · by_cases h3 : x = 4 ∨ x = 5
          · rcases h3 with rfl | rfl <;> simp
          · simp [h1, h2, h3])]
    unfold noneB catsB altsB
    rw [Bool.eq_iff_iff]
    simp only [List.all_eq_true, Bool.and_eq_true, Bool.not_eq_true', List.any_eq_false]
    constructor
    · intro h
      refine ⟨fun x hx => ?_, fun x hx => ?_, fun x hx => ?_⟩ <;> have := h x hx <;> simp at this ⊢ <;> omega
    · rintro ⟨h1, h2, h3⟩ x hx
      have a := h1 x hx
      have b := h2 x hx
      have c := h3 x hx
      simp at a b c ⊢
      omega
  have w5 : withoutR (ks.map (childT s)) [5] = !altsB ks := by
    rw [without_child s ks [5] (fun x => !decide (x = 5)) (fun x => by
      rw [kd_child]
      by_cases h1 : x = 1
      · simp [h1]
      · by_cases h2 : x = 2 ∨ x = 3
        · rcases h2 with rfl | rfl <;> simp
        · by_cases h3 : x = 4 ∨ x = 5
          · rcases h3 with rfl | rfl <;> simp
          · have : x ≠ 5 := by omega
            rw [if_neg h1, if_neg h2, if_neg h3]
            simp [this])]
    unfold altsB
    rw [Bool.eq_iff_iff]
    simp only [List.all_eq_true, Bool.not_eq_true', List.any_eq_false]
    constructor <;> intro h x hx <;> have := h x hx <;> simpa using this
  have w6 : withoutR (ks.map (childT s)) [0, 4, 5, 6] = (!noneB ks && (!catsB ks && !altsB ks)) := by
    rw [← w4]
    unfold withoutR
    rw [List.all_map, List.all_map]
    congr 1
    funext x
    simp only [Function.comp, kd_child]
    by_cases h1 : x = 1
    · simp [h1]
    · by_cases h2 : x = 2 ∨ x = 3
      · rcases h2 with rfl | rfl <;> simp
      · by_cases h3 : x = 4 ∨ x = 5
        · rcases h3 with rfl | rfl <;> simp
        · simp [h1, h2, h3]
  show (!soundS kind s && (!soundN kind lo hi z && soundK kind lo hi (ks.map (childT s)))) = wantR kind s lo hi z ks
  unfold wantR soundK
  rw [List.length_map, w0, w4, w5, w6]
  simp only [Bool.and_true, Bool.and_assoc]
end
section
open Go Go.RowKit
attribute [local go_sem ↓] Go.wp_at_zero Go.wp_at_succ
attribute [local go_sem] eq4
theorem set_cells4 {W : World} {b : Nat} {x y z u : Int} {ty : TypeId} (h : W.heap[b]? = some (.cells #[.int .u64 x, .int .u64 y, .int .u64 z, .int .u64 u] ty)) : W.cell? ⟨b, 0, none⟩ = some (.int .u64 x) ∧ W.cell? ⟨b, 1, none⟩ = some (.int .u64 y) ∧ W.cell? ⟨b, 2, none⟩ = some (.int .u64 z) ∧ W.cell? ⟨b, 3, none⟩ = some (.int .u64 u) :=
  ⟨Joins.cell_of_block h 0, Joins.cell_of_block h 1, Joins.cell_of_block h 2, Joins.cell_of_block h 3⟩
def q19Told (g o n cap j : Nat) (s : W4) (x : Int) (gh : Gh4) : Nat → Value
  | 0 => .slice (some ⟨g, o, none⟩) n cap
  | 1 => .int .i64 (j : Int)
  | 2 => .pointer (some ⟨g, o + j, none⟩)
  | 3 => .int .i64 x
  | 4 => .agg #[.int .i64 1, .int .u64 noW.a, .int .u64 noW.b, .int .u64 noW.c, .int .u64 noW.d, .int .i64 0, .int .i64 0, .bool false, .slice none 0 0, .int .i64 0, .int .i64 0]
  | 5 => ndPtr gh.1
  | 6 => .agg #[.int .u64 s.a, .int .u64 s.b, .int .u64 s.c, .int .u64 s.d]
  | 7 => .agg #[.int .i64 1, .int .u64 s.a, .int .u64 s.b, .int .u64 s.c, .int .u64 s.d, .int .i64 0, .int .i64 0, .bool false, .slice none 0 0, .int .i64 0, .int .i64 0]
  | 8 => ndPtr gh.2.1
  | 9 => .slice (some ⟨gh.2.2.1, 0, none⟩) 2 2
  | 10 => .agg #[.int .i64 x, .int .u64 noW.a, .int .u64 noW.b, .int .u64 noW.c, .int .u64 noW.d, .int .i64 0, .int .i64 0, .bool false, .slice (some ⟨gh.2.2.1, 0, none⟩) 2 2, .int .i64 0, .int .i64 0]
  | 11 => ndPtr gh.2.2.2
  | 12 => ndPtr gh.2.2.2
  | _ => undef
theorem q19_5 {g o n cap j : Nat} {s : W4} {x : Int} {gh : Gh4} (q' i : Nat) (h : i ≠ 5) : q19Told g o n cap j s x (q', gh.2.1, gh.2.2.1, gh.2.2.2) i = q19Told g o n cap j s x gh i := by
  unfold q19Told
  split <;> first | rfl | (exact absurd rfl h)
theorem q19_8 {g o n cap j : Nat} {s : W4} {x : Int} {gh : Gh4} (q' i : Nat) (h : i ≠ 8) : q19Told g o n cap j s x (gh.1, q', gh.2.2.1, gh.2.2.2) i = q19Told g o n cap j s x gh i := by
  unfold q19Told
  split <;> first | rfl | (exact absurd rfl h)
theorem q19_9 {g o n cap j : Nat} {s : W4} {x : Int} {gh : Gh4} (q' i : Nat) (h : i ≠ 9) (h2 : i ≠ 10) : q19Told g o n cap j s x (gh.1, gh.2.1, q', gh.2.2.2) i = q19Told g o n cap j s x gh i := by
  unfold q19Told
  split <;> first | rfl | (exact absurd rfl h) | (exact absurd rfl h2)
theorem q19_11 {g o n cap j : Nat} {s : W4} {x : Int} {gh : Gh4} (q' i : Nat) (h : i ≠ 11) (h2 : i ≠ 12) : q19Told g o n cap j s x (gh.1, gh.2.1, gh.2.2.1, q') i = q19Told g o n cap j s x gh i := by
  unfold q19Told
  split <;> first | rfl | (exact absurd rfl h) | (exact absurd rfl h2)
theorem child_size (s : W4) (x : Int) : trSize (childT s x) ≤ 3 := by
  unfold childT
  split
  · simp [leafT, trSize, trSizes]
  · split
    · simp [emptyT, trSize, trSizes]
    · split
      · simp [leafT, trSize, trSizes]
      · simp [emptyT, trSize, trSizes]
theorem child_sizes (s : W4) (ks : List Int) : trSizes (ks.map (childT s)) ≤ 3 * ks.length := by
  induction ks with
  | nil => simp [trSizes]
  | cons x ks ih =>
    rw [List.map_cons, trSizes, List.length_cons]
    have := child_size s x
    omega
theorem rt_right {w wr : World} {ks : List Int} {s : W4} {kind lo hi : Int} {z : Bool} {j : Nat} (h : RtInv w wr ks s kind lo hi z j) (hj : ks.take j = ks) (hl : ks.length ≤ 20) :
    Calls Tryd.prog 6 #[ndPtr (w.heap.size + 1)] wr fun e w' => e = .returned (.bool (decide (foldR rightN (.mk kind s lo hi z 0 0 (ks.map (childT s))) ≤ 200))) ∧ Below wr.heap.size wr w' := by
  obtain ⟨us, v, hG, hN⟩ := h.nd
  rw [hj] at hG
  obtain ⟨np, ncap, us', rfl, hc, ht⟩ := hG.at
  refine sright_any (fun b => w.heap.size + 1 ≤ b) _ _ wr (.node kind s lo hi z 0 0 _ _ np ncap us' (Nat.le_refl _) hN (fun i t hi => ?_) (fun i t hi => (ht i t hi).mono (fun b _ hb => by omega))) ?_
  · obtain ⟨c, h1, h2, h3, h4⟩ := hc i t hi
    exact ⟨c, h1, by omega, h3, h4⟩
  · rw [trSize_eq]
    have := child_sizes s ks
    show 1 + trSizes (ks.map (childT s)) ≤ _
    omega
theorem rt_old {w wr wx w4 : World} {kind lo hi : Int} {s : W4} {z : Bool} {v : Value} {l : List Tr} {us : List Value} {o : Obj} (hb : Below wr.heap.size wr wx) (hG : NdGr (w.heap.size + 2) l us v wr) (hN : wr.heap[w.heap.size + 1]? = some (ndOb kind s lo hi z v 0 0)) (hg : (wx.alloc o).grownBy w4 v.ownBlock) :
    w4.heap[w.heap.size + 1]? = some (ndOb kind s lo hi z v 0 0) := by
  have h1 := Reg.size_of_get hN
  have h2 := hb.size
  exact (hg.block _ (by rw [World.size_alloc]; omega) (fun e => by have := (ownsLt hG.own e.symm).1; omega)).trans (((below1 wx o).block _ (by omega)).trans ((hb.block _ h1).trans hN))
/-- Nodes laid one behind the other. -/
theorem nest_leaf (wr : World) (E : Obj) (s : W4) : NdAt ((wr.alloc E).alloc (ndOb 1 s 0 0 false (.slice none 0 0) 0 0)) (fun b => wr.heap.size ≤ b) (leafT s) (ndPtr (wr.heap.size + 1)) ∧ Below wr.heap.size wr ((wr.alloc E).alloc (ndOb 1 s 0 0 false (.slice none 0 0) 0 0)) := by
  have b1 := below1 wr E
  have b2 := below1 (wr.alloc E) (ndOb 1 s 0 0 false (.slice none 0 0) 0 0)
  have h := heap_new (wr.alloc E) (ndOb 1 s 0 0 false (.slice none 0 0) 0 0)
  rw [World.size_alloc] at h
  exact ⟨nd_leaf (by omega) h, b1.trans (b2.mono b1.size)⟩
theorem nest_group (wr : World) (E : Obj) (k : Int) : NdAt ((((wr.alloc E).alloc (ndOb 0 noW 0 0 false (.slice none 0 0) 0 0)).alloc (.cells #[ndPtr (wr.heap.size + 1)] 27)).alloc (ndOb k noW 0 0 false (.slice (some ⟨wr.heap.size + 1 + 1, 0, none⟩) 1 1) 0 0)) (fun b => wr.heap.size ≤ b) (.mk k noW 0 0 false 0 0 [emptyT]) (ndPtr (wr.heap.size + 1 + 1 + 1)) ∧
    Below wr.heap.size wr ((((wr.alloc E).alloc (ndOb 0 noW 0 0 false (.slice none 0 0) 0 0)).alloc (.cells #[ndPtr (wr.heap.size + 1)] 27)).alloc (ndOb k noW 0 0 false (.slice (some ⟨wr.heap.size + 1 + 1, 0, none⟩) 1 1) 0 0)) := by
  have b1 := below1 wr E
  obtain ⟨w1, e1⟩ : ∃ X, X = wr.alloc E := ⟨_, rfl⟩
  have s1 : w1.heap.size = wr.heap.size + 1 := by rw [e1, World.size_alloc]
  rw [← e1] at b1 ⊢
  have b2 := below1 w1 (ndOb 0 noW 0 0 false (.slice none 0 0) 0 0)
  have h2 := heap_new w1 (ndOb 0 noW 0 0 false (.slice none 0 0) 0 0)
  obtain ⟨w2, e2⟩ : ∃ X, X = w1.alloc (ndOb 0 noW 0 0 false (.slice none 0 0) 0 0) := ⟨_, rfl⟩
  have s2 : w2.heap.size = wr.heap.size + 1 + 1 := by rw [e2, World.size_alloc, s1]
  rw [← e2] at b2 h2 ⊢
  rw [s1] at h2
  have b3 := below1 w2 (.cells #[ndPtr (wr.heap.size + 1)] 27)
  have h3 := heap_new w2 (.cells #[ndPtr (wr.heap.size + 1)] 27)
  obtain ⟨w3, e3⟩ : ∃ X, X = w2.alloc (.cells #[ndPtr (wr.heap.size + 1)] 27) := ⟨_, rfl⟩
  have s3 : w3.heap.size = wr.heap.size + 1 + 1 + 1 := by rw [e3, World.size_alloc, s2]
  rw [← e3] at b3 h3 ⊢
  rw [s2] at h3
  have b4 := below1 w3 (ndOb k noW 0 0 false (.slice (some ⟨wr.heap.size + 1 + 1, 0, none⟩) 1 1) 0 0)
  have h4 := heap_new w3 (ndOb k noW 0 0 false (.slice (some ⟨wr.heap.size + 1 + 1, 0, none⟩) 1 1) 0 0)
  rw [s3] at h4
  refine ⟨tr_one (w := wr) (nd_leaf (by omega) (below_kept b4 (below_kept b3 h2))) (below_kept b4 h3) (by omega) (by omega) h4 rfl, b1.trans ((b2.mono b1.size).trans ((b3.mono (by omega)).trans (b4.mono (by omega))))⟩
/-- The loop's start. -/
theorem rt_start (w : World) (ks : List Int) (s : W4) (kind lo hi : Int) (z : Bool) : RtInv w ((w.alloc (.cells #[.int .u64 s.a, .int .u64 s.b, .int .u64 s.c, .int .u64 s.d] 25)).alloc (ndOb kind s lo hi z (.slice none 0 0) 0 0)) ks s kind lo hi z 0 := by
  have b1 := below1 w (.cells #[.int .u64 s.a, .int .u64 s.b, .int .u64 s.c, .int .u64 s.d] 25)
  have b2 := below1 (w.alloc (.cells #[.int .u64 s.a, .int .u64 s.b, .int .u64 s.c, .int .u64 s.d] 25)) (ndOb kind s lo hi z (.slice none 0 0) 0 0)
  refine ⟨b1.trans (b2.mono b1.size), below_kept b2 (heap_new _ _), [], .slice none 0 0, by simpa using NdGr.start _ _, ?_⟩
  have := heap_new (w.alloc (.cells #[.int .u64 s.a, .int .u64 s.b, .int .u64 s.c, .int .u64 s.d] 25)) (ndOb kind s lo hi z (.slice none 0 0) 0 0)
  rw [World.size_alloc] at this
  exact this
end
end Go.Proofs.YtbddjdcedfnkaaaDoor
