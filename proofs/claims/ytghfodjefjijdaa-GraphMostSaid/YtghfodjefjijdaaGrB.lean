/- Small lemmas on memory: blocks held whole, owned rows, boxes; marks of ranges over functions; lists of cells as functions. -/
import Derived.Test.YtghfodjefjijdaaRegionM
import Derived.Test.YtghfodjefjijdaaRegionA
import Derived.Test.YtghfodjefjijdaaGrM
import Derived.Test.YtghfodjefjijdaaChecked
import Derived.Lib.Hide
import Derived.Lib.SmallJoins
import Derived.Maps.OwnSet
import Derived.Maps.OwnIn
import Derived.Maps.Views
import Derived.Maps.AppendAt
import Derived.Maps.RangeWalk
import Derived.Sort.MapsRangeIn
import Derived.Laws.MakeOwn
import Derived.LoopTactic
import Derived.OwnWalk
import Derived.Deep.LoopGhost
import Derived.Deep.QuietTactic
import Derived.Deep.DeepCutAuto
import Derived.Deep.RegionLaw
import Derived.Deep.RegionWith
import Derived.BigQuiet
import Derived.RangeFuncNested
import Derived.RangeFuncBound
import Derived.RangeFuncCalls
import Derived.RangeFuncLeaves
import Derived.Shelf.Abstract
import Derived.Shelf.RegionOpen
import Derived.WalkKit
import Derived.OwnWalkIn
import Derived.TacticsInMore
import Derived.LoopNIn
import Derived.LoopIn
import Derived.Sort.CutIn
import Derived.Lib.MinMax
import Derived.Lib.SlKeysI
namespace Go.Proofs.Ytghfodjefjijdaa
section
open Go Go.RowKit Go.Shelf
theorem qhid {p : Prop} (h : p) : Hid p := h
theorem heap_new (w : World) (o : Obj) : (w.alloc o).heap[w.heap.size]? = some o := by
  show (w.heap.push o)[w.heap.size]? = _
  simp
theorem grown_below {w w1 : World} (r : Option Nat) (h : Below w.heap.size w w1) : w.grownBy w1 r := ⟨h.os, h.tape, h.output, h.size, fun k hk _ => h.block k hk⟩
theorem row_slice {w : World} {B sz k : Nat} {e : TypeId} {v : Value} {xs : List Value} (h : w.ownsRow B e sz v (k + 1) xs) : ∃ b c, v = .slice b (k + 1) c := by
  rcases h.2 with ⟨_, h0⟩ | ⟨g, cap, cur, h, _⟩
  · omega
  · exact ⟨_, _, h⟩
theorem any_slice {w : World} {B sz k : Nat} {e : TypeId} {v : Value} {xs : List Value} (h : w.ownsRow B e sz v k xs) : ∃ b c, v = .slice b k c := by
  rcases h.2 with ⟨h, h0⟩ | ⟨g, cap, cur, h, _⟩
  · rw [h, h0]; exact ⟨_, _, rfl⟩
  · exact ⟨_, _, h⟩
theorem ownsLt {w : World} {B : Nat} {e : TypeId} {v : Value} {n sz : Nat} {xs : List Value} (h : w.ownsRow B e sz v n xs) {g : Nat} (hg : v.ownBlock = some g) : B ≤ g ∧ g < w.heap.size := by
  rcases h.2 with ⟨rfl, _⟩ | ⟨b, cap, cur, rfl, hb, hh, _⟩
  · cases hg
  · obtain rfl : b = g := by simpa [Value.ownBlock] using hg
    refine ⟨hb, ?_⟩
    by_cases hlt : b < w.heap.size
    · exact hlt
    · have hn : w.heap[b]? = none := by simp; omega
      rw [hn] at hh; cases hh
theorem ownsKeep {w w1 : World} {B : Nat} {e : TypeId} {v : Value} {n sz : Nat} {xs : List Value} {row : Option Nat} (h : w.ownsRow B e sz v n xs) (hg : w.grownBy w1 row) (hne : ∀ g, v.ownBlock = some g → row ≠ some g) : w1.ownsRow B e sz v n xs := by
  refine ⟨h.1, ?_⟩
  rcases h.2 with h2 | ⟨b, cap, cur, rfl, hb, hh, r⟩
  · exact .inl h2
  · refine .inr ⟨b, cap, cur, rfl, hb, ?_, r⟩
    rw [hg.block b (ownsLt h rfl).2 (fun e => hne b rfl e.symm)]
    exact hh
theorem ownsBelow {w w1 : World} {B : Nat} {e : TypeId} {v : Value} {n sz : Nat} {xs : List Value} (h : w.ownsRow B e sz v n xs) (hb : Below w.heap.size w w1) : w1.ownsRow B e sz v n xs := by
  refine ⟨h.1, ?_⟩
  rcases h.2 with h2 | ⟨b, cap, cur, rfl, hb', hh, r⟩
  · exact .inl h2
  · exact .inr ⟨b, cap, cur, rfl, hb', (hb.block b (ownsLt h rfl).2).trans hh, r⟩
theorem grownAlloc (w : World) (o : Obj) : w.grownBy (w.alloc o) none := ⟨rfl, rfl, rfl, by simp, fun k hk _ => Below.heap_alloc w o k hk⟩
theorem ownsAlloc {w : World} {B : Nat} {e : TypeId} {v : Value} {n sz : Nat} {xs : List Value} (h : w.ownsRow B e sz v n xs) (o : Obj) : (w.alloc o).ownsRow B e sz v n xs := ownsKeep h (grownAlloc w o) (fun _ _ e => by cases e)
theorem belowApp {w w1 : World} {B : Nat} {e : TypeId} {v : Value} {n sz : Nat} {xs : List Value} {o : Obj} (h : w.ownsRow B e sz v n xs) (hg : (w.alloc o).grownBy w1 v.ownBlock) (hB : B ≤ w.heap.size) : Below B w w1 :=
  ((Below.refl B w).alloc hB o).grown hg (by simp; omega) (fun k hk => (ownsLt h hk).1)
theorem sizeOfGet {w : World} {g : Nat} {o : Obj} (h : w.heap[g]? = some o) : g < w.heap.size := by
  by_cases hlt : g < w.heap.size
  · exact hlt
  · have hn : w.heap[g]? = none := by simp; omega
    rw [hn] at h; cases h
theorem least_ex (p : Nat → Prop) (h : ∃ n, p n) : ∃ n, p n ∧ ∀ m, p m → n ≤ m := by
  obtain ⟨n, hn⟩ := h
  induction n using Nat.strongRecOn with
  | ind n ih =>
    by_cases hm : ∃ m, m < n ∧ p m
    · obtain ⟨m, h1, h2⟩ := hm
      exact ih m h1 h2
    · exact ⟨n, hn, fun m hpm => Nat.le_of_not_lt fun hlt => hm ⟨m, hlt, hpm⟩⟩
open Classical in
/-- The least number of which something holds. -/
noncomputable def leastN (p : Nat → Prop) : Nat := if h : ∃ n, p n then (least_ex p h).choose else 0
theorem leastN_spec {p : Nat → Prop} (h : ∃ n, p n) : p (leastN p) ∧ ∀ m, p m → leastN p ≤ m := by
  unfold leastN
  rw [dif_pos h]
  exact (least_ex p h).choose_spec
theorem ownsMono {w : World} {B B' : Nat} {e : TypeId} {v : Value} {n sz : Nat} {xs : List Value} (h : w.ownsRow B e sz v n xs) (hB : B' ≤ B) : w.ownsRow B' e sz v n xs := by
  refine ⟨h.1, ?_⟩
  rcases h.2 with h2 | ⟨b, cap, cur, e1, hb, r⟩
  · exact .inl h2
  · exact .inr ⟨b, cap, cur, e1, Nat.le_trans hB hb, r⟩
/-- The first n of f, as cells. -/
def vl (n : Nat) (f : Nat → Value) : Array Value := ((List.range n).map f).toArray
theorem vl_at (n : Nat) (f : Nat → Value) (k : Nat) (h : k < n) : (vl n f)[k]? = some (f k) := by
  unfold vl; simp [h]
theorem vl_size (n : Nat) (f : Nat → Value) : (vl n f).size = n := by unfold vl; simp
theorem vl_congr {n : Nat} {f g : Nat → Value} (h : ∀ i, i < n → f i = g i) : vl n f = vl n g := by
  unfold vl
  congr 1
  exact List.map_congr_left fun i hi => h i (List.mem_range.1 hi)
theorem vl_set (n : Nat) (f : Nat → Value) (k : Nat) (v : Value) : (vl n f).setIfInBounds k v = vl n (upd f k v) := by
  apply Array.ext_getElem?
  intro i
  by_cases hi : i < n
  · by_cases hik : k = i
    · subst hik
      rw [vl_at _ _ _ hi, upd_same]
      have : k < (vl n f).size := by rw [vl_size]; exact hi
      simp [this]
    · rw [Array.getElem?_setIfInBounds_ne hik, vl_at _ _ _ hi, vl_at _ _ _ hi, upd_other _ _ (Ne.symm hik)]
  · rw [Array.getElem?_eq_none (by simp [vl_size]; omega), Array.getElem?_eq_none (by simp [vl_size]; omega)]
theorem made_vl (z : Value) (n : Nat) : madeCells #[z] n = vl n fun _ => z := by
  apply Array.ext_getElem?
  intro i
  by_cases hi : i < n
  · rw [vl_at _ _ _ hi]
    unfold madeCells
    simp [hi, Nat.mod_one]
  · rw [Array.getElem?_eq_none (by rw [size_madeCells]; omega), Array.getElem?_eq_none (by rw [vl_size]; omega)]
/-- Block b holds the first n of f. -/
def Vec (w : World) (b : Nat) (t : TypeId) (n : Nat) (f : Nat → Value) : Prop := w.heap[b]? = some (.cells (vl n f) t (0, 0))
theorem Vec.cell {w : World} {b n : Nat} {t : TypeId} {f : Nat → Value} (h : Vec w b t n f) {i : Nat} (hi : i < n) : w.cell? ⟨b, i, none⟩ = some (f i) := (Joins.cell_of_block h i).trans (vl_at n f i hi)
theorem Vec.unfrozen {w : World} {b n : Nat} {t : TypeId} {f : Nat → Value} (h : Vec w b t n f) (i : Nat) : w.frozen? ⟨b, i, none⟩ = false := Joins.unfrozen_of_block h i
theorem Vec.lt {w : World} {b n : Nat} {t : TypeId} {f : Nat → Value} (h : Vec w b t n f) : b < w.heap.size := Reg.size_of_get h
theorem Vec.set {w : World} {b n : Nat} {t : TypeId} {f : Nat → Value} (h : Vec w b t n f) (i : Nat) (v : Value) : Vec (w.setCell ⟨b, i, none⟩ v) b t n (upd f i v) := (Joins.block_setCell h v).trans (by rw [vl_set])
theorem set_grown (w : World) (b i : Nat) (v : Value) : w.grownBy (w.setCell ⟨b, i, none⟩ v) (some b) :=
  ⟨rfl, rfl, rfl, (KeepsWalks.setCell w _ v).size, fun k _ hk => Below.heap_setCell _ _ _ k (fun e => hk (by rw [e]))⟩
theorem heap_set_other {w : World} {b c i : Nat} {o : Obj} (v : Value) (h : w.heap[b]? = some o) (hne : b ≠ c) : (w.setCell ⟨c, i, none⟩ v).heap[b]? = some o := (Below.heap_setCell w ⟨c, i, none⟩ v b hne).trans h
theorem heap_up {w w' : World} {b : Nat} {o : Obj} (h : w.heap[b]? = some o) (hb : Below w.heap.size w w') : w'.heap[b]? = some o := (hb.block b (Reg.size_of_get h)).trans h
theorem heap_kept {w w' : World} {b : Nat} {o : Obj} {r : Option Nat} (h : w.heap[b]? = some o) (hg : w.grownBy w' r) (hne : some b ≠ r) : w'.heap[b]? = some o := (hg.block b (Reg.size_of_get h) hne).trans h
/-- A mark that an ended loop left. -/
def mk1 (D : Nat) : Deferred := { target := .collected D, args := #[] }
/-- Each mark's block holds no call; none is marked twice. -/
structure MarksAt (B : Nat) (L : List Nat) (w : World) : Prop where
  nd : L.Nodup
  at_ : ∀ D ∈ L, B ≤ D ∧ w.heap[D]? = some (.deferred (some []))
theorem MarksAt.nil (B : Nat) (w : World) : MarksAt B [] w := ⟨List.nodup_nil, fun _ h => by cases h⟩
theorem MarksAt.grown {B : Nat} {L : List Nat} {w w' : World} {row : Option Nat} (h : MarksAt B L w) (hg : w.grownBy w' row) (hr : ∀ r, row = some r → ∃ o : Obj, w.heap[r]? = some o ∧ o.isCells = true) : MarksAt B L w' :=
  ⟨h.nd, fun D hD => by
    obtain ⟨h1, h2⟩ := h.at_ D hD
    refine ⟨h1, (hg.block D (Array.getElem?_eq_some_iff.1 h2).1 fun e => ?_).trans h2⟩
    obtain ⟨o, ho, hc⟩ := hr D e.symm
    rw [h2] at ho; cases ho; cases hc⟩
theorem MarksAt.ownFrom {β : Type} (B C : Nat) (L : List Nat) (hL : ∀ D ∈ L, D < C) : OwnFrom C (fun (_ : β) W => MarksAt B L W) := fun _ X Y row hs hg hr =>
  ⟨hs.nd, fun D hD => by
    obtain ⟨h1, h2⟩ := hs.at_ D hD
    refine ⟨h1, (hg.block D (Array.getElem?_eq_some_iff.1 h2).1 fun e => ?_).trans h2⟩
    have := (hr D e.symm).1
    have := hL D hD
    omega⟩
theorem MarksAt.cons {B : Nat} {L : List Nat} {w : World} {D : Nat} (h : MarksAt B L w) (hB : B ≤ D) (hL : ∀ E ∈ L, E < D) (hD : w.heap[D]? = some (.deferred (some []))) : MarksAt B (D :: L) w :=
  ⟨List.nodup_cons.2 ⟨fun hm => by have := hL D hm; omega, h.nd⟩, fun E hE => by
    rcases List.mem_cons.1 hE with rfl | hE
    · exact ⟨hB, hD⟩
    · exact h.at_ E hE⟩
theorem MarksAt.lt {B : Nat} {L : List Nat} {w : World} (h : MarksAt B L w) : ∀ D ∈ L, D < w.heap.size := fun D hD => (Array.getElem?_eq_some_iff.1 (h.at_ D hD).2).1
/-- A function that leaves with marks alone. -/
theorem leaves_marks {F : Fence} {n : Nat} {P : Program} {fn : Func} {tmps : Array Value} {R : Ending → World → Prop} (B : Nat) (J : World → Prop)
    (hJ : ∀ W l, J W → B ≤ l → W.heap[l]? = some (.deferred (some [])) → J (W.putObj l (.deferred none)))
    (hfin : ∀ W, J W → ∃ v, (results fn tmps).run P W = .ok v W ∧ R (.returned v) W) : ∀ (L : List Nat) (w : World), MarksAt B L w → J w → LeavesInM F n P fn tmps R (L.map mk1) .returning w
  | [], w, _, h => by
    show LeavesIn F n P fn tmps R [] .returning w
    exact hfin w h
  | D :: L, w, hm, h => by
    obtain ⟨h1, h2⟩ := hm.at_ D (List.mem_cons_self ..)
    have hn := List.nodup_cons.1 hm.nd
    refine ⟨by simp, .inl ⟨D, _, rfl, run_takeDeferred h2, leaves_marks B J hJ hfin L _ ⟨hn.2, fun E hE => ?_⟩ (hJ w D h h1 h2)⟩⟩
    obtain ⟨h3, h4⟩ := hm.at_ E (List.mem_cons_of_mem _ hE)
    refine ⟨h3, ((grownBy_putObj' w D (.deferred none)).block E (Array.getElem?_eq_some_iff.1 h4).1 fun e => ?_).trans h4⟩
    injection e with e
    subst e
    exact hn.1 hE
/-- A loop in a fence whose measure is a ghost. -/
theorem wpIn_loopM {F : Fence} {n : Nat} {P : Program} {c : Code} {Q : Exit → Act → World → Prop} {a : Act} {w : World} (R : Nat → Act → World → Prop) (m : Nat) (h0 : R m a w)
    (round : ∀ m a w, R m a w → c.wpIn F n P (Exit.then (fun a' w' => ∃ m', m' < m ∧ R m' a' w') Q) a w) : (Code.loop c).wpIn F n P Q a w := by
  refine wpIn_loop (fun a w => ∃ m, R m a w) (fun a w => leastN (fun m => R m a w)) ⟨m, h0⟩ ?_
  intro a w h
  obtain ⟨h1, _⟩ := leastN_spec h
  refine wpIn_mono (round _ a w h1) ?_
  intro e a' w' hq
  cases e <;> try exact hq
  obtain ⟨m', hlt, hR⟩ := hq
  exact ⟨⟨m', hR⟩, Nat.lt_of_le_of_lt ((leastN_spec ⟨m', hR⟩).2 m' hR) hlt⟩
/-- What stands in blocks of different types stands apart. -/
theorem rows_apart {W : World} {b1 b2 e1 e2 s1 s2 k1 k2 : Nat} {v1 v2 : Value} {x1 x2 : List Value} (he : e1 ≠ e2) (h1 : W.ownsRow b1 e1 s1 v1 k1 x1) (h2 : W.ownsRow b2 e2 s2 v2 k2 x2) : ∀ g, v1.ownBlock = some g → v2.ownBlock ≠ some g := by
  intro g e1' e2'
  rcases h1.2 with ⟨rfl, _⟩ | ⟨g1, cap1, cur1, rfl, _, hg1, _⟩
  · simp [Value.ownBlock] at e1'
  · rcases h2.2 with ⟨rfl, _⟩ | ⟨g2, cap2, cur2, rfl, _, hg2, _⟩
    · simp [Value.ownBlock] at e2'
    · obtain rfl : g1 = g := by simpa [Value.ownBlock] using e1'
      obtain rfl : g2 = g1 := by simpa [Value.ownBlock] using e2'
      have := hg1.symm.trans hg2
      simp at this
      exact he this.2
theorem row_isCells {W : World} {b e s k : Nat} {v : Value} {xs : List Value} (h : W.ownsRow b e s v k xs) : ∀ r, v.ownBlock = some r → ∃ o : Obj, W.heap[r]? = some o ∧ o.isCells = true := by
  intro r e'
  rcases h.2 with ⟨rfl, _⟩ | ⟨g, cap, cur, rfl, _, hg, _⟩
  · simp [Value.ownBlock] at e'
  · obtain rfl : g = r := by simpa [Value.ownBlock] using e'
    exact ⟨_, hg, rfl⟩
theorem ne_box {W : World} {B B' t t' : Nat} {v v' : Value} (h : Boxed W B t v) (h' : Boxed W B' t' v') (ht : t ≠ t') : B ≠ B' := by
  rintro rfl
  have := (show W.heap[B]? = _ from h).symm.trans h'
  simp at this
  exact ht this.2
end
end Go.Proofs.Ytghfodjefjijdaa
