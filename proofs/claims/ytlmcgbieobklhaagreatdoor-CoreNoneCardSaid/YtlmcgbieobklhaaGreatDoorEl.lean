/- A range over a function in the body of an ordinary loop: each round leaves a mark; how a function leaves with all of them; a loop whose measure is a ghost. -/
import Derived.Test.YtlmcgbieobklhaaGreatDoorBw
import Derived.Test.YtlmcgbieobklhaaGreatDoorPbU
namespace Go.Proofs.YtlmcgbieobklhaaGreatDoor
section
open Go Go.RowKit Go.Shelf
/-- A mark that an ended loop left. -/
def mk1 (D : Nat) : Deferred := { target := .collected D, args := #[] }
/-- Each mark's block holds no call; none is marked twice. -/
structure MarksAt (B : Nat) (L : List Nat) (w : World) : Prop where
  nd : L.Nodup
  at_ : ∀ D ∈ L, B ≤ D ∧ w.heap[D]? = some (.deferred (some []))
theorem MarksAt.nil (B : Nat) (w : World) : MarksAt B [] w := ⟨List.nodup_nil, fun _ h => by cases h⟩
theorem MarksAt.grown {B : Nat} {L : List Nat} {w w' : World} {row : Option Nat} (h : MarksAt B L w) (hg : w.grownBy w' row) (hr : ∀ r, row = some r → ∃ o : Obj, w.heap[r]? = some o ∧ o.isCells = true) : MarksAt B L w' :=
  ⟨h.nd, fun D hD => by
    obtain ⟨h1, h2⟩ := h.at_ D hD
    refine ⟨h1, (hg.block D (Array.getElem?_eq_some_iff.1 h2).1 fun e => ?_).trans h2⟩
    obtain ⟨o, ho, hc⟩ := hr D e.symm
    rw [h2] at ho; cases ho; cases hc⟩
theorem MarksAt.ownFrom {β : Type} (B C : Nat) (L : List Nat) (hL : ∀ D ∈ L, D < C) : OwnFrom C (fun (_ : β) W => MarksAt B L W) := fun _ X Y row hs hg hr =>
  ⟨hs.nd, fun D hD => by
    obtain ⟨h1, h2⟩ := hs.at_ D hD
    refine ⟨h1, (hg.block D (Array.getElem?_eq_some_iff.1 h2).1 fun e => ?_).trans h2⟩
    have := (hr D e.symm).1
    have := hL D hD
    omega⟩
theorem MarksAt.cons {B : Nat} {L : List Nat} {w : World} {D : Nat} (h : MarksAt B L w) (hB : B ≤ D) (hL : ∀ E ∈ L, E < D) (hD : w.heap[D]? = some (.deferred (some []))) : MarksAt B (D :: L) w :=
  ⟨List.nodup_cons.2 ⟨fun hm => by have := hL D hm; omega, h.nd⟩, fun E hE => by
    rcases List.mem_cons.1 hE with rfl | hE
    · exact ⟨hB, hD⟩
    · exact h.at_ E hE⟩
theorem MarksAt.lt {B : Nat} {L : List Nat} {w : World} (h : MarksAt B L w) : ∀ D ∈ L, D < w.heap.size := fun D hD => (Array.getElem?_eq_some_iff.1 (h.at_ D hD).2).1
/-- A function that leaves with marks alone. -/
theorem leaves_marks {F : Fence} {n : Nat} {P : Program} {fn : Func} {tmps : Array Value} {R : Ending → World → Prop} (B : Nat) (J : World → Prop)
    (hJ : ∀ W l, J W → B ≤ l → W.heap[l]? = some (.deferred (some [])) → J (W.putObj l (.deferred none)))
    (hfin : ∀ W, J W → ∃ v, (results fn tmps).run P W = .ok v W ∧ R (.returned v) W) : ∀ (L : List Nat) (w : World), MarksAt B L w → J w → LeavesInM F n P fn tmps R (L.map mk1) .returning w
  | [], w, _, h => by
    show LeavesIn F n P fn tmps R [] .returning w
    exact hfin w h
  | D :: L, w, hm, h => by
    obtain ⟨h1, h2⟩ := hm.at_ D (List.mem_cons_self ..)
    have hn := List.nodup_cons.1 hm.nd
    refine ⟨by simp, .inl ⟨D, _, rfl, run_takeDeferred h2, leaves_marks B J hJ hfin L _ ⟨hn.2, fun E hE => ?_⟩ (hJ w D h h1 h2)⟩⟩
    obtain ⟨h3, h4⟩ := hm.at_ E (List.mem_cons_of_mem _ hE)
    refine ⟨h3, ((grownBy_putObj' w D (.deferred none)).block E (Array.getElem?_eq_some_iff.1 h4).1 fun e => ?_).trans h4⟩
    injection e with e
    subst e
    exact hn.1 hE
/-- A loop in a fence whose measure is a ghost. -/
theorem wpIn_loopM {F : Fence} {n : Nat} {P : Program} {c : Code} {Q : Exit → Act → World → Prop} {a : Act} {w : World} (R : Nat → Act → World → Prop) (m : Nat) (h0 : R m a w)
    (round : ∀ m a w, R m a w → c.wpIn F n P (Exit.then (fun a' w' => ∃ m', m' < m ∧ R m' a' w') Q) a w) : (Code.loop c).wpIn F n P Q a w := by
  refine wpIn_loop (fun a w => ∃ m, R m a w) (fun a w => leastN (fun m => R m a w)) ⟨m, h0⟩ ?_
  intro a w h
  obtain ⟨h1, _⟩ := leastN_spec h
  refine wpIn_mono (round _ a w h1) ?_
  intro e a' w' hq
  cases e <;> try exact hq
  obtain ⟨m', hlt, hR⟩ := hq
  exact ⟨⟨m', hR⟩, Nat.lt_of_le_of_lt ((leastN_spec ⟨m', hR⟩).2 m' hR) hlt⟩
/-- What stands in blocks of different types stands apart. -/
theorem rows_apart {W : World} {b1 b2 e1 e2 s1 s2 k1 k2 : Nat} {v1 v2 : Value} {x1 x2 : List Value} (he : e1 ≠ e2) (h1 : W.ownsRow b1 e1 s1 v1 k1 x1) (h2 : W.ownsRow b2 e2 s2 v2 k2 x2) : ∀ g, v1.ownBlock = some g → v2.ownBlock ≠ some g := by
  intro g e1' e2'
  rcases h1.2 with ⟨rfl, _⟩ | ⟨g1, cap1, cur1, rfl, _, hg1, _⟩
  · simp [Value.ownBlock] at e1'
  · rcases h2.2 with ⟨rfl, _⟩ | ⟨g2, cap2, cur2, rfl, _, hg2, _⟩
    · simp [Value.ownBlock] at e2'
    · obtain rfl : g1 = g := by simpa [Value.ownBlock] using e1'
      obtain rfl : g2 = g1 := by simpa [Value.ownBlock] using e2'
      have := hg1.symm.trans hg2
      simp at this
      exact he this.2
theorem row_isCells {W : World} {b e s k : Nat} {v : Value} {xs : List Value} (h : W.ownsRow b e s v k xs) : ∀ r, v.ownBlock = some r → ∃ o : Obj, W.heap[r]? = some o ∧ o.isCells = true := by
  intro r e'
  rcases h.2 with ⟨rfl, _⟩ | ⟨g, cap, cur, rfl, _, hg, _⟩
  · simp [Value.ownBlock] at e'
  · obtain rfl : g = r := by simpa [Value.ownBlock] using e'
    exact ⟨_, hg, rfl⟩
theorem ne_box {W : World} {B B' t t' : Nat} {v v' : Value} (h : Boxed W B t v) (h' : Boxed W B' t' v') (ht : t ≠ t') : B ≠ B' := by
  rintro rfl
  have := (show W.heap[B]? = _ from h).symm.trans h'
  simp at this
  exact ht this.2
end
end Go.Proofs.YtlmcgbieobklhaaGreatDoor
