/- Contracts of the folder: a node left. Contracts of the folder: a node without parts entered, whatever the number function makes meanwhile. A fold's path, its map, and what is left to do, told plainly. A fold's steps: a part entered, a node left, as its path goes on. -/
import Derived.Test.YtaliapknkpdmdaaDoorPaZ
namespace Go.Proofs.YtaliapknkpdmdaaDoor
section
open Go Go.RowKit
attribute [local go_sem ↓] Go.wp_at_zero Go.wp_at_succ
attribute [local go_sem] eq4
theorem grown_below {w w1 : World} (r : Option Nat) (h : Below w.heap.size w w1) : w.grownBy w1 r := ⟨h.os, h.tape, h.output, h.size, fun k hk _ => h.block k hk⟩
theorem IsC.below {w w1 : World} {q : Nat} (h : IsC w q) (hb : Below w.heap.size w w1) : IsC w1 q := by
  obtain ⟨c, t, h1⟩ := h
  exact ⟨c, t, (hb.block q (Reg.size_of_get h1)).trans h1⟩
end
section
open Go Go.RowKit
attribute [local go_sem ↓] Go.wp_at_zero Go.wp_at_succ
attribute [local go_sem] eq4
end
section
open Go Go.RowKit
def prts : Tr → List Tr
  | .mk _ _ _ _ _ _ _ l => l
theorem foldR_eq (num : Tr → List Int → Int) (u : Tr) : foldR num u = num u ((prts u).map (foldR num)) := by
  cases u with
  | mk k s lo hi z a b l => rw [foldR, foldL_map]; rfl
theorem trSize_eq (u : Tr) : trSize u = 1 + trSizes (prts u) := by
  cases u with
  | mk k s lo hi z a b l => rw [trSize]; rfl
theorem trSize_pos (u : Tr) : 1 ≤ trSize u := by rw [trSize_eq]; omega
theorem trSize_part {u c : Tr} {i : Nat} (h : (prts u)[i]? = some c) : trSize c < trSize u := by
  have := trSize_mem (List.mem_of_getElem? h)
  rw [trSize_eq u]; omega
theorem trSizes_len (l : List Tr) : l.length ≤ trSizes l := by
  induction l with
  | nil => simp
  | cons t l ih => rw [trSizes]; have := trSize_pos t; simp; omega
/-- A node's block, and its parts. -/
theorem NdAt.prt {w : World} {A : Nat → Prop} {u : Tr} {q : Nat} (h : NdAt w A u (ndPtr q)) :
    A q ∧ ∃ k s lo hi z p cap a b, w.heap[q]? = some (ndOb k s lo hi z (.slice p (prts u).length cap) a b) ∧ ∀ (i : Nat) (t : Tr), (prts u)[i]? = some t → ∃ c c', p = some ⟨c, 0, none⟩ ∧ c < w.heap.size ∧ w.cell? ⟨c, i, none⟩ = some (ndPtr c') ∧ NdAt w A t (ndPtr c') := by
  cases u with
  | mk k s lo hi z a b l =>
    obtain ⟨q', p, cap, e, hq, hb, hk⟩ := h.head
    injection e with e; injection e with e; injection e with e
    subst e
    refine ⟨hq, k, s, lo, hi, z, p, cap, a, b, hb, fun i t hi => ?_⟩
    obtain ⟨c, v, h1, h2, h3, h4⟩ := hk i t hi
    obtain ⟨c', rfl⟩ := h4.pointer
    exact ⟨c, c', h1, h2, h3, h4⟩
end
section
open Go Go.RowKit
end
end Go.Proofs.YtaliapknkpdmdaaDoor
