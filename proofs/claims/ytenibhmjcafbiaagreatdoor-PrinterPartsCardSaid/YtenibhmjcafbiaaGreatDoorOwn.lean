/- Slices that a call makes and grows: what they keep of memory. -/
import Derived.Test.YtenibhmjcafbiaaGreatDoorChecked
import Derived.WalkKit
import Derived.Maps.AppendAt
import Derived.Below
namespace Go.Proofs.YtenibhmjcafbiaaGreatDoor
open Go Go.RowKit
theorem ownsLt {w : World} {B : Nat} {e : TypeId} {v : Value} {n sz : Nat} {xs : List Value} (h : w.ownsRow B e sz v n xs) {g : Nat} (hg : v.ownBlock = some g) : B ≤ g ∧ g < w.heap.size := by
  rcases h.2 with ⟨rfl, _⟩ | ⟨b, cap, cur, rfl, hb, hh, _⟩
  · cases hg
  · obtain rfl : b = g := by simpa [Value.ownBlock] using hg
    refine ⟨hb, ?_⟩
    by_cases hlt : b < w.heap.size
    · exact hlt
    · have hn : w.heap[b]? = none := by simp; omega
      rw [hn] at hh; cases hh
theorem ownsKeep {w w1 : World} {B : Nat} {e : TypeId} {v : Value} {n sz : Nat} {xs : List Value} {row : Option Nat} (h : w.ownsRow B e sz v n xs) (hg : w.grownBy w1 row) (hne : ∀ g, v.ownBlock = some g → row ≠ some g) : w1.ownsRow B e sz v n xs := by
  refine ⟨h.1, ?_⟩
  rcases h.2 with h2 | ⟨b, cap, cur, rfl, hb, hh, r⟩
  · exact .inl h2
  · refine .inr ⟨b, cap, cur, rfl, hb, ?_, r⟩
    rw [hg.block b (ownsLt h rfl).2 (fun e => hne b rfl e.symm)]
    exact hh
theorem ownsBelow {w w1 : World} {B : Nat} {e : TypeId} {v : Value} {n sz : Nat} {xs : List Value} (h : w.ownsRow B e sz v n xs) (hb : Below w.heap.size w w1) : w1.ownsRow B e sz v n xs := by
  refine ⟨h.1, ?_⟩
  rcases h.2 with h2 | ⟨b, cap, cur, rfl, hb', hh, r⟩
  · exact .inl h2
  · exact .inr ⟨b, cap, cur, rfl, hb', (hb.block b (ownsLt h rfl).2).trans hh, r⟩
theorem grownAlloc (w : World) (o : Obj) : w.grownBy (w.alloc o) none := ⟨rfl, rfl, rfl, by simp, fun k hk _ => Below.heap_alloc w o k hk⟩
theorem ownsAlloc {w : World} {B : Nat} {e : TypeId} {v : Value} {n sz : Nat} {xs : List Value} (h : w.ownsRow B e sz v n xs) (o : Obj) : (w.alloc o).ownsRow B e sz v n xs := ownsKeep h (grownAlloc w o) (fun _ _ e => by cases e)
theorem belowApp {w w1 : World} {B : Nat} {e : TypeId} {v : Value} {n sz : Nat} {xs : List Value} {o : Obj} (h : w.ownsRow B e sz v n xs) (hg : (w.alloc o).grownBy w1 v.ownBlock) (hB : B ≤ w.heap.size) : Below B w w1 :=
  ((Below.refl B w).alloc hB o).grown hg (by simp; omega) (fun k hk => (ownsLt h hk).1)
theorem sizeOfGet {w : World} {g : Nat} {o : Obj} (h : w.heap[g]? = some o) : g < w.heap.size := by
  by_cases hlt : g < w.heap.size
  · exact hlt
  · have hn : w.heap[g]? = none := by simp; omega
    rw [hn] at h; cases h
end Go.Proofs.YtenibhmjcafbiaaGreatDoor
