/- Drawn regions that read and make memory, with any number of blocks that are known as objects. Generic over the program. -/
import Derived.Test.YtghfodjefjijdaaRegionH
namespace Go.Proofs.Ytghfodjefjijdaa.Reg
open Go Go.RowKit
section
def updN (g : Nat → Nat) (i b : Nat) : Nat → Nat := fun j => if j = i then b else g j
theorem updN_same (g : Nat → Nat) (i b : Nat) : updN g i b i = b := if_pos rfl
theorem updN_other (g : Nat → Nat) {i j : Nat} (b : Nat) (h : j ≠ i) : updN g i b j = g j := if_neg h
/-- The blocks that operations K make: ob tells what lies in them. -/
structure MkN (W : World) (K : List Nat) (ob : (Nat → Nat) → Nat → Obj) (g : Nat → Nat) (l : Array Bool) (X : World) : Prop where
  bel : Below W.heap.size W X
  at_ : ∀ i ∈ K, l.getD i false = true → W.heap.size ≤ g i ∧ X.heap[g i]? = some (ob g i)
  ne : ∀ i ∈ K, ∀ j ∈ K, i ≠ j → l.getD i false = true → l.getD j false = true → g i ≠ g j
variable {W : World} {K : List Nat} {ob : (Nat → Nat) → Nat → Obj}
theorem MkN.start (g : Nat → Nat) (k : Nat) : MkN W K ob g (Array.replicate k false) W.drew := by
  have e : ∀ i, ¬ ((Array.replicate k false).getD i false = true) := fun i h => by simp [Array.getD_eq_getD_getElem?, Array.getElem?_replicate] at h; split at h <;> simp_all
  exact ⟨Below.drew (Below.refl _ _), fun i _ h => absurd h (e _), fun i _ j _ _ h => absurd h (e _)⟩
theorem heap_kept_up {w w' : World} {b : Nat} {o : Obj} (h : w.heap[b]? = some o) (hb : Below w.heap.size w w') : w'.heap[b]? = some o := (hb.block b (size_of_get h)).trans h
theorem MkN.up {g : Nat → Nat} {l : Array Bool} {X Y : World} {i : Nat} (h : MkN W K ob g l X) (hi : i ∉ K) (hb : Below X.heap.size X Y) : MkN W K ob g (l.setIfInBounds i true) Y := by
  have ne : ∀ j ∈ K, i ≠ j := fun j hj e => hi (e ▸ hj)
  refine ⟨h.bel.trans (hb.mono h.bel.size), fun j hj e => ?_, fun j hj k hk hjk e e2 => ?_⟩
  · rw [getD_set_ne false (ne j hj)] at e
    exact ⟨(h.at_ j hj e).1, heap_kept_up (h.at_ j hj e).2 hb⟩
  · rw [getD_set_ne false (ne j hj)] at e
    rw [getD_set_ne false (ne k hk)] at e2
    exact h.ne j hj k hk hjk e e2
theorem MkN.new {g : Nat → Nat} {l : Array Bool} {X Y : World} {i : Nat} (b : Nat) (h : MkN W K ob g l X) (hk : ∀ j ∈ K, j ≠ i → l.getD j false = true → ob (updN g i b) j = ob g j) (hb : Below X.heap.size X Y) (hX : X.heap.size ≤ b) (hp : Y.heap[b]? = some (ob (updN g i b) i)) : MkN W K ob (updN g i b) (l.setIfInBounds i true) Y := by
  have old : ∀ j ∈ K, j ≠ i → l.getD j false = true → g j < X.heap.size := fun j hj _ e => size_of_get (h.at_ j hj e).2
  refine ⟨h.bel.trans (hb.mono h.bel.size), fun j hj e => ?_, fun j hj k hk2 hjk e e2 => ?_⟩
  · by_cases hji : j = i
    · subst hji
      rw [updN_same]
      exact ⟨Nat.le_trans h.bel.size hX, hp⟩
    · rw [getD_set_ne false (fun e => hji e.symm)] at e
      rw [updN_other _ _ hji, hk j hj hji e]
      exact ⟨(h.at_ j hj e).1, heap_kept_up (h.at_ j hj e).2 hb⟩
  · by_cases hji : j = i
    · subst hji
      rw [getD_set_ne false hjk] at e2
      rw [updN_same, updN_other _ _ (fun e => hjk e.symm)]
      have := old k hk2 (fun e => hjk e.symm) e2
      omega
    · rw [getD_set_ne false (fun e => hji e.symm)] at e
      by_cases hki : k = i
      · subst hki
        rw [updN_same, updN_other _ _ hji]
        have := old j hj hji e
        omega
      · rw [getD_set_ne false (fun e => hki e.symm)] at e2
        rw [updN_other _ _ hji, updN_other _ _ hki]
        exact h.ne j hj k hk2 hjk e e2
end
end Go.Proofs.Ytghfodjefjijdaa.Reg
