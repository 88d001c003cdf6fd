/- Drawn regions with one store, ahead of which all loads stand. Generic over the program. -/
import Derived.Test.YtghfodjefjijdaaRegionH
namespace Go.Proofs.Ytghfodjefjijdaa.Reg
open Go Go.RowKit
/-- Ahead of operation i1 the world is Wa, behind it Wb. -/
structure OneSt (Wa Wb : World) (i1 : Nat) (l : Array Bool) (X : World) : Prop where
  a : l.getD i1 false = false → X = Wa
  b : l.getD i1 false = true → X = Wb
section
variable {Wa Wb : World} {i1 : Nat}
theorem OneSt.start (k : Nat) : OneSt Wa Wb i1 (Array.replicate k false) Wa := by
  have e : ∀ i, ¬ ((Array.replicate k false).getD i false = true) := fun i h => by simp [Array.getD_eq_getD_getElem?, Array.getElem?_replicate] at h; split at h <;> simp_all
  exact ⟨fun _ => rfl, fun h => absurd h (e _)⟩
theorem OneSt.keep {l : Array Bool} {X : World} {i : Nat} (h : OneSt Wa Wb i1 l X) (h1 : i ≠ i1) : OneSt Wa Wb i1 (l.setIfInBounds i true) X :=
  ⟨fun e => (by rw [getD_set_ne false h1] at e; exact h.a e), fun e => (by rw [getD_set_ne false h1] at e; exact h.b e)⟩
theorem OneSt.put {l : Array Bool} (hin : i1 < l.size) : OneSt Wa Wb i1 (l.setIfInBounds i1 true) Wb :=
  ⟨fun e => (by rw [set_self hin] at e; cases e), fun _ => rfl⟩
end
end Go.Proofs.Ytghfodjefjijdaa.Reg
