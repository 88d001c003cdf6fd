/- Drawn regions with two stores, one behind the other, ahead of which all loads stand. Generic over the program. -/
import Derived.Test.YtghfodjefjijdaaRegionH
namespace Go.Proofs.Ytghfodjefjijdaa.Reg
open Go Go.RowKit
/-- Ahead of operation i1 the world is Wa, behind it Wb, behind i2 Wc. -/
structure TwoS (Wa Wb Wc : World) (i1 i2 : Nat) (l : Array Bool) (X : World) : Prop where
  a : l.getD i1 false = false → X = Wa
  b : l.getD i1 false = true → l.getD i2 false = false → X = Wb
  c : l.getD i1 false = true → l.getD i2 false = true → X = Wc
section
variable {Wa Wb Wc : World} {i1 i2 : Nat}
theorem TwoS.start (k : Nat) : TwoS Wa Wb Wc i1 i2 (Array.replicate k false) Wa := by
  have e : ∀ i, ¬ ((Array.replicate k false).getD i false = true) := fun i h => by simp [Array.getD_eq_getD_getElem?, Array.getElem?_replicate] at h; split at h <;> simp_all
  exact ⟨fun _ => rfl, fun h => absurd h (e _), fun h => absurd h (e _)⟩
theorem TwoS.keep {l : Array Bool} {X : World} {i : Nat} (h : TwoS Wa Wb Wc i1 i2 l X) (h1 : i ≠ i1) (h2 : i ≠ i2) : TwoS Wa Wb Wc i1 i2 (l.setIfInBounds i true) X :=
  ⟨fun e => (by rw [getD_set_ne false h1] at e; exact h.a e), fun e f => (by rw [getD_set_ne false h1] at e; rw [getD_set_ne false h2] at f; exact h.b e f), fun e f => (by rw [getD_set_ne false h1] at e; rw [getD_set_ne false h2] at f; exact h.c e f)⟩
theorem TwoS.first {l : Array Bool} (hne : i1 ≠ i2) (hin : i1 < l.size) (hun : l.getD i2 false = false) : TwoS Wa Wb Wc i1 i2 (l.setIfInBounds i1 true) Wb :=
  ⟨fun e => (by rw [set_self hin] at e; cases e), fun _ _ => rfl, fun _ f => (by rw [getD_set_ne false hne, hun] at f; cases f)⟩
theorem TwoS.second {l : Array Bool} (hne : i2 ≠ i1) (hin : i2 < l.size) (h1 : l.getD i1 false = true) : TwoS Wa Wb Wc i1 i2 (l.setIfInBounds i2 true) Wc :=
  ⟨fun e => (by rw [getD_set_ne false hne, h1] at e; cases e), fun _ f => (by rw [set_self hin] at f; cases f), fun _ _ => rfl⟩
end
end Go.Proofs.Ytghfodjefjijdaa.Reg
