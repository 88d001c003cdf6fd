/- Drawn regions that read and make memory, with up to two results that are known by a property alone. Generic over the program. -/
import Derived.Test.YtghfodjefjijdaaRegionH
namespace Go.Proofs.Ytghfodjefjijdaa.Reg
open Go Go.RowKit
section
variable {γ : Type}
structure MkS (W : World) (i1 i2 : Nat) (P1 P2 : γ → World → Prop) (g : γ) (l : Array Bool) (X : World) : Prop where
  bel : Below W.heap.size W X
  one : l.getD i1 false = true → P1 g X
  two : l.getD i2 false = true → P2 g X
/-- What is told stays told where nothing old turns. -/
def UpB (P : γ → World → Prop) : Prop := ∀ g X Y, Below X.heap.size X Y → P g X → P g Y
theorem upB_true : UpB (fun (_ : γ) _ => True) := fun _ _ _ _ h => h
variable {W : World} {i1 i2 : Nat} {P1 P2 : γ → World → Prop}
theorem MkS.start (g : γ) (k : Nat) : MkS W i1 i2 P1 P2 g (Array.replicate k false) W.drew := by
  have e : ∀ i, ¬ ((Array.replicate k false).getD i false = true) := fun i h => by simp [Array.getD_eq_getD_getElem?, Array.getElem?_replicate] at h; split at h <;> simp_all
  exact ⟨Below.drew (Below.refl _ _), fun h => absurd h (e _), fun h => absurd h (e _)⟩
theorem MkS.up {g : γ} {l : Array Bool} {X Y : World} {i : Nat} (h : MkS W i1 i2 P1 P2 g l X) (h1 : i ≠ i1) (h2 : i ≠ i2) (u1 : UpB P1) (u2 : UpB P2) (hb : Below X.heap.size X Y) : MkS W i1 i2 P1 P2 g (l.setIfInBounds i true) Y :=
  ⟨h.bel.trans (hb.mono h.bel.size), fun e => (by rw [getD_set_ne false h1] at e; exact u1 g X Y hb (h.one e)), fun e => (by rw [getD_set_ne false h2] at e; exact u2 g X Y hb (h.two e))⟩
theorem MkS.first {g g' : γ} {l : Array Bool} {X Y : World} (h : MkS W i1 i2 P1 P2 g l X) (hne : i1 ≠ i2) (hun : l.getD i2 false = false) (hb : Below X.heap.size X Y) (hp : P1 g' Y) : MkS W i1 i2 P1 P2 g' (l.setIfInBounds i1 true) Y :=
  ⟨h.bel.trans (hb.mono h.bel.size), fun _ => hp, fun e => (by rw [getD_set_ne false hne, hun] at e; cases e)⟩
theorem MkS.second {g g' : γ} {l : Array Bool} {X Y : World} (h : MkS W i1 i2 P1 P2 g l X) (hne : i2 ≠ i1) (u1 : UpB P1) (hk : ∀ X, P1 g X → P1 g' X) (hb : Below X.heap.size X Y) (hp : P2 g' Y) : MkS W i1 i2 P1 P2 g' (l.setIfInBounds i2 true) Y :=
  ⟨h.bel.trans (hb.mono h.bel.size), fun e => (by rw [getD_set_ne false hne] at e; exact u1 g' X Y hb (hk X (h.one e))), fun _ => hp⟩
end
end Go.Proofs.Ytghfodjefjijdaa.Reg
