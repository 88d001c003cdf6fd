/- The map of signatures to blocks: what its keys are, and what it holds. -/
import Derived.Test.YtkjbecdngjdkhaaDoorBlkB
import Derived.Test.YtkjbecdngjdkhaaDoorOpen
import Derived.DeepKeys4
import Derived.Maps.Own
import Derived.Maps.OwnOps
import Derived.Maps.OwnSet
import Derived.Maps.Views
namespace Go.Proofs.YtkjbecdngjdkhaaDoor
open Go Go.RowKit Go.Maps Go.WideMaps Go.WideElems
theorem sigWide : (match Tryd.prog.underlying 92 with | some (.array _ _) | some (.struct _) => true | _ => false) = true := by rw [Tryd.underlying92]
theorem sigRow : (92 : TypeId) < Tryd.prog.types.size := of_decide_eq_true (by kernel_rfl)
set_option maxRecDepth 100000 in
theorem sigLaw0 : KeyLaw Tryd.prog 92 := deep_law_laid laidOut (m := 2) (by omega) sigRow (by kernel_rfl) sigWide
theorem sigLaw : Keyed Tryd.prog 92 := Keyed.of_law sigLaw0
theorem zeroInt (w : World) : (zeroValue 3).run Tryd.prog w = .ok (.int .i64 0) w := by kernel_rfl
/-- The key that a signature is. -/
noncomputable def kl (p : Nat) (q : Bool) : Lit := (keyOf Tryd.prog 92 (.agg #[.int .i64 (p : Int), .bool q])).getD (.bool false)
set_option maxRecDepth 100000 in
theorem key_all : ∀ p : Fin 256, ∀ q : Bool, (keyOf Tryd.prog 92 (.agg #[.int .i64 ((p.val : Nat) : Int), .bool q])).isSome = true := by decide +kernel
theorem key_is (p : Nat) (hp : p < 256) (q : Bool) : keyOf Tryd.prog 92 (.agg #[.int .i64 (p : Int), .bool q]) = some (kl p q) := by
  have h := key_all ⟨p, hp⟩ q
  unfold kl
  obtain ⟨l, hl⟩ := Option.isSome_iff_exists.1 h
  rw [hl]; rfl
theorem kl_inj {p p' : Nat} {q q' : Bool} (hp : p < 256) (hp' : p' < 256) (h : kl p q = kl p' q') : p = p' ∧ q = q' := by
  have h1 := key_is p hp q
  have h2 := key_is p' hp' q'
  rw [h] at h1
  have e := sigLaw.inj h1 h2
  simp at e
  exact ⟨by omega, e.2⟩
/-- What the map of signatures holds: of each lead's signature its number, of others nothing. -/
structure MapInv (D : DataW Unit) (f : Nat → Nat × Bool) (L : List Nat) : Prop where
  has : ∀ p q, p < 256 → Maps.has D (kl p q) = L.any (fun a => decide (f a = (p, q)))
  atk : ∀ (i a : Nat), L[i]? = some a → D.atKey (kl (f a).1 (f a).2) (.lit (.int .i64 0)) = .lit (.int .i64 (i : Int))
theorem MapInv.empty (f : Nat → Nat × Bool) : MapInv (.map []) f [] := ⟨fun _ _ _ => rfl, fun i a h => by cases h⟩
set_option maxRecDepth 100000 in
theorem MapInv.put {D : DataW Unit} {f : Nat → Nat × Bool} {L : List Nat} {b : Nat} (h : MapInv D f L) (hD : IsMap D) (hf : ∀ a, (f a).1 < 256) (hno : ∀ a ∈ L, f a ≠ f b) :
    MapInv (D.put (kl (f b).1 (f b).2) (.lit (.int .i64 (L.length : Int)))) f (L ++ [b]) := by
  have hk : WideAt.IsKeyLit (kl (f b).1 (f b).2) := sigLaw.key (key_is (f b).1 (hf b) (f b).2)
  refine ⟨fun p q hp => ?_, fun i a hi => ?_⟩
  · rw [List.any_append]
    by_cases e : f b = (p, q)
    · have e1 : (f b).1 = p := by rw [e]
      have e2 : (f b).2 = q := by rw [e]
      rw [← e1, ← e2, has_put_same hD hk]
      simp
    · have hne : kl p q ≠ kl (f b).1 (f b).2 := fun x => by
        obtain ⟨x1, x2⟩ := kl_inj hp (hf b) x
        exact e (Prod.ext x1.symm x2.symm)
      rw [has_put_other hne, h.has p q hp]
      simp [e]
  · by_cases hl : i < L.length
    · rw [List.getElem?_append_left hl] at hi
      have ha := List.mem_of_getElem? hi
      have hne : kl (f a).1 (f a).2 ≠ kl (f b).1 (f b).2 := fun x => by
        obtain ⟨x1, x2⟩ := kl_inj (hf a) (hf b) x
        exact hno a ha (Prod.ext x1 x2)
      rw [atKey_put_other hne]
      exact h.atk i a hi
    · rw [List.getElem?_append_right (by omega)] at hi
      have h0 : i - L.length = 0 := by
        by_cases e : i - L.length = 0
        · exact e
        · obtain ⟨m, hm⟩ : ∃ m, i - L.length = m + 1 := ⟨i - L.length - 1, by omega⟩
          rw [hm] at hi
          simp at hi
      rw [h0] at hi
      have e : b = a := by simpa using hi
      subst e
      rw [atKey_put_same hD hk]
      have : i = L.length := by omega
      rw [this]
end Go.Proofs.YtkjbecdngjdkhaaDoor
