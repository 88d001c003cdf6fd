/- Contracts of the document's own answers on sets: Has, Bools, Make. -/
import Derived.Test.YtbddjdcedfnkaaaDoorSets
import Derived.Test.YtbddjdcedfnkaaaDoorRegion
import Derived.LoopTactic
namespace Go.Proofs.YtbddjdcedfnkaaaDoor
open Go Go.RowKit
attribute [local go_sem ↓] Go.wp_at_zero Go.wp_at_succ
attribute [local go_sem] eq4
/-- Is byte n in the set of these words? -/
def memb (a b c d : Int) (n : Nat) : Bool :=
  if n / 64 = 0 then (V a).getLsbD (n % 64) else if n / 64 = 1 then (V b).getLsbD (n % 64) else if n / 64 = 2 then (V c).getLsbD (n % 64) else (V d).getLsbD (n % 64)
/-- A bit of a word, as the document's answer asks for it. -/
theorem rb_bit (a : Int) (ha : Fit a) (n : Nat) : ((a / 2 ^ (n % 64)).tmod 2 == 1) = (V a).getLsbD (n % 64) := by
  have e : (((n : Int)) % 64).toNat = n % 64 := by omega
  have h := hs_bit a (n : Int) ha
  rw [e] at h
  rw [← h]
  unfold hs
  rw [e]
  obtain ⟨X, rfl⟩ := Int.eq_ofNat_of_zero_le ha.1
  have hX : X < 18446744073709551616 := by have := ha.2; omega
  generalize n % 64 = m
  have e1 : ((X : Int) / 2 ^ m) = ((X / 2 ^ m : Nat) : Int) := by simp
  have hd : X / 2 ^ m < 18446744073709551616 := Nat.lt_of_le_of_lt (Nat.div_le_self _ _) hX
  have e2 : bits .and .u64 ((X / 2 ^ m : Nat) : Int) 1 = ((X / 2 ^ m &&& 1 : Nat) : Int) := Pop.and64_nat _ 1 hd (by omega)
  rw [e1, e2, Nat.and_one_is_mod]
  have e3 : (((X / 2 ^ m : Nat) : Int).tmod 2) = ((X / 2 ^ m % 2 : Nat) : Int) := by
    rw [Int.tmod_eq_emod_of_nonneg (Int.natCast_nonneg _)]; omega
  rw [e3]
/-- 256 cells of bools. -/
def bl (f : Nat → Bool) : Array Value := ((List.range 256).map fun i => Value.bool (f i)).toArray
theorem bl_at (f : Nat → Bool) (k : Nat) (h : k < 256) : (bl f)[k]? = some (.bool (f k)) := by
  unfold bl; simp [h]
theorem bl_set (f : Nat → Bool) (k : Nat) (v : Bool) : (bl f).setIfInBounds k (.bool v) = bl (fun i => if i = k then v else f i) := by
  apply Array.ext_getElem?
  intro i
  by_cases hi : i < 256
  · by_cases hik : k = i
    · subst hik
      rw [bl_at _ _ hi]
      have : k < (bl f).size := by unfold bl; simp [hi]
      simp [this]
    · rw [Array.getElem?_setIfInBounds_ne hik, bl_at _ _ hi, bl_at _ _ hi, if_neg (Ne.symm hik)]
  · have h1 : ((bl f).setIfInBounds k (.bool v))[i]? = none := by
      apply Array.getElem?_eq_none; unfold bl; simp; omega
    have h2 : (bl (fun i => if i = k then v else f i))[i]? = none := by
      apply Array.getElem?_eq_none; unfold bl; simp; omega
    rw [h1, h2]
end Go.Proofs.YtbddjdcedfnkaaaDoor
