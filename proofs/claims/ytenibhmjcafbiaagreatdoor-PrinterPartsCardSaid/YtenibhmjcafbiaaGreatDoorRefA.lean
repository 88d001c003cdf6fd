/- Contracts of the document's own answers on sets: Has, Bools, Make. -/
import Derived.Test.YtenibhmjcafbiaaGreatDoorSets
import Derived.Test.YtenibhmjcafbiaaGreatDoorRegion
import Derived.LoopTactic
namespace Go.Proofs.YtenibhmjcafbiaaGreatDoor
open Go Go.RowKit
attribute [local go_sem ↓] Go.wp_at_zero Go.wp_at_succ
attribute [local go_sem] eq4
/-- Is byte n in the set of these words? -/
def memb (a b c d : Int) (n : Nat) : Bool :=
  if n / 64 = 0 then (V a).getLsbD (n % 64) else if n / 64 = 1 then (V b).getLsbD (n % 64) else if n / 64 = 2 then (V c).getLsbD (n % 64) else (V d).getLsbD (n % 64)
/-- A bit of a word, as the document's answer asks for it. -/
theorem rb_bit (a : Int) (ha : Fit a) (n : Nat) : ((a / 2 ^ (n % 64)).tmod 2 == 1) = (V a).getLsbD (n % 64) := by
  have e : (((n : Int)) % 64).toNat = n % 64 := by omega
  have h := hs_bit a (n : Int) ha
  rw [e] at h
  rw [← h]
  unfold hs
  rw [e]
  obtain ⟨X, rfl⟩ := Int.eq_ofNat_of_zero_le ha.1
  have hX : X < 18446744073709551616 := by have := ha.2; omega
  generalize n % 64 = m
  have e1 : ((X : Int) / 2 ^ m) = ((X / 2 ^ m : Nat) : Int) := by simp
  have hd : X / 2 ^ m < 18446744073709551616 := Nat.lt_of_le_of_lt (Nat.div_le_self _ _) hX
  have e2 : bits .and .u64 ((X / 2 ^ m : Nat) : Int) 1 = ((X / 2 ^ m &&& 1 : Nat) : Int) := Pop.and64_nat _ 1 hd (by omega)
  rw [e1, e2, Nat.and_one_is_mod]
  have e3 : (((X / 2 ^ m : Nat) : Int).tmod 2) = ((X / 2 ^ m % 2 : Nat) : Int) := by
    rw [Int.tmod_eq_emod_of_nonneg (Int.natCast_nonneg _)]; omega
  rw [e3]
set_option maxHeartbeats 1000000 in
theorem refhas_any (a b c d : Int) (n : Nat) (w : World) (hn : n < 256) (fa : Fit a) (fb : Fit b) (fc : Fit c) (fd : Fit d) :
    Calls Tryz.prog 38 #[.agg #[.int .u64 a, .int .u64 b, .int .u64 c, .int .u64 d], .int .i64 (n : Int)] w fun e w' => e = .returned (.bool (memb a b c d n)) ∧ Below w.heap.size w w' := by
  have a0 := fa.1
  have b0 := fb.1
  have c0 := fc.1
  have d0 := fd.1
  have key : ∀ x, memb a b c d n = x → Ending.returned (.bool x) = Ending.returned (.bool (memb a b c d n)) := fun x h => by rw [h]
  have KEY := hid key
  have RA := hid (rb_bit a fa n)
  have RB := hid (rb_bit b fb n)
  have RC := hid (rb_bit c fc n)
  have RD := hid (rb_bit d fd n)
  clear key
  have hk : n / 64 = 0 ∨ n / 64 = 1 ∨ n / 64 = 2 ∨ n / 64 = 3 := by omega
  rcases hk with hk | hk | hk | hk
  all_goals
    have HK := hid hk
    have hq : ((n : Int) / 64) = ((n / 64 : Nat) : Int) := by omega
    rw [hk] at hq
    clear hk
    go_enter Tryz.func38, Tryz.ntmps38
    go_wp2
    go_ret
    refine ⟨KEY.out _ ?_, below1 _ _⟩
    unfold memb
    rw [HK.out]
    first
      | exact (if_pos rfl).trans RA.out.symm
      | exact (if_neg (by decide)).trans ((if_pos rfl).trans RB.out.symm)
      | exact (if_neg (by decide)).trans ((if_neg (by decide)).trans ((if_pos rfl).trans RC.out.symm))
      | exact (if_neg (by decide)).trans ((if_neg (by decide)).trans ((if_neg (by decide)).trans RD.out.symm))
/-- 256 cells of bools. -/
def bl (f : Nat → Bool) : Array Value := ((List.range 256).map fun i => Value.bool (f i)).toArray
theorem bl_at (f : Nat → Bool) (k : Nat) (h : k < 256) : (bl f)[k]? = some (.bool (f k)) := by
  unfold bl; simp [h]
theorem bl_set (f : Nat → Bool) (k : Nat) (v : Bool) : (bl f).setIfInBounds k (.bool v) = bl (fun i => if i = k then v else f i) := by
  apply Array.ext_getElem?
  intro i
  by_cases hi : i < 256
  · by_cases hik : k = i
    · subst hik
      rw [bl_at _ _ hi]
      have : k < (bl f).size := by unfold bl; simp [hi]
      simp [this]
    · rw [Array.getElem?_setIfInBounds_ne hik, bl_at _ _ hi, bl_at _ _ hi, if_neg (Ne.symm hik)]
  · have h1 : ((bl f).setIfInBounds k (.bool v))[i]? = none := by
      apply Array.getElem?_eq_none; unfold bl; simp; omega
    have h2 : (bl (fun i => if i = k then v else f i))[i]? = none := by
      apply Array.getElem?_eq_none; unfold bl; simp; omega
    rw [h1, h2]
end Go.Proofs.YtenibhmjcafbiaaGreatDoor
