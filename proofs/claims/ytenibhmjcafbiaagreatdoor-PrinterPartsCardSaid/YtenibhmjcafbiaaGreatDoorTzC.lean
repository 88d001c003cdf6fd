/- Contracts: a set's bytes as a list, the least one by the document's answer, and lists of bytes held against one another. -/
import Derived.Test.YtenibhmjcafbiaaGreatDoorTzB
import Derived.Test.YtenibhmjcafbiaaGreatDoorOwn
import Derived.Test.YtenibhmjcafbiaaGreatDoorRowU8
import Derived.Laws.BytesArg
import Derived.OwnWalk
namespace Go.Proofs.YtenibhmjcafbiaaGreatDoor
open Go Go.RowKit
attribute [local go_sem ↓] Go.wp_at_zero Go.wp_at_succ
attribute [local go_sem] eq4
theorem hasW_at {a b c d : Int} (fa : Fit a) (fb : Fit b) (fc : Fit c) (fd : Fit d) (n : Nat) : hasW a b c d (n : Int) = memb a b c d n := by
  have e1 : ((n : Int) % 64).toNat = n % 64 := by omega
  unfold hasW memb
  rw [hs_bit a _ fa, hs_bit b _ fb, hs_bit c _ fc, hs_bit d _ fd, e1]
  have q : (n : Int) / 64 = ((n / 64 : Nat) : Int) := by omega
  rw [q]
  by_cases c0 : n / 64 = 0
  · simp [c0]
  · by_cases c1 : n / 64 = 1
    · simp [c1]
    · by_cases c2 : n / 64 = 2
      · simp [c2]
      · have d0 : ¬ ((n / 64 : Nat) : Int) = 0 := by omega
        have d1 : ¬ ((n / 64 : Nat) : Int) = 1 := by omega
        have d2 : ¬ ((n / 64 : Nat) : Int) = 2 := by omega
        rw [if_neg d0, if_neg d1, if_neg d2, if_neg c0, if_neg c1, if_neg c2]
/-- Those of the first k bytes of which f holds. -/
def lst (f : Nat → Bool) (k : Nat) : List Int := ((List.range k).filter f).map fun (n : Nat) => (n : Int)
theorem lst_yes {f : Nat → Bool} {k : Nat} (h : f k = true) : lst f (k + 1) = lst f k ++ [(k : Int)] := by
  unfold lst; rw [List.range_succ, List.filter_append, List.map_append]; simp [h]
theorem lst_no {f : Nat → Bool} {k : Nat} (h : f k = false) : lst f (k + 1) = lst f k := by
  unfold lst; rw [List.range_succ, List.filter_append, List.map_append]; simp [h]
theorem lst_le (f : Nat → Bool) (k : Nat) : (lst f k).length ≤ k := by
  unfold lst; rw [List.length_map]; have := List.length_filter_le f (List.range k); simpa using this
theorem lst_congr {f g : Nat → Bool} {k : Nat} (h : ∀ n, n < k → f n = g n) : lst f k = lst g k := by
  unfold lst
  congr 1
  exact List.filter_congr fun n hn => h n (List.mem_range.1 hn)
/-- What holds at the head of round k of a loop that gathers bytes. -/
def GRel (w : World) (B : Nat) (f : Nat → Bool) (k : Nat) (v : Value) (wr : World) : Prop := wr.ownsRow B 5 1 v (lst f k).length (vals (lst f k)) ∧ Below B w wr
theorem GRel.no {w : World} {B : Nat} {f : Nat → Bool} {k : Nat} {v : Value} {wr w1 : World} (h : GRel w B f k v wr) (hf : f k = false) (hb : Below wr.heap.size wr w1) (hB : B ≤ wr.heap.size) : GRel w B f (k + 1) v w1 := by
  refine ⟨?_, h.2.trans (hb.mono hB)⟩
  rw [lst_no hf]
  exact ownsBelow h.1 hb
theorem GRel.yes {w : World} {B : Nat} {f : Nat → Bool} {k : Nat} {v v' : Value} {wr w1 w2 : World} {o : Obj} (h : GRel w B f k v wr) (hf : f k = true) (hb : Below wr.heap.size wr w1) (hB : B ≤ wr.heap.size)
    (ho : w2.ownsRow B 5 1 v' ((lst f k).length + 1) (vals (lst f k) ++ [.int .u8 (k : Int)])) (hg : (w1.alloc o).grownBy w2 v.ownBlock) : GRel w B f (k + 1) v' w2 := by
  refine ⟨?_, h.2.trans ((hb.mono hB).trans (belowApp (ownsBelow h.1 hb) hg (Nat.le_trans hB hb.size)))⟩
  rw [lst_yes hf, vals_snoc, List.length_append]
  exact ho
/-- The least byte by the document's answer: -1, if there is none. -/
def RefFirstIs (f : Nat → Bool) (z : Int) : Prop := ((∀ n, n < 256 → f n = false) ∧ z = -1) ∨ ∃ n : Nat, n < 256 ∧ f n = true ∧ (∀ i, i < n → f i = false) ∧ z = n
end Go.Proofs.YtenibhmjcafbiaaGreatDoor
