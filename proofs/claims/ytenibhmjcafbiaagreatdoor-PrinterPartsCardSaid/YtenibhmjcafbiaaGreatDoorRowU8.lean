/- Slices of bytes that a call makes: what they hold, as a list of numbers; as a string. -/
import Derived.Test.YtenibhmjcafbiaaGreatDoorOwn
import Derived.Laws.BytesArg
import Derived.OwnWalk
import Derived.Lib.SmallJoins
namespace Go.Proofs.YtenibhmjcafbiaaGreatDoor
open Go Go.RowKit
def vals (l : List Int) : List Value := l.map (Value.int .u8)
/-- A slice of bytes that the call has made. -/
def BytesAt (w : World) (v : Value) (xs : List Int) : Prop :=
  (v = .slice none 0 0 ∧ xs = []) ∨ ∃ g cap, v = .slice (some ⟨g, 0, none⟩) xs.length cap ∧ g < w.heap.size ∧ ∀ i, i < xs.length → w.cell? ⟨g, i, none⟩ = some (.int .u8 (xs.getD i 0))
theorem BytesAt.below {B : Nat} {w w' : World} {v : Value} {xs : List Int} (h : BytesAt w v xs) (hb : Below B w w') (hB : w.heap.size ≤ B) : BytesAt w' v xs := by
  rcases h with h | ⟨g, cap, hv, hg, hc⟩
  · exact .inl h
  · exact .inr ⟨g, cap, hv, Nat.lt_of_lt_of_le hg hb.size, fun i hi => (hb.cell (p := ⟨g, i, none⟩) (by show g < B; omega)).trans (hc i hi)⟩
theorem bytes_of_row {w : World} {B n : Nat} {v : Value} {xs : List Int} (h : w.ownsRow B 5 1 v n (vals xs)) : BytesAt w v xs ∧ n = xs.length := by
  have hl : n = xs.length := by have := h.1; simp [vals] at this; exact this.symm
  refine ⟨?_, hl⟩
  rcases h.2 with ⟨rfl, rfl⟩ | ⟨g, cap, cur, rfl, _, hh, hn, _, hs, ht⟩
  · exact .inl ⟨rfl, List.length_eq_zero_iff.1 hl.symm⟩
  · refine .inr ⟨g, cap, by rw [hl], sizeOfGet hh, fun i hi => ?_⟩
    rw [Joins.cell_of_block hh i]
    have e : cur.toList[i]? = (vals xs)[i]? := by
      rw [← ht, List.getElem?_take]; simp [hl, hi]
    rw [← Array.getElem?_toList, e]
    unfold vals
    rw [List.getElem?_map, List.getElem?_eq_getElem hi]
    simp [List.getD_eq_getElem?_getD, hi]
theorem conv_bytes {w : World} {v : Value} {xs : List Int} (h : BytesAt w v xs) : (convert 60 9 v).run Tryz.prog w = .ok (.string (strOfNums xs)) w := by
  rcases h with ⟨rfl, rfl⟩ | ⟨g, cap, rfl, _, hc⟩
  · exact run_convert_bytes_nil (P := Tryz.prog) w 60 5 Tryz.underlying60 Tryz.underlying5 0 0 9 Tryz.underlying9
  · exact run_convert_bytes_arg (P := Tryz.prog) w 60 5 Tryz.underlying60 Tryz.underlying5 g 0 xs.length cap xs rfl (fun i hi => by rw [Nat.zero_add]; exact hc i hi) 9 Tryz.underlying9
theorem Tryz.infoU8 : (Tryz.prog.info? 5).map (fun i => (i.zero, i.size, i.bytes)) = some (some (.int .u8 0), 1, 1) := by kernel_rfl
theorem one_u8 (n : Int) : ∀ u ∈ [Value.int .u8 n], u.oneCell' = true := by
  intro u hu
  obtain rfl : u = .int .u8 n := by simpa using hu
  rfl
theorem vals_snoc (l : List Int) (n : Int) : vals (l ++ [n]) = vals l ++ [.int .u8 n] := by simp [vals]
end Go.Proofs.YtenibhmjcafbiaaGreatDoor
