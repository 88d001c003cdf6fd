/- How a list of integers that comes in is opened: it has no items, or a block holds them. -/
import Derived.Test.YtbddjdcedfnkaaaDoorOpen
import Derived.ChangeSlices
import Derived.Below
import Derived.RowKit
namespace Go.Proofs.YtbddjdcedfnkaaaDoor
open Go.ChangeShapes Go.WideShapes Go.ChangeAt Go.RowKit
theorem lt_of_cell {W : World} {g o : Nat} {v : Value} (h : W.cell? ⟨g, o, none⟩ = some v) : g < W.heap.size := by
  by_cases hg : g < W.heap.size
  · exact hg
  · have hn : W.heap[g]? = none := by simp; omega
    unfold World.cell? at h
    simp [hn] at h
/-- A slice whose items are 64-bit numbers. -/
def IntsIn (W : World) (v : Value) : Prop :=
  (∃ p cap, v = .slice p 0 cap) ∨
  ∃ (g o len cap : Nat) (l : Nat → Int), v = .slice (some ⟨g, o, none⟩) len cap ∧ 0 < len ∧ len ≤ 9223372036854775807 ∧ g < W.heap.size ∧
    (∀ j, j < len → W.cell? ⟨g, o + j, none⟩ = some (.int .i64 (l j))) ∧ (∀ j, j < len → -9223372036854775808 ≤ l j ∧ l j ≤ 9223372036854775807)
set_option maxRecDepth 100000 in
theorem open_intl {H : Type} {enc : TypeId × Value → H} {W : World} {base : Nat} {v : Value} {d : DataW H} {p : List MemPlace}
    (hv : Value.okWide Tryd.prog W .any base 22 v) (h : DataW.Trod enc Tryd.prog W 0 (fun _ => true) true 22 v d p) : IntsIn W v := by
  have cell1 : Tryd.prog.cellsOf 3 = 1 := by kernel_rfl
  obtain ⟨a0, len, cap, rfl⟩ := okWide_slice Tryd.underlying22 hv
  obtain ⟨fuel, hf⟩ := h
  rcases open_ints Tryd.underlying22 Tryd.underlying3 cell1 hf with ⟨hcs, hx⟩ | ⟨a, len', cap', zs, hcs, _, hl, hm, hz, hx, hcell, hwz⟩
  · simp [Value.cells] at hcs
    obtain ⟨rfl, rfl, rfl⟩ := hcs
    exact .inl ⟨_, _, rfl⟩
  · simp [Value.cells] at hcs
    obtain ⟨rfl, rfl, rfl⟩ := hcs
    simp only [if_true] at hz
    by_cases hl0 : len = 0
    · subst hl0
      exact .inl ⟨_, _, rfl⟩
    · obtain ⟨b, off, spot⟩ := a
      have hspot : spot = none := by simpa [Addr.add] using World.cell?_spot (hcell 0 (by omega))
      subst hspot
      have hc' : ∀ j, j < len → W.cell? ⟨b, off + j, none⟩ = some (.int .i64 (zs.getD j 0)) := fun j hj => by rw [← add_plain]; exact hcell j (by omega)
      refine .inr ⟨b, off, len, cap, fun j => zs.getD j 0, rfl, by omega, by unfold maxLen at hm; omega, lt_of_cell (hc' 0 (by omega)), hc', fun j hj => ?_⟩
      have hj' : j < zs.length := by omega
      have e : zs.getD j 0 = zs[j] := by simp [List.getD_eq_getElem?_getD, hj']
      show -9223372036854775808 ≤ zs.getD j 0 ∧ zs.getD j 0 ≤ 9223372036854775807
      rw [e]
      exact bounds_i64 (hwz _ (List.getElem_mem hj'))
end Go.Proofs.YtbddjdcedfnkaaaDoor
