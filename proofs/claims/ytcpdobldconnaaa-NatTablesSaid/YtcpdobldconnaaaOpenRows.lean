/- How a table of integers that comes in is opened. -/
import Derived.Test.YtcpdobldconnaaaNatE
import Derived.Deep.Matrix
namespace Go.Proofs.Ytcpdobldconnaaa
open Go.ChangeShapes Go.WideShapes Go.ChangeAt Go.RowKit Go.Deep
def TableIn (W : World) (v : Value) : Prop := ∃ p n c A L C Z, v = .slice p n c ∧ RowsAt W p n A L C Z
theorem row_of_ints {W : World} {v : Value} (h : IntsIn W v) : ∃ p n c z, v = .slice p n c ∧ RowAt W p n z := by
  rcases h with ⟨p, cap, rfl⟩ | ⟨g, o, len, cap, l, rfl, h0, hm, hg, hc, hl⟩
  · exact ⟨p, 0, cap, fun _ => 0, rfl, Nat.zero_le _, .inl rfl⟩
  · exact ⟨_, len, cap, l, rfl, hm, .inr ⟨g, o, rfl, hg, fun j hj => ⟨hc j hj, (hl j hj).2⟩⟩⟩
theorem open_introws {H : Type} {enc : TypeId × Value → H} {W : World} {base : Nat} {v : Value} {d : DataW H} {p : List MemPlace}
    (hv : Value.okWide Try.prog W .any base 50 v) (h : DataW.Trod enc Try.prog W 0 (fun _ => true) true 50 v d p) : TableIn W v := by
  have cell1 : Try.prog.cellsOf 3 = 1 := by kernel_rfl
  have cell2 : Try.prog.cellsOf 42 = 1 := by kernel_rfl
  obtain ⟨a0, len, cap, rfl⟩ := okWide_slice Try.underlying50 hv
  obtain ⟨fuel, hf⟩ := h
  rcases open_int_rows Try.underlying50 Try.underlying42 Try.underlying3 cell2 cell1 hf with ⟨hcs, hx⟩ | ⟨a, len', cap', A, L, C, Z, hcs, _, hl, hm, hx, hr⟩
  · simp [Value.cells] at hcs
    obtain ⟨rfl, rfl, rfl⟩ := hcs
    exact ⟨none, 0, 0, fun _ => none, fun _ => 0, fun _ => 0, fun _ _ => 0, rfl, Nat.zero_le _, .inl rfl⟩
  · simp [Value.cells] at hcs
    obtain ⟨rfl, rfl, rfl⟩ := hcs
    refine ⟨_, _, _, A, L, C, fun r c => (Z r).getD c 0, rfl, by unfold maxLen at hm; omega, ?_⟩
    by_cases hl0 : len = 0
    · exact .inl hl0
    right
    obtain ⟨b, off, spot⟩ := a
    have hspot : spot = none := by simpa [Addr.add] using World.cell?_spot (hr 0 (by omega)).1
    subst hspot
    have hc' : ∀ j, j < len → W.cell? ⟨b, off + j, none⟩ = some (.slice (A j) (L j) (C j)) := fun j hj => by rw [← add_plain]; exact (hr j (by omega)).1
    refine ⟨b, off, rfl, lt_of_cell (hc' 0 (by omega)), fun r hrl => ⟨hc' r hrl, ?_⟩⟩
    obtain ⟨_, q1, q2, q3, q4, q5, q6⟩ := hr r (by omega)
    refine ⟨by unfold maxLen at q2; omega, ?_⟩
    by_cases hL0 : L r = 0
    · exact .inl hL0
    right
    cases hA : A r with
    | none => have := q5 hA; omega
    | some a' =>
      obtain ⟨_, hcell⟩ := q6 a' hA
      obtain ⟨b', off', spot'⟩ := a'
      have hspot' : spot' = none := by simpa [Addr.add] using World.cell?_spot (hcell 0 (by omega))
      subst hspot'
      have hc2 : ∀ j, j < L r → W.cell? ⟨b', off' + j, none⟩ = some (.int .i64 ((Z r).getD j 0)) := fun j hj => by rw [← add_plain]; exact hcell j (by omega)
      refine ⟨b', off', rfl, lt_of_cell (hc2 0 (by omega)), fun j hj => ⟨hc2 j hj, ?_⟩⟩
      have hj' : j < (Z r).length := by omega
      have e : (Z r).getD j 0 = (Z r)[j] := by simp [List.getD_eq_getElem?_getD, hj']
      show (Z r).getD j 0 ≤ top
      rw [e]
      exact (bounds_i64 (q4 _ (List.getElem_mem hj'))).2
end Go.Proofs.Ytcpdobldconnaaa
