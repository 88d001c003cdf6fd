/- graph: a list of pairs of numbers that comes in is opened; the laws' inputs. -/
import Derived.Test.YtghfodjefjijdaaGrX
import Derived.ChangeSlices
namespace Go.Proofs.Ytghfodjefjijdaa
open Go.ChangeShapes Go.WideShapes Go.ChangeAt Go.RowKit
theorem lt_of_cellI {W : World} {g o : Nat} {v : Value} (h : W.cell? ⟨g, o, none⟩ = some v) : g < W.heap.size := by
  by_cases hg : g < W.heap.size
  · exact hg
  · have hn : W.heap[g]? = none := Array.getElem?_eq_none (by omega)
    unfold World.cell? at h
    simp [hn] at h
set_option maxRecDepth 100000 in
theorem open_ipairs {H : Type} {enc : TypeId × Value → H} {W : World} {base : Nat} {v : Value} {d : DataW H} {p : List MemPlace}
    (hv : Value.okWide Try.prog W .any base 22 v) (h : DataW.Trod enc Try.prog W 0 (fun _ => true) true 22 v d p) : ∃ p n c xs ys, v = .slice p n c ∧ PairsAt W p n xs ys := by
  have cell1 : Try.prog.cellsOf 3 = 1 := by kernel_rfl
  have cell2 : Try.prog.cellsOf 41 = 2 := by kernel_rfl
  obtain ⟨a0, len, cap, rfl⟩ := okWide_slice Try.underlying22 hv
  obtain ⟨fuel, hf⟩ := h
  rcases DataW.trod_slice Try.underlying22 hf with ⟨hcs, hx⟩ | ⟨a, len', cap', elems, rest, n, _, hcs, hx, hb, hl, hm, hlen, hel, hsp, hns⟩
  · simp [Value.cells] at hcs
    obtain ⟨rfl, rfl, rfl⟩ := hcs
    exact ⟨none, 0, 0, fun _ => 0, fun _ => 0, rfl, Nat.zero_le _, .inl rfl⟩
  · simp [Value.cells] at hcs
    obtain ⟨rfl, rfl, rfl⟩ := hcs
    have each : ∀ i, i < len → ∃ x y : Int, W.cell? ((a.add (i * 2)).add 0) = some (.int .i64 x) ∧ W.cell? ((a.add (i * 2)).add 1) = some (.int .i64 y) := by
      intro i hi
      have he := hel i hi
      rw [cell2, List.getElem?_eq_getElem (by omega)] at he
      obtain ⟨cs, hcs, ht⟩ := Option.bind_eq_some_iff.1 he
      have hcc := (World.cells?_some hcs).2.2
      obtain ⟨xs, m1, _, hx1, hln, hn3, hel2⟩ := DataW.trod_array Try.underlying41 ht
      rw [cell1] at hel2
      rw [cell2] at hln
      match cs, hln with
      | [u0, u1], _ =>
        have e0 := hel2 0 (by omega)
        have e1 := hel2 1 (by omega)
        simp at e0 e1
        rw [List.getElem?_eq_getElem (by omega)] at e0 e1
        obtain ⟨x, f0, _, w0⟩ := DataW.trod_int Try.underlying3 e0
        obtain ⟨y, f1, _, w1⟩ := DataW.trod_int Try.underlying3 e1
        simp at f0 f1
        subst f0 f1
        exact ⟨x, y, hcc 0 (by omega), hcc 1 (by omega)⟩
    have all : ∀ i, ∃ q : Int × Int, (i < len → W.cell? ((a.add (i * 2)).add 0) = some (.int .i64 q.1) ∧ W.cell? ((a.add (i * 2)).add 1) = some (.int .i64 q.2)) := by
      intro i
      by_cases hi : i < len
      · obtain ⟨x, y, h3, h4⟩ := each i hi
        exact ⟨(x, y), fun _ => ⟨h3, h4⟩⟩
      · exact ⟨(0, 0), fun h => absurd h hi⟩
    obtain ⟨F, hF⟩ := Classical.axiomOfChoice all
    refine ⟨_, _, _, fun i => (F i).1, fun i => (F i).2, rfl, by unfold maxLen at hm; omega, ?_⟩
    by_cases hl0 : len = 0
    · exact .inl hl0
    · obtain ⟨b, off, spot⟩ := a
      have h0 := (hF 0 (by omega)).1
      have hspot : spot = none := by simpa [Addr.add] using World.cell?_spot h0
      subst hspot
      have hc' : ∀ j, j < len → W.cell? ⟨b, off + j * 2, none⟩ = some (.int .i64 (F j).1) ∧ W.cell? ⟨b, off + j * 2 + 1, none⟩ = some (.int .i64 (F j).2) := by
        intro j hj
        have := hF j hj
        rw [add_plain, add_plain, add_plain] at this
        exact this
      have hc0 := (hc' 0 (by omega)).1
      exact .inr ⟨b, off, rfl, lt_of_cellI hc0, hc'⟩
end Go.Proofs.Ytghfodjefjijdaa
