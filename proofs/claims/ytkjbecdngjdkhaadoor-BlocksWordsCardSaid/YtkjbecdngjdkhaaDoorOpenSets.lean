/- A slice of sets that comes in, opened. -/
import Derived.Test.YtkjbecdngjdkhaaDoorBlkA
import Derived.Test.YtkjbecdngjdkhaaDoorOpen
import Derived.ChangeSlices
namespace Go.Proofs.YtkjbecdngjdkhaaDoor
open Go.ChangeShapes Go.WideShapes Go.ChangeAt Go.RowKit
theorem lt_of_cellS {W : World} {g o : Nat} {v : Value} (h : W.cell? ⟨g, o, none⟩ = some v) : g < W.heap.size := by
  by_cases hg : g < W.heap.size
  · exact hg
  · have hn : W.heap[g]? = none := Array.getElem?_eq_none (by omega)
    unfold World.cell? at h
    simp [hn] at h
/-- A slice of sets: where each lies. -/
structure SetsRow (W : World) (p : Option Addr) (n : Nat) (L : List W4) : Prop where
  len : L.length = n
  max : n ≤ maxLen
  fit : ∀ t ∈ L, t.fit
  row : ∀ (i : Nat) t, L[i]? = some t → ∃ g o, p = some ⟨g, o, none⟩ ∧ g < W.heap.size ∧ SetAt W g (o + i * 4) t
set_option maxRecDepth 100000 in
theorem open_sets {H : Type} {enc : TypeId × Value → H} {W : World} {base : Nat} {v : Value} {d : DataW H} {p : List MemPlace}
    (hv : Value.okWide Tryd.prog W .any base 22 v) (h : DataW.Trod enc Tryd.prog W 0 (fun _ => true) true 22 v d p) : ∃ p n c L, v = .slice p n c ∧ SetsRow W p n L ∧ (p = none → c = 0) := by
  have cell1 : Tryd.prog.cellsOf 33 = 1 := by kernel_rfl
  have cell4 : Tryd.prog.cellsOf 35 = 4 := by kernel_rfl
  obtain ⟨a0, len, cap, rfl⟩ := okWide_slice Tryd.underlying22 hv
  obtain ⟨fuel, hf⟩ := h
  rcases DataW.trod_slice Tryd.underlying22 hf with ⟨hcs, hx⟩ | ⟨a, len', cap', elems, rest, n, _, hcs, hx, hb, hl, hm, hlen, hel, hsp, hns⟩
  · simp [Value.cells] at hcs
    obtain ⟨rfl, rfl, rfl⟩ := hcs
    exact ⟨none, 0, 0, [], rfl, ⟨rfl, Nat.zero_le _, fun t ht => by simp at ht, fun i t ht => by simp at ht⟩, fun _ => rfl⟩
  · simp [Value.cells] at hcs
    obtain ⟨rfl, rfl, rfl⟩ := hcs
    have each : ∀ i, i < len → ∃ t : W4, t.fit ∧ W.cell? ((a.add (i * 4)).add 0) = some (.int .u64 t.a) ∧ W.cell? ((a.add (i * 4)).add 1) = some (.int .u64 t.b) ∧ W.cell? ((a.add (i * 4)).add 2) = some (.int .u64 t.c) ∧ W.cell? ((a.add (i * 4)).add 3) = some (.int .u64 t.d) := by
      intro i hi
      have he := hel i hi
      rw [cell4, List.getElem?_eq_getElem (by omega)] at he
      obtain ⟨cs, hcs, ht⟩ := Option.bind_eq_some_iff.1 he
      have hcc := (World.cells?_some hcs).2.2
      obtain ⟨xs, m1, _, hx1, hln, hn3, hel2⟩ := DataW.trod_array Tryd.underlying35 ht
      rw [cell1] at hel2
      rw [cell4] at hln
      match cs, hln with
      | [u0, u1, u2, u3], _ =>
        have e0 := hel2 0 (by omega)
        have e1 := hel2 1 (by omega)
        have e2 := hel2 2 (by omega)
        have e3 := hel2 3 (by omega)
        simp at e0 e1 e2 e3
        rw [List.getElem?_eq_getElem (by omega)] at e0 e1 e2 e3
        obtain ⟨x, f0, _, w0⟩ := DataW.trod_int Tryd.underlying33 e0
        obtain ⟨y, f1, _, w1⟩ := DataW.trod_int Tryd.underlying33 e1
        obtain ⟨z, f2, _, w2⟩ := DataW.trod_int Tryd.underlying33 e2
        obtain ⟨u, f3, _, w3⟩ := DataW.trod_int Tryd.underlying33 e3
        simp at f0 f1 f2 f3
        subst f0 f1 f2 f3
        exact ⟨⟨x, y, z, u⟩, ⟨fit_of_wf w0, fit_of_wf w1, fit_of_wf w2, fit_of_wf w3⟩, hcc 0 (by omega), hcc 1 (by omega), hcc 2 (by omega), hcc 3 (by omega)⟩
    have all : ∀ i, ∃ t : W4, t.fit ∧ (i < len → W.cell? ((a.add (i * 4)).add 0) = some (.int .u64 t.a) ∧ W.cell? ((a.add (i * 4)).add 1) = some (.int .u64 t.b) ∧ W.cell? ((a.add (i * 4)).add 2) = some (.int .u64 t.c) ∧ W.cell? ((a.add (i * 4)).add 3) = some (.int .u64 t.d)) := by
      intro i
      by_cases hi : i < len
      · obtain ⟨t, h1, h2⟩ := each i hi
        exact ⟨t, h1, fun _ => h2⟩
      · exact ⟨⟨0, 0, 0, 0⟩, by simp [W4.fit, Fit], fun h => absurd h hi⟩
    obtain ⟨F, hF⟩ := Classical.axiomOfChoice all
    refine ⟨_, _, _, (List.range len).map F, rfl, ⟨by simp, by omega, fun t ht => ?_, fun i t ht => ?_⟩, fun h => by cases h⟩
    · obtain ⟨i, _, rfl⟩ := List.mem_map.1 ht
      exact (hF i).1
    · obtain ⟨hil, hti⟩ := List.getElem?_eq_some_iff.1 ht
      have hi : i < len := by simpa using hil
      have hte : F i = t := by simpa using hti
      subst hte
      obtain ⟨b, off, spot⟩ := a
      have hc := (hF i).2 hi
      have h0 := ((hF 0).2 (by omega)).1
      have hspot : spot = none := by simpa [Addr.add] using World.cell?_spot h0
      subst hspot
      rw [add_plain, add_plain, add_plain, add_plain, add_plain] at hc
      exact ⟨b, off, rfl, lt_of_cellS hc.1, hc⟩
end Go.Proofs.YtkjbecdngjdkhaaDoor
