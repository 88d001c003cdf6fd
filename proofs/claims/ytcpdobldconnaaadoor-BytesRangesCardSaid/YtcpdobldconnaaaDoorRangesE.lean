/- What the law BytesRanges' loops keep; and how a list of pairs of bytes that comes in is opened. -/
import Derived.Test.YtcpdobldconnaaaDoorRangesD
import Derived.Test.YtcpdobldconnaaaDoorOpen
import Derived.Test.YtcpdobldconnaaaDoorOpenBytes
import Derived.ChangeSlices
namespace Go.Proofs.YtcpdobldconnaaaDoor
open Go.ChangeShapes Go.WideShapes Go.ChangeAt Go.RowKit
theorem pairVals_at : ∀ (rs : List (Nat × Nat)) (j : Nat) (h : j < rs.length), (pairVals rs)[j * 2]? = some (.int .u8 (rs[j].1 : Int)) ∧ (pairVals rs)[j * 2 + 1]? = some (.int .u8 (rs[j].2 : Int))
  | [], j, h => absurd h (by simp)
  | p :: r, 0, _ => by simp [pairVals]
  | p :: r, j + 1, h => by
    have := pairVals_at r j (by simpa using h)
    have e : pairVals (p :: r) = [.int .u8 (p.1 : Int), .int .u8 (p.2 : Int)] ++ pairVals r := rfl
    rw [e, show (j + 1) * 2 = j * 2 + 2 by omega, show j * 2 + 2 + 1 = j * 2 + 1 + 2 by omega]
    rw [List.getElem?_append_right (by simp), List.getElem?_append_right (by simp)]
    simpa using this
def loR (rs : List (Nat × Nat)) (j : Nat) : Nat := (rs.getD j (0, 0)).1
def hiR (rs : List (Nat × Nat)) (j : Nat) : Nat := (rs.getD j (0, 0)).2
theorem getD_in {rs : List (Nat × Nat)} {j : Nat} (h : j < rs.length) : rs.getD j (0, 0) = rs[j] := by simp [List.getD_eq_getElem?_getD, h]
theorem loR_in {rs : List (Nat × Nat)} {j : Nat} (h : j < rs.length) : loR rs j = rs[j].1 := by unfold loR; rw [getD_in h]
theorem hiR_in {rs : List (Nat × Nat)} {j : Nat} (h : j < rs.length) : hiR rs j = rs[j].2 := by unfold hiR; rw [getD_in h]
theorem out_R {rs : List (Nat × Nat)} {j : Nat} (h : ¬ j < rs.length) : rs.getD j (0, 0) = (0, 0) := by rw [List.getD_eq_getElem?_getD, List.getElem?_eq_none (by omega)]; rfl
theorem pairs_of_row {W : World} {B : Nat} {v : Value} {rs : List (Nat × Nat)} (h : W.ownsRow B 40 2 v rs.length (pairVals rs)) (hr : Rise rs) (hl : rs.length ≤ 256) : ∃ p cap, v = .slice p rs.length cap ∧ PairRow W p rs.length (loR rs) (hiR rs) := by
  have hb : ∀ j, loR rs j < 256 ∧ hiR rs j < 256 := by
    intro j
    by_cases hj : j < rs.length
    · rw [loR_in hj, hiR_in hj]
      have := rise_each rs hr j hj
      omega
    · unfold loR hiR; rw [out_R hj]; simp
  rcases h.2 with ⟨rfl, h0⟩ | ⟨g, cap, cur, rfl, _, hh, hn, _, hs, ht⟩
  · exact ⟨none, 0, by rw [h0], by omega, fun j => (hb j).1, fun j => (hb j).2, .inl h0⟩
  · refine ⟨_, cap, rfl, by omega, fun j => (hb j).1, fun j => (hb j).2, .inr ⟨g, 0, rfl, sizeOfGet hh, fun j hj => ?_⟩⟩
    have e : ∀ i, i < rs.length * 2 → cur[i]? = (pairVals rs)[i]? := fun i hi => by
      rw [← ht, List.getElem?_take, Array.getElem?_toList]; simp [hi]
    rw [Nat.zero_add, Joins.cell_of_block hh _, Joins.cell_of_block hh _, e _ (by omega), e _ (by omega), loR_in hj, hiR_in hj]
    exact pairVals_at rs j hj
theorem frm_take (rs : List (Nat × Nat)) (n k : Nat) (hk : k ≤ rs.length) : frm (loR rs) (hiR rs) k n = inRs (rs.take k) n := by
  induction k with
  | zero => simp [frm, inRs]
  | succ k ih =>
    have hk' : k < rs.length := by omega
    unfold inRs at ih ⊢
    rw [List.take_succ_eq_append_getElem hk', List.any_append, ← ih (by omega)]
    simp [frm, loR_in hk', hiR_in hk']
theorem frm_all (rs : List (Nat × Nat)) (n : Nat) : frm (loR rs) (hiR rs) rs.length n = inRs rs n := by
  rw [frm_take rs n rs.length (Nat.le_refl _), List.take_length]
set_option maxRecDepth 100000 in
theorem open_pairs {H : Type} {enc : TypeId × Value → H} {W : World} {base : Nat} {v : Value} {d : DataW H} {p : List MemPlace}
    (hv : Value.okWide Tryd.prog W .any base 37 v) (h : DataW.Trod enc Tryd.prog W 0 (fun _ => true) true 37 v d p) : ∃ p n c lo hi, v = .slice p n c ∧ PairRow W p n lo hi := by
  have cell1 : Tryd.prog.cellsOf 5 = 1 := by kernel_rfl
  have cell2 : Tryd.prog.cellsOf 40 = 2 := by kernel_rfl
  obtain ⟨a0, len, cap, rfl⟩ := okWide_slice Tryd.underlying37 hv
  obtain ⟨fuel, hf⟩ := h
  rcases DataW.trod_slice Tryd.underlying37 hf with ⟨hcs, hx⟩ | ⟨a, len', cap', elems, rest, n, _, hcs, hx, hb, hl, hm, hlen, hel, hsp, hns⟩
  · simp [Value.cells] at hcs
    obtain ⟨rfl, rfl, rfl⟩ := hcs
    exact ⟨none, 0, 0, fun _ => 0, fun _ => 0, rfl, Nat.zero_le _, (fun _ => by show (0 : Nat) < 256; omega), (fun _ => by show (0 : Nat) < 256; omega), .inl rfl⟩
  · simp [Value.cells] at hcs
    obtain ⟨rfl, rfl, rfl⟩ := hcs
    have each : ∀ i, i < len → ∃ x y : Nat, x < 256 ∧ y < 256 ∧ W.cell? ((a.add (i * 2)).add 0) = some (.int .u8 (x : Int)) ∧ W.cell? ((a.add (i * 2)).add 1) = some (.int .u8 (y : Int)) := by
      intro i hi
      have he := hel i hi
      rw [cell2, List.getElem?_eq_getElem (by omega)] at he
      obtain ⟨cs, hcs, ht⟩ := Option.bind_eq_some_iff.1 he
      have hcc := (World.cells?_some hcs).2.2
      obtain ⟨xs, m1, _, hx1, hln, hn3, hel2⟩ := DataW.trod_array Tryd.underlying40 ht
      rw [cell1] at hel2
      rw [cell2] at hln
      match cs, hln with
      | [u0, u1], _ =>
        have e0 := hel2 0 (by omega)
        have e1 := hel2 1 (by omega)
        simp at e0 e1
        rw [List.getElem?_eq_getElem (by omega)] at e0 e1
        obtain ⟨x, f0, _, w0⟩ := DataW.trod_int Tryd.underlying5 e0
        obtain ⟨y, f1, _, w1⟩ := DataW.trod_int Tryd.underlying5 e1
        simp at f0 f1
        subst f0 f1
        have b0 := bounds_u8 w0
        have b1 := bounds_u8 w1
        obtain ⟨x, rfl⟩ := Int.eq_ofNat_of_zero_le b0.1
        obtain ⟨y, rfl⟩ := Int.eq_ofNat_of_zero_le b1.1
        exact ⟨x, y, by omega, by omega, hcc 0 (by omega), hcc 1 (by omega)⟩
    have all : ∀ i, ∃ q : Nat × Nat, q.1 < 256 ∧ q.2 < 256 ∧ (i < len → W.cell? ((a.add (i * 2)).add 0) = some (.int .u8 (q.1 : Int)) ∧ W.cell? ((a.add (i * 2)).add 1) = some (.int .u8 (q.2 : Int))) := by
      intro i
      by_cases hi : i < len
      · obtain ⟨x, y, h1, h2, h3, h4⟩ := each i hi
        exact ⟨(x, y), h1, h2, fun _ => ⟨h3, h4⟩⟩
      · exact ⟨(0, 0), by show 0 < 256; omega, by show 0 < 256; omega, fun h => absurd h hi⟩
    obtain ⟨F, hF⟩ := Classical.axiomOfChoice all
    refine ⟨_, _, _, fun i => (F i).1, fun i => (F i).2, rfl, by unfold maxLen at hm; omega, fun j => (hF j).1, fun j => (hF j).2.1, ?_⟩
    by_cases hl0 : len = 0
    · exact .inl hl0
    · obtain ⟨b, off, spot⟩ := a
      have h0 := ((hF 0).2.2 (by omega)).1
      have hspot : spot = none := by simpa [Addr.add] using World.cell?_spot h0
      subst hspot
      have hc' : ∀ j, j < len → W.cell? ⟨b, off + j * 2, none⟩ = some (.int .u8 ((F j).1 : Int)) ∧ W.cell? ⟨b, off + j * 2 + 1, none⟩ = some (.int .u8 ((F j).2 : Int)) := by
        intro j hj
        have := (hF j).2.2 hj
        rw [add_plain, add_plain, add_plain] at this
        exact this
      have hc0 := (hc' 0 (by omega)).1
      exact .inr ⟨b, off, rfl, lt_of_cell hc0, hc'⟩
end Go.Proofs.YtcpdobldconnaaaDoor
