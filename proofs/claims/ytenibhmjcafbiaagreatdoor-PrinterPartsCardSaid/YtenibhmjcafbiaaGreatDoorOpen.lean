/- How a set that comes in is opened: four words that fit. -/
import Derived.Test.YtenibhmjcafbiaaGreatDoorRows
import Derived.Test.YtenibhmjcafbiaaGreatDoorWords
import Derived.WalkKit
import Derived.ProofKit
import Derived.OpenShut
import Derived.ShutString
import Derived.ChangeOld
import Derived.Below
import Derived.Lib.SmallJoins
namespace Go.Proofs.YtenibhmjcafbiaaGreatDoor
open Go.ChangeShapes Go.WideShapes Go.ChangeAt Go.RowKit
theorem own : ownKnob Tryz.prog.godebug = none := by kernel_rfl
theorem laidOut : laidOutB Tryz.prog = true := by kernel_rfl
theorem fit_of_wf {n : Int} (h : (Lit.int .u64 n).wf = true) : Fit n := by
  simp [Lit.wf, IntKind.min, IntKind.max, IntKind.signed, IntKind.bits] at h
  unfold Fit; omega
theorem list4 {α : Type} (l : List α) (h : (⟨l⟩ : Array α).size = 4) : ∃ a b c d, l = [a, b, c, d] := by
  match l, h with
  | [a, b, c, d], _ => exact ⟨a, b, c, d, rfl⟩
theorem trod_lt0 {H : Type} {enc : TypeId × Value → H} {W : World} {t : TypeId} {v : Value} {d : DataW H} {p : List MemPlace} (k : DataW.Trod enc Tryz.prog W 0 (fun _ => true) true t v d p) : ∀ x ∈ p, x.block < W.heap.size := by
  obtain ⟨m, hm⟩ := k
  exact DataW.trod_lt m _ _ _ hm
set_option maxRecDepth 100000 in
theorem open_set {H : Type} {enc : TypeId × Value → H} {W : World} {base : Nat} {v : Value} {d : DataW H} {p : List MemPlace}
    (hv : Value.okWide Tryz.prog W .any base 34 v) (h : DataW.Trod enc Tryz.prog W 0 (fun _ => true) true 34 v d p) :
    ∃ a b c e : Int, v = .agg #[.int .u64 a, .int .u64 b, .int .u64 c, .int .u64 e] ∧ Fit a ∧ Fit b ∧ Fit c ∧ Fit e := by
  have cells : Tryz.prog.cellsOf 34 = 4 := by kernel_rfl
  have cell1 : Tryz.prog.cellsOf 32 = 1 := by kernel_rfl
  obtain ⟨cs, rfl, hsz, _⟩ : ∃ cs, v = .agg cs ∧ cs.size = Tryz.prog.cellsOf 34 ∧ Row.okWide Tryz.prog W .any base 34 cs := by
    simpa [Value.okWide, Tryz.underlying34] using hv
  rw [cells] at hsz
  obtain ⟨l⟩ := cs
  obtain ⟨c0, c1, c2, c3, rfl⟩ := list4 l hsz
  obtain ⟨fuel, hf⟩ := h
  obtain ⟨xs, m, _, hx, hl, hxl, hall⟩ := DataW.trod_array Tryz.underlying34 hf
  rw [cell1] at hall
  have e0 := hall 0 (by omega)
  have e1 := hall 1 (by omega)
  have e2 := hall 2 (by omega)
  have e3 := hall 3 (by omega)
  simp [Value.cells] at e0 e1 e2 e3
  rw [List.getElem?_eq_getElem (by omega)] at e0 e1 e2 e3
  obtain ⟨x0, f0, _, w0⟩ := DataW.trod_int Tryz.underlying32 e0
  obtain ⟨x1, f1, _, w1⟩ := DataW.trod_int Tryz.underlying32 e1
  obtain ⟨x2, f2, _, w2⟩ := DataW.trod_int Tryz.underlying32 e2
  obtain ⟨x3, f3, _, w3⟩ := DataW.trod_int Tryz.underlying32 e3
  simp at f0 f1 f2 f3
  subst f0 f1 f2 f3
  exact ⟨x0, x1, x2, x3, rfl, fit_of_wf w0, fit_of_wf w1, fit_of_wf w2, fit_of_wf w3⟩
end Go.Proofs.YtenibhmjcafbiaaGreatDoor
