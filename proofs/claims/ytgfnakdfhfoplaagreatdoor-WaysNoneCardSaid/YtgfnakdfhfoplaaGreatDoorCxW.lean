/- The listed table as a block of memory, and what is known of it. -/
import Derived.Test.YtgfnakdfhfoplaaGreatDoorCxV
import Derived.Test.YtgfnakdfhfoplaaGreatDoorChecked
import Derived.Test.YtgfnakdfhfoplaaGreatDoorRows
import Derived.Lib.TrailingZeros
import Derived.LaidMore
import Derived.OpenShut
import Derived.ProofKit
import Derived.MapPlaces
namespace Go.Proofs.YtgfnakdfhfoplaaGreatDoor
open Go.ChangeShapes Go.WideShapes Go.ChangeAt Go.WideMaps Go.WideElems Go.RowKit
theorem own : ownKnob Tryz.prog.godebug = none := by kernel_rfl
theorem laidOut : laidOutB Tryz.prog = true := by kernel_rfl
theorem trod_lt0 {H : Type} {enc : TypeId × Value → H} {W : World} {t : TypeId} {v : Value} {d : DataW H} {p : List MemPlace} (k : DataW.Trod enc Tryz.prog W 0 (fun _ => true) true t v d p) : ∀ x ∈ p, x.block < W.heap.size := by
  obtain ⟨m, hm⟩ := k
  exact DataW.trod_lt m _ _ _ hm
def laidL : List (String × DataW Unit) := [("math/bits.deBruijn64tab", Rows.laid_math_bits_deBruijn64tab)]
theorem gTab : Tryz.prog.globalNamed "math/bits.deBruijn64tab" = some 1 := by kernel_rfl
theorem tTab : (Tryz.prog.globals[1]?).map (·.type) = some 211 := by kernel_rfl
theorem tabD : (Rows.laid_math_bits_deBruijn64tab : DataW Unit) = .agg (Lib.deBruijn64tab.map fun n : Nat => .lit (.int .u8 n)) := rfl
set_option maxRecDepth 100000 in
theorem door_met (os : Os) (args : Array Value) : laidMetH Tryz.prog laidL ((World.doorLaid Tryz.prog 4000 os).forCall (fun _ _ => 0) ⟨#[], args, []⟩).memory :=
  laidMetH_of_parts3 (fuel := 8) (laidMet_of_run' 8 (by kernel_rfl) (by kernel_rfl)) (by kernel_rfl) (by kernel_rfl)
def tabT : Cx.T Value := Cx.T.ofList (Lib.deBruijn64tab.map fun n : Nat => Value.int .u8 n)
/-- The table's block. -/
def TabB (W : World) : Prop := ∃ cs e, W.heap[1]? = some (.cells cs e (0, 0)) ∧ ∀ i v, tabT.get i = some v → cs[i]? = some v ∧ Cx.flat1 v = true
set_option maxRecDepth 100000 in
theorem tab_of_laid {W : World} (h : laidMetH Tryz.prog laidL W) : TabB W := by
  rw [MakeChecks.laidMetH_plain _ _ _ (by kernel_rfl)] at h
  obtain ⟨ps, ⟨g0, t0, cs0, f0, p0, q0, hg0, ht0, hv0, hd0, _, hps⟩, _, hfr⟩ := h
  obtain rfl := Option.some.inj (gTab.symm.trans hg0)
  obtain rfl := Option.some.inj (tTab.symm.trans ht0)
  have c5 : Tryz.prog.cellsOf 5 = 1 := by kernel_rfl
  obtain ⟨xs, m1, rfl, hx1, hlen, hn3, hel⟩ := DataW.trod_array Tryz.underlying211 hd0
  rw [tabD] at hx1
  simp only [Prod.mk.injEq, DataW.agg.injEq] at hx1
  have hsz : cs0.size = Tryz.prog.cellsOf 211 := by simpa using hlen
  have c64 : Tryz.prog.cellsOf 211 = 64 := by kernel_rfl
  have hmem : MemPlace.cell 1 0 ∈ ps := by
    rw [hps, List.append_assoc]
    exact List.mem_append_left _ (MemPlace.mem_row.2 ⟨0, by omega, rfl⟩)
  obtain ⟨⟨cs, e, hb⟩, _⟩ := hfr _ _ hmem
  have hcs : cs = cs0 := by
    unfold World.var? at hv0
    rw [hg0] at hv0
    simp only [Option.bind, hb, Option.some.injEq] at hv0
    exact hv0
  subst hcs
  refine ⟨cs, e, hb, fun i v hi => ?_⟩
  unfold tabT at hi
  have hl : Lib.deBruijn64tab.length = 64 := by decide
  rw [Cx.T.get_ofList (by rw [List.length_map, hl]; decide), List.getElem?_map] at hi
  cases hj : Lib.deBruijn64tab[i]? with
  | none => rw [hj] at hi; cases hi
  | some n =>
    rw [hj] at hi
    injection hi with hi; subst hi
    have hlt : i < 64 := by
      rw [← hl]
      exact (List.getElem?_eq_some_iff.1 hj).1
    have hjx : i < xs.length := by omega
    have e2 := hel i hlt
    rw [c5, Nat.mul_one, List.getElem?_eq_getElem hjx] at e2
    obtain ⟨k, e1, e3, _⟩ := DataW.trod_int Tryz.underlying5 e2
    have hm := congrArg (fun l => l[i]?) hx1.1
    simp only [List.getElem?_map, List.getElem?_eq_getElem hjx, hj, Option.map_some, Option.some.injEq] at hm
    rw [e3] at hm
    simp only [DataW.lit.injEq, Lit.int.injEq, true_and] at hm
    have hv : cs[i]? = some (.int .u8 k) := by
      have := congrArg (fun l => l[0]?) e1
      simp only [List.getElem?_take, List.getElem?_drop, Nat.add_zero] at this
      rw [← Array.getElem?_toList]
      simpa using this
    exact ⟨by rw [hv, ← hm], rfl⟩
end Go.Proofs.YtgfnakdfhfoplaaGreatDoor
