/- What the condition on the three listed tables gives the walks. -/
import Derived.Test.YtenibhmjcafbiaaGreatDoorLaid
import Derived.Test.YtenibhmjcafbiaaGreatDoorPrW
import Derived.LaidSub
import Derived.Lay
namespace Go.Proofs.YtenibhmjcafbiaaGreatDoor
open Go.ChangeShapes Go.WideShapes Go.ChangeAt Go.WideMaps Go.WideElems Go.RowKit
def laidL3 : List (String × DataW Unit) := [("math/bits.deBruijn32tab", Rows.laid_math_bits_deBruijn32tab), ("math/bits.deBruijn64tab", Rows.laid_math_bits_deBruijn64tab), ("internal/strconv.uint64pow10", Rows.laid_internal_strconv_uint64pow10)]
set_option maxRecDepth 100000 in
theorem door_met3 (os : Os) (args : Array Value) : laidMetH Tryz.prog laidL3 ((World.doorLaid Tryz.prog 4000 os).forCall (fun _ _ => 0) ⟨#[], args, []⟩).memory :=
  laidMetH_of_parts3 (fuel := 8) (laidMet_of_run' 8 (by kernel_rfl) (by kernel_rfl)) (by kernel_rfl) (by kernel_rfl)
theorem tPow : (Tryz.prog.globals[2]?).map (·.type) = some 165 := by kernel_rfl
theorem tab_of_laid3 {W : World} (h : laidMetH Tryz.prog laidL3 W) : Tab W := by
  rw [MakeChecks.laidMetH_plain _ _ _ (by kernel_rfl)] at h
  have h1 := laidMet.filter (fun x => x.1 == "math/bits.deBruijn64tab") h
  have e1 : laidL3.filter (fun x => x.1 == "math/bits.deBruijn64tab") = laidL := by kernel_rfl
  rw [e1] at h1
  refine tab_of_laid ?_
  rw [MakeChecks.laidMetH_plain _ _ _ (by kernel_rfl)]
  exact h1
theorem tabP_of_laid3 {W : World} (h : laidMetH Tryz.prog laidL3 W) : TabP W := by
  rw [MakeChecks.laidMetH_plain _ _ _ (by kernel_rfl)] at h
  have h1 := laidMet.filter (fun x => x.1 == "internal/strconv.uint64pow10") h
  have e1 : laidL3.filter (fun x => x.1 == "internal/strconv.uint64pow10") = [("internal/strconv.uint64pow10", Lib.tabData .u64 Lib.pow10Tab)] := by kernel_rfl
  rw [e1] at h1
  exact Lib.tabIs_of_head gPow tPow Tryz.underlying165 Tryz.underlying32 (by kernel_rfl) (by kernel_rfl) h1
end Go.Proofs.YtenibhmjcafbiaaGreatDoor
