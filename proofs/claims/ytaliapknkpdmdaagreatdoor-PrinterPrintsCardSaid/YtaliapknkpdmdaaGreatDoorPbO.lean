/- A part of the proof. -/
import Derived.Test.YtaliapknkpdmdaaGreatDoorPbH
import Derived.Test.YtaliapknkpdmdaaGreatDoorPbM
namespace Go.Proofs.YtaliapknkpdmdaaGreatDoor
set_option maxRecDepth 100000
set_option maxHeartbeats 8000000
section
open Go Go.RowKit
attribute [local go_sem ↓] Go.wp_at_zero Go.wp_at_succ
attribute [local go_sem] eq4
theorem run_store_fncO (P : Program) (w : World) (a : Addr) (f : Fn) (x y : Array Value) (m : Mode) : (store a (.func f x y) m).run P w = stored P w a (.func f x y) m := run_store P w a _ m rfl
attribute [local go_sem] run_store_fncO
theorem sright_nil (w : World) : Calls Tryz.prog 17 #[.pointer none] w fun e w' => e = .returned (.bool false) /\ Below w.heap.size w w' := by
 have FN := qhid (pfold_nil w (.func 35) #[])
 go_enter Tryz.func17,Tryz.ntmps17
 go_wp2_with fail
 refine FN.out.mono ?_;rintro e w1 ⟨rfl,h1⟩;have H1 := qhid h1;clear h1 FN
 go_wp2_with fail
 exact bodyPost_ret (v := .bool false) (by simp [results,Tryz.results17,go_sem]) rfl ⟨rfl,H1.out⟩
end
end Go.Proofs.YtaliapknkpdmdaaGreatDoor
