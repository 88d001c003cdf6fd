/- Groups within one another: their tokens, and the tree, told plainly. Contracts of trees: what comes of nothing. -/
import Derived.Test.YtaliapknkpdmdaaDoorPbH
import Derived.Test.YtaliapknkpdmdaaDoorPbM
namespace Go.Proofs.YtaliapknkpdmdaaDoor
section
open Go Go.RowKit
end
section
open Go Go.RowKit
attribute [local go_sem ↓] Go.wp_at_zero Go.wp_at_succ
attribute [local go_sem] eq4
theorem run_store_fncO (P : Program) (w : World) (a : Addr) (f : Fn) (x y : Array Value) (m : Mode) : (store a (.func f x y) m).run P w = stored P w a (.func f x y) m := run_store P w a _ m rfl
attribute [local go_sem] run_store_fncO
set_option maxRecDepth 100000 in
set_option maxHeartbeats 2000000 in
theorem ssame_nn (w : World) : Calls Tryd.prog 7 #[.pointer none, .pointer none] w fun e w' => e = .returned (.bool true) ∧ Below w.heap.size w w' := by
  have hmm := @run_makeMap Tryd.prog
  have b1 := below1 w (.map #[] 0)
  have b2 := below1 (w.alloc (.map #[] 0)) (.cells #[.pointer none, .pointer none] 61)
  have HB := qhid (b1.trans (b2.mono b1.size))
  have he := heap_new (w.alloc (.map #[] 0)) (.cells #[.pointer none, .pointer none] 61)
  rw [World.size_alloc] at he
  have HE := qhid he
  clear b1 b2 he
  go_enter Tryd.func7, Tryd.ntmps7
  go_wp2_with fail
  clear hmm
  go_loopg [6] 1 (fun rr l wr => ∃ m : Nat, Hid (m = rr) ∧ m ≤ 1 ∧ l = .slice (some ⟨w.heap.size + 1, 0, none⟩) m 1 ∧ Hid (wr.heap[w.heap.size + 1]? = some (.cells #[.pointer none, .pointer none] 61)) ∧ Hid (Below w.heap.size w wr))
  case atStart => exact ⟨1, qhid rfl, Nat.le_refl _, rfl, HE, HB⟩
  case round =>
    clear HE HB
    obtain ⟨m, hm, hm1, rfl, HE, HB⟩ := hrel
    have k0 := Joins.cell_of_block HE.out 0
    have k1 := Joins.cell_of_block HE.out 1
    simp only [List.getElem?_toArray, List.getElem?_cons_zero, List.getElem?_cons_succ] at k0 k1
    have hbx := below1 wr (.cells #[.pointer none, .pointer none] 61)
    have HE2 := qhid (below_kept hbx HE.out)
    have HB2 := qhid (HB.out.trans (hbx.mono HB.out.size))
    clear hbx
    by_cases h0 : m = 0
    · subst h0
      go_wp2_with fail
      exact bodyPost_ret (v := .bool true) (by simp [results, Tryd.results7, go_sem]) rfl ⟨rfl, HB.out⟩
    · obtain rfl : m = 1 := by omega
      go_wp2_with fail
      go_roundg 0
      case rel => exact ⟨0, qhid rfl, by omega, rfl, HE2, HB2⟩
      case measure => have := hm.out; omega
set_option maxRecDepth 100000 in
set_option maxHeartbeats 2000000 in
theorem ssame_xn (q : Nat) (w : World) : Calls Tryd.prog 7 #[ndPtr q, .pointer none] w fun e w' => e = .returned (.bool false) ∧ Below w.heap.size w w' := by
  have hmm := @run_makeMap Tryd.prog
  have b1 := below1 w (.map #[] 0)
  have b2 := below1 (w.alloc (.map #[] 0)) (.cells #[ndPtr q, .pointer none] 61)
  have HB := qhid (b1.trans (b2.mono b1.size))
  have he := heap_new (w.alloc (.map #[] 0)) (.cells #[ndPtr q, .pointer none] 61)
  rw [World.size_alloc] at he
  have HE := qhid he
  clear b1 b2 he
  go_enter Tryd.func7, Tryd.ntmps7
  go_wp2_with fail
  clear hmm
  go_loopg [6] 1 (fun rr l wr => Hid (rr = 1) ∧ l = .slice (some ⟨w.heap.size + 1, 0, none⟩) 1 1 ∧ Hid (wr.heap[w.heap.size + 1]? = some (.cells #[ndPtr q, .pointer none] 61)) ∧ Hid (Below w.heap.size w wr))
  case atStart => exact ⟨qhid rfl, rfl, HE, HB⟩
  case round =>
    clear HE HB
    obtain ⟨_, rfl, HE, HB⟩ := hrel
    have k0 := Joins.cell_of_block HE.out 0
    have k1 := Joins.cell_of_block HE.out 1
    simp only [List.getElem?_toArray, List.getElem?_cons_zero, List.getElem?_cons_succ] at k0 k1
    have hbx := below1 wr (.cells #[ndPtr q, .pointer none] 61)
    have HB2 := qhid (HB.out.trans (hbx.mono HB.out.size))
    clear hbx
    go_wp2_with fail
    exact bodyPost_ret (v := .bool false) (by simp [results, Tryd.results7, go_sem]) rfl ⟨rfl, HB2.out⟩
end
end Go.Proofs.YtaliapknkpdmdaaDoor
