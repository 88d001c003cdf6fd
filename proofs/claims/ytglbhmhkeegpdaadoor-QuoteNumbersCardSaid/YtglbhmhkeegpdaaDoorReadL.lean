/- The laws QuoteWrites and QuoteReads, walked. -/
import Derived.Test.YtglbhmhkeegpdaaDoorReadH
namespace Go.Proofs.YtglbhmhkeegpdaaDoor
open Go Go.RowKit
attribute [local go_sem ↓] Go.wp_at_zero Go.wp_at_succ
theorem quote_awake (w : World) :
    Calls Tryd.prog 10 #[] w fun e w' => e = .returned (.bool true) ∧ Below w.heap.size w w' := by
  have HR := read_any ⟨#[97, 92, 120, 50, 48, 92, 92]⟩ (by decide) w
  rw [show wordR (nums ⟨#[97, 92, 120, 50, 48, 92, 92]⟩) = (some [97, 32, 92], 7) from by decide +kernel] at HR
  have HW := fun W => write_all ⟨#[97, 32, 92]⟩ (by decide) W
  rw [show wordS ⟨#[97, 32, 92]⟩ = ⟨#[97, 92, 120, 50, 48, 92, 92]⟩ from by decide +kernel] at HW
  have HR := qhid HR
  have HW := qhid HW
  go_enter Tryd.func10, Tryd.ntmps10
  go_wp2_with fail
  refine HR.out.mono ?_
  rintro e w1 ⟨rfl, hb⟩
  rw [show strOfNums (ni [97, 32, 92]) = ⟨#[97, 32, 92]⟩ from rfl]
  have HB := qhid hb
  clear hb
  go_wp2_with fail
  refine (HW.out _).mono ?_
  rintro e w2 ⟨rfl, hb2⟩
  have HB2 := qhid (HB.out.trans (hb2.mono HB.out.size))
  clear hb2
  go_wp2_with fail
  go_ret
  exact ⟨by rfl, HB2.out⟩
end Go.Proofs.YtglbhmhkeegpdaaDoor
