/- Contracts of quote's reference: One. -/
import Derived.Test.YtglbhmhkeegpdaaDoorQuoteB
namespace Go.Proofs.YtglbhmhkeegpdaaDoor
open Go Go.RowKit
attribute [local go_sem ↓] Go.wp_at_zero Go.wp_at_succ
theorem bytes_new (w : World) (xs : List Int) (c : Nat) (t : TypeId) : BytesAt (w.alloc (.cells (vals xs).toArray t)) (.slice (some ⟨w.heap.size, 0, none⟩) xs.length c) xs := by
  refine .inr ⟨w.heap.size, c, rfl, by simp, fun i hi => ?_⟩
  have hn := news_new w (vals xs).toArray t i (.int .u8 (xs.getD i 0)) (by
    show (vals xs)[i]? = _
    unfold vals
    rw [List.getElem?_map, List.getElem?_eq_getElem hi]
    simp [List.getD_eq_getElem?_getD, hi])
  have e : (⟨w.heap.size, 0, none⟩ : Addr).add i = ⟨w.heap.size, i, none⟩ := by unfold Addr.add; split <;> simp_all
  rw [e] at hn
  exact hn
theorem hex_app (x y : Int) : (⟨#[92, 120]⟩ : ByteArray) ++ strOfNums [x, y] = strOfNums [92, 120, x, y] := by
  rfl
end Go.Proofs.YtglbhmhkeegpdaaDoor
