/- Make's contract where the words are known. -/
import Derived.Test.YtcicdiooifjcbaaDoorRefD
namespace Go.Proofs.YtcicdiooifjcbaaDoor
open Go Go.RowKit
/-- A slice of 256 bools lies there. -/
def BoolsAt (W : World) (g : Nat) (f : Nat → Bool) : Prop := g < W.heap.size ∧ ∀ j, j < 256 → W.cell? ⟨g, j, none⟩ = some (.bool (f j))
theorem BoolsAt.below {B : Nat} {W W1 : World} {g : Nat} {f : Nat → Bool} (h : BoolsAt W g f) (hb : Below B W W1) (hB : g < B) : BoolsAt W1 g f :=
  ⟨Nat.lt_of_lt_of_le h.1 hb.size, fun j hj => (hb.cell (p := ⟨g, j, none⟩) hB).trans (h.2 j hj)⟩
theorem make_known {g cap : Nat} {f : Nat → Bool} {w : World} (r0 r1 r2 r3 : Int) (h : BoolsAt w g f) (f0 : Fit r0) (f1 : Fit r1) (f2 : Fit r2) (f3 : Fit r3) (hf : ∀ n, n < 256 → memb r0 r1 r2 r3 n = f n) :
    Calls Tryd.prog 21 #[.slice (some ⟨g, 0, none⟩) 256 cap] w fun e w' => e = .returned (.agg #[.int .u64 r0, .int .u64 r1, .int .u64 r2, .int .u64 r3]) ∧ Below w.heap.size w w' := by
  refine (make_any g cap f w h.1 h.2).mono fun e w' ⟨s0, s1, s2, s3, he, k0, k1, k2, k3, hm, hb⟩ => ?_
  obtain ⟨rfl, rfl, rfl, rfl⟩ := memb_ext k0 k1 k2 k3 f0 f1 f2 f3 (fun n hn => (hm n hn).trans (hf n hn).symm)
  exact ⟨he, hb⟩
theorem bools_of_block {W : World} {g : Nat} {f : Nat → Bool} (h : W.heap[g]? = some (.cells (bl f) 4)) : BoolsAt W g f :=
  ⟨Reg.size_of_get h, fun j hj => (Joins.cell_of_block h j).trans (bl_at f j hj)⟩
end Go.Proofs.YtcicdiooifjcbaaDoor
