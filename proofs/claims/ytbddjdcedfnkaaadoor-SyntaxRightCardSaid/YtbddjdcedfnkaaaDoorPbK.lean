/- The statement on Right, of numbers that came in. -/
import Derived.Test.YtbddjdcedfnkaaaDoorPbJa
import Derived.Test.YtbddjdcedfnkaaaDoorPbJb
import Derived.Test.YtbddjdcedfnkaaaDoorPbJc
import Derived.Test.YtbddjdcedfnkaaaDoorOpenInts
namespace Go.Proofs.YtbddjdcedfnkaaaDoor
open Go Go.RowKit
theorem rightlaw_any (kind lo hi : Int) (z : Bool) (p : Option Addr) (n cap : Nat) (ks : List Int) (s : W4) (w : World) (hk : ks.length = n) (hp : ∀ (i : Nat) (x : Int), ks[i]? = some x → ∃ g o, p = some ⟨g, o, none⟩ ∧ g < w.heap.size ∧ w.cell? ⟨g, o + i, none⟩ = some (.int .i64 x))
    (hT : ∀ w', Below w.heap.size w w' → Tab w') :
    Calls Tryd.prog 3 #[.int .i64 kind, .int .i64 lo, .int .i64 hi, .bool z, .slice p n cap, .agg #[.int .u64 s.a, .int .u64 s.b, .int .u64 s.c, .int .u64 s.d]] w fun e w' => e = .returned (.bool true) ∧ Below w.heap.size w w' := by
  by_cases h45 : kind = 4 ∨ kind = 5
  · exact rightlaw_b kind lo hi z p n cap ks s w hk hp hT h45
  · by_cases h6 : kind = 6
    · exact rightlaw_c kind lo hi z p n cap ks s w hk hp hT h6
    · exact rightlaw_a kind lo hi z p n cap ks s w hk hp hT ⟨by omega, by omega, h6⟩
theorem rightrow_any (kind lo hi : Int) (z : Bool) (v : Value) (a b c d : Int) (w : World) (hv : IntsIn w v) (hT : Tab w) :
    Calls Tryd.prog 3 #[.int .i64 kind, .int .i64 lo, .int .i64 hi, .bool z, v, .agg #[.int .u64 a, .int .u64 b, .int .u64 c, .int .u64 d]] w fun e w' => e = .returned (.bool true) ∧ Below w.heap.size w w' := by
  rcases hv with ⟨p, cap, rfl⟩ | ⟨g, o, len, cap, l, rfl, _, _, hg, hc, _⟩
  · exact rightlaw_any kind lo hi z p 0 cap [] ⟨a, b, c, d⟩ w rfl (fun i x h => by simp at h) (fun w' hb => hT.below hb hT.lt)
  · refine rightlaw_any kind lo hi z _ len cap ((List.range len).map l) ⟨a, b, c, d⟩ w (by simp) (fun i x h => ?_) (fun w' hb => hT.below hb hT.lt)
    have hi := (List.getElem?_eq_some_iff.1 h).1
    simp at hi
    rw [List.getElem?_map, List.getElem?_range hi] at h
    obtain rfl : l i = x := by simpa using h
    exact ⟨g, o, rfl, hg, hc i hi⟩
end Go.Proofs.YtbddjdcedfnkaaaDoor
