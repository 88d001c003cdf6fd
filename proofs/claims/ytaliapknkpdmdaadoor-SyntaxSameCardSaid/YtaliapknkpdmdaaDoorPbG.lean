/- Contracts of what a node may have: parts without some kinds. Contracts of what a node may have: counted, sound. -/
import Derived.Test.YtaliapknkpdmdaaDoorPbE
import Derived.Deep.DeepCutAuto
namespace Go.Proofs.YtaliapknkpdmdaaDoor
section
open Go Go.RowKit
attribute [local go_sem ↓] Go.wp_at_zero Go.wp_at_succ
attribute [local go_sem] eq4
def kdT : Tr → Int
  | .mk k _ _ _ _ _ _ _ => k
/-- Have no parts of these kinds. -/
def withoutR (l : List Tr) (ks : List Int) : Bool := l.all fun t => !decide (kdT t ∈ ks)
end
section
open Go Go.RowKit
attribute [local go_sem ↓] Go.wp_at_zero Go.wp_at_succ
attribute [local go_sem] eq4
def countM (hi : Int) : Int := if hi = -1 then 1000 else hi
def countedR (lo hi : Int) : Bool := decide (0 ≤ lo) && (decide (lo ≤ countM hi) && decide (countM hi ≤ 1000))
def noSet (s : W4) : Bool := s.a == 0 && s.b == 0 && s.c == 0 && s.d == 0
def soundS (k : Int) (s : W4) : Bool := !decide (k = 1) && !noSet s
def soundN (k lo hi : Int) (z : Bool) : Bool := !decide (k = 6) && (!decide (lo = 0) || (!decide (hi = 0) || z))
def soundK (k lo hi : Int) (l : List Tr) : Bool :=
  if k = 0 ∨ k = 1 then decide (l.length = 0) else if k = 2 ∨ k = 3 then decide (l.length = 1) && withoutR l [] else if k = 4 then decide (1 < l.length) && withoutR l [0, 4, 5]
  else if k = 5 then decide (1 < l.length) && withoutR l [5] else if k = 6 then decide (l.length = 1) && (withoutR l [0, 4, 5, 6] && countedR lo hi) else false
/-- What a node may have. -/
def soundR : Tr → Bool
  | .mk k s lo hi z _ _ l => !soundS k s && (!soundN k lo hi z && soundK k lo hi l)
end
end Go.Proofs.YtaliapknkpdmdaaDoor
