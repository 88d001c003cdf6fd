/- Contracts of blocks: cut. -/
import Derived.Test.YtcicdiooifjcbaaDoorBlkA
namespace Go.Proofs.YtcicdiooifjcbaaDoor
open Go Go.RowKit
attribute [local go_sem ↓] Go.wp_at_zero Go.wp_at_succ
attribute [local go_sem] eq4
def W4.meet (t s : W4) : W4 := ⟨an t.a s.a, an t.b s.b, an t.c s.c, an t.d s.d⟩
def eqW (s t : W4) : Bool := s.a == t.a && s.b == t.b && s.c == t.c && s.d == t.d
/-- Has a set of a block neither all nor nothing? -/
def cuts (s t : W4) : Bool := !eqW (t.meet s) t && !eqW (t.meet s) noW
theorem eqW_iff (s t : W4) : eqW s t = true ↔ s = t := by
  obtain ⟨a, b, c, d⟩ := s
  obtain ⟨x, y, z, u⟩ := t
  simp [eqW, and_assoc]
theorem meet_fit (t s : W4) : (t.meet s).fit := ⟨an_fit _ _, an_fit _ _, an_fit _ _, an_fit _ _⟩
theorem mem_meet (t s : W4) (n : Nat) : (t.meet s).mem n = (t.mem n && s.mem n) := memb_an _ _ _ _ _ _ _ _ n
theorem meetW (t s : W4) (w : World) :
    Calls Tryd.prog 68 #[.agg #[.int .u64 t.a, .int .u64 t.b, .int .u64 t.c, .int .u64 t.d], .agg #[.int .u64 s.a, .int .u64 s.b, .int .u64 s.c, .int .u64 s.d]] w fun e w' => e = .returned (.agg #[.int .u64 (t.meet s).a, .int .u64 (t.meet s).b, .int .u64 (t.meet s).c, .int .u64 (t.meet s).d]) ∧ Below w.heap.size w w' := meet_any _ _ _ _ _ _ _ _ w
theorem any_take {α : Type} (l : List α) (p : α → Bool) (k : Nat) (x : α) (h : l[k]? = some x) : (l.take (k + 1)).any p = ((l.take k).any p || p x) := by
  rw [List.take_add_one, h, List.any_append]; simp
theorem ne_words {p t : W4} (h : p ≠ t) : ((¬ p.a = t.a ∨ ¬ p.b = t.b) ∨ ¬ p.c = t.c) ∨ ¬ p.d = t.d := by
  obtain ⟨a, b, c, d⟩ := p
  obtain ⟨x, y, z, u⟩ := t
  by_cases h1 : a = x
  · by_cases h2 : b = y
    · by_cases h3 : c = z
      · right; intro h4; exact h (by simp at h4; rw [h1, h2, h3, h4])
      · exact .inl (.inr h3)
    · exact .inl (.inl (.inr h2))
  · exact .inl (.inl (.inl h1))
end Go.Proofs.YtcicdiooifjcbaaDoor
