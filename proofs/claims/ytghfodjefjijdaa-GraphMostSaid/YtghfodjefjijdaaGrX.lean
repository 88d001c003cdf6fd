/- graph: the law GraphKnots told. -/
import Derived.Test.YtghfodjefjijdaaGrW
namespace Go.Proofs.Ytghfodjefjijdaa
section
open Go Go.RowKit Go.Shelf
attribute [local go_sem ↓] Go.wp_at_zero Go.wp_at_succ
theorem PairsAt.up {w w' : World} {p : Option Addr} {k : Nat} {xs ys : Nat → Int} (h : PairsAt w p k xs ys) (hb : Below w.heap.size w w') : PairsAt w' p k xs ys := by
  refine ⟨h.1, ?_⟩
  rcases h.2 with h0 | ⟨g, o, hp, hl, hc⟩
  · exact .inl h0
  · exact .inr ⟨g, o, hp, Nat.lt_of_lt_of_le hl hb.size, fun j hj => ⟨(hb.cell (p := ⟨g, o + j * 2, none⟩) hl).trans (hc j hj).1, (hb.cell (p := ⟨g, o + j * 2 + 1, none⟩) hl).trans (hc j hj).2⟩⟩
/-- A thing is on a ring just if it is not alone in its knot, or an arrow leads from it to itself. -/
theorem ring_alone {m : Nat → Nat → Bool} {n x : Nat} {kn : Nat → Int} (hbd : ∀ i j, m i j = true → i < n ∧ j < n) (hx : x < n) (hs : ∀ u v, u < n → v < n → (kn u = kn v ↔ Rch (fun a b => m a b = true) u v ∧ Rch (fun a b => m a b = true) v u)) :
    (∃ z, Rch (Em m) x z ∧ Em m z x) ↔ (∃ i, i < n ∧ i ≠ x ∧ ln kn i = ln kn x) ∨ m x x = true := by
  constructor
  · rintro ⟨z, h1, h2⟩
    by_cases hz : z = x
    · rw [hz] at h2
      exact .inr h2
    · have h2' : m z x = true := h2
      exact .inl ⟨z, (hbd z x h2').1, hz, ln_same.2 ((hs z x (hbd z x h2').1 hx).2 ⟨.one h2', h1⟩)⟩
  · rintro (⟨i, hi, hix, e⟩ | h)
    · obtain ⟨h1, h2⟩ := (hs i x hi hx).1 (ln_same.1 e)
      cases h1 with
      | refl => exact absurd rfl hix
      | tail h3 h4 => exact ⟨_, h2.trans h3, h4⟩
    · exact ⟨x, .refl _, h⟩
/-- None of the first things but x is of x's knot. -/
def aloneTo (l : Nat → Int) (x : Nat) : Nat → Bool
  | 0 => true
  | i + 1 => aloneTo l x i && (i == x || !(l i == l x))
theorem aloneTo_iff {l : Nat → Int} {x : Nat} : ∀ {i : Nat}, aloneTo l x i = false ↔ ∃ j, j < i ∧ j ≠ x ∧ l j = l x := by
  intro i
  induction i with
  | zero => exact ⟨fun h => (by cases h), fun ⟨j, h, _⟩ => absurd h (Nat.not_lt_zero _)⟩
  | succ i ih =>
    show (aloneTo l x i && (i == x || !(l i == l x))) = false ↔ _
    constructor
    · intro h
      by_cases h1 : aloneTo l x i = false
      · obtain ⟨j, hj, h2⟩ := ih.1 h1
        exact ⟨j, Nat.lt_succ_of_lt hj, h2⟩
      · have h1 : aloneTo l x i = true := by simpa using h1
        rw [h1] at h
        simp at h
        exact ⟨i, Nat.lt_succ_self _, h.1, h.2⟩
    · rintro ⟨j, hj, h2, h3⟩
      rcases Nat.lt_succ_iff_lt_or_eq.1 hj with hj | rfl
      · rw [ih.2 ⟨j, hj, h2, h3⟩]
        rfl
      · simp [h2, h3]
theorem aloneTo_succ (l : Nat → Int) (x i : Nat) : aloneTo l x (i + 1) = (aloneTo l x i && (i == x || !(l i == l x))) := rfl
/-- What lies there while the law goes on. -/
structure KlI (w W : World) (B n gb ob lb : Nat) (rb : Nat → Nat) (m : Nat → Nat → Bool) (l : Nat → Int) : Prop where
  gr : ∃ tb K mp cnt, K ≤ 1000 ∧ GrAt W B gb tb n K mp m cnt
  tab : TbAt W B ob rb n n m
  li : Vec W lb 3 n (fun i => .int .i64 (l i))
  be : Below w.heap.size w W
theorem KlI.up {w W W' : World} {B n gb ob lb : Nat} {rb : Nat → Nat} {m : Nat → Nat → Bool} {l : Nat → Int} (h : KlI w W B n gb ob lb rb m l) (hb : Below W.heap.size W W') : KlI w W' B n gb ob lb rb m l :=
  ⟨by
    obtain ⟨tb, K, mp, cnt, hK, hg⟩ := h.gr
    exact ⟨tb, K, mp, cnt, hK, hg.up hb⟩, h.tab.up hb, heap_up h.li hb, h.be.trans (hb.mono h.be.size)⟩
end
end Go.Proofs.Ytghfodjefjijdaa
