/- Contracts of trees: how many nodes, how many groups. Maps whose keys are pairs of nodes' pointers: what is found there. Contracts of trees: whether two nodes are alike. Whether two trees are the same, and how a stack of pairs finds it out, told plainly. Contracts of trees: whether two trees are the same. -/
import Derived.Test.YtfjepjkbflcjbaaGreatDoorPbH
import Derived.Test.YtfjepjkbflcjbaaGreatDoorPbE
import Derived.Carry
import Derived.Deep.DeepCutAuto
namespace Go.Proofs.YtfjepjkbflcjbaaGreatDoor
section
open Go Go.RowKit
attribute [local go_sem ↓] Go.wp_at_zero Go.wp_at_succ
attribute [local go_sem] eq4
theorem run_store_fncQ (P : Program) (w : World) (a : Addr) (f : Fn) (x y : Array Value) (m : Mode) : (store a (.func f x y) m).run P w = stored P w a (.func f x y) m := run_store P w a _ m rfl
attribute [local go_sem] run_store_fncQ
end
section
open Go Go.RowKit
attribute [local go_sem ↓] Go.wp_at_zero Go.wp_at_succ
attribute [local go_sem] eq4
/-- A pair of nodes' pointers. -/
abbrev prV (p : Nat × Nat) : Value := .agg #[ndPtr p.1, ndPtr p.2]
/-- Both are blocks of cells. -/
def IsCC (w : World) (p : Nat × Nat) : Prop := IsC w p.1 ∧ IsC w p.2
def lookP (D : List (Nat × Nat)) (q : Nat × Nat) (i : Nat) : Option (Nat × Value) := match D with
  | [] => none
  | p :: D => if q = p then some (i, .agg #[]) else lookP D q (i + 1)
def EntP (es : List MapEntry) (D : List (Nat × Nat)) : Prop := es.map (fun e => (e.key, e.val)) = D.map fun p => (prV p, Value.agg #[])
/-- Such a map lies in a block. -/
def PrMap (w : World) (b : Nat) (D : List (Nat × Nat)) : Prop := ∃ es clock, w.heap[b]? = some (.map es clock) ∧ EntP es.toList D
theorem look_mem (D : List (Nat × Nat)) (q : Nat × Nat) : ∀ i, (q ∉ D ∧ lookP D q i = none) ∨ (q ∈ D ∧ ∃ j, lookP D q i = some (j, .agg #[])) := by
  induction D with
  | nil => exact fun i => .inl ⟨by simp, rfl⟩
  | cons p D ih =>
    intro i
    rw [lookP]
    by_cases h : q = p
    · rw [if_pos h]; exact .inr ⟨by rw [h]; exact List.mem_cons_self .., i, rfl⟩
    · rw [if_neg h]
      rcases ih (i + 1) with ⟨h1, h2⟩ | ⟨h1, h2⟩
      · exact .inl ⟨fun hm => by rcases List.mem_cons.1 hm with e | e; exact h e; exact h1 e, h2⟩
      · exact .inr ⟨List.mem_cons_of_mem _ h1, h2⟩
theorem lookP_none {D : List (Nat × Nat)} {q : Nat × Nat} {i : Nat} (h : q ∉ D) : lookP D q i = none := by
  rcases look_mem D q i with ⟨_, h2⟩ | ⟨h1, _⟩
  · exact h2
  · exact absurd h1 h
end
section
open Go Go.RowKit
attribute [local go_sem ↓] Go.wp_at_zero Go.wp_at_succ
attribute [local go_sem] eq4
def eqW4 (s t : W4) : Bool := s.a == t.a && s.b == t.b && s.c == t.c && s.d == t.d
end
section
open Go Go.RowKit
end
section
open Go Go.RowKit
attribute [local go_sem ↓] Go.wp_at_zero Go.wp_at_succ
attribute [local go_sem] eq4
end
end Go.Proofs.YtfjepjkbflcjbaaGreatDoor
