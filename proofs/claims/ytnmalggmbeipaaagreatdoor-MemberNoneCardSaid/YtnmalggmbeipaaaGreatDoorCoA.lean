/- A part of the proof. -/
import Derived.Test.YtnmalggmbeipaaaGreatDoorPaG
import Derived.Test.YtnmalggmbeipaaaGreatDoorEl
namespace Go.Proofs.YtnmalggmbeipaaaGreatDoor
section
open Go Go.RowKit
inductive Co where
 | nil : Co
 | node (k : Int) (s : W4) (z : Bool) (a b : Co) : Co
abbrev coOb (k : Int) (s : W4) (z : Bool) (va vb : Value) : Obj := .cells #[.int .i64 k,.int .u64 s.a,.int .u64 s.b,.int .u64 s.c,.int .u64 s.d,.bool z,va,vb] 78
inductive CoAt (w : World) : Co -> Value -> Prop
 | nil : CoAt w .nil (.pointer none)
 | node (k : Int) (s : W4) (z : Bool) (a b : Co) (q : Nat) (va vb : Value) (hb : w.heap[q]? = some (coOb k s z va vb)) (ha : CoAt w a va) (hc : CoAt w b vb) : CoAt w (.node k s z a b) (.pointer (some ⟨q,0,none⟩))
def NotCo (o : Obj) : Prop := ∀ k s z va vb,o ≠ coOb k s z va vb
theorem CoAt.kept {w w' : World} {row : Option Nat} {c : Co} {v : Value} (h : CoAt w c v) (hg : w.grownBy w' row) (hr : ∀ r,row = some r -> ∃ o,w.heap[r]? = some o /\ NotCo o) : CoAt w' c v := by
 induction h with
 | nil => exact .nil
 | node k s z a b q va vb hb ha hc iha ihc =>
  refine .node k s z a b q va vb ((hg.block q (Array.getElem?_eq_some_iff.1 hb).1 fun e => ?_).trans hb) iha ihc;obtain ⟨o,ho,hn⟩ := hr q e.symm;rw [hb] at ho;exact hn k s z va vb (Option.some.inj ho).symm
theorem CoAt.up {w w' : World} {c : Co} {v : Value} (h : CoAt w c v) (hb : Below w.heap.size w w') : CoAt w' c v := h.kept (grown_below none hb) (fun r e => by cases e)
theorem NotCo.box {v : Value} {t : TypeId} {f : Nat × Nat} (ht : t ≠ 78) : NotCo (.cells #[v] t f) := fun k s z va vb e => by
 injection e with _ e1;exact ht e1
theorem NotCo.row {cs : Array Value} {t : TypeId} {f : Nat × Nat} (ht : t ≠ 78) : NotCo (.cells cs t f) := fun k s z va vb e => by
 injection e with _ e1;exact ht e1
theorem NotCo.other {o : Obj} (h : o.isCells = false) : NotCo o := fun k s z va vb e => by subst e;cases h
theorem CoAt.nil_iff {w : World} {c : Co} {v : Value} (h : CoAt w c v) : (c = .nil /\ v = .pointer none) \/ (c ≠ .nil /\ ∃ q,v = .pointer (some ⟨q,0,none⟩)) := by
 cases h with
 | nil => exact .inl ⟨rfl,rfl⟩
 | node k s z a b q va vb hb ha hc => exact .inr ⟨Co.noConfusion,q,rfl⟩
theorem CoAt.ptr {w : World} {c : Co} {v : Value} (h : CoAt w c v) : ∃ p,v = .pointer p := by
 cases h with
 | nil => exact ⟨_,rfl⟩
 | node k s z a b q va vb hb ha hc => exact ⟨_,rfl⟩
theorem CoAt.new {w : World} {k : Int} {s : W4} {z : Bool} {a b : Co} {va vb : Value} (ha : CoAt w a va) (hb : CoAt w b vb) : CoAt (w.alloc (coOb k s z va vb)) (.node k s z a b) (.pointer (some ⟨w.heap.size,0,none⟩)) :=
 .node k s z a b _ va vb (heap_new w _) (ha.up (below1 _ _)) (hb.up (below1 _ _))
def coSize : Co -> Nat
 | .nil => 0
 | .node _ _ _ a b => 1 + coSize a + coSize b
end
end Go.Proofs.YtnmalggmbeipaaaGreatDoor
