/- Maps whose keys are nodes' pointers and whose elements are numbers: what is found there. What is made of a tree, node by node; a tree in memory is one alone. Contracts of what is made of a node: how deep it is. Contracts of the folder: its last step. Contracts of the folder: a number told. A folder in memory: its path, its steps' numbers. Contracts of the folder: a number told, as the folder stands. Contracts of the folder: a node entered. Contracts of the folder: a node met before. Contracts of the folder: a node entered that was not met before. A folder whose path has gone on to a node's parts. Contracts of the folder: a node entered that was not met before, as the folder stands. A folder whose path is cut by its last step. -/
import Derived.Test.YtaliapknkpdmdaaDoorPaG
import Derived.LaidEql
import Derived.Test.YtaliapknkpdmdaaDoorPaE
import Derived.Lib.MinMax
import Derived.OneCell
namespace Go.Proofs.YtaliapknkpdmdaaDoor
section
open Go Go.RowKit
/-- A node's pointer. -/
abbrev ndPtr (q : Nat) : Value := .pointer (some ⟨q, 0, none⟩)
/-- A block of cells. -/
def IsC (w : World) (q : Nat) : Prop := ∃ c t, w.heap[q]? = some (.cells c t (0, 0))
theorem eq_ptr (q q' : Nat) (w : World) (h : IsC w q) (h' : IsC w q') : (Op.equal 23 (ndPtr q) (ndPtr q')).run Tryd.prog w = .ok (q == q') w := by
  have u3 := Tryd.underlying23
  unfold Op.equal
  rw [show Op.maxDepth = 9999 + 1 from rfl, Op.equalIn]
  simp only [Sem.run_bind, run_underlying Tryd.underlying23, Result.andThen_ok]
  go_simp
  by_cases hq : q = q'
  · subst hq
    rw [run_sameAddr_same]; simp
  · obtain ⟨c, t, hc⟩ := h
    obtain ⟨c', t', hc'⟩ := h'
    rw [run_sameAddr_other w (fun e => hq (congrArg Addr.block e)) hc hc']
    simp [hq]
end
section
open Go Go.RowKit
mutual
/-- A tree's number, made of each of its nodes and of the numbers of that node's parts. -/
def foldR (num : Tr → List Int → Int) : Tr → Int
  | .mk k s lo hi z a b l => num (.mk k s lo hi z a b l) (foldL num l)
def foldL (num : Tr → List Int → Int) : List Tr → List Int
  | [] => []
  | t :: l => foldR num t :: foldL num l
end
theorem foldL_map (num : Tr → List Int → Int) (l : List Tr) : foldL num l = l.map (foldR num) := by
  induction l with
  | nil => rw [foldL]; rfl
  | cons t l ih => rw [foldL, ih]; rfl
mutual
/-- How many nodes a tree has. -/
def trSize : Tr → Nat
  | .mk _ _ _ _ _ _ _ l => 1 + trSizes l
def trSizes : List Tr → Nat
  | [] => 0
  | t :: l => trSize t + trSizes l
end
theorem trSize_mem {t : Tr} {l : List Tr} (h : t ∈ l) : trSize t ≤ trSizes l := by
  induction l with
  | nil => cases h
  | cons u l ih =>
    rw [trSizes]
    rcases List.mem_cons.1 h with rfl | h
    · omega
    · have := ih h; omega
/-- What lies at a place is one tree alone. -/
theorem NdAt.uniq {w : World} {A A' : Nat → Prop} {t t' : Tr} {v : Value} (h : NdAt w A t v) (h' : NdAt w A' t' v) : t = t' := by
  induction h generalizing t' with
  | node k s lo hi z a b l q p cap us hq hb hc ht ih =>
    obtain ⟨k', s', lo', hi', z', a', b', l'⟩ := t'
    obtain ⟨q', p', cap', e, _, hb', hk'⟩ := h'.head
    injection e with e; injection e with e; injection e with e
    subst e
    rw [hb] at hb'
    have e1 := Option.some.inj hb'
    simp only [ndOb, Obj.cells.injEq, and_true] at e1
    have e2 := congrArg Array.toList e1
    simp only [List.cons.injEq, Value.int.injEq, Value.bool.injEq, Value.slice.injEq, true_and, and_true] at e2
    obtain ⟨r1, r2, r3, r4, r5, r6, r7, r8, ⟨r9, r10, r11⟩, r12, r13⟩ := e2
    have hs : s = s' := by cases s; cases s'; simp_all
    subst r1 hs r6 r7 r8
    have ha : a = a' := by omega
    have hbb : b = b' := by omega
    subst ha hbb
    have hl : l = l' := by
      apply List.ext_getElem? 
      intro i
      by_cases hi : i < l.length
      · obtain ⟨x, hx⟩ : ∃ x, l[i]? = some x := ⟨_, List.getElem?_eq_getElem hi⟩
        obtain ⟨y, hy⟩ : ∃ y, l'[i]? = some y := ⟨_, List.getElem?_eq_getElem (by omega)⟩
        obtain ⟨c, g1, g2, g3, g4⟩ := hc i x hx
        obtain ⟨c', u', f1, f2, f3, f4⟩ := hk' i y hy
        rw [g1, f1] at r9
        injection r9 with r9; injection r9 with r9
        subst r9
        rw [g4] at f3
        have hu := Option.some.inj f3
        rw [← hu] at f4
        rw [hx, hy, ih i x hx f4]
      · rw [List.getElem?_eq_none (by omega), List.getElem?_eq_none (by omega)]
    subst hl
    rfl
end
section
open Go Go.RowKit
attribute [local go_sem ↓] Go.wp_at_zero Go.wp_at_succ
attribute [local go_sem] eq4
def maxR (ps : List Int) : Int := ps.foldl max 0
/-- How deep a node is, its parts' depths told. -/
def deepR : Tr → List Int → Int
  | .mk k _ _ _ _ _ _ _, ps => if k = 2 ∨ k = 3 then maxR ps + 1 else maxR ps
end
section
open Go Go.RowKit
attribute [local go_sem ↓] Go.wp_at_zero Go.wp_at_succ
attribute [local go_sem] eq4
end
section
open Go Go.RowKit
attribute [local go_sem ↓] Go.wp_at_zero Go.wp_at_succ
attribute [local go_sem] eq4
theorem row_slice {w : World} {B sz k : Nat} {e : TypeId} {v : Value} {xs : List Value} (h : w.ownsRow B e sz v (k + 1) xs) : ∃ b c, v = .slice b (k + 1) c := by
  rcases h.2 with ⟨_, h0⟩ | ⟨g, cap, cur, h, _⟩
  · omega
  · exact ⟨_, _, h⟩
end
section
open Go Go.RowKit
end
section
open Go Go.RowKit
end
section
open Go Go.RowKit
attribute [local go_sem ↓] Go.wp_at_zero Go.wp_at_succ
attribute [local go_sem] eq4
end
section
open Go Go.RowKit
attribute [local go_sem ↓] Go.wp_at_zero Go.wp_at_succ
attribute [local go_sem] eq4
end
section
open Go Go.RowKit
attribute [local go_sem ↓] Go.wp_at_zero Go.wp_at_succ
attribute [local go_sem] eq4
theorem cell_two_new (w : World) (x y : Value) (t : TypeId) : ∀ j u, [x, y][j]? = some u → (w.alloc (.cells #[x, y] t)).cell? ((⟨w.heap.size, 0, none⟩ : Addr).add j) = some u := by
  intro j u hj
  have ha : ∀ j, (⟨w.heap.size, 0, none⟩ : Addr).add j = ⟨w.heap.size, j, none⟩ := fun j => by unfold Addr.add; split <;> simp_all
  rw [ha, Joins.cell_of_block (heap_new _ _)]
  simpa using hj
end
section
open Go Go.RowKit
end
section
open Go Go.RowKit
end
section
open Go Go.RowKit
end
end Go.Proofs.YtaliapknkpdmdaaDoor
