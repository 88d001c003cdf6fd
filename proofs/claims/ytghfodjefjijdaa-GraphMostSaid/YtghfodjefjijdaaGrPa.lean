/- graph: the law GraphPaths told. -/
import Derived.Test.YtghfodjefjijdaaGrZ
namespace Go.Proofs.Ytghfodjefjijdaa
section
open Go Go.RowKit Go.Shelf
attribute [local go_sem ↓] Go.wp_at_zero Go.wp_at_succ
theorem below_drewN (w : World) (q : Nat) : Below w.heap.size w (w.drewN q) := by
  induction q with
  | zero => exact Below.refl _ _
  | succ q ih => exact ih.drew
theorem dst_ltm {m : Nat → Nat → Bool} {n a b : Nat} (hbd : ∀ i j, m i j = true → i < n ∧ j < n) (ha : a < n) (h : Rch (Em m) a b) : dst (Em m) a b < n := by
  have h2 := dst_lt (E := fun u => succ n (m u)) (N := n) (fun u x hx => mem_range_succ hx) (by rw [em_succ hbd]; exact h) ha
  rw [em_succ hbd] at h2
  exact h2
theorem far_yes {m : Nat → Nat → Bool} {n a b : Nat} {out : Nat → Int} (hbd : ∀ i j, m i j = true → i < n ∧ j < n) (ha : a < n) (hb : b < n) (hf : FarI (Em m) a n n 0 0 out) (h : Rch (Em m) a b) : out b = (dst (Em m) a b : Int) :=
  hf.near b hb h (Nat.le_of_lt (dst_ltm hbd ha h))
theorem far_no {m : Nat → Nat → Bool} {n a b : Nat} {out : Nat → Int} (hb : b < n) (hf : FarI (Em m) a n n 0 0 out) (h : ¬ Rch (Em m) a b) : out b = -1 :=
  hf.no b hb (fun e => h e.1) (fun ⟨_, h1, _, h3, _⟩ => h (.tail h1 h3))
/-- A way in memory, with the table, while its steps are looked at. -/
structure PlI (w W : World) (B ob n g : Nat) (rb : Nat → Nat) (m : Nat → Nat → Bool) (ps : List Nat) : Prop where
  tab : TbAt W B ob rb n n m
  ps : ∀ (j x : Nat), ps[j]? = some x → g < W.heap.size ∧ W.cell? ⟨g, j, none⟩ = some (.int .i64 (x : Int))
  be : Below w.heap.size w W
theorem PlI.up {w W W' : World} {B ob n g : Nat} {rb : Nat → Nat} {m : Nat → Nat → Bool} {ps : List Nat} (h : PlI w W B ob n g rb m ps) (hb : Below W.heap.size W W') : PlI w W' B ob n g rb m ps :=
  ⟨h.tab.up hb, fun j x hx => ⟨Nat.lt_of_lt_of_le (h.ps j x hx).1 hb.size, (hb.cell (p := ⟨g, j, none⟩) (h.ps j x hx).1).trans (h.ps j x hx).2⟩, h.be.trans (hb.mono h.be.size)⟩
end
end Go.Proofs.Ytghfodjefjijdaa
