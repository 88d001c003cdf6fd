/- A reader in a block (a place, a text): where it stands, and what a call of it leaves. (ReadA's plain part, for seats without quote.) -/
import Derived.Test.YtenibhmjcafbiaaGreatDoorBlkE
import Derived.Laws.Externs
import Derived.Deep.QuietTactic
import Derived.BigQuiet
namespace Go.Proofs.YtenibhmjcafbiaaGreatDoor
open Go Go.RowKit
attribute [local go_sem ↓] Go.wp_at_zero Go.wp_at_succ
theorem qhid {p : Prop} (h : p) : Hid p := h
/-- Block g is a reader of s that stands at k. -/
structure RdAt (w : World) (g : Nat) (s : ByteArray) (k : Nat) : Prop where
  c0 : w.cell? ⟨g, 0, none⟩ = some (.int .i64 (k : Int))
  c1 : w.cell? ⟨g, 1, none⟩ = some (.string s)
  fz : w.frozen? ⟨g, 0, none⟩ = false
  lt : g < w.heap.size
theorem only_drewN {a w : World} {row : Option Nat} (h : a.grownBy w row) (n : Nat) : a.grownBy (w.drewN n) row := ⟨h.os, h.tape, h.output, h.size, h.block⟩
theorem only_alloc {a w : World} {row : Option Nat} (h : a.grownBy w row) (o : Obj) : a.grownBy (w.alloc o) row :=
  ⟨h.os, h.tape, h.output, Nat.le_trans h.size (by simp), fun i hi hne => (Below.heap_alloc w o i (Nat.lt_of_lt_of_le hi h.size)).trans (h.block i hi hne)⟩
theorem only_setCell {a w : World} {g : Nat} (h : a.grownBy w (some g)) {p : Addr} (hp : p.block = g ∨ a.heap.size ≤ p.block) (u : Value) : a.grownBy (w.setCell p u) (some g) :=
  ⟨h.os, h.tape, h.output, by simpa [World.setCell] using h.size, fun i hi hne => (Below.heap_setCell w p u i (by
    rintro rfl
    rcases hp with hp | hp
    · exact hne (by rw [hp])
    · omega)).trans (h.block i hi hne)⟩
theorem only_refl (a : World) (row : Option Nat) : a.grownBy a row := ⟨rfl, rfl, rfl, Nat.le_refl _, fun _ _ _ => rfl⟩
theorem only_trans {a b c : World} {row : Option Nat} (h : a.grownBy b row) (k : b.grownBy c row) : a.grownBy c row :=
  ⟨k.os.trans h.os, k.tape.trans h.tape, k.output.trans h.output, Nat.le_trans h.size k.size, fun i hi hne => (k.block i (Nat.lt_of_lt_of_le hi h.size) hne).trans (h.block i hi hne)⟩
/-- What a call of the reader's leaves: it stands at k; no other block that was there has turned. -/
def Rd (w w' : World) (g : Nat) (s : ByteArray) (k : Nat) : Prop := RdAt w' g s k ∧ w.grownBy w' (some g)
theorem only_rd {w : World} {g : Nat} {s : ByteArray} {k : Nat} (h : RdAt w g s k) (n : Nat) : RdAt (w.drewN n) g s k := ⟨h.c0, h.c1, h.fz, h.lt⟩
def Fun (F : Nat) (caps : Array Value) : Value := .func (.func F) #[] caps
theorem Rd.of {w w' : World} {g : Nat} {s : ByteArray} {k j : Nat} (h : RdAt w g s k) (n : Nat) (e : w' = (w.drewN n).setCell ⟨g, 0, none⟩ (.int .i64 ((k : Int) + (j : Nat)))) : Rd w w' g s (k + j) := by
  subst e
  have hlt := h.lt
  refine ⟨⟨?_, ?_, ?_, ?_⟩, only_setCell (only_drewN (only_refl _ _) n) (.inl rfl) _⟩
  · rw [World.cell?_setCell_same _ _ _ (only_rd h n).c0, Int.natCast_add]
  · rw [World.cell?_setCell_other _ _ _ _ (by simp)]; exact (only_rd h n).c1
  · rw [World.frozen?_setCell]; exact (only_rd h n).fz
  · simpa [World.setCell] using hlt
end Go.Proofs.YtenibhmjcafbiaaGreatDoor
