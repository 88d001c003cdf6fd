/- Contracts of blocks: how blocks lie in memory; what is read of them. -/
import Derived.Test.YtcicdiooifjcbaaDoorRefD
import Derived.Test.YtcicdiooifjcbaaDoorMade
import Derived.Test.YtcicdiooifjcbaaDoorTzB
import Derived.Test.YtcicdiooifjcbaaDoorBlkM
import Derived.LoopTactic
namespace Go.Proofs.YtcicdiooifjcbaaDoor
open Go Go.RowKit
attribute [local go_sem ↓] Go.wp_at_zero Go.wp_at_succ
attribute [local go_sem] eq4
/-- A set's words. -/
structure W4 where
  a : Int
  b : Int
  c : Int
  d : Int
def W4.mem (s : W4) (n : Nat) : Bool := memb s.a s.b s.c s.d n
def W4.fit (s : W4) : Prop := Fit s.a ∧ Fit s.b ∧ Fit s.c ∧ Fit s.d
def W4.val (s : W4) : Value := .agg #[.int .u64 s.a, .int .u64 s.b, .int .u64 s.c, .int .u64 s.d]
theorem W4.ext' {s t : W4} (hs : s.fit) (ht : t.fit) (h : ∀ n, n < 256 → s.mem n = t.mem n) : s = t := by
  obtain ⟨a, b, c, d⟩ := s
  obtain ⟨x, y, z, u⟩ := t
  obtain ⟨rfl, rfl, rfl, rfl⟩ := memb_ext hs.1 hs.2.1 hs.2.2.1 hs.2.2.2 ht.1 ht.2.1 ht.2.2.1 ht.2.2.2 h
  rfl
/-- The cells of a set, from an address on. -/
def SetAt (w : World) (g o : Nat) (s : W4) : Prop :=
  w.cell? ⟨g, o, none⟩ = some (.int .u64 s.a) ∧ w.cell? ⟨g, o + 1, none⟩ = some (.int .u64 s.b) ∧ w.cell? ⟨g, o + 2, none⟩ = some (.int .u64 s.c) ∧ w.cell? ⟨g, o + 3, none⟩ = some (.int .u64 s.d)
theorem SetAt.below {B : Nat} {w w' : World} {g o : Nat} {s : W4} (h : SetAt w g o s) (hb : Below B w w') (hg : g < B) : SetAt w' g o s :=
  ⟨(hb.cell (p := ⟨g, o, none⟩) hg).trans h.1, (hb.cell (p := ⟨g, o + 1, none⟩) hg).trans h.2.1, (hb.cell (p := ⟨g, o + 2, none⟩) hg).trans h.2.2.1, (hb.cell (p := ⟨g, o + 3, none⟩) hg).trans h.2.2.2⟩
/-- Blocks lie in block g: of each byte its block, and the blocks' sets. -/
structure BlkAt (w : World) (g : Nat) (of : Nat → Nat) (l : List W4) : Prop where
  lt : g < w.heap.size
  cell : ∀ b, b < 256 → w.cell? ⟨g, b, none⟩ = some (.int .i64 (of b : Int))
  row : ∃ h cap, w.cell? ⟨g, 256, none⟩ = some (.slice (some ⟨h, 0, none⟩) l.length cap) ∧ h < w.heap.size ∧ ∀ i s, l[i]? = some s → SetAt w h (i * 4) s
  fit : ∀ s ∈ l, s.fit
  small : l.length ≤ 256
theorem BlkAt.below {B : Nat} {w w' : World} {g : Nat} {of : Nat → Nat} {l : List W4} (h : BlkAt w g of l) (hb : Below B w w') (hB : w.heap.size ≤ B) : BlkAt w' g of l := by
  obtain ⟨lt, cell, ⟨k, cap, hr, hk, hs⟩, fit, small⟩ := h
  exact ⟨Nat.lt_of_lt_of_le lt hb.size, fun b hb2 => (hb.cell (p := ⟨g, b, none⟩) (by show g < B; omega)).trans (cell b hb2),
    ⟨k, cap, (hb.cell (p := ⟨g, 256, none⟩) (by show g < B; omega)).trans hr, Nat.lt_of_lt_of_le hk hb.size, fun i s hi => (hs i s hi).below hb (by omega)⟩, fit, small⟩
/-- Is a block of this number there? -/
def inN (i : Int) (n : Nat) : Bool := decide (0 ≤ i) && decide (i < (n : Int))
/-- The empty set. -/
def noW : W4 := ⟨0, 0, 0, 0⟩
end Go.Proofs.YtcicdiooifjcbaaDoor
