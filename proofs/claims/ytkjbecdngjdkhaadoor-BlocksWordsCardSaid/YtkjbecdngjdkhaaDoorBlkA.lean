/- Contracts of blocks: how blocks lie in memory; what is read of them. -/
import Derived.Test.YtkjbecdngjdkhaaDoorRefD
import Derived.Test.YtkjbecdngjdkhaaDoorMade
import Derived.Test.YtkjbecdngjdkhaaDoorTzB
import Derived.Test.YtkjbecdngjdkhaaDoorBlkM
import Derived.LoopTactic
namespace Go.Proofs.YtkjbecdngjdkhaaDoor
open Go Go.RowKit
attribute [local go_sem ↓] Go.wp_at_zero Go.wp_at_succ
attribute [local go_sem] eq4
/-- A set's words. -/
structure W4 where
  a : Int
  b : Int
  c : Int
  d : Int
def W4.mem (s : W4) (n : Nat) : Bool := memb s.a s.b s.c s.d n
def W4.fit (s : W4) : Prop := Fit s.a ∧ Fit s.b ∧ Fit s.c ∧ Fit s.d
def W4.val (s : W4) : Value := .agg #[.int .u64 s.a, .int .u64 s.b, .int .u64 s.c, .int .u64 s.d]
theorem W4.ext' {s t : W4} (hs : s.fit) (ht : t.fit) (h : ∀ n, n < 256 → s.mem n = t.mem n) : s = t := by
  obtain ⟨a, b, c, d⟩ := s
  obtain ⟨x, y, z, u⟩ := t
  obtain ⟨rfl, rfl, rfl, rfl⟩ := memb_ext hs.1 hs.2.1 hs.2.2.1 hs.2.2.2 ht.1 ht.2.1 ht.2.2.1 ht.2.2.2 h
  rfl
/-- The cells of a set, from an address on. -/
def SetAt (w : World) (g o : Nat) (s : W4) : Prop :=
  w.cell? ⟨g, o, none⟩ = some (.int .u64 s.a) ∧ w.cell? ⟨g, o + 1, none⟩ = some (.int .u64 s.b) ∧ w.cell? ⟨g, o + 2, none⟩ = some (.int .u64 s.c) ∧ w.cell? ⟨g, o + 3, none⟩ = some (.int .u64 s.d)
theorem SetAt.below {B : Nat} {w w' : World} {g o : Nat} {s : W4} (h : SetAt w g o s) (hb : Below B w w') (hg : g < B) : SetAt w' g o s :=
  ⟨(hb.cell (p := ⟨g, o, none⟩) hg).trans h.1, (hb.cell (p := ⟨g, o + 1, none⟩) hg).trans h.2.1, (hb.cell (p := ⟨g, o + 2, none⟩) hg).trans h.2.2.1, (hb.cell (p := ⟨g, o + 3, none⟩) hg).trans h.2.2.2⟩
/-- Blocks lie in block g: of each byte its block, and the blocks' sets. -/
structure BlkAt (w : World) (g : Nat) (of : Nat → Nat) (l : List W4) : Prop where
  lt : g < w.heap.size
  cell : ∀ b, b < 256 → w.cell? ⟨g, b, none⟩ = some (.int .i64 (of b : Int))
  row : ∃ h cap, w.cell? ⟨g, 256, none⟩ = some (.slice (some ⟨h, 0, none⟩) l.length cap) ∧ h < w.heap.size ∧ ∀ i s, l[i]? = some s → SetAt w h (i * 4) s
  fit : ∀ s ∈ l, s.fit
  small : l.length ≤ 256
theorem BlkAt.below {B : Nat} {w w' : World} {g : Nat} {of : Nat → Nat} {l : List W4} (h : BlkAt w g of l) (hb : Below B w w') (hB : w.heap.size ≤ B) : BlkAt w' g of l := by
  obtain ⟨lt, cell, ⟨k, cap, hr, hk, hs⟩, fit, small⟩ := h
  exact ⟨Nat.lt_of_lt_of_le lt hb.size, fun b hb2 => (hb.cell (p := ⟨g, b, none⟩) (by show g < B; omega)).trans (cell b hb2),
    ⟨k, cap, (hb.cell (p := ⟨g, 256, none⟩) (by show g < B; omega)).trans hr, Nat.lt_of_lt_of_le hk hb.size, fun i s hi => (hs i s hi).below hb (by omega)⟩, fit, small⟩
theorem blkof_any (g : Nat) (of : Nat → Nat) (l : List W4) (b : Nat) (hb : b < 256) (w : World) (h : BlkAt w g of l) :
    Calls Tryd.prog 14 #[.pointer (some ⟨g, 0, none⟩), .int .u8 (b : Int)] w fun e w' => e = .returned (.int .i64 (of b : Int)) ∧ w = w' := by
  have hc := h.cell b hb
  clear h
  go_enter Tryd.func14, Tryd.ntmps14
  go_wp2
  go_ret
  exact ⟨rfl, rfl⟩
theorem blkof_nil (v : Value) (w : World) :
    Calls Tryd.prog 14 #[.pointer none, v] w fun e w' => e = .returned (.int .i64 0) ∧ w = w' := by
  go_enter Tryd.func14, Tryd.ntmps14
  go_wp2
  go_ret
  exact ⟨rfl, rfl⟩
theorem count_at (g : Nat) (of : Nat → Nat) (l : List W4) (w : World) (h : BlkAt w g of l) :
    Calls Tryd.prog 16 #[.pointer (some ⟨g, 0, none⟩)] w fun e w' => e = .returned (.int .i64 (l.length : Int)) ∧ w = w' := by
  obtain ⟨k, cap, hr, _, _⟩ := h.row
  clear h
  go_enter Tryd.func16, Tryd.ntmps16
  go_wp2
  go_ret
  exact ⟨rfl, rfl⟩
theorem count_nil (w : World) :
    Calls Tryd.prog 16 #[.pointer none] w fun e w' => e = .returned (.int .i64 0) ∧ w = w' := by
  go_enter Tryd.func16, Tryd.ntmps16
  go_wp2
  go_ret
  exact ⟨rfl, rfl⟩
/-- Is a block of this number there? -/
def inN (i : Int) (n : Nat) : Bool := decide (0 ≤ i) && decide (i < (n : Int))
theorem there_any (p : Option Addr) (n : Nat) (i : Int) (w : World) (hC : Calls Tryd.prog 16 #[.pointer p] w fun e w' => e = .returned (.int .i64 (n : Int)) ∧ w = w') :
    Calls Tryd.prog 41 #[.pointer p, .int .i64 i] w fun e w' => e = .returned (.bool (inN i n)) ∧ w = w' := by
  have HC := hid hC
  clear hC
  by_cases h0 : 0 ≤ i
  · have e : inN i n = decide (i < (n : Int)) := by unfold inN; rw [decide_eq_true h0]; rfl
    rw [e]
    have d0 : decide (0 ≤ i) = true := decide_eq_true h0
    go_enter Tryd.func41, Tryd.ntmps41
    go_wp2_with fail
    refine HC.out.mono ?_
    rintro e w1 ⟨rfl, rfl⟩
    go_wp2_with fail
    go_ret
    exact ⟨rfl, rfl⟩
  · have e : inN i n = false := by unfold inN; rw [decide_eq_false h0]; rfl
    rw [e]
    have d0 : decide (0 ≤ i) = false := decide_eq_false h0
    go_enter Tryd.func41, Tryd.ntmps41
    go_wp2_with fail
    go_ret
    exact ⟨rfl, rfl⟩
/-- The empty set. -/
def noW : W4 := ⟨0, 0, 0, 0⟩
theorem set_no (p : Option Addr) (n : Nat) (i : Int) (w : World) (hi : inN i n = false) (hC : ∀ w, Calls Tryd.prog 41 #[.pointer p, .int .i64 i] w fun e w' => e = .returned (.bool (inN i n)) ∧ w = w') :
    Calls Tryd.prog 17 #[.pointer p, .int .i64 i] w fun e w' => e = .returned noW.val ∧ Below w.heap.size w w' := by
  rw [hi] at hC
  have HC := hid hC
  clear hC hi
  go_enter Tryd.func17, Tryd.ntmps17
  go_wp2_with fail
  refine (HC.out _).mono ?_
  rintro e w1 ⟨rfl, rfl⟩
  go_wp2_with fail
  exact bodyPost_ret (v := noW.val) (by simp [results, Tryd.results17, go_sem, noW, W4.val]) rfl ⟨rfl, below1 _ _⟩
set_option maxHeartbeats 1000000 in
theorem set_yes (g : Nat) (of : Nat → Nat) (l : List W4) (i : Nat) (s : W4) (hi : l[i]? = some s) (w : World) (h : BlkAt w g of l) :
    Calls Tryd.prog 17 #[.pointer (some ⟨g, 0, none⟩), .int .i64 (i : Int)] w fun e w' => e = .returned s.val ∧ Below w.heap.size w w' := by
  have hl : i < l.length := (List.getElem?_eq_some_iff.1 hi).1
  have HC := hid (fun W (hW : BlkAt W g of l) => there_any (some ⟨g, 0, none⟩) l.length i W (count_at g of l W hW))
  have hin : inN (i : Int) l.length = true := by unfold inN; simp; exact hl
  have H2 := h.below (below1 w (.cells #[.int .u64 0, .int .u64 0, .int .u64 0, .int .u64 0] 35)) (Nat.le_refl _)
  obtain ⟨k, cap, hr, hk, hs⟩ := h.row
  obtain ⟨c0, c1, c2, c3⟩ := hs i s hi
  have hlt := h.lt
  have hlen := h.small
  have HIN := hid hin
  have H2 := hid H2
  clear hs h hin hi
  go_enter Tryd.func17, Tryd.ntmps17
  go_wp2_with fail
  refine (HC.out _ H2.out).mono ?_
  rintro e w1 ⟨rfl, hw⟩
  obtain rfl := hw
  rw [HIN.out]
  go_wp2_with fail
  exact bodyPost_ret (v := s.val) (by simp [results, Tryd.results17, go_sem, W4.val]) rfl ⟨rfl, below1 _ _⟩
/-- What Least answers of a set. -/
theorem least_any (p : Option Addr) (i : Int) (s : W4) (hs : s.fit) (w : World) (hS : Calls Tryd.prog 17 #[.pointer p, .int .i64 i] w fun e w' => e = .returned s.val ∧ Below w.heap.size w w') (hT : ∀ w', Below w.heap.size w w' → Tab w') :
    Calls Tryd.prog 15 #[.pointer p, .int .i64 i] w fun e w' => ∃ v, e = .returned v ∧ FirstIs s.mem v ∧ Below w.heap.size w w' := by
  have HS := hid hS
  have HT := hid hT
  clear hS hT
  go_enter Tryd.func15, Tryd.ntmps15
  go_wp2_with fail
  refine HS.out.mono ?_
  rintro e w1 ⟨rfl, hb⟩
  have HB := hid hb
  clear hb
  unfold W4.val
  go_wp2_with fail
  refine (first_any s.a s.b s.c s.d _ hs.1 hs.2.1 hs.2.2.1 hs.2.2.2 (HT.out _ HB.out)).mono ?_
  rintro e w2 ⟨v, rfl, hf, hb2⟩
  have HB2 := hid (HB.out.trans (hb2.mono HB.out.size))
  have HF : Hid (FirstIs s.mem v) := hid hf
  clear hb2
  rcases hf with ⟨_, rfl⟩ | ⟨m, _, _, _, rfl⟩
  all_goals
    go_wp2_with fail
    go_ret2
    exact ⟨_, rfl, HF.out, HB2.out⟩
end Go.Proofs.YtkjbecdngjdkhaaDoor
