/- Contracts of blocks: More. -/
import Derived.Test.YtcicdiooifjcbaaDoorBlkC
import Derived.Test.YtcicdiooifjcbaaDoorTzC
import Derived.Test.YtcicdiooifjcbaaDoorRegionY
namespace Go.Proofs.YtcicdiooifjcbaaDoor
open Go Go.RowKit Go.Maps
attribute [local go_sem ↓] Go.wp_at_zero Go.wp_at_succ
attribute [local go_sem] eq4
def cells4W (s : W4) : List Value := [.int .u64 s.a, .int .u64 s.b, .int .u64 s.c, .int .u64 s.d]
def flatW (l : List W4) : List Value := l.flatMap cells4W
/-- The signature of a byte. -/
def sigF (of : Nat → Nat) (s : W4) (b : Nat) : Nat × Bool := (of b, s.mem b)
def sigE (of : Nat → Nat) (s : W4) (a b : Nat) : Bool := decide (sigF of s a = sigF of s b)
theorem sigE_sorts (of : Nat → Nat) (s : W4) : Sorts (sigE of s) where
  refl a := by simp [sigE]
  symm a b h := by simp [sigE] at h ⊢; exact h.symm
  trans a b c h1 h2 := by simp [sigE] at h1 h2 ⊢; exact h1.trans h2
theorem below_on {a X Y : World} (h : Below a.heap.size a X) (hb : Below X.heap.size X Y) : Below a.heap.size a Y := h.trans (hb.mono h.size)
theorem below_al {a X : World} (h : Below a.heap.size a X) (o : Obj) : Below a.heap.size a (X.alloc o) := h.alloc h.size o
theorem sigE_iff (of : Nat → Nat) (s : W4) (a b : Nat) : sigE of s a b = true ↔ sigF of s a = sigF of s b := by simp [sigE]
theorem atk_eq {D : DataW Unit} {k : Lit} {c x : Int} (h1 : D.atKey k (.lit (.int .i64 0)) = .lit (.int .i64 c)) (h2 : D.atKey k (.lit (.int .i64 0)) = .lit (.int .i64 x)) : c = x := by
  rw [h1] at h2
  simpa using h2
/-- What the first region of a round needs of memory, wherever it stands. -/
abbrev HeldM (w wr : World) (g k x : Nat) (s : W4) (W : World) : Prop :=
  W.cell? ⟨g, k, none⟩ = some (.int .i64 (x : Int)) ∧ W.cell? ⟨w.heap.size, 0, none⟩ = some (.int .u64 s.a) ∧ W.cell? ⟨w.heap.size, 1, none⟩ = some (.int .u64 s.b) ∧ W.cell? ⟨w.heap.size, 2, none⟩ = some (.int .u64 s.c) ∧ W.cell? ⟨w.heap.size, 3, none⟩ = some (.int .u64 s.d) ∧
  g < W.heap.size ∧ w.heap.size < W.heap.size ∧ Below wr.heap.size wr W
theorem heldM_call {w wr : World} {g k x : Nat} {s : W4} {X Y : World} (h : HeldM w wr g k x s X) (hb : Below X.heap.size X Y) : HeldM w wr g k x s Y := by
  obtain ⟨h0, h1, h2, h3, h4, h5, h6, h7⟩ := h
  exact ⟨(hb.cell (p := ⟨g, k, none⟩) h5).trans h0, (hb.cell (p := ⟨w.heap.size, 0, none⟩) h6).trans h1, (hb.cell (p := ⟨w.heap.size, 1, none⟩) h6).trans h2, (hb.cell (p := ⟨w.heap.size, 2, none⟩) h6).trans h3, (hb.cell (p := ⟨w.heap.size, 3, none⟩) h6).trans h4,
    Nat.lt_of_lt_of_le h5 hb.size, Nat.lt_of_lt_of_le h6 hb.size, below_on h7 hb⟩
theorem heldM_alloc {w wr : World} {g k x : Nat} {s : W4} {X : World} (h : HeldM w wr g k x s X) (o : Obj) : HeldM w wr g k x s (X.alloc o) := heldM_call h (below1 X o)
theorem heldM_drew {w wr : World} {g k x : Nat} {s : W4} {X : World} (h : HeldM w wr g k x s X) : HeldM w wr g k x s X.drew := heldM_call h (Below.refl _ _).drew
theorem heldM_set {w wr : World} {g k x : Nat} {s : W4} {X : World} (h : HeldM w wr g k x s X) (hg : g < wr.heap.size) (hw : w.heap.size < wr.heap.size) {p : Addr} (hp : wr.heap.size ≤ p.block) (u : Value) : HeldM w wr g k x s (X.setCell p u) := by
  obtain ⟨h0, h1, h2, h3, h4, h5, h6, h7⟩ := h
  have ne : ∀ (b o : Nat), b < wr.heap.size → p ≠ ⟨b, o, none⟩ := fun b o hb e => by rw [e] at hp; exact absurd hp (by simpa using hb)
  exact ⟨(World.cell?_setCell_other _ _ _ _ (ne _ _ hg)).trans h0, (World.cell?_setCell_other _ _ _ _ (ne _ _ hw)).trans h1, (World.cell?_setCell_other _ _ _ _ (ne _ _ hw)).trans h2, (World.cell?_setCell_other _ _ _ _ (ne _ _ hw)).trans h3, (World.cell?_setCell_other _ _ _ _ (ne _ _ hw)).trans h4,
    by simpa [World.setCell] using h5, by simpa [World.setCell] using h6, h7.setCell hp u⟩
theorem filled2 {w : World} {g : Nat} {ty : TypeId} {x0 x1 : Value} (h : w.heap[g]? = some (.cells #[x0, x1] ty)) (v0 v1 : Value) :
    Reg.Filled g #[v0, v1] ty w ((w.setCell ⟨g, 0, none⟩ v0).setCell ⟨g, 1, none⟩ v1) := by
  refine ⟨rfl, rfl, rfl, by simp [World.setCell], fun b hb => ?_, ?_⟩
  · rw [Below.heap_setCell _ _ _ _ hb, Below.heap_setCell _ _ _ _ hb]
  · exact Joins.block_setCell (Joins.block_setCell h v0) v1
theorem only_below {a w : World} {row : Option Nat} (h : Below a.heap.size a w) : a.grownBy w row := ⟨h.os, h.tape, h.output, h.size, fun i hi _ => h.block i hi⟩
theorem own_slice {w : World} {B sz n : Nat} {e : TypeId} {v : Value} {xs : List Value} (h : w.ownsRow B e sz v n xs) : ∃ p cap, v = .slice p n cap := by
  rcases h.2 with ⟨rfl, rfl⟩ | ⟨g, cap, cur, rfl, _⟩
  · exact ⟨none, 0, rfl⟩
  · exact ⟨_, cap, rfl⟩
theorem Tryd.infoSet : (Tryd.prog.info? 32).map (fun i => (i.zero, i.size, i.bytes)) = some (some (.agg #[.int .u64 0, .int .u64 0, .int .u64 0, .int .u64 0]), 4, 32) := by kernel_rfl
theorem four_cells : ∀ u ∈ cells4W noW, u.oneCell' = true := by
  intro u hu
  simp [cells4W, noW] at hu
  subst hu; rfl
theorem cell_four_new (w : World) (t : TypeId) : ∀ j u, (cells4W noW)[j]? = some u → (w.alloc (.cells #[.int .u64 0, .int .u64 0, .int .u64 0, .int .u64 0] t)).cell? ((⟨w.heap.size, 0, none⟩ : Addr).add j) = some u := by
  intro j u hj
  match j, hj with
  | 0, hj => simp [cells4W, noW] at hj; subst hj; simp [Addr.add]
  | 1, hj => simp [cells4W, noW] at hj; subst hj; simp [Addr.add]
  | 2, hj => simp [cells4W, noW] at hj; subst hj; simp [Addr.add]
  | 3, hj => simp [cells4W, noW] at hj; subst hj; simp [Addr.add]
theorem ownsSet {w : World} {B : Nat} {e : TypeId} {v : Value} {n sz : Nat} {xs : List Value} (h : w.ownsRow B e sz v n xs) {p : Addr} (hp : p.block < B) (u : Value) : (w.setCell p u).ownsRow B e sz v n xs := by
  refine ⟨h.1, ?_⟩
  rcases h.2 with h2 | ⟨b, cap, cur, hv, hb, hh, r⟩
  · exact .inl h2
  · exact .inr ⟨b, cap, cur, hv, hb, by rw [Below.heap_setCell _ _ _ _ (by omega)]; exact hh, r⟩
theorem flatW_set (t : W4) : ∀ (ls : List W4) (i : Nat), i < ls.length → ((((flatW ls).set (i * 4) (.int .u64 t.a)).set (i * 4 + 1) (.int .u64 t.b)).set (i * 4 + 2) (.int .u64 t.c)).set (i * 4 + 3) (.int .u64 t.d) = flatW (ls.set i t) := by
  intro ls
  induction ls with
  | nil => intro i h; simp at h
  | cons x xs ih =>
    intro i h
    cases i with
    | zero => simp [flatW, cells4W]
    | succ i =>
      have h2 := ih i (by simpa using h)
      have e : flatW (x :: xs) = .int .u64 x.a :: .int .u64 x.b :: .int .u64 x.c :: .int .u64 x.d :: flatW xs := rfl
      have e2 : flatW ((x :: xs).set (i + 1) t) = .int .u64 x.a :: .int .u64 x.b :: .int .u64 x.c :: .int .u64 x.d :: flatW (xs.set i t) := rfl
      rw [e, e2, ← h2, show (i + 1) * 4 = i * 4 + 1 + 1 + 1 + 1 by omega]
      rfl
theorem flatW_get : ∀ (ls : List W4) (i : Nat) (t : W4), ls[i]? = some t → (flatW ls)[i * 4]? = some (.int .u64 t.a) ∧ (flatW ls)[i * 4 + 1]? = some (.int .u64 t.b) ∧ (flatW ls)[i * 4 + 2]? = some (.int .u64 t.c) ∧ (flatW ls)[i * 4 + 3]? = some (.int .u64 t.d) := by
  intro ls
  induction ls with
  | nil => intro i t h; simp at h
  | cons x xs ih =>
    intro i t h
    cases i with
    | zero =>
      simp at h; subst h
      exact ⟨rfl, rfl, rfl, rfl⟩
    | succ i =>
      have h2 := ih i t (by simpa using h)
      have e : flatW (x :: xs) = .int .u64 x.a :: .int .u64 x.b :: .int .u64 x.c :: .int .u64 x.d :: flatW xs := rfl
      rw [e, show (i + 1) * 4 = i * 4 + 1 + 1 + 1 + 1 by omega]
      exact h2
/-- A store of a set's four words. -/
def set4 (w : World) (g o : Nat) (t : W4) : World := (((w.setCell ⟨g, o, none⟩ (.int .u64 t.a)).setCell ⟨g, o + 1, none⟩ (.int .u64 t.b)).setCell ⟨g, o + 2, none⟩ (.int .u64 t.c)).setCell ⟨g, o + 3, none⟩ (.int .u64 t.d)
theorem set4_heap {w : World} {g o : Nat} {t : W4} {b : Nat} (hb : b ≠ g) : (set4 w g o t).heap[b]? = w.heap[b]? := by
  unfold set4
  rw [Below.heap_setCell _ _ _ _ hb, Below.heap_setCell _ _ _ _ hb, Below.heap_setCell _ _ _ _ hb, Below.heap_setCell _ _ _ _ hb]
theorem take_set4 {α : Type} (l : List α) (m a b c d : Nat) (x y z u : α) : ((((l.set a x).set b y).set c z).set d u).take m = ((((l.take m).set a x).set b y).set c z).set d u := by
  simp only [List.take_set]
theorem leads_len (E : Nat → Nat → Bool) : ∀ n, (leads E n).length ≤ n := by
  intro n
  induction n with
  | zero => simp [leads]
  | succ n ih =>
    rw [leads_succ]
    split
    · omega
    · rw [List.length_append, List.length_singleton]; omega
theorem noW_fit : noW.fit := ⟨by simp [noW, Fit], by simp [noW, Fit], by simp [noW, Fit], by simp [noW, Fit]⟩
theorem noW_mem (n : Nat) : noW.mem n = false := memb_zero n
end Go.Proofs.YtcicdiooifjcbaaDoor
