/- Plain mathematics: blocks of bytes that can't be told apart, numbered by their least bytes. Contracts of blocks: how blocks lie in memory; what is read of them. Contracts of blocks: cut. The map of signatures to blocks: what its keys are, and what it holds. Contracts of blocks: More. Contracts of blocks: More, walked. -/
import Derived.Test.YtenibhmjcafbiaaGreatDoorWords
import Derived.Test.YtenibhmjcafbiaaGreatDoorRefD
import Derived.Test.YtenibhmjcafbiaaGreatDoorMade
import Derived.Test.YtenibhmjcafbiaaGreatDoorTzB
import Derived.LoopTactic
import Derived.Test.YtenibhmjcafbiaaGreatDoorOpen
import Derived.DeepKeys4
import Derived.Maps.Own
import Derived.Maps.OwnOps
import Derived.Maps.OwnSet
import Derived.Maps.Views
import Derived.Test.YtenibhmjcafbiaaGreatDoorTzC
import Derived.Test.YtenibhmjcafbiaaGreatDoorRegionY
import Derived.Test.YtenibhmjcafbiaaGreatDoorBytesD
namespace Go.Proofs.YtenibhmjcafbiaaGreatDoor
section
/-- A relation on bytes that sorts them. -/
structure Sorts (E : Nat → Nat → Bool) : Prop where
  refl : ∀ a, E a a = true
  symm : ∀ a b, E a b = true → E b a = true
  trans : ∀ a b c, E a b = true → E b c = true → E a c = true
/-- Those of the first n bytes that are the least of their block, rising. -/
def leads (E : Nat → Nat → Bool) : Nat → List Nat
  | 0 => []
  | n + 1 => if (leads E n).any (fun a => E a n) then leads E n else leads E n ++ [n]
theorem leads_succ (E : Nat → Nat → Bool) (n : Nat) : leads E (n + 1) = if (leads E n).any (fun a => E a n) then leads E n else leads E n ++ [n] := rfl
/-- A byte's block. -/
def num (E : Nat → Nat → Bool) (b : Nat) : Nat := (leads E (b + 1)).findIdx (fun a => E a b)
theorem leads_lt {E : Nat → Nat → Bool} : ∀ (n : Nat), ∀ a ∈ leads E n, a < n := by
  intro n
  induction n with
  | zero => intro a h; cases h
  | succ n ih =>
    intro a h
    unfold leads at h
    split at h
    · have := ih a h; omega
    · rcases List.mem_append.1 h with h | h
      · have := ih a h; omega
      · rw [List.mem_singleton.1 h]; omega
theorem leads_prefix {E : Nat → Nat → Bool} (n : Nat) : ∀ k, ∃ r, leads E (n + k) = leads E n ++ r := by
  intro k
  induction k with
  | zero => exact ⟨[], by simp⟩
  | succ k ih =>
    obtain ⟨r, hr⟩ := ih
    rw [← Nat.add_assoc, leads_succ]
    split
    · exact ⟨r, hr⟩
    · exact ⟨r ++ [n + k], by rw [hr, List.append_assoc]⟩
theorem lead_of {E : Nat → Nat → Bool} (hE : Sorts E) : ∀ (n b : Nat), b < n → ∃ a ∈ leads E n, E a b = true := by
  intro n
  induction n with
  | zero => intro b h; omega
  | succ n ih =>
    intro b hb
    rw [leads_succ]
    by_cases hany : (leads E n).any (fun a => E a n) = true
    · rw [if_pos hany]
      by_cases e : b = n
      · subst e
        obtain ⟨a, h1, h2⟩ := List.any_eq_true.1 hany
        exact ⟨a, h1, h2⟩
      · exact ih b (by omega)
    · rw [if_neg hany]
      by_cases e : b = n
      · subst e; exact ⟨b, by simp, hE.refl b⟩
      · obtain ⟨a, h1, h2⟩ := ih b (by omega)
        exact ⟨a, by simp [h1], h2⟩
/-- The leads are told apart. -/
theorem leads_apart {E : Nat → Nat → Bool} (hE : Sorts E) : ∀ (n i j : Nat) (a b : Nat), (leads E n)[i]? = some a → (leads E n)[j]? = some b → E a b = true → i = j := by
  intro n
  induction n with
  | zero => intro i j a b h; simp [leads] at h
  | succ n ih =>
    intro i j a b h1 h2 he
    unfold leads at h1 h2
    by_cases hany : (leads E n).any (fun a => E a n) = true
    · rw [if_pos hany] at h1 h2
      exact ih i j a b h1 h2 he
    · rw [if_neg hany] at h1 h2
      have hno : ∀ x ∈ leads E n, E x n = false := by
        intro x hx
        rw [← Bool.not_eq_true]
        intro h
        exact hany (List.any_eq_true.2 ⟨x, hx, h⟩)
      have key : ∀ (k : Nat) (c : Nat), (leads E n ++ [n])[k]? = some c → (k < (leads E n).length ∧ (leads E n)[k]? = some c) ∨ (k = (leads E n).length ∧ c = n) := by
        intro k c h
        by_cases hk : k < (leads E n).length
        · rw [List.getElem?_append_left hk] at h
          exact .inl ⟨hk, h⟩
        · rw [List.getElem?_append_right (by omega)] at h
          right
          by_cases e : k - (leads E n).length = 0
          · rw [e] at h
            simp at h
            exact ⟨by omega, h.symm⟩
          · obtain ⟨m, hm⟩ : ∃ m, k - (leads E n).length = m + 1 := ⟨k - (leads E n).length - 1, by omega⟩
            rw [hm] at h
            simp at h
      rcases key i a h1 with ⟨p1, p2⟩ | ⟨p1, p2⟩
      · rcases key j b h2 with ⟨q1, q2⟩ | ⟨q1, q2⟩
        · exact ih i j a b p2 q2 he
        · subst q2
          have := hno a (List.mem_of_getElem? p2)
          rw [this] at he; cases he
      · rcases key j b h2 with ⟨q1, q2⟩ | ⟨q1, q2⟩
        · subst p2
          have := hno b (List.mem_of_getElem? q2)
          rw [hE.symm a b he] at this; cases this
        · omega
theorem leads_at {E : Nat → Nat → Bool} {n m i a : Nat} (h : n ≤ m) (hi : (leads E n)[i]? = some a) : (leads E m)[i]? = some a := by
  obtain ⟨r, hr⟩ := leads_prefix (E := E) n (m - n)
  rw [show n + (m - n) = m by omega] at hr
  obtain ⟨hl, _⟩ := List.getElem?_eq_some_iff.1 hi
  rw [hr, List.getElem?_append_left hl]
  exact hi
/-- A byte's block is that of the lead that it can't be told from. -/
theorem num_of {E : Nat → Nat → Bool} (hE : Sorts E) {n i a b : Nat} (hi : (leads E n)[i]? = some a) (he : E a b = true) : num E b = i := by
  obtain ⟨c, hc, hcb⟩ := lead_of hE (b + 1) b (by omega)
  have hany : (leads E (b + 1)).any (fun a => E a b) = true := List.any_eq_true.2 ⟨c, hc, hcb⟩
  have hlt : num E b < (leads E (b + 1)).length := List.findIdx_lt_length_of_exists ⟨c, hc, hcb⟩
  have hp : E ((leads E (b + 1))[num E b]'hlt) b = true := List.findIdx_getElem (w := hlt)
  have h1 := leads_at (E := E) (Nat.le_max_left (b + 1) n) (List.getElem?_eq_getElem hlt)
  have h2 := leads_at (E := E) (Nat.le_max_right (b + 1) n) hi
  exact leads_apart hE _ _ _ _ _ h1 h2 (hE.trans _ _ _ hp (hE.symm _ _ he))
theorem num_lead {E : Nat → Nat → Bool} (hE : Sorts E) {n b : Nat} (hb : b < n) : ∃ a, (leads E n)[num E b]? = some a ∧ E a b = true := by
  obtain ⟨c, hc, hcb⟩ := lead_of hE (b + 1) b (by omega)
  have hlt : num E b < (leads E (b + 1)).length := List.findIdx_lt_length_of_exists ⟨c, hc, hcb⟩
  have hp : E ((leads E (b + 1))[num E b]'hlt) b = true := List.findIdx_getElem (w := hlt)
  exact ⟨_, leads_at (by omega) (List.getElem?_eq_getElem hlt), hp⟩
theorem num_iff {E : Nat → Nat → Bool} (hE : Sorts E) (a b : Nat) : num E a = num E b ↔ E a b = true := by
  constructor
  · intro h
    obtain ⟨x, h1, h2⟩ := num_lead hE (n := max a b + 1) (b := a) (by omega)
    obtain ⟨y, h3, h4⟩ := num_lead hE (n := max a b + 1) (b := b) (by omega)
    rw [h, h3] at h1
    injection h1 with h1
    subst h1
    exact hE.trans _ _ _ (hE.symm _ _ h2) h4
  · intro h
    obtain ⟨x, h1, h2⟩ := num_lead hE (n := a + 1) (b := a) (by omega)
    exact (num_of hE h1 (hE.trans _ _ _ h2 h)).symm
theorem num_lt {E : Nat → Nat → Bool} (hE : Sorts E) {n b : Nat} (hb : b < n) : num E b < (leads E n).length := by
  obtain ⟨a, h1, _⟩ := num_lead hE hb
  exact (List.getElem?_eq_some_iff.1 h1).1
/-- How a round of the numbering goes: the byte is of an elder block, or it is the first of a new one. -/
theorem num_old {E : Nat → Nat → Bool} (hE : Sorts E) {n a : Nat} (ha : a < n) (he : E a n = true) : leads E (n + 1) = leads E n ∧ num E n = num E a := by
  obtain ⟨x, h1, h2⟩ := num_lead hE ha
  have hx := List.mem_of_getElem? h1
  refine ⟨?_, ((num_iff hE a n).2 he).symm⟩
  rw [leads_succ, if_pos (List.any_eq_true.2 ⟨x, hx, hE.trans x a n h2 he⟩)]
theorem num_new {E : Nat → Nat → Bool} (hE : Sorts E) {n : Nat} (h : ∀ a, a < n → E a n = false) : leads E (n + 1) = leads E n ++ [n] ∧ num E n = (leads E n).length := by
  have e : leads E (n + 1) = leads E n ++ [n] := by
    rw [leads_succ, if_neg]
    intro hany
    obtain ⟨a, h1, h2⟩ := List.any_eq_true.1 hany
    rw [h a (leads_lt n a h1)] at h2; cases h2
  refine ⟨e, num_of hE (n := n + 1) (a := n) ?_ (hE.refl n)⟩
  rw [e, List.getElem?_append_right (Nat.le_refl _), Nat.sub_self]; rfl
theorem leads_congr {E F : Nat → Nat → Bool} {N : Nat} (h : ∀ a b, a < N → b < N → E a b = F a b) : ∀ n, n ≤ N → leads E n = leads F n := by
  intro n
  induction n with
  | zero => intro _; rfl
  | succ n ih =>
    intro hn
    have e := ih (by omega)
    have ha : (leads F n).any (fun a => E a n) = (leads F n).any (fun a => F a n) := by
      rw [Bool.eq_iff_iff, List.any_eq_true, List.any_eq_true]
      constructor
      · rintro ⟨x, h1, h2⟩
        have := leads_lt n x h1
        exact ⟨x, h1, by rw [← h x n (by omega) (by omega)]; exact h2⟩
      · rintro ⟨x, h1, h2⟩
        have := leads_lt n x h1
        exact ⟨x, h1, by rw [h x n (by omega) (by omega)]; exact h2⟩
    rw [leads_succ, leads_succ, e, ha]
theorem num_congr {E F : Nat → Nat → Bool} {N b : Nat} (hE : Sorts E) (hF : Sorts F) (h : ∀ a b, a < N → b < N → E a b = F a b) (hb : b < N) : num E b = num F b := by
  obtain ⟨x, h1, h2⟩ := num_lead hF (n := b + 1) (b := b) (by omega)
  have hx := leads_lt _ x (List.mem_of_getElem? h1)
  rw [← leads_congr h (b + 1) (by omega)] at h1
  rw [← h x b (by omega) hb] at h2
  exact num_of hE h1 h2
end
section
open Go Go.RowKit
attribute [local go_sem ↓] Go.wp_at_zero Go.wp_at_succ
attribute [local go_sem] eq4
/-- A set's words. -/
structure W4 where
  a : Int
  b : Int
  c : Int
  d : Int
def W4.mem (s : W4) (n : Nat) : Bool := memb s.a s.b s.c s.d n
def W4.fit (s : W4) : Prop := Fit s.a ∧ Fit s.b ∧ Fit s.c ∧ Fit s.d
def W4.val (s : W4) : Value := .agg #[.int .u64 s.a, .int .u64 s.b, .int .u64 s.c, .int .u64 s.d]
theorem W4.ext' {s t : W4} (hs : s.fit) (ht : t.fit) (h : ∀ n, n < 256 → s.mem n = t.mem n) : s = t := by
  obtain ⟨a, b, c, d⟩ := s
  obtain ⟨x, y, z, u⟩ := t
  obtain ⟨rfl, rfl, rfl, rfl⟩ := memb_ext hs.1 hs.2.1 hs.2.2.1 hs.2.2.2 ht.1 ht.2.1 ht.2.2.1 ht.2.2.2 h
  rfl
/-- The cells of a set, from an address on. -/
def SetAt (w : World) (g o : Nat) (s : W4) : Prop :=
  w.cell? ⟨g, o, none⟩ = some (.int .u64 s.a) ∧ w.cell? ⟨g, o + 1, none⟩ = some (.int .u64 s.b) ∧ w.cell? ⟨g, o + 2, none⟩ = some (.int .u64 s.c) ∧ w.cell? ⟨g, o + 3, none⟩ = some (.int .u64 s.d)
theorem SetAt.below {B : Nat} {w w' : World} {g o : Nat} {s : W4} (h : SetAt w g o s) (hb : Below B w w') (hg : g < B) : SetAt w' g o s :=
  ⟨(hb.cell (p := ⟨g, o, none⟩) hg).trans h.1, (hb.cell (p := ⟨g, o + 1, none⟩) hg).trans h.2.1, (hb.cell (p := ⟨g, o + 2, none⟩) hg).trans h.2.2.1, (hb.cell (p := ⟨g, o + 3, none⟩) hg).trans h.2.2.2⟩
/-- Blocks lie in block g: of each byte its block, and the blocks' sets. -/
structure BlkAt (w : World) (g : Nat) (of : Nat → Nat) (l : List W4) : Prop where
  lt : g < w.heap.size
  cell : ∀ b, b < 256 → w.cell? ⟨g, b, none⟩ = some (.int .i64 (of b : Int))
  row : ∃ h cap, w.cell? ⟨g, 256, none⟩ = some (.slice (some ⟨h, 0, none⟩) l.length cap) ∧ h < w.heap.size ∧ ∀ i s, l[i]? = some s → SetAt w h (i * 4) s
  fit : ∀ s ∈ l, s.fit
  small : l.length ≤ 256
theorem BlkAt.below {B : Nat} {w w' : World} {g : Nat} {of : Nat → Nat} {l : List W4} (h : BlkAt w g of l) (hb : Below B w w') (hB : w.heap.size ≤ B) : BlkAt w' g of l := by
  obtain ⟨lt, cell, ⟨k, cap, hr, hk, hs⟩, fit, small⟩ := h
  exact ⟨Nat.lt_of_lt_of_le lt hb.size, fun b hb2 => (hb.cell (p := ⟨g, b, none⟩) (by show g < B; omega)).trans (cell b hb2),
    ⟨k, cap, (hb.cell (p := ⟨g, 256, none⟩) (by show g < B; omega)).trans hr, Nat.lt_of_lt_of_le hk hb.size, fun i s hi => (hs i s hi).below hb (by omega)⟩, fit, small⟩
/-- Is a block of this number there? -/
def inN (i : Int) (n : Nat) : Bool := decide (0 ≤ i) && decide (i < (n : Int))
/-- The empty set. -/
def noW : W4 := ⟨0, 0, 0, 0⟩
end
section
open Go Go.RowKit
attribute [local go_sem ↓] Go.wp_at_zero Go.wp_at_succ
attribute [local go_sem] eq4
def W4.meet (t s : W4) : W4 := ⟨an t.a s.a, an t.b s.b, an t.c s.c, an t.d s.d⟩
def eqW (s t : W4) : Bool := s.a == t.a && s.b == t.b && s.c == t.c && s.d == t.d
/-- Has a set of a block neither all nor nothing? -/
def cuts (s t : W4) : Bool := !eqW (t.meet s) t && !eqW (t.meet s) noW
theorem eqW_iff (s t : W4) : eqW s t = true ↔ s = t := by
  obtain ⟨a, b, c, d⟩ := s
  obtain ⟨x, y, z, u⟩ := t
  simp [eqW, and_assoc]
theorem meet_fit (t s : W4) : (t.meet s).fit := ⟨an_fit _ _, an_fit _ _, an_fit _ _, an_fit _ _⟩
theorem mem_meet (t s : W4) (n : Nat) : (t.meet s).mem n = (t.mem n && s.mem n) := memb_an _ _ _ _ _ _ _ _ n
theorem meetW (t s : W4) (w : World) :
    Calls Tryz.prog 91 #[.agg #[.int .u64 t.a, .int .u64 t.b, .int .u64 t.c, .int .u64 t.d], .agg #[.int .u64 s.a, .int .u64 s.b, .int .u64 s.c, .int .u64 s.d]] w fun e w' => e = .returned (.agg #[.int .u64 (t.meet s).a, .int .u64 (t.meet s).b, .int .u64 (t.meet s).c, .int .u64 (t.meet s).d]) ∧ Below w.heap.size w w' := meet_any _ _ _ _ _ _ _ _ w
theorem any_take {α : Type} (l : List α) (p : α → Bool) (k : Nat) (x : α) (h : l[k]? = some x) : (l.take (k + 1)).any p = ((l.take k).any p || p x) := by
  rw [List.take_add_one, h, List.any_append]; simp
theorem ne_words {p t : W4} (h : p ≠ t) : ((¬ p.a = t.a ∨ ¬ p.b = t.b) ∨ ¬ p.c = t.c) ∨ ¬ p.d = t.d := by
  obtain ⟨a, b, c, d⟩ := p
  obtain ⟨x, y, z, u⟩ := t
  by_cases h1 : a = x
  · by_cases h2 : b = y
    · by_cases h3 : c = z
      · right; intro h4; exact h (by simp at h4; rw [h1, h2, h3, h4])
      · exact .inl (.inr h3)
    · exact .inl (.inl (.inr h2))
  · exact .inl (.inl (.inl h1))
end
section
open Go Go.RowKit Go.Maps Go.WideMaps Go.WideElems
theorem zeroInt (w : World) : (zeroValue 3).run Tryz.prog w = .ok (.int .i64 0) w := by kernel_rfl
end
section
open Go Go.RowKit Go.Maps
attribute [local go_sem ↓] Go.wp_at_zero Go.wp_at_succ
attribute [local go_sem] eq4
def cells4W (s : W4) : List Value := [.int .u64 s.a, .int .u64 s.b, .int .u64 s.c, .int .u64 s.d]
def flatW (l : List W4) : List Value := l.flatMap cells4W
/-- The signature of a byte. -/
def sigF (of : Nat → Nat) (s : W4) (b : Nat) : Nat × Bool := (of b, s.mem b)
def sigE (of : Nat → Nat) (s : W4) (a b : Nat) : Bool := decide (sigF of s a = sigF of s b)
theorem sigE_sorts (of : Nat → Nat) (s : W4) : Sorts (sigE of s) where
  refl a := by simp [sigE]
  symm a b h := by simp [sigE] at h ⊢; exact h.symm
  trans a b c h1 h2 := by simp [sigE] at h1 h2 ⊢; exact h1.trans h2
theorem below_on {a X Y : World} (h : Below a.heap.size a X) (hb : Below X.heap.size X Y) : Below a.heap.size a Y := h.trans (hb.mono h.size)
theorem below_al {a X : World} (h : Below a.heap.size a X) (o : Obj) : Below a.heap.size a (X.alloc o) := h.alloc h.size o
theorem sigE_iff (of : Nat → Nat) (s : W4) (a b : Nat) : sigE of s a b = true ↔ sigF of s a = sigF of s b := by simp [sigE]
theorem atk_eq {D : DataW Unit} {k : Lit} {c x : Int} (h1 : D.atKey k (.lit (.int .i64 0)) = .lit (.int .i64 c)) (h2 : D.atKey k (.lit (.int .i64 0)) = .lit (.int .i64 x)) : c = x := by
  rw [h1] at h2
  simpa using h2
/-- What the first region of a round needs of memory, wherever it stands. -/
abbrev HeldM (w wr : World) (g k x : Nat) (s : W4) (W : World) : Prop :=
  W.cell? ⟨g, k, none⟩ = some (.int .i64 (x : Int)) ∧ W.cell? ⟨w.heap.size, 0, none⟩ = some (.int .u64 s.a) ∧ W.cell? ⟨w.heap.size, 1, none⟩ = some (.int .u64 s.b) ∧ W.cell? ⟨w.heap.size, 2, none⟩ = some (.int .u64 s.c) ∧ W.cell? ⟨w.heap.size, 3, none⟩ = some (.int .u64 s.d) ∧
  g < W.heap.size ∧ w.heap.size < W.heap.size ∧ Below wr.heap.size wr W
theorem heldM_call {w wr : World} {g k x : Nat} {s : W4} {X Y : World} (h : HeldM w wr g k x s X) (hb : Below X.heap.size X Y) : HeldM w wr g k x s Y := by
  obtain ⟨h0, h1, h2, h3, h4, h5, h6, h7⟩ := h
  exact ⟨(hb.cell (p := ⟨g, k, none⟩) h5).trans h0, (hb.cell (p := ⟨w.heap.size, 0, none⟩) h6).trans h1, (hb.cell (p := ⟨w.heap.size, 1, none⟩) h6).trans h2, (hb.cell (p := ⟨w.heap.size, 2, none⟩) h6).trans h3, (hb.cell (p := ⟨w.heap.size, 3, none⟩) h6).trans h4,
    Nat.lt_of_lt_of_le h5 hb.size, Nat.lt_of_lt_of_le h6 hb.size, below_on h7 hb⟩
theorem heldM_alloc {w wr : World} {g k x : Nat} {s : W4} {X : World} (h : HeldM w wr g k x s X) (o : Obj) : HeldM w wr g k x s (X.alloc o) := heldM_call h (below1 X o)
theorem heldM_drew {w wr : World} {g k x : Nat} {s : W4} {X : World} (h : HeldM w wr g k x s X) : HeldM w wr g k x s X.drew := heldM_call h (Below.refl _ _).drew
theorem heldM_set {w wr : World} {g k x : Nat} {s : W4} {X : World} (h : HeldM w wr g k x s X) (hg : g < wr.heap.size) (hw : w.heap.size < wr.heap.size) {p : Addr} (hp : wr.heap.size ≤ p.block) (u : Value) : HeldM w wr g k x s (X.setCell p u) := by
  obtain ⟨h0, h1, h2, h3, h4, h5, h6, h7⟩ := h
  have ne : ∀ (b o : Nat), b < wr.heap.size → p ≠ ⟨b, o, none⟩ := fun b o hb e => by rw [e] at hp; exact absurd hp (by simpa using hb)
  exact ⟨(World.cell?_setCell_other _ _ _ _ (ne _ _ hg)).trans h0, (World.cell?_setCell_other _ _ _ _ (ne _ _ hw)).trans h1, (World.cell?_setCell_other _ _ _ _ (ne _ _ hw)).trans h2, (World.cell?_setCell_other _ _ _ _ (ne _ _ hw)).trans h3, (World.cell?_setCell_other _ _ _ _ (ne _ _ hw)).trans h4,
    by simpa [World.setCell] using h5, by simpa [World.setCell] using h6, h7.setCell hp u⟩
theorem filled2 {w : World} {g : Nat} {ty : TypeId} {x0 x1 : Value} (h : w.heap[g]? = some (.cells #[x0, x1] ty)) (v0 v1 : Value) :
    Reg.Filled g #[v0, v1] ty w ((w.setCell ⟨g, 0, none⟩ v0).setCell ⟨g, 1, none⟩ v1) := by
  refine ⟨rfl, rfl, rfl, by simp [World.setCell], fun b hb => ?_, ?_⟩
  · rw [Below.heap_setCell _ _ _ _ hb, Below.heap_setCell _ _ _ _ hb]
  · exact Joins.block_setCell (Joins.block_setCell h v0) v1
theorem only_below {a w : World} {row : Option Nat} (h : Below a.heap.size a w) : a.grownBy w row := ⟨h.os, h.tape, h.output, h.size, fun i hi _ => h.block i hi⟩
theorem own_slice {w : World} {B sz n : Nat} {e : TypeId} {v : Value} {xs : List Value} (h : w.ownsRow B e sz v n xs) : ∃ p cap, v = .slice p n cap := by
  rcases h.2 with ⟨rfl, rfl⟩ | ⟨g, cap, cur, rfl, _⟩
  · exact ⟨none, 0, rfl⟩
  · exact ⟨_, cap, rfl⟩
theorem Tryz.infoSet : (Tryz.prog.info? 34).map (fun i => (i.zero, i.size, i.bytes)) = some (some (.agg #[.int .u64 0, .int .u64 0, .int .u64 0, .int .u64 0]), 4, 32) := by kernel_rfl
theorem four_cells : ∀ u ∈ cells4W noW, u.oneCell' = true := by
  intro u hu
  simp [cells4W, noW] at hu
  subst hu; rfl
theorem cell_four_new (w : World) (t : TypeId) : ∀ j u, (cells4W noW)[j]? = some u → (w.alloc (.cells #[.int .u64 0, .int .u64 0, .int .u64 0, .int .u64 0] t)).cell? ((⟨w.heap.size, 0, none⟩ : Addr).add j) = some u := by
  intro j u hj
  match j, hj with
  | 0, hj => simp [cells4W, noW] at hj; subst hj; simp [Addr.add]
  | 1, hj => simp [cells4W, noW] at hj; subst hj; simp [Addr.add]
  | 2, hj => simp [cells4W, noW] at hj; subst hj; simp [Addr.add]
  | 3, hj => simp [cells4W, noW] at hj; subst hj; simp [Addr.add]
theorem ownsSet {w : World} {B : Nat} {e : TypeId} {v : Value} {n sz : Nat} {xs : List Value} (h : w.ownsRow B e sz v n xs) {p : Addr} (hp : p.block < B) (u : Value) : (w.setCell p u).ownsRow B e sz v n xs := by
  refine ⟨h.1, ?_⟩
  rcases h.2 with h2 | ⟨b, cap, cur, hv, hb, hh, r⟩
  · exact .inl h2
  · exact .inr ⟨b, cap, cur, hv, hb, by rw [Below.heap_setCell _ _ _ _ (by omega)]; exact hh, r⟩
theorem flatW_set (t : W4) : ∀ (ls : List W4) (i : Nat), i < ls.length → ((((flatW ls).set (i * 4) (.int .u64 t.a)).set (i * 4 + 1) (.int .u64 t.b)).set (i * 4 + 2) (.int .u64 t.c)).set (i * 4 + 3) (.int .u64 t.d) = flatW (ls.set i t) := by
  intro ls
  induction ls with
  | nil => intro i h; simp at h
  | cons x xs ih =>
    intro i h
    cases i with
    | zero => simp [flatW, cells4W]
    | succ i =>
      have h2 := ih i (by simpa using h)
      have e : flatW (x :: xs) = .int .u64 x.a :: .int .u64 x.b :: .int .u64 x.c :: .int .u64 x.d :: flatW xs := rfl
      have e2 : flatW ((x :: xs).set (i + 1) t) = .int .u64 x.a :: .int .u64 x.b :: .int .u64 x.c :: .int .u64 x.d :: flatW (xs.set i t) := rfl
      rw [e, e2, ← h2, show (i + 1) * 4 = i * 4 + 1 + 1 + 1 + 1 by omega]
      rfl
theorem flatW_get : ∀ (ls : List W4) (i : Nat) (t : W4), ls[i]? = some t → (flatW ls)[i * 4]? = some (.int .u64 t.a) ∧ (flatW ls)[i * 4 + 1]? = some (.int .u64 t.b) ∧ (flatW ls)[i * 4 + 2]? = some (.int .u64 t.c) ∧ (flatW ls)[i * 4 + 3]? = some (.int .u64 t.d) := by
  intro ls
  induction ls with
  | nil => intro i t h; simp at h
  | cons x xs ih =>
    intro i t h
    cases i with
    | zero =>
      simp at h; subst h
      exact ⟨rfl, rfl, rfl, rfl⟩
    | succ i =>
      have h2 := ih i t (by simpa using h)
      have e : flatW (x :: xs) = .int .u64 x.a :: .int .u64 x.b :: .int .u64 x.c :: .int .u64 x.d :: flatW xs := rfl
      rw [e, show (i + 1) * 4 = i * 4 + 1 + 1 + 1 + 1 by omega]
      exact h2
/-- A store of a set's four words. -/
def set4 (w : World) (g o : Nat) (t : W4) : World := (((w.setCell ⟨g, o, none⟩ (.int .u64 t.a)).setCell ⟨g, o + 1, none⟩ (.int .u64 t.b)).setCell ⟨g, o + 2, none⟩ (.int .u64 t.c)).setCell ⟨g, o + 3, none⟩ (.int .u64 t.d)
theorem set4_heap {w : World} {g o : Nat} {t : W4} {b : Nat} (hb : b ≠ g) : (set4 w g o t).heap[b]? = w.heap[b]? := by
  unfold set4
  rw [Below.heap_setCell _ _ _ _ hb, Below.heap_setCell _ _ _ _ hb, Below.heap_setCell _ _ _ _ hb, Below.heap_setCell _ _ _ _ hb]
theorem take_set4 {α : Type} (l : List α) (m a b c d : Nat) (x y z u : α) : ((((l.set a x).set b y).set c z).set d u).take m = ((((l.take m).set a x).set b y).set c z).set d u := by
  simp only [List.take_set]
theorem leads_len (E : Nat → Nat → Bool) : ∀ n, (leads E n).length ≤ n := by
  intro n
  induction n with
  | zero => simp [leads]
  | succ n ih =>
    rw [leads_succ]
    split
    · omega
    · rw [List.length_append, List.length_singleton]; omega
theorem noW_fit : noW.fit := ⟨by simp [noW, Fit], by simp [noW, Fit], by simp [noW, Fit], by simp [noW, Fit]⟩
theorem noW_mem (n : Nat) : noW.mem n = false := memb_zero n
end
section
open Go Go.RowKit Go.Maps
attribute [local go_sem ↓] Go.wp_at_zero Go.wp_at_succ
attribute [local go_sem] eq4
/-- What the last region of a round needs of memory, wherever it stands. -/
abbrev HeldR (w wr : World) (gr n len cap : Nat) (t : W4) (W : World) : Prop :=
  W.cell? ⟨w.heap.size + 1, 256, none⟩ = some (.slice (some ⟨gr, 0, none⟩) len cap) ∧ W.cell? ⟨gr, n * 4, none⟩ = some (.int .u64 t.a) ∧ W.cell? ⟨gr, n * 4 + 1, none⟩ = some (.int .u64 t.b) ∧ W.cell? ⟨gr, n * 4 + 2, none⟩ = some (.int .u64 t.c) ∧ W.cell? ⟨gr, n * 4 + 3, none⟩ = some (.int .u64 t.d) ∧
  w.heap.size + 1 < W.heap.size ∧ gr < W.heap.size ∧ Below wr.heap.size wr W
theorem heldR_call {w wr : World} {gr n len cap : Nat} {t : W4} {X Y : World} (h : HeldR w wr gr n len cap t X) (hb : Below X.heap.size X Y) : HeldR w wr gr n len cap t Y := by
  obtain ⟨h0, h1, h2, h3, h4, h5, h6, h7⟩ := h
  exact ⟨(hb.cell (p := ⟨w.heap.size + 1, 256, none⟩) h5).trans h0, (hb.cell (p := ⟨gr, n * 4, none⟩) h6).trans h1, (hb.cell (p := ⟨gr, n * 4 + 1, none⟩) h6).trans h2, (hb.cell (p := ⟨gr, n * 4 + 2, none⟩) h6).trans h3, (hb.cell (p := ⟨gr, n * 4 + 3, none⟩) h6).trans h4,
    Nat.lt_of_lt_of_le h5 hb.size, Nat.lt_of_lt_of_le h6 hb.size, below_on h7 hb⟩
theorem heldR_drew {w wr : World} {gr n len cap : Nat} {t : W4} {X : World} (h : HeldR w wr gr n len cap t X) : HeldR w wr gr n len cap t X.drew := heldR_call h (Below.refl _ _).drew
/-- The words of a set of one byte. -/
def oneB (k : Nat) (j : Int) : Int := ofw (fun _ => (k : Int)) 1 j
def addW (t : W4) (k : Nat) : W4 := ⟨orr (orr 0 t.a) (oneB k 0), orr (orr 0 t.b) (oneB k 1), orr (orr 0 t.c) (oneB k 2), orr (orr 0 t.d) (oneB k 3)⟩
theorem addW_fit (t : W4) (k : Nat) : (addW t k).fit := ⟨orr_fit _ _, orr_fit _ _, orr_fit _ _, orr_fit _ _⟩
theorem addW_mem (t : W4) (_ : t.fit) (k m : Nat) (hk : k < 256) (hm : m < 256) : (addW t k).mem m = (t.mem m || decide (m = k)) := by
  show memb (orr (orr 0 t.a) (oneB k 0)) (orr (orr 0 t.b) (oneB k 1)) (orr (orr 0 t.c) (oneB k 2)) (orr (orr 0 t.d) (oneB k 3)) m = _
  rw [memb_or]
  have h := memb_ofw (fun _ => (k : Int)) (fun _ => by omega) (fun _ => by omega) 1 m hm
  unfold oneB
  rw [h]
  have e : onr (fun _ => (k : Int)) 1 m = decide (m = k) := by
    simp only [onr, Bool.false_or]
    by_cases e : m = k
    · subst e; simp
    · have : ¬ (k : Int) = (m : Int) := by omega
      simp [e, this]
  rw [e]; rfl
theorem of_blk {w : World} {g k : Nat} (hk : k < 256) (h : w.heap[g]? = some (.cells #[.int .u8 (k : Int)] 5)) :
    Calls Tryz.prog 32 #[.slice (some ⟨g, 0, none⟩) 1 1] w fun e w' => e = .returned (.agg #[.int .u64 (oneB k 0), .int .u64 (oneB k 1), .int .u64 (oneB k 2), .int .u64 (oneB k 3)]) ∧ Below w.heap.size w w' :=
  of_any g 0 1 1 (fun _ => (k : Int)) w (Reg.size_of_get h) (by omega) (fun _ => by omega) (fun _ => by omega) (fun j hj => by
    obtain rfl : j = 0 := by omega
    exact Joins.cell_of_block h 0)
theorem union_blkW {a b c d x y z u : Int} {w : World} {g : Nat} (h : w.heap[g]? = some (.cells #[.int .u64 a, .int .u64 b, .int .u64 c, .int .u64 d, .int .u64 x, .int .u64 y, .int .u64 z, .int .u64 u] 34)) :
    Calls Tryz.prog 129 #[.slice (some ⟨g, 0, none⟩) 2 2] w fun e w' => e = .returned (.agg #[.int .u64 (orr (orr 0 a) x), .int .u64 (orr (orr 0 b) y), .int .u64 (orr (orr 0 c) z), .int .u64 (orr (orr 0 d) u)]) ∧ Below w.heap.size w w' :=
  union_two g a b c d x y z u w (Reg.size_of_get h) (Joins.cell_of_block h 0) (Joins.cell_of_block h 1) (Joins.cell_of_block h 2) (Joins.cell_of_block h 3) (Joins.cell_of_block h 4) (Joins.cell_of_block h 5) (Joins.cell_of_block h 6) (Joins.cell_of_block h 7)
/-- What the last region of a round tells. -/
def rowTold (B gr n k len cap : Nat) (t : W4) : Nat → Reg.Told
  | 0 => .inl (.pointer (some ⟨B, 0, none⟩))
  | 1 => .inl (.pointer (some ⟨B, 0, none⟩))
  | 2 => .inl (.pointer (some ⟨B, 256, none⟩))
  | 3 => .inl (.slice (some ⟨gr, 0, none⟩) len cap)
  | 4 => .inl (.int .i64 (n : Int))
  | 5 => .inl (.pointer (some ⟨B, 0, none⟩))
  | 6 => .inl (.pointer (some ⟨B, 0, none⟩))
  | 7 => .inl (.pointer (some ⟨B, 256, none⟩))
  | 8 => .inl (.slice (some ⟨gr, 0, none⟩) len cap)
  | 9 => .inl (.int .i64 (n : Int))
  | 10 => .inl (.pointer (some ⟨gr, n * 4, none⟩))
  | 11 => .inl (.agg #[.int .u64 t.a, .int .u64 t.b, .int .u64 t.c, .int .u64 t.d])
  | 12 => .inl (.int .i64 (k : Int))
  | 13 => .inl (.int .u8 (k : Int))
  | 14 => .inr ⟨fun G => .slice (some ⟨G, 0, none⟩) 1 1, 5, #[.int .u8 (k : Int)]⟩
  | 15 => .inl (.agg #[.int .u64 (oneB k 0), .int .u64 (oneB k 1), .int .u64 (oneB k 2), .int .u64 (oneB k 3)])
  | 16 => .inr ⟨fun G => .slice (some ⟨G, 0, none⟩) 2 2, 34, #[.int .u64 t.a, .int .u64 t.b, .int .u64 t.c, .int .u64 t.d, .int .u64 (oneB k 0), .int .u64 (oneB k 1), .int .u64 (oneB k 2), .int .u64 (oneB k 3)]⟩
  | 17 => .inl (.agg #[.int .u64 (addW t k).a, .int .u64 (addW t k).b, .int .u64 (addW t k).c, .int .u64 (addW t k).d])
  | 18 => .inl (.pointer (some ⟨gr, n * 4, none⟩))
  | _ => .inl undef
end
end Go.Proofs.YtenibhmjcafbiaaGreatDoor
