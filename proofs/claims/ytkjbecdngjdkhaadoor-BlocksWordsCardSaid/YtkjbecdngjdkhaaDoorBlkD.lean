/- Contracts of blocks: More. -/
import Derived.Test.YtkjbecdngjdkhaaDoorBlkC
import Derived.Test.YtkjbecdngjdkhaaDoorTzC
import Derived.Test.YtkjbecdngjdkhaaDoorRegionY
namespace Go.Proofs.YtkjbecdngjdkhaaDoor
open Go Go.RowKit Go.Maps
attribute [local go_sem ↓] Go.wp_at_zero Go.wp_at_succ
attribute [local go_sem] eq4
/-- Has, told of a set's bytes. -/
theorem has_mem (s : W4) (hs : s.fit) (n : Nat) (hn : n < 256) (w : World) :
    Calls Tryd.prog 42 #[.agg #[.int .u64 s.a, .int .u64 s.b, .int .u64 s.c, .int .u64 s.d], .int .u8 (n : Int)] w fun e w' => e = .returned (.bool (s.mem n)) ∧ Below w.heap.size w w' := by
  have h := has_any s.a s.b s.c s.d (n : Int) w (by omega) (by omega)
  rw [hasW_at hs.1 hs.2.1 hs.2.2.1 hs.2.2.2] at h
  exact h
def cells4W (s : W4) : List Value := [.int .u64 s.a, .int .u64 s.b, .int .u64 s.c, .int .u64 s.d]
def flatW (l : List W4) : List Value := l.flatMap cells4W
/-- The signature of a byte. -/
def sigF (of : Nat → Nat) (s : W4) (b : Nat) : Nat × Bool := (of b, s.mem b)
def sigE (of : Nat → Nat) (s : W4) (a b : Nat) : Bool := decide (sigF of s a = sigF of s b)
theorem sigE_sorts (of : Nat → Nat) (s : W4) : Sorts (sigE of s) where
  refl a := by simp [sigE]
  symm a b h := by simp [sigE] at h ⊢; exact h.symm
  trans a b c h1 h2 := by simp [sigE] at h1 h2 ⊢; exact h1.trans h2
theorem below_on {a X Y : World} (h : Below a.heap.size a X) (hb : Below X.heap.size X Y) : Below a.heap.size a Y := h.trans (hb.mono h.size)
theorem below_al {a X : World} (h : Below a.heap.size a X) (o : Obj) : Below a.heap.size a (X.alloc o) := h.alloc h.size o
theorem sigE_iff (of : Nat → Nat) (s : W4) (a b : Nat) : sigE of s a b = true ↔ sigF of s a = sigF of s b := by simp [sigE]
theorem atk_eq {D : DataW Unit} {k : Lit} {c x : Int} (h1 : D.atKey k (.lit (.int .i64 0)) = .lit (.int .i64 c)) (h2 : D.atKey k (.lit (.int .i64 0)) = .lit (.int .i64 x)) : c = x := by
  rw [h1] at h2
  simpa using h2
/-- What the first region of a round needs of memory, wherever it stands. -/
abbrev HeldM (w wr : World) (g k x : Nat) (s : W4) (W : World) : Prop :=
  W.cell? ⟨g, k, none⟩ = some (.int .i64 (x : Int)) ∧ W.cell? ⟨w.heap.size, 0, none⟩ = some (.int .u64 s.a) ∧ W.cell? ⟨w.heap.size, 1, none⟩ = some (.int .u64 s.b) ∧ W.cell? ⟨w.heap.size, 2, none⟩ = some (.int .u64 s.c) ∧ W.cell? ⟨w.heap.size, 3, none⟩ = some (.int .u64 s.d) ∧
  g < W.heap.size ∧ w.heap.size < W.heap.size ∧ Below wr.heap.size wr W
theorem heldM_call {w wr : World} {g k x : Nat} {s : W4} {X Y : World} (h : HeldM w wr g k x s X) (hb : Below X.heap.size X Y) : HeldM w wr g k x s Y := by
  obtain ⟨h0, h1, h2, h3, h4, h5, h6, h7⟩ := h
  exact ⟨(hb.cell (p := ⟨g, k, none⟩) h5).trans h0, (hb.cell (p := ⟨w.heap.size, 0, none⟩) h6).trans h1, (hb.cell (p := ⟨w.heap.size, 1, none⟩) h6).trans h2, (hb.cell (p := ⟨w.heap.size, 2, none⟩) h6).trans h3, (hb.cell (p := ⟨w.heap.size, 3, none⟩) h6).trans h4,
    Nat.lt_of_lt_of_le h5 hb.size, Nat.lt_of_lt_of_le h6 hb.size, below_on h7 hb⟩
theorem heldM_alloc {w wr : World} {g k x : Nat} {s : W4} {X : World} (h : HeldM w wr g k x s X) (o : Obj) : HeldM w wr g k x s (X.alloc o) := heldM_call h (below1 X o)
theorem heldM_drew {w wr : World} {g k x : Nat} {s : W4} {X : World} (h : HeldM w wr g k x s X) : HeldM w wr g k x s X.drew := heldM_call h (Below.refl _ _).drew
theorem heldM_set {w wr : World} {g k x : Nat} {s : W4} {X : World} (h : HeldM w wr g k x s X) (hg : g < wr.heap.size) (hw : w.heap.size < wr.heap.size) {p : Addr} (hp : wr.heap.size ≤ p.block) (u : Value) : HeldM w wr g k x s (X.setCell p u) := by
  obtain ⟨h0, h1, h2, h3, h4, h5, h6, h7⟩ := h
  have ne : ∀ (b o : Nat), b < wr.heap.size → p ≠ ⟨b, o, none⟩ := fun b o hb e => by rw [e] at hp; exact absurd hp (by simpa using hb)
  exact ⟨(World.cell?_setCell_other _ _ _ _ (ne _ _ hg)).trans h0, (World.cell?_setCell_other _ _ _ _ (ne _ _ hw)).trans h1, (World.cell?_setCell_other _ _ _ _ (ne _ _ hw)).trans h2, (World.cell?_setCell_other _ _ _ _ (ne _ _ hw)).trans h3, (World.cell?_setCell_other _ _ _ _ (ne _ _ hw)).trans h4,
    by simpa [World.setCell] using h5, by simpa [World.setCell] using h6, h7.setCell hp u⟩
/-- What the first region of a round tells. -/
def sigTold (g k x : Nat) (s : W4) (q : Bool) : Nat → Reg.Told
  | 0 => .inl (.pointer (some ⟨g, 0, none⟩))
  | 1 => .inl (.int .i64 (k : Int))
  | 2 => .inl (.pointer (some ⟨g, 0, none⟩))
  | 3 => .inl (.pointer (some ⟨g, 0, none⟩))
  | 4 => .inl (.pointer (some ⟨g, k, none⟩))
  | 5 => .inl (.int .i64 (x : Int))
  | 6 => .inl (.agg #[.int .u64 s.a, .int .u64 s.b, .int .u64 s.c, .int .u64 s.d])
  | 7 => .inl (.int .i64 (k : Int))
  | 8 => .inl (.int .u8 (k : Int))
  | 9 => .inl (.bool q)
  | 10 => .inl (.agg #[.int .i64 (x : Int), .bool q])
  | 11 => .inr ⟨fun G => .pointer (some ⟨G, 0, none⟩), 92, #[.int .i64 0, .bool false]⟩
  | _ => .inl undef
theorem filled2 {w : World} {g : Nat} {ty : TypeId} {x0 x1 : Value} (h : w.heap[g]? = some (.cells #[x0, x1] ty)) (v0 v1 : Value) :
    Reg.Filled g #[v0, v1] ty w ((w.setCell ⟨g, 0, none⟩ v0).setCell ⟨g, 1, none⟩ v1) := by
  refine ⟨rfl, rfl, rfl, by simp [World.setCell], fun b hb => ?_, ?_⟩
  · rw [Below.heap_setCell _ _ _ _ hb, Below.heap_setCell _ _ _ _ hb]
  · exact Joins.block_setCell (Joins.block_setCell h v0) v1
/-- What holds of memory in More: the cells of the bytes below kc are written, the sets are of the bytes below ks, the leads are L. -/
structure MoreAt (w : World) (s : W4) (f : Nat → Nat × Bool) (E : Nat → Nat → Bool) (kc ks : Nat) (L : List Nat) (wr : World) : Prop where
  set : SetAt wr w.heap.size 0 s
  be : Below w.heap.size w wr
  blk : ∃ (arr : Array Value) (v : Value) (ls : List W4), wr.heap[w.heap.size + 1]? = some (.cells arr 84) ∧ (∀ b, b < 256 → arr[b]? = some (.int .i64 (if b < kc then (num E b : Int) else 0))) ∧ arr[256]? = some v ∧
    wr.ownsRow (w.heap.size + 3) 35 4 v L.length (flatW ls) ∧ ls.length = L.length ∧ (∀ (i : Nat) t, ls[i]? = some t → t.fit ∧ ∀ n, n < 256 → t.mem n = (decide (n < ks) && decide (num E n = i)))
  map : ∃ D, wr.ownsMap Tryd.prog 92 (plainElem Tryd.prog 3) (w.heap.size + 2) L.length D ∧ MapInv D f L
theorem MoreAt.size {w : World} {s : W4} {f : Nat → Nat × Bool} {E : Nat → Nat → Bool} {k ks : Nat} {L : List Nat} {wr : World} (h : MoreAt w s f E k ks L wr) : w.heap.size + 2 < wr.heap.size := by
  obtain ⟨D, h1, _⟩ := h.map
  exact h1.lt
theorem only_below {a w : World} {row : Option Nat} (h : Below a.heap.size a w) : a.grownBy w row := ⟨h.os, h.tape, h.output, h.size, fun i hi _ => h.block i hi⟩
theorem MoreAt.on {w : World} {s : W4} {f : Nat → Nat × Bool} {E : Nat → Nat → Bool} {k ks : Nat} {L : List Nat} {wr w2 : World} (h : MoreAt w s f E k ks L wr) (hb : Below wr.heap.size wr w2) : MoreAt w s f E k ks L w2 := by
  have hsz := h.size
  obtain ⟨h1, h2, ⟨arr, v, ls, p1, p2, p3, p4, p5, p6⟩, ⟨D, q1, q2⟩⟩ := h
  refine ⟨h1.below hb (by omega), h2.trans (hb.mono h2.size), ⟨arr, v, ls, (hb.block _ (by omega)).trans p1, p2, p3, ownsBelow p4 hb, p5, p6⟩, ⟨D, q1.kept (only_below hb (row := none)) (by simp), q2⟩⟩
/-- The lookup: a signature that was met tells the block. -/
theorem map_old {D : DataW Unit} {f : Nat → Nat × Bool} {E : Nat → Nat → Bool} (hE : Sorts E) (hEf : ∀ a b, E a b = true ↔ f a = f b) {k a : Nat} (hf : ∀ a, (f a).1 < 256) (h : MapInv D f (leads E k)) (ha : a < k) (he : E a k = true) :
    Maps.has D (kl (f k).1 (f k).2) = true ∧ D.atKey (kl (f k).1 (f k).2) (.lit (.int .i64 0)) = .lit (.int .i64 (num E k : Int)) := by
  obtain ⟨x, h1, h2⟩ := num_lead hE ha
  have hx : f x = f k := ((hEf x a).1 h2).trans ((hEf a k).1 he)
  rw [← (num_old hE ha he).2] at h1
  refine ⟨?_, ?_⟩
  · rw [h.has _ _ (hf k), List.any_eq_true]
    exact ⟨x, List.mem_of_getElem? h1, by simp [hx]⟩
  · have := h.atk _ _ h1
    rw [hx] at this
    exact this
theorem map_new {D : DataW Unit} {f : Nat → Nat × Bool} {E : Nat → Nat → Bool} (hEf : ∀ a b, E a b = true ↔ f a = f b) {k : Nat} (hf : ∀ a, (f a).1 < 256) (h : MapInv D f (leads E k)) (hno : ∀ a, a < k → E a k = false) :
    Maps.has D (kl (f k).1 (f k).2) = false ∧ ∀ a ∈ leads E k, f a ≠ f k := by
  have h2 : ∀ a ∈ leads E k, f a ≠ f k := fun a ha e => by
    have := hno a (leads_lt k a ha)
    rw [(hEf a k).2 e] at this; cases this
  refine ⟨?_, h2⟩
  rw [h.has _ _ (hf k), List.any_eq_false]
  intro a ha
  simp only [decide_eq_true_eq]
  exact h2 a ha
theorem own_slice {w : World} {B sz n : Nat} {e : TypeId} {v : Value} {xs : List Value} (h : w.ownsRow B e sz v n xs) : ∃ p cap, v = .slice p n cap := by
  rcases h.2 with ⟨rfl, rfl⟩ | ⟨g, cap, cur, rfl, _⟩
  · exact ⟨none, 0, rfl⟩
  · exact ⟨_, cap, rfl⟩
theorem Tryd.infoSet : (Tryd.prog.info? 35).map (fun i => (i.zero, i.size, i.bytes)) = some (some (.agg #[.int .u64 0, .int .u64 0, .int .u64 0, .int .u64 0]), 4, 32) := by kernel_rfl
theorem four_cells : ∀ u ∈ cells4W noW, u.oneCell' = true := by
  intro u hu
  simp [cells4W, noW] at hu
  subst hu; rfl
theorem cell_four_new (w : World) (t : TypeId) : ∀ j u, (cells4W noW)[j]? = some u → (w.alloc (.cells #[.int .u64 0, .int .u64 0, .int .u64 0, .int .u64 0] t)).cell? ((⟨w.heap.size, 0, none⟩ : Addr).add j) = some u := by
  intro j u hj
  match j, hj with
  | 0, hj => simp [cells4W, noW] at hj; subst hj; simp [Addr.add]
  | 1, hj => simp [cells4W, noW] at hj; subst hj; simp [Addr.add]
  | 2, hj => simp [cells4W, noW] at hj; subst hj; simp [Addr.add]
  | 3, hj => simp [cells4W, noW] at hj; subst hj; simp [Addr.add]
theorem ownsSet {w : World} {B : Nat} {e : TypeId} {v : Value} {n sz : Nat} {xs : List Value} (h : w.ownsRow B e sz v n xs) {p : Addr} (hp : p.block < B) (u : Value) : (w.setCell p u).ownsRow B e sz v n xs := by
  refine ⟨h.1, ?_⟩
  rcases h.2 with h2 | ⟨b, cap, cur, hv, hb, hh, r⟩
  · exact .inl h2
  · exact .inr ⟨b, cap, cur, hv, hb, by rw [Below.heap_setCell _ _ _ _ (by omega)]; exact hh, r⟩
theorem MoreAt.cellPut {w : World} {s : W4} {f : Nat → Nat × Bool} {E : Nat → Nat → Bool} {k ks n : Nat} {L : List Nat} {wr : World} (h : MoreAt w s f E k ks L wr) (hk : k < 256) (hn : n = num E k) :
    MoreAt w s f E (k + 1) ks L (wr.setCell ⟨w.heap.size + 1, k, none⟩ (.int .i64 (n : Int))) := by
  subst hn
  obtain ⟨⟨s0, s1, s2, s3⟩, h2, ⟨arr, v, ls, p1, p2, p3, p4, p5, p6⟩, ⟨D, q1, q2⟩⟩ := h
  have ne : ∀ o : Nat, (⟨w.heap.size + 1, k, none⟩ : Addr) ≠ ⟨w.heap.size, o, none⟩ := fun o e => by injection e with e1 _ _; omega
  refine ⟨⟨(World.cell?_setCell_other _ _ _ _ (ne _)).trans s0, (World.cell?_setCell_other _ _ _ _ (ne _)).trans s1, (World.cell?_setCell_other _ _ _ _ (ne _)).trans s2, (World.cell?_setCell_other _ _ _ _ (ne _)).trans s3⟩, h2.setCell (by simp) _,
    ⟨_, v, ls, Joins.block_setCell p1 _, fun b hb => ?_, ?_, ownsSet p4 (by simp) _, p5, p6⟩, ⟨D, q1.setCell (by simp) _, q2⟩⟩
  · have hks : k < arr.size := (Array.getElem?_eq_some_iff.1 (p2 k hk)).1
    by_cases e : k = b
    · subst e
      rw [Array.getElem?_setIfInBounds_self_of_lt hks, if_pos (Nat.lt_succ_self k)]
    · rw [Array.getElem?_setIfInBounds_ne e, p2 b hb]
      by_cases hlt : b < k
      · rw [if_pos hlt, if_pos (by omega)]
      · rw [if_neg hlt, if_neg (by omega)]
  · rw [Array.getElem?_setIfInBounds_ne (by omega)]; exact p3
theorem flatW_set (t : W4) : ∀ (ls : List W4) (i : Nat), i < ls.length → ((((flatW ls).set (i * 4) (.int .u64 t.a)).set (i * 4 + 1) (.int .u64 t.b)).set (i * 4 + 2) (.int .u64 t.c)).set (i * 4 + 3) (.int .u64 t.d) = flatW (ls.set i t) := by
  intro ls
  induction ls with
  | nil => intro i h; simp at h
  | cons x xs ih =>
    intro i h
    cases i with
    | zero => simp [flatW, cells4W]
    | succ i =>
      have h2 := ih i (by simpa using h)
      have e : flatW (x :: xs) = .int .u64 x.a :: .int .u64 x.b :: .int .u64 x.c :: .int .u64 x.d :: flatW xs := rfl
      have e2 : flatW ((x :: xs).set (i + 1) t) = .int .u64 x.a :: .int .u64 x.b :: .int .u64 x.c :: .int .u64 x.d :: flatW (xs.set i t) := rfl
      rw [e, e2, ← h2, show (i + 1) * 4 = i * 4 + 1 + 1 + 1 + 1 by omega]
      rfl
theorem flatW_get : ∀ (ls : List W4) (i : Nat) (t : W4), ls[i]? = some t → (flatW ls)[i * 4]? = some (.int .u64 t.a) ∧ (flatW ls)[i * 4 + 1]? = some (.int .u64 t.b) ∧ (flatW ls)[i * 4 + 2]? = some (.int .u64 t.c) ∧ (flatW ls)[i * 4 + 3]? = some (.int .u64 t.d) := by
  intro ls
  induction ls with
  | nil => intro i t h; simp at h
  | cons x xs ih =>
    intro i t h
    cases i with
    | zero =>
      simp at h; subst h
      exact ⟨rfl, rfl, rfl, rfl⟩
    | succ i =>
      have h2 := ih i t (by simpa using h)
      have e : flatW (x :: xs) = .int .u64 x.a :: .int .u64 x.b :: .int .u64 x.c :: .int .u64 x.d :: flatW xs := rfl
      rw [e, show (i + 1) * 4 = i * 4 + 1 + 1 + 1 + 1 by omega]
      exact h2
/-- A store of a set's four words. -/
def set4 (w : World) (g o : Nat) (t : W4) : World := (((w.setCell ⟨g, o, none⟩ (.int .u64 t.a)).setCell ⟨g, o + 1, none⟩ (.int .u64 t.b)).setCell ⟨g, o + 2, none⟩ (.int .u64 t.c)).setCell ⟨g, o + 3, none⟩ (.int .u64 t.d)
theorem set4_heap {w : World} {g o : Nat} {t : W4} {b : Nat} (hb : b ≠ g) : (set4 w g o t).heap[b]? = w.heap[b]? := by
  unfold set4
  rw [Below.heap_setCell _ _ _ _ hb, Below.heap_setCell _ _ _ _ hb, Below.heap_setCell _ _ _ _ hb, Below.heap_setCell _ _ _ _ hb]
theorem take_set4 {α : Type} (l : List α) (m a b c d : Nat) (x y z u : α) : ((((l.set a x).set b y).set c z).set d u).take m = ((((l.take m).set a x).set b y).set c z).set d u := by
  simp only [List.take_set]
/-- The last store of a round: the set of the byte's block gets the byte. -/
theorem MoreAt.opens {w : World} {s : W4} {f : Nat → Nat × Bool} {E : Nat → Nat → Bool} {kc k n : Nat} {L : List Nat} {wr : World} (h : MoreAt w s f E kc k L wr) (hn : n < L.length) (hk : k < 256) (hnum : n = num E k) :
    ∃ (gr cap : Nat) (t : W4), wr.heap[w.heap.size + 1]? ≠ none ∧ wr.cell? ⟨w.heap.size + 1, 256, none⟩ = some (.slice (some ⟨gr, 0, none⟩) L.length cap) ∧ SetAt wr gr (n * 4) t ∧ t.fit ∧ w.heap.size + 3 ≤ gr ∧ gr < wr.heap.size ∧ (∃ cur, wr.heap[gr]? = some (.cells cur 35)) ∧
      (∀ m, m < 256 → t.mem m = (decide (m < k) && decide (num E m = n))) ∧
      ∀ (w5 : World) (t' : W4), Below wr.heap.size wr w5 → t'.fit → (∀ m, m < 256 → t'.mem m = (t.mem m || decide (m = k))) → MoreAt w s f E kc (k + 1) L (set4 w5 gr (n * 4) t') := by
  have hsz := h.size
  obtain ⟨arr, v, ls, p1, p2, p3, p4, p5, p6⟩ := h.blk
  obtain ⟨t, ht⟩ : ∃ t, ls[n]? = some t := ⟨ls[n]'(by omega), List.getElem?_eq_getElem _⟩
  obtain ⟨tf, tm⟩ := p6 n t ht
  have hx := p4.1
  rcases p4.2 with ⟨_, h0⟩ | ⟨gr, cap, cur, rfl, hb, hh, hcap, hmax, hcs, htake⟩
  · omega
  · have hgr : gr < wr.heap.size := (Array.getElem?_eq_some_iff.1 hh).1
    obtain ⟨g0, g1, g2, g3⟩ := flatW_get ls n t ht
    have cc : ∀ (o : Nat) (x : Value), (flatW ls)[o]? = some x → wr.cell? ⟨gr, o, none⟩ = some x := fun o x hox => by
      rw [Joins.cell_of_block hh, ← Array.getElem?_toList]
      rw [← htake] at hox
      obtain ⟨hl, _⟩ := List.getElem?_eq_some_iff.1 hox
      rw [List.getElem?_take_of_lt (by rw [List.length_take] at hl; omega)] at hox
      exact hox
    refine ⟨gr, cap, t, by rw [p1]; simp, (Joins.cell_of_block p1 256).trans p3, ⟨cc _ _ g0, cc _ _ g1, cc _ _ g2, cc _ _ g3⟩, tf, hb, hgr, ⟨cur, hh⟩, tm, fun w5 t' hb5 tf' tm' => ?_⟩
    have h5 := h.on hb5
    have hh5 : w5.heap[gr]? = some (.cells cur 35) := (hb5.block _ hgr).trans hh
    have ne : ∀ b, b < w.heap.size + 3 → b ≠ gr := fun b hlt e => by omega
    have hs4 : ∀ (b o : Nat), b ≠ gr → (set4 w5 gr (n * 4) t').cell? ⟨b, o, none⟩ = w5.cell? ⟨b, o, none⟩ := fun b o hne => World.cell?_of_block (a := ⟨b, o, none⟩) (set4_heap hne)
    obtain ⟨s0, s1, s2, s3⟩ := h5.set
    obtain ⟨D, q1, q2⟩ := h5.map
    refine ⟨⟨(hs4 _ _ (ne _ (by omega))).trans s0, (hs4 _ _ (ne _ (by omega))).trans s1, (hs4 _ _ (ne _ (by omega))).trans s2, (hs4 _ _ (ne _ (by omega))).trans s3⟩, ?_,
      ⟨arr, _, ls.set n t', (set4_heap (ne _ (by omega))).trans ((hb5.block _ (by omega)).trans p1), p2, p3, ⟨?_, .inr ⟨gr, cap, _, rfl, hb, Joins.block_setCell (Joins.block_setCell (Joins.block_setCell (Joins.block_setCell hh5 _) _) _) _, hcap, hmax, by simp [hcs], ?_⟩⟩, by simp [p5], ?_⟩,
      ⟨D, ?_, q2⟩⟩
    · unfold set4
      exact (((h5.be.setCell (by simp; omega) _).setCell (by simp; omega) _).setCell (by simp; omega) _).setCell (by simp; omega) _
    · rw [← flatW_set t' ls n (by omega)]
      simp only [List.length_set]
      exact hx
    · rw [← flatW_set t' ls n (by omega)]
      simp only [Array.toList_setIfInBounds]
      rw [take_set4, htake]
    · intro i u hu
      by_cases e : n = i
      · subst e
        rw [List.getElem?_set_self (by omega)] at hu
        obtain rfl := Option.some.inj hu
        refine ⟨tf', fun m hm => ?_⟩
        rw [tm' m hm, tm m hm]
        by_cases hmk : m = k
        · subst hmk; simp [hnum]
        · have : (m < k + 1) = (m < k) := by simp; omega
          simp [hmk, this]
      · rw [List.getElem?_set_ne e] at hu
        obtain ⟨uf, um⟩ := p6 i u hu
        refine ⟨uf, fun m hm => ?_⟩
        rw [um m hm]
        by_cases hmk : m = k
        · subst hmk
          have : ¬ num E m = i := fun x => e (hnum.trans x)
          simp [this]
        · have : (m < k + 1) = (m < k) := by simp; omega
          simp [this]
    · unfold set4
      exact (((q1.setCell (by simp; omega) _).setCell (by simp; omega) _).setCell (by simp; omega) _).setCell (by simp; omega) _
theorem leads_len (E : Nat → Nat → Bool) : ∀ n, (leads E n).length ≤ n := by
  intro n
  induction n with
  | zero => simp [leads]
  | succ n ih =>
    rw [leads_succ]
    split
    · omega
    · rw [List.length_append, List.length_singleton]; omega
theorem noW_fit : noW.fit := ⟨by simp [noW, Fit], by simp [noW, Fit], by simp [noW, Fit], by simp [noW, Fit]⟩
theorem noW_mem (n : Nat) : noW.mem n = false := memb_zero n
/-- A new block: the map has its signature, the row has one empty set more. -/
theorem MoreAt.fresh {w : World} {s : W4} {f : Nat → Nat × Bool} {E : Nat → Nat → Bool} {k n : Nat} {wr w3 w4 : World} {o : Obj} {arr : Array Value} {v v4 : Value} {ls : List W4} {D' : DataW Unit} (hE : Sorts E) (h : MoreAt w s f E k k (leads E k) wr)
    (p1 : wr.heap[w.heap.size + 1]? = some (.cells arr 84)) (p2 : ∀ b, b < 256 → arr[b]? = some (.int .i64 (if b < k then (num E b : Int) else 0))) (p3 : arr[256]? = some v)
    (p4 : wr.ownsRow (w.heap.size + 3) 35 4 v n (flatW ls)) (hn : n = (leads E k).length) (p5 : ls.length = (leads E k).length) (p6 : ∀ (i : Nat) t, ls[i]? = some t → t.fit ∧ ∀ n, n < 256 → t.mem n = (decide (n < k) && decide (num E n = i)))
    (hown3 : w3.ownsMap Tryd.prog 92 (plainElem Tryd.prog 3) (w.heap.size + 1 + 1) (n + 1) D') (hI : MapInv D' f (leads E k ++ [k])) (hg3 : wr.grownBy w3 (some (w.heap.size + 1 + 1)))
    (ho4 : w4.ownsRow (w.heap.size + 3) 35 4 v4 (n + 1) (flatW ls ++ cells4W noW)) (hg4 : (w3.alloc o).grownBy w4 v.ownBlock) :
    MoreAt w s f E k k (leads E k ++ [k]) (w4.setCell ⟨w.heap.size + 1, 256, none⟩ v4) := by
  have hsz := h.size
  have hs3 := hg3.size
  have hbe := h.be
  have own : ∀ b, v.ownBlock = some b → w.heap.size + 3 ≤ b := fun b e => (ownsLt p4 e).1
  have key : ∀ b, b < w.heap.size + 2 → w4.heap[b]? = wr.heap[b]? := fun b hb =>
    (hg4.block b (by simp; omega) (fun e => by have := own b e.symm; omega)).trans ((Below.heap_alloc _ _ _ (by omega)).trans (hg3.block b (by omega) (fun e => by injection e with e; omega)))
  have bw : Below w.heap.size w w4 := ((hbe.grown hg3 hbe.size (fun j e => by injection e with e; omega)).alloc (by omega) o).grown hg4 (by simp; omega) (fun j e => by have := own j e; omega)
  have hL : (leads E k ++ [k]).length = n + 1 := by rw [List.length_append, List.length_singleton, ← hn]
  have hmap : w4.ownsMap Tryd.prog 92 (plainElem Tryd.prog 3) (w.heap.size + 1 + 1) (n + 1) D' := (hown3.alloc o).kept hg4 (fun e => by have := own _ e.symm; omega)
  obtain ⟨s0, s1, s2, s3⟩ := h.set
  have cc : ∀ q : Nat, (w4.setCell ⟨w.heap.size + 1, 256, none⟩ v4).cell? ⟨w.heap.size, q, none⟩ = wr.cell? ⟨w.heap.size, q, none⟩ := fun q =>
    (World.cell?_setCell_other _ _ _ _ (fun e => by injection e with e1 _ _; omega)).trans (World.cell?_of_block (a := ⟨w.heap.size, q, none⟩) (key _ (by show w.heap.size < _; omega)))
  have hx : 256 < arr.size := (Array.getElem?_eq_some_iff.1 p3).1
  refine ⟨⟨(cc _).trans s0, (cc _).trans s1, (cc _).trans s2, (cc _).trans s3⟩, bw.setCell (by simp) _, ⟨_, v4, ls ++ [noW], Joins.block_setCell ((key _ (by omega)).trans p1) _, fun b hb => ?_, Array.getElem?_setIfInBounds_self_of_lt hx, ?_, by simp [p5], fun i u hu => ?_⟩, ⟨D', ?_, hI⟩⟩
  · rw [Array.getElem?_setIfInBounds_ne (by omega)]; exact p2 b hb
  · rw [hL, show flatW (ls ++ [noW]) = flatW ls ++ cells4W noW by simp [flatW]]
    exact ownsSet ho4 (by simp) _
  · by_cases hi : i < ls.length
    · rw [List.getElem?_append_left hi] at hu
      exact p6 i u hu
    · rw [List.getElem?_append_right (by omega)] at hu
      have h0 : i - ls.length = 0 := by
        by_cases e : i - ls.length = 0
        · exact e
        · obtain ⟨m, hm⟩ : ∃ m, i - ls.length = m + 1 := ⟨i - ls.length - 1, by omega⟩
          rw [hm] at hu
          simp at hu
      rw [h0] at hu
      have e : noW = u := by simpa using hu
      subst e
      refine ⟨noW_fit, fun m hm => ?_⟩
      rw [noW_mem]
      by_cases hmk : m < k
      · have := num_lt hE hmk
        have h2 : ¬ num E m = i := by omega
        simp [h2]
      · simp [hmk]
  · rw [hL]
    exact hmap.setCell (by simp) _
/-- Where the loop begins. -/
theorem zero_row : Tryd.zeroCells84.toList = List.replicate 256 (.int .i64 0) ++ [.slice none 0 0] := by kernel_rfl
theorem MoreAt.start (w : World) (s : W4) (f : Nat → Nat × Bool) (E : Nat → Nat → Bool) :
    MoreAt w s f E 0 0 [] (((w.alloc (.cells #[.int .u64 s.a, .int .u64 s.b, .int .u64 s.c, .int .u64 s.d] 35)).alloc (.cells Tryd.zeroCells84 84)).alloc (.map #[] 0)) := by
  obtain ⟨x1, h1⟩ : ∃ x1, x1 = w.alloc (.cells #[.int .u64 s.a, .int .u64 s.b, .int .u64 s.c, .int .u64 s.d] 35) := ⟨_, rfl⟩
  obtain ⟨x2, h2⟩ : ∃ x2, x2 = x1.alloc (.cells Tryd.zeroCells84 84) := ⟨_, rfl⟩
  have z1 : x1.heap.size = w.heap.size + 1 := by rw [h1]; simp
  have z2 : x2.heap.size = w.heap.size + 2 := by rw [h2]; simp [z1]
  have new : ∀ (W : World) (o : Obj), (W.alloc o).heap[W.heap.size]? = some o := fun W o => by
    show (W.heap.push o)[W.heap.size]? = _
    simp
  rw [← h1, ← h2]
  have c1 : (x2.alloc (.map #[] 0)).heap[w.heap.size]? = some (.cells #[.int .u64 s.a, .int .u64 s.b, .int .u64 s.c, .int .u64 s.d] 35) := by
    rw [Below.heap_alloc _ _ _ (by omega), h2, Below.heap_alloc _ _ _ (by omega), h1]; exact new _ _
  have c2 : (x2.alloc (.map #[] 0)).heap[w.heap.size + 1]? = some (.cells Tryd.zeroCells84 84) := by
    rw [Below.heap_alloc _ _ _ (by omega), h2, ← z1]; exact new _ _
  have at' : ∀ j : Nat, Tryd.zeroCells84[j]? = (List.replicate 256 (.int .i64 0) ++ [.slice none 0 0] : List Value)[j]? := fun j => by rw [← zero_row, Array.getElem?_toList]
  refine ⟨⟨Joins.cell_of_block c1 0, Joins.cell_of_block c1 1, Joins.cell_of_block c1 2, Joins.cell_of_block c1 3⟩, ?_, ⟨_, .slice none 0 0, [], c2, fun b hb => ?_, ?_, ⟨by simp [flatW], .inl ⟨rfl, rfl⟩⟩, rfl, fun i t h => by simp at h⟩, ⟨.map [], ?_, MapInv.empty f⟩⟩
  · rw [h2, h1]
    exact (((Below.refl _ w).alloc (Nat.le_refl _) _).alloc (by simp) _).alloc (by simp; omega) _
  · rw [at', List.getElem?_append_left (by rw [List.length_replicate]; exact hb), List.getElem?_replicate, if_pos hb]; rfl
  · rw [at', List.getElem?_append_right (by rw [List.length_replicate]; exact Nat.le_refl _), List.length_replicate]; rfl
  · rw [← z2]
    exact World.ownsMap_made _ _ _ _
/-- Where the loop ends: blocks lie there. -/
theorem MoreAt.done {w : World} {s : W4} {f : Nat → Nat × Bool} {E : Nat → Nat → Bool} {wr : World} (hE : Sorts E) (h : MoreAt w s f E 256 256 (leads E 256) wr) :
    ∃ ls, BlkAt wr (w.heap.size + 1) (num E) ls ∧ ls.length = (leads E 256).length ∧ ∀ (i : Nat) t, ls[i]? = some t → ∀ n, n < 256 → t.mem n = decide (num E n = i) := by
  have hsz := h.size
  obtain ⟨arr, v, ls, p1, p2, p3, p4, p5, p6⟩ := h.blk
  have hpos : 0 < (leads E 256).length := Nat.lt_of_le_of_lt (Nat.zero_le _) (num_lt hE (n := 256) (b := 0) (by omega))
  refine ⟨ls, ⟨by omega, fun b hb => ?_, ?_, fun t ht => ?_, ?_⟩, p5, fun i t ht n hn => ?_⟩
  · rw [Joins.cell_of_block p1, p2 b hb, if_pos hb]
  · rcases p4.2 with ⟨_, h0⟩ | ⟨gr, cap, cur, rfl, hb, hh, hcap, hmax, hcs, htake⟩
    · omega
    · refine ⟨gr, cap, by rw [p5]; exact (Joins.cell_of_block p1 256).trans p3, (Array.getElem?_eq_some_iff.1 hh).1, fun i t ht => ?_⟩
      obtain ⟨g0, g1, g2, g3⟩ := flatW_get ls i t ht
      have cc : ∀ (o : Nat) (x : Value), (flatW ls)[o]? = some x → wr.cell? ⟨gr, o, none⟩ = some x := fun o x hox => by
        rw [Joins.cell_of_block hh, ← Array.getElem?_toList]
        rw [← htake] at hox
        obtain ⟨hl, _⟩ := List.getElem?_eq_some_iff.1 hox
        rw [List.getElem?_take_of_lt (by rw [List.length_take] at hl; omega)] at hox
        exact hox
      exact ⟨cc _ _ g0, cc _ _ g1, cc _ _ g2, cc _ _ g3⟩
  · obtain ⟨i, hi⟩ := List.mem_iff_getElem?.1 ht
    exact (p6 i t hi).1
  · rw [p5]; exact leads_len E 256
  · rw [(p6 i t ht).2 n hn]; simp [hn]
end Go.Proofs.YtkjbecdngjdkhaaDoor
