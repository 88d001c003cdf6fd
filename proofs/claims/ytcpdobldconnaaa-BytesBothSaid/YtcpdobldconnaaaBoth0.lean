/- What the law BytesBoth's loop keeps. -/
import Derived.Test.YtcpdobldconnaaaRefD
import Derived.Maps.AppendAt
namespace Go.Proofs.Ytcpdobldconnaaa
open Go Go.RowKit
attribute [local go_sem ↓] Go.wp_at_zero Go.wp_at_succ
attribute [local go_sem] eq4
/-- Two sets lie in two blocks of a world that is the old one as far as that goes. -/
abbrev Held2 (w : World) (g0 g1 : Nat) (a b c d x y z u : Int) (w' : World) : Prop :=
  (w'.cell? ⟨g0, 0, none⟩ = some (.int .u64 a) ∧ w'.cell? ⟨g0, 1, none⟩ = some (.int .u64 b) ∧ w'.cell? ⟨g0, 2, none⟩ = some (.int .u64 c) ∧ w'.cell? ⟨g0, 3, none⟩ = some (.int .u64 d)) ∧
  (w'.cell? ⟨g1, 0, none⟩ = some (.int .u64 x) ∧ w'.cell? ⟨g1, 1, none⟩ = some (.int .u64 y) ∧ w'.cell? ⟨g1, 2, none⟩ = some (.int .u64 z) ∧ w'.cell? ⟨g1, 3, none⟩ = some (.int .u64 u)) ∧
  g0 < w'.heap.size ∧ g1 < w'.heap.size ∧ Below w.heap.size w w'
theorem held2_below {w : World} {g0 g1 : Nat} {a b c d x y z u : Int} {X Y : World} (hb : Below X.heap.size X Y) (h : Held2 w g0 g1 a b c d x y z u X) : Held2 w g0 g1 a b c d x y z u Y := by
  obtain ⟨hc, _, hz⟩ := bcell hb
  obtain ⟨h0, h1, l0, l1, k⟩ := h
  refine ⟨?_, ?_, by omega, by omega, below_next k hb k.size⟩
  · simp only [hc g0 _ l0]; exact h0
  · simp only [hc g1 _ l1]; exact h1
theorem held2_drew {w : World} {g0 g1 : Nat} {a b c d x y z u : Int} {X : World} (h : Held2 w g0 g1 a b c d x y z u X) : Held2 w g0 g1 a b c d x y z u X.drew := ⟨h.1, h.2.1, h.2.2.1, h.2.2.2.1, h.2.2.2.2.drew⟩
/-- Four slices of bools that grow, no two in one block, all from block B on. -/
structure Rows4 (w : World) (B : Nat) (u m d n : Value) (ku km kd kn : Nat) (xu xm xd xn : List Value) : Prop where
  ou : w.ownsRow B 4 1 u ku xu
  om : w.ownsRow B 4 1 m km xm
  od : w.ownsRow B 4 1 d kd xd
  on : w.ownsRow B 4 1 n kn xn
  um : ∀ g, u.ownBlock = some g → m.ownBlock ≠ some g
  ud : ∀ g, u.ownBlock = some g → d.ownBlock ≠ some g
  un : ∀ g, u.ownBlock = some g → n.ownBlock ≠ some g
  md : ∀ g, m.ownBlock = some g → d.ownBlock ≠ some g
  mn : ∀ g, m.ownBlock = some g → n.ownBlock ≠ some g
  dn : ∀ g, d.ownBlock = some g → n.ownBlock ≠ some g
theorem owns_lt {w : World} {B : Nat} {e : TypeId} {v : Value} {n : Nat} {xs : List Value} (h : w.ownsRow B e 1 v n xs) {g : Nat} (hg : v.ownBlock = some g) : B ≤ g ∧ g < w.heap.size := by
  rcases h.2 with ⟨rfl, _⟩ | ⟨b, cap, cur, rfl, hb, hh, _⟩
  · cases hg
  · obtain rfl : b = g := by simpa [Value.ownBlock] using hg
    exact ⟨hb, Reg.size_of_get hh⟩
theorem owns_keep {w w1 : World} {B : Nat} {e : TypeId} {v : Value} {n : Nat} {xs : List Value} {row : Option Nat} (h : w.ownsRow B e 1 v n xs) (hg : w.grownBy w1 row) (hne : ∀ g, v.ownBlock = some g → row ≠ some g) : w1.ownsRow B e 1 v n xs := by
  refine ⟨h.1, ?_⟩
  rcases h.2 with h2 | ⟨b, cap, cur, rfl, hb, hh, r⟩
  · exact .inl h2
  · refine .inr ⟨b, cap, cur, rfl, hb, ?_, r⟩
    rw [hg.block b (Reg.size_of_get hh) (fun e => hne b rfl e.symm)]
    exact hh
theorem grown_alloc (w : World) (o : Obj) : w.grownBy (w.alloc o) none := ⟨rfl, rfl, rfl, by simp, fun k hk _ => Below.heap_alloc w o k hk⟩
theorem owns_alloc {w : World} {B : Nat} {e : TypeId} {v : Value} {n : Nat} {xs : List Value} (h : w.ownsRow B e 1 v n xs) (o : Obj) : (w.alloc o).ownsRow B e 1 v n xs := owns_keep h (grown_alloc w o) (fun _ _ e => by cases e)
/-- What an append to one of them leaves: the new one is apart from the others still. -/
theorem fresh_ne {w : World} {B : Nat} {e : TypeId} {v v' y : Value} {n : Nat} {ys : List Value} (o : Obj) (hy : w.ownsRow B e 1 y n ys) (hvy : ∀ g, v.ownBlock = some g → y.ownBlock ≠ some g) (hat : v'.ownBlock = v.ownBlock ∨ v'.ownBlock = some (w.alloc o).heap.size) :
    ∀ g, v'.ownBlock = some g → y.ownBlock ≠ some g := by
  intro g hg hyg
  have hl := (owns_lt hy hyg).2
  rcases hat with h | h
  · exact hvy g (h.symm.trans hg) hyg
  · rw [h] at hg
    have := Option.some.inj hg
    simp at this
    omega
theorem flip_ne {u m : Value} (h : ∀ g, u.ownBlock = some g → m.ownBlock ≠ some g) : ∀ g, m.ownBlock = some g → u.ownBlock ≠ some g := fun g hm hu => h g hu hm
section
variable {w w1 : World} {B : Nat} {u m d n v' : Value} {ku km kd kn : Nat} {xu xm xd xn : List Value} {o : Obj} {k' : Nat} {xs' : List Value}
theorem Rows4.keep1 {y : Value} {ky : Nat} {ys : List Value} {v : Value} (hy : w.ownsRow B 4 1 y ky ys) (hvy : ∀ g, v.ownBlock = some g → y.ownBlock ≠ some g) (hg : (w.alloc o).grownBy w1 v.ownBlock) : w1.ownsRow B 4 1 y ky ys :=
  owns_keep (owns_alloc hy o) hg fun g hyg e => hvy g e hyg
theorem Rows4.app_u (h : Rows4 w B u m d n ku km kd kn xu xm xd xn) (ho : w1.ownsRow B 4 1 v' k' xs') (hg : (w.alloc o).grownBy w1 u.ownBlock) (hat : v'.ownBlock = u.ownBlock ∨ v'.ownBlock = some (w.alloc o).heap.size) :
    Rows4 w1 B v' m d n k' km kd kn xs' xm xd xn :=
  ⟨ho, keep1 h.om h.um hg, keep1 h.od h.ud hg, keep1 h.on h.un hg, fresh_ne o h.om h.um hat, fresh_ne o h.od h.ud hat, fresh_ne o h.on h.un hat, h.md, h.mn, h.dn⟩
theorem Rows4.app_m (h : Rows4 w B u m d n ku km kd kn xu xm xd xn) (ho : w1.ownsRow B 4 1 v' k' xs') (hg : (w.alloc o).grownBy w1 m.ownBlock) (hat : v'.ownBlock = m.ownBlock ∨ v'.ownBlock = some (w.alloc o).heap.size) :
    Rows4 w1 B u v' d n ku k' kd kn xu xs' xd xn :=
  ⟨keep1 h.ou (flip_ne h.um) hg, ho, keep1 h.od h.md hg, keep1 h.on h.mn hg, flip_ne (fresh_ne o h.ou (flip_ne h.um) hat), h.ud, h.un, fresh_ne o h.od h.md hat, fresh_ne o h.on h.mn hat, h.dn⟩
theorem Rows4.app_d (h : Rows4 w B u m d n ku km kd kn xu xm xd xn) (ho : w1.ownsRow B 4 1 v' k' xs') (hg : (w.alloc o).grownBy w1 d.ownBlock) (hat : v'.ownBlock = d.ownBlock ∨ v'.ownBlock = some (w.alloc o).heap.size) :
    Rows4 w1 B u m v' n ku km k' kn xu xm xs' xn :=
  ⟨keep1 h.ou (flip_ne h.ud) hg, keep1 h.om (flip_ne h.md) hg, ho, keep1 h.on h.dn hg, h.um, flip_ne (fresh_ne o h.ou (flip_ne h.ud) hat), h.un, flip_ne (fresh_ne o h.om (flip_ne h.md) hat), h.mn, fresh_ne o h.on h.dn hat⟩
theorem Rows4.app_n (h : Rows4 w B u m d n ku km kd kn xu xm xd xn) (ho : w1.ownsRow B 4 1 v' k' xs') (hg : (w.alloc o).grownBy w1 n.ownBlock) (hat : v'.ownBlock = n.ownBlock ∨ v'.ownBlock = some (w.alloc o).heap.size) :
    Rows4 w1 B u m d v' ku km kd k' xu xm xd xs' :=
  ⟨keep1 h.ou (flip_ne h.un) hg, keep1 h.om (flip_ne h.mn) hg, keep1 h.od (flip_ne h.dn) hg, ho, h.um, h.ud, flip_ne (fresh_ne o h.ou (flip_ne h.un) hat), h.md, flip_ne (fresh_ne o h.om (flip_ne h.mn) hat), flip_ne (fresh_ne o h.od (flip_ne h.dn) hat)⟩
end
/-- Below the rows nothing turns. -/
theorem below_app {w w1 : World} {B : Nat} {e : TypeId} {v : Value} {n : Nat} {xs : List Value} {o : Obj} (h : w.ownsRow B e 1 v n xs) (hg : (w.alloc o).grownBy w1 v.ownBlock) (hB : B ≤ w.heap.size) : Below B w w1 :=
  ((Below.refl B w).alloc hB o).grown hg (by simp; omega) (fun k hk => (owns_lt h hk).1)
/-- The first k bools of f, as cells. -/
def upto (f : Nat → Bool) (k : Nat) : List Value := (List.range k).map fun i => Value.bool (f i)
theorem upto_succ (f : Nat → Bool) (k : Nat) : upto f (k + 1) = upto f k ++ [.bool (f k)] := by
  unfold upto; rw [List.range_succ, List.map_append]; rfl
/-- Is each of the first k bytes of X one of Y? -/
def withk (X Y : Nat → Bool) : Nat → Bool
  | 0 => true
  | k + 1 => withk X Y k && (!X k || Y k)
/-- X, folded as far as its first k bytes go. -/
def foldk (X : Nat → Bool) : Nat → Nat → Bool
  | 0 => X
  | k + 1 => fun j => foldk X k j || (X k && decide (97 ≤ k ∧ k ≤ 122) && decide (j = k - 32)) || (X k && decide (65 ≤ k ∧ k ≤ 90) && decide (j = k + 32))
/-- What holds at the head of round k of the law's loop. -/
def LRel (w : World) (g0 g1 gx gy gf B : Nat) (a b c d x y z u : Int) (X Y : Nat → Bool) (k : Nat) (vu vm vd vn wi : Value) (wr : World) : Prop :=
  Held2 w g0 g1 a b c d x y z u wr ∧ wr.heap[gx]? = some (.cells (bl X) 4) ∧ wr.heap[gy]? = some (.cells (bl Y) 4) ∧ wr.heap[gf]? = some (.cells (bl (foldk X k)) 4) ∧ B ≤ wr.heap.size ∧
  wi = .bool (withk X Y k) ∧ Rows4 wr B vu vm vd vn k k k k (upto (fun i => X i || Y i) k) (upto (fun i => X i && Y i) k) (upto (fun i => X i && !Y i) k) (upto (fun i => !X i) k)
theorem held2_under {w : World} {g0 g1 B : Nat} {a b c d x y z u : Int} {X Y : World} (h : Held2 w g0 g1 a b c d x y z u X) (hb : Below B X Y) (l0 : g0 < B) (l1 : g1 < B) (hw : w.heap.size ≤ B) : Held2 w g0 g1 a b c d x y z u Y := by
  obtain ⟨⟨a0, a1, a2, a3⟩, ⟨b0, b1, b2, b3⟩, k0, k1, k⟩ := h
  exact ⟨⟨(hb.cell (p := ⟨g0, 0, none⟩) l0).trans a0, (hb.cell (p := ⟨g0, 1, none⟩) l0).trans a1, (hb.cell (p := ⟨g0, 2, none⟩) l0).trans a2, (hb.cell (p := ⟨g0, 3, none⟩) l0).trans a3⟩,
    ⟨(hb.cell (p := ⟨g1, 0, none⟩) l1).trans b0, (hb.cell (p := ⟨g1, 1, none⟩) l1).trans b1, (hb.cell (p := ⟨g1, 2, none⟩) l1).trans b2, (hb.cell (p := ⟨g1, 3, none⟩) l1).trans b3⟩,
    Nat.lt_of_lt_of_le k0 hb.size, Nat.lt_of_lt_of_le k1 hb.size, k.trans (hb.mono hw)⟩
theorem set_cell_other {X : World} {g gf o : Nat} (n : g ≠ gf) (i : Nat) (v : Value) : (X.setCell ⟨gf, o, none⟩ v).cell? ⟨g, i, none⟩ = X.cell? ⟨g, i, none⟩ :=
  World.cell?_of_block (w := X) (Below.heap_setCell X ⟨gf, o, none⟩ v g n)
theorem held2_set {w : World} {g0 g1 gf o : Nat} {a b c d x y z u : Int} {X : World} (h : Held2 w g0 g1 a b c d x y z u X) (n0 : g0 ≠ gf) (n1 : g1 ≠ gf) (hw : w.heap.size ≤ gf) (v : Value) : Held2 w g0 g1 a b c d x y z u (X.setCell ⟨gf, o, none⟩ v) := by
  obtain ⟨⟨a0, a1, a2, a3⟩, ⟨b0, b1, b2, b3⟩, k0, k1, k⟩ := h
  have hz : (X.setCell ⟨gf, o, none⟩ v).heap.size = X.heap.size := by simp [World.setCell]
  exact ⟨⟨(set_cell_other n0 0 v).trans a0, (set_cell_other n0 1 v).trans a1, (set_cell_other n0 2 v).trans a2, (set_cell_other n0 3 v).trans a3⟩,
    ⟨(set_cell_other n1 0 v).trans b0, (set_cell_other n1 1 v).trans b1, (set_cell_other n1 2 v).trans b2, (set_cell_other n1 3 v).trans b3⟩, by rw [hz]; exact k0, by rw [hz]; exact k1, k.setCell hw v⟩
theorem Rows4.set {w : World} {B gf o : Nat} {u m d n : Value} {ku km kd kn : Nat} {xu xm xd xn : List Value} (h : Rows4 w B u m d n ku km kd kn xu xm xd xn) (hl : gf < B) (v : Value) : Rows4 (w.setCell ⟨gf, o, none⟩ v) B u m d n ku km kd kn xu xm xd xn :=
  ⟨ownsRow_setCell_below h.ou hl v, ownsRow_setCell_below h.om hl v, ownsRow_setCell_below h.od hl v, ownsRow_setCell_below h.on hl v, h.um, h.ud, h.un, h.md, h.mn, h.dn⟩
theorem foldk_same (X : Nat → Bool) (j : Nat) (h : X j = false ∨ ¬ (97 ≤ j ∧ j ≤ 122) ∧ ¬ (65 ≤ j ∧ j ≤ 90)) : bl (foldk X (j + 1)) = bl (foldk X j) := by
  refine bl_congr fun i _ => ?_
  simp only [foldk]
  rcases h with h | ⟨h1, h2⟩
  · simp [h]
  · simp [h1, h2]
theorem foldk_small (X : Nat → Bool) (j : Nat) (h : X j = true) (hl : 97 ≤ j ∧ j ≤ 122) : (bl (foldk X j)).setIfInBounds (j - 32) (.bool true) = bl (foldk X (j + 1)) := by
  rw [bl_set]
  refine bl_congr fun i _ => ?_
  have h2 : ¬ (65 ≤ j ∧ j ≤ 90) := by omega
  by_cases e : i = j - 32
  · simp [foldk, h, hl, e]
  · simp [foldk, h, hl, h2, e]
theorem foldk_large (X : Nat → Bool) (j : Nat) (h : X j = true) (hl : 65 ≤ j ∧ j ≤ 90) : (bl (foldk X j)).setIfInBounds (j + 32) (.bool true) = bl (foldk X (j + 1)) := by
  rw [bl_set]
  refine bl_congr fun i _ => ?_
  have h2 : ¬ (97 ≤ j ∧ j ≤ 122) := by omega
  by_cases e : i = j + 32
  · simp [foldk, h, hl, e]
  · simp [foldk, h, hl, h2, e]
theorem one_bool (v : Bool) : ∀ u ∈ [Value.bool v], u.oneCell' = true := by
  intro u hu
  obtain rfl : u = .bool v := by simpa using hu
  rfl
end Go.Proofs.Ytcpdobldconnaaa
