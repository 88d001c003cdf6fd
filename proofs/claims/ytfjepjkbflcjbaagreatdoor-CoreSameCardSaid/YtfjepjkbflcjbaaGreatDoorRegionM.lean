/- Drawn regions that read and make memory, with up to two results that are known by a property alone. Generic over the program. Drawn regions that read, build one row and append it to a slice of one's own. Generic over the program. -/
import Derived.Test.YtfjepjkbflcjbaaGreatDoorRegionH
import Derived.Maps.AppendAt
namespace Go.Proofs.YtfjepjkbflcjbaaGreatDoor.Reg
section
open Go Go.RowKit
section
variable {γ : Type}
structure MkS (W : World) (i1 i2 : Nat) (P1 P2 : γ → World → Prop) (g : γ) (l : Array Bool) (X : World) : Prop where
  bel : Below W.heap.size W X
  one : l.getD i1 false = true → P1 g X
  two : l.getD i2 false = true → P2 g X
/-- What is told stays told where nothing old turns. -/
def UpB (P : γ → World → Prop) : Prop := ∀ g X Y, Below X.heap.size X Y → P g X → P g Y
variable {W : World} {i1 i2 : Nat} {P1 P2 : γ → World → Prop}
theorem MkS.start (g : γ) (k : Nat) : MkS W i1 i2 P1 P2 g (Array.replicate k false) W.drew := by
  have e : ∀ i, ¬ ((Array.replicate k false).getD i false = true) := fun i h => by simp [Array.getD_eq_getD_getElem?, Array.getElem?_replicate] at h; split at h <;> simp_all
  exact ⟨Below.drew (Below.refl _ _), fun h => absurd h (e _), fun h => absurd h (e _)⟩
theorem MkS.up {g : γ} {l : Array Bool} {X Y : World} {i : Nat} (h : MkS W i1 i2 P1 P2 g l X) (h1 : i ≠ i1) (h2 : i ≠ i2) (u1 : UpB P1) (u2 : UpB P2) (hb : Below X.heap.size X Y) : MkS W i1 i2 P1 P2 g (l.setIfInBounds i true) Y :=
  ⟨h.bel.trans (hb.mono h.bel.size), fun e => (by rw [getD_set_ne false h1] at e; exact u1 g X Y hb (h.one e)), fun e => (by rw [getD_set_ne false h2] at e; exact u2 g X Y hb (h.two e))⟩
theorem MkS.first {g g' : γ} {l : Array Bool} {X Y : World} (h : MkS W i1 i2 P1 P2 g l X) (hne : i1 ≠ i2) (hun : l.getD i2 false = false) (hb : Below X.heap.size X Y) (hp : P1 g' Y) : MkS W i1 i2 P1 P2 g' (l.setIfInBounds i1 true) Y :=
  ⟨h.bel.trans (hb.mono h.bel.size), fun _ => hp, fun e => (by rw [getD_set_ne false hne, hun] at e; cases e)⟩
theorem MkS.second {g g' : γ} {l : Array Bool} {X Y : World} (h : MkS W i1 i2 P1 P2 g l X) (hne : i2 ≠ i1) (u1 : UpB P1) (hk : ∀ X, P1 g X → P1 g' X) (hb : Below X.heap.size X Y) (hp : P2 g' Y) : MkS W i1 i2 P1 P2 g' (l.setIfInBounds i2 true) Y :=
  ⟨h.bel.trans (hb.mono h.bel.size), fun e => (by rw [getD_set_ne false hne] at e; exact u1 g' X Y hb (hk X (h.one e))), fun _ => hp⟩
end
end
end Go.Proofs.YtfjepjkbflcjbaaGreatDoor.Reg
namespace Go.Proofs.YtfjepjkbflcjbaaGreatDoor.Reg
section
open Go Go.RowKit
section
variable {γ : Type}
/-- append to a slice of one's own, as an operation that a told region lists. -/
theorem yields_append_own {P : Program} {o : Oper} {a : Act} {w : World} {R : Value → World → Prop}
    (s x : Operand) (t : TypeId) (ho : o.op = .call { callee := .builtin .append, args := #[s, x], argTypes := #[t, t] })
    (base : Nat) (e : TypeId) (i : TypeInfo) (z : Value) (size bytes : Nat) (ht : P.underlying t = some (.slice e)) (hi : P.info? e = some i) (hz : i.zero = some z)
    (hsize : i.size = size) (hby : i.bytes = bytes) (hzs : z.cells.size = size) (hsz : 0 < size)
    (v : Value) (n : Nat) (xs : List Value) (hs : a.eval s = v) (hown : w.ownsRow base e size v n xs)
    (ad : Addr) (m c : Nat) (news : List Value) (hx : a.eval x = .slice (some ad) m c) (hl : news.length = m * size) (hnews : ∀ j u, news[j]? = some u → w.cell? (ad.add j) = some u) (h1 : ∀ u ∈ news, u.oneCell' = true)
    (h63 : n + m ≤ maxLen) (hbytes : (n + m) * bytes ≤ 140737488355328) (hbase : base ≤ w.heap.size)
    (h : ∀ v' w', w'.ownsRow base e size v' (n + m) (xs ++ news) → w.grownBy w' v.ownBlock → (v'.ownBlock = v.ownBlock ∨ v'.ownBlock = some w.heap.size) → R v' w') :
    Yields P o a w R := by
  obtain ⟨v', w', hr, h2, h3, _, h5⟩ := run_append_own_at (P := P) w base t o.type e i z size bytes ht hi hz hsize hby hzs hsz v n xs hown ad m c news hl hnews h1 h63 hbytes hbase
  unfold Yields execOp
  simp only [ho, resolve, invoke, builtin, Sem.run_bind, Sem.run_pure, Result.andThen_ok, List.map_toArray, List.map_cons, List.map_nil, hs, hx, hr]
  exact h v' w' h2 h3 h5
/-- A slot that an operation j, not listed yet, alone writes. -/
theorem InvS.evn {ops : Array Oper} {told : Nat → Value} {S : Array Bool → World → Prop} {a0 : Act} {listed : Array Bool} {A : Act} {w : World} (h : InvS ops told S a0 listed A w) {d j : Nat} {x : Value}
    (hno : ((List.range ops.size).all fun i => i == j || (match ops[i]? with | some o => o.dst != some d | none => true)) = true) (hu : listed.getD j false = false) (h0 : a0.tmps[d]? = some x) : A.tmps[d]? = some x := by
  rw [h.old d fun i o ho hl e => ?_]
  · exact h0
  · have hi : i < ops.size := (Array.getElem?_eq_some_iff.1 ho).1
    have := List.all_eq_true.1 hno i (List.mem_range.2 hi)
    simp only [ho] at this
    rcases Bool.or_eq_true_iff.1 this with h1 | h1
    · obtain rfl : i = j := by simpa using h1
      rw [hu] at hl
      cases hl
    · rw [e] at h1
      simp at h1
/-- Ahead of the append n memory is as it was as far as it went; once i1 is listed P1 holds; behind n R1. -/
structure AppS (W : World) (i1 n : Nat) (P1 R1 : γ → World → Prop) (g : γ) (l : Array Bool) (X : World) : Prop where
  bel : l.getD n false = false → Below W.heap.size W X
  one : l.getD i1 false = true → l.getD n false = false → P1 g X
  done : l.getD n false = true → R1 g X
variable {W : World} {i1 n : Nat} {P1 R1 : γ → World → Prop}
theorem AppS.start (g : γ) (k : Nat) : AppS W i1 n P1 R1 g (Array.replicate k false) W.drew := by
  have e : ∀ i, ¬ ((Array.replicate k false).getD i false = true) := fun i h => by simp [Array.getD_eq_getD_getElem?, Array.getElem?_replicate] at h; split at h <;> simp_all
  exact ⟨fun _ => Below.drew (Below.refl _ _), fun h => absurd h (e _), fun h => absurd h (e _)⟩
theorem AppS.same {g : γ} {l : Array Bool} {X : World} {i : Nat} (h : AppS W i1 n P1 R1 g l X) (h1 : i ≠ i1) (h2 : i ≠ n) : AppS W i1 n P1 R1 g (l.setIfInBounds i true) X :=
  ⟨fun e => (by rw [getD_set_ne false h2] at e; exact h.bel e), fun e e' => (by rw [getD_set_ne false h1] at e; rw [getD_set_ne false h2] at e'; exact h.one e e'), fun e => (by rw [getD_set_ne false h2] at e; exact h.done e)⟩
theorem AppS.first {g g' : γ} {l : Array Bool} {X Y : World} (h : AppS W i1 n P1 R1 g l X) (hne : i1 ≠ n) (hun : l.getD n false = false) (hb : Below X.heap.size X Y) (hp : P1 g' Y) : AppS W i1 n P1 R1 g' (l.setIfInBounds i1 true) Y :=
  ⟨fun _ => (h.bel hun).trans (hb.mono (h.bel hun).size), fun _ _ => hp, fun e => (by rw [getD_set_ne false hne, hun] at e; cases e)⟩
theorem AppS.last {g g' : γ} {l : Array Bool} {X Y : World} (_h : AppS W i1 n P1 R1 g l X) (hin : n < l.size) (hR : R1 g' Y) : AppS W i1 n P1 R1 g' (l.setIfInBounds n true) Y :=
  ⟨fun e => (by rw [set_self hin] at e; cases e), fun _ e => (by rw [set_self hin] at e; cases e), fun _ => hR⟩
end
end
end Go.Proofs.YtfjepjkbflcjbaaGreatDoor.Reg
