/- graph: trail and Path told. -/
import Derived.Test.YtghfodjefjijdaaGrI
namespace Go.Proofs.Ytghfodjefjijdaa
section
open Go Go.RowKit Go.Shelf Go.Maps
attribute [local go_sem] Oper.semAt_some
theorem TrAt.mono {w : World} {b K K' : Nat} {par : Nat → Option Nat} (h : TrAt w b K par) (hK : K ≤ K') : TrAt w b K' par := by
  obtain ⟨D, h1, h2⟩ := h
  exact ⟨D, h1.mono hK, h2⟩
/-- What a trail tells. -/
structure TrailOK (E : Nat → List Nat) (a tg : Nat) (w : World) (mb : Nat) : Prop where
  ex : ∃ (K : Nat) (par : Nat → Option Nat) (L : List Nat), TrAt w mb K par ∧ ParOK E a par L ∧ (∀ v ∈ L, Rch (fun u x => x ∈ E u) a v) ∧ ((par tg).isSome = true ↔ Rch (fun u x => x ∈ E u) a tg)
theorem lineOf_all {E : Nat → List Nat} {a : Nat} {xs : List (Nat × Nat)} (h : AllArcs E a xs) (v : Nat) : v ∈ lineOf a xs ↔ Rch (fun u x => x ∈ E u) a v := by
  obtain ⟨l, hb, rfl⟩ := h
  rw [hb.line]
  exact hb.all v
theorem lineOf_next {E : Nat → List Nat} {a : Nat} {p : List (Nat × Nat)} {x : Nat × Nat} (h : NextArc E a p x) : ∀ v ∈ lineOf a p, Rch (fun u x => x ∈ E u) a v := by
  obtain ⟨l, i, j, hb, _, _, _, rfl⟩ := h
  rw [hb.line]
  exact hb.inv.rc
theorem next_len {E : Nat → List Nat} {a N : Nat} (hE : ∀ u, (E u).length ≤ N) (hN : N ≤ 1000) (hlt : ∀ u, ∀ x ∈ E u, x < N) (ha : a < N) {p : List (Nat × Nat)} {x : Nat × Nat} (h : NextArc E a p x) : p.length ≤ 1001000 ∧ x.2 < N ∧ x.1 < N := by
  obtain ⟨l, i, j, hb, hi, he, hu, rfl⟩ := h
  have h1 := ar_len hE (l := l) i j
  have h2 := nodup_len N l hb.inv.nd (fun v hv => (hb.inv.rc v hv).keeps (Q := fun v => v < N) (fun x y _ hxy => hlt x y hxy) ha)
  have h3 : N * i ≤ 1000 * 1000 := Nat.mul_le_mul hN (by omega)
  have h4 := hb.inv.jl hi
  have h5 := hE (l.getD i 0)
  refine ⟨by omega, hlt _ _ (List.mem_of_getElem? he), ?_⟩
  rw [hu]
  exact (hb.inv.rc _ (getD_mem hi)).keeps (Q := fun v => v < N) (fun x y _ hxy => hlt x y hxy) ha
end
section
open Go Go.RowKit Go.Shelf Go.Maps
attribute [local go_sem ↓] Go.wp_at_zero Go.wp_at_succ
theorem dst_lt {E : Nat → List Nat} {a tg N : Nat} (hlt : ∀ u, ∀ x ∈ E u, x < N) (hr : Rch (fun u x => x ∈ E u) a tg) (ha : a < N) : dst (fun u x => x ∈ E u) a tg < N := by
  -- a shortest way comes by no thing twice: by how far they are, all are different
  have key : ∀ (d v : Nat), Rch (fun u x => x ∈ E u) a v → dst (fun u x => x ∈ E u) a v = d → ∃ l : List Nat, l.length = d + 1 ∧ l.Nodup ∧ ∀ x ∈ l, x < N ∧ dst (fun u x => x ∈ E u) a x ≤ d := by
    intro d
    induction d with
    | zero =>
      intro v hr hd
      refine ⟨[v], rfl, by simp, fun x hx => ?_⟩
      rw [List.mem_singleton.1 hx]
      exact ⟨hr.keeps (Q := fun v => v < N) (fun x y _ hxy => hlt x y hxy) ha, by omega⟩
    | succ d ih =>
      intro v hr hd
      obtain ⟨p, hp, hdp, _⟩ := dst_pred hr hd
      obtain ⟨l, h1, h2, h3⟩ := ih p hp hdp
      refine ⟨v :: l, by simp [h1], List.nodup_cons.2 ⟨fun hv => by have := (h3 v hv).2; omega, h2⟩, fun x hx => ?_⟩
      rcases List.mem_cons.1 hx with rfl | hx
      · exact ⟨hr.keeps (Q := fun v => v < N) (fun x y _ hxy => hlt x y hxy) ha, by omega⟩
      · exact ⟨(h3 x hx).1, by have := (h3 x hx).2; omega⟩
  obtain ⟨l, h1, h2, h3⟩ := key _ tg hr rfl
  have := nodup_len N l h2 (fun x hx => (h3 x hx).1)
  omega
/-- What Path answers. -/
structure PathR (w w' : World) (m : Nat → Nat → Bool) (a tg : Nat) (r : Bool) (v : Value) : Prop where
  yes : r = true ↔ Rch (Em m) a tg
  way : r = true → ∃ p : List Nat, w'.ownsRow w.heap.size 3 1 v p.length (intsV p) ∧ PathOK (Em m) a tg p
  no : r = false → v = .slice none 0 0
  be : Below w.heap.size w w'
end
end Go.Proofs.Ytghfodjefjijdaa
