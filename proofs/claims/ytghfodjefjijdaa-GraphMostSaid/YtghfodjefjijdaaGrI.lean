/- graph: a trail in memory; has and way told. -/
import Derived.Test.YtghfodjefjijdaaGrH
import Derived.Sort.OwnSortedInts
namespace Go.Proofs.Ytghfodjefjijdaa
section
open Go Go.RowKit Go.Shelf Go.Maps Go.Sort
attribute [local go_sem ↓] Go.wp_at_zero Go.wp_at_succ
/-- Map b tells of each thing the one ahead. -/
def TrAt (w : World) (b K : Nat) (par : Nat → Option Nat) : Prop :=
  ∃ D : DataW Unit, w.ownsMap Try.prog 3 (plainElem Try.prog 3) b K D ∧ (∀ x : Int, Maps.has D (.int .i64 x) = true ↔ ∃ j : Nat, x = (j : Int) ∧ par j ≠ none) ∧ ∀ j v, par j = some v → D.atKey (.int .i64 (j : Int)) (.lit (.int .i64 0)) = .lit (.int .i64 (v : Int))
theorem TrAt.kept {w w' : World} {b K : Nat} {par : Nat → Option Nat} {row : Option Nat} (h : TrAt w b K par) (hg : w.grownBy w' row) (hne : some b ≠ row) : TrAt w' b K par := by
  obtain ⟨D, h1, h2, h3⟩ := h
  exact ⟨D, h1.kept hg hne, h2, h3⟩
theorem TrAt.lt {w : World} {b K : Nat} {par : Nat → Option Nat} (h : TrAt w b K par) : b < w.heap.size := by
  obtain ⟨D, h1, _⟩ := h
  exact h1.lt
theorem TrAt.map {w : World} {b K : Nat} {par : Nat → Option Nat} (h : TrAt w b K par) : ∃ es c, w.heap[b]? = some (.map es c) := by
  obtain ⟨D, ⟨es, c, hb, _⟩, _⟩ := h
  exact ⟨es, c, hb⟩
theorem Try.zeroIn : ∀ w : World, (zeroValue 3).run Try.prog w = .ok (.int .i64 0) w := by intro w; kernel_rfl
theorem TrAt.put {w1 : World} {b K x v : Nat} {par : Nat → Option Nat} (D : DataW Unit) (hD : ∀ x : Int, Maps.has D (.int .i64 x) = true ↔ ∃ j : Nat, x = (j : Int) ∧ par j ≠ none) (hA : ∀ j v, par j = some v → D.atKey (.int .i64 (j : Int)) (.lit (.int .i64 0)) = .lit (.int .i64 (v : Int))) (hm : IsMap D) (hown : w1.ownsMap Try.prog 3 (plainElem Try.prog 3) b (K + 1) (D.put (.int .i64 (x : Int)) (.lit (.int .i64 (v : Int))))) (hx : x ≤ 1099511627776) : TrAt w1 b (K + 1) (upd par x (some v)) := by
  have hk := (int_keyed Try.underlying3).key (keyOf_int_mk Try.underlying3 (wf_nat hx))
  refine ⟨_, hown, fun y => ?_, fun j u e => ?_⟩
  · by_cases e : y = (x : Int)
    · subst e
      rw [has_put_same hm hk]
      exact ⟨fun _ => ⟨x, rfl, by rw [upd_same]; simp⟩, fun _ => rfl⟩
    · rw [has_put_other (by intro e'; exact e (by injection e')), hD]
      constructor
      · rintro ⟨j, rfl, hj⟩
        exact ⟨j, rfl, by rw [upd_other _ _ (by omega)]; exact hj⟩
      · rintro ⟨j, rfl, hj⟩
        exact ⟨j, rfl, by rw [upd_other _ _ (by omega)] at hj; exact hj⟩
  · by_cases e2 : j = x
    · subst e2
      rw [upd_same] at e
      rw [atKey_put_same hm hk, Option.some.inj e]
    · rw [upd_other _ _ e2] at e
      rw [atKey_put_other (by intro e'; injection e' with _ e'; exact e2 (by omega))]
      exact hA j u e
/-- The way back, so far: from b on to n. -/
structure WayL (E : Nat → Nat → Prop) (a b n : Nat) (l : List Nat) : Prop where
  fst : l.getD 0 0 = b
  ne : 0 < l.length
  lst : l.getD (l.length - 1) 0 = n
  ed : ∀ i, i + 1 < l.length → E (l.getD (i + 1) 0) (l.getD i 0)
  ds : l.length + dst E a n = dst E a b + 1
/-- A shortest way. -/
structure PathOK (E : Nat → Nat → Prop) (a b : Nat) (p : List Nat) : Prop where
  len : p.length = dst E a b + 1
  fst : p.getD 0 0 = a
  lst : p.getD (dst E a b) 0 = b
  ed : ∀ i, i + 1 < p.length → E (p.getD i 0) (p.getD (i + 1) 0)
theorem WayL.start (E : Nat → Nat → Prop) (a b : Nat) : WayL E a b b [b] := ⟨rfl, by simp, rfl, fun i hi => by simp at hi, by simp; omega⟩
theorem WayL.step {E : Nat → Nat → Prop} {a b n x : Nat} {l : List Nat} (h : WayL E a b n l) (he : E x n) (hd : dst E a n = dst E a x + 1) : WayL E a b x (l ++ [x]) := by
  have hne := h.ne
  refine ⟨?_, by simp, ?_, fun i hi => ?_, ?_⟩
  · rw [getD_append h.ne]; exact h.fst
  · simp [List.getD]
  · rw [List.length_append, List.length_singleton] at hi
    by_cases hl : i + 1 < l.length
    · rw [getD_append hl, getD_append (by omega)]
      exact h.ed i hl
    · have e : i + 1 = l.length := by omega
      have e2 : i = l.length - 1 := by omega
      have h1 : (l ++ [x]).getD (i + 1) 0 = x := by rw [e]; simp [List.getD]
      have h2 : (l ++ [x]).getD i 0 = n := by rw [getD_append (by omega), e2]; exact h.lst
      rw [h1, h2]
      exact he
  · have := h.ds
    rw [List.length_append, List.length_singleton]
    omega
theorem WayL.done {E : Nat → Nat → Prop} {a b : Nat} {l : List Nat} (h : WayL E a b a l) : PathOK E a b l.reverse := by
  have hd := h.ds
  rw [dst_self] at hd
  have hr : ∀ i, i < l.length → l.reverse.getD i 0 = l.getD (l.length - 1 - i) 0 := fun i hi => by
    rw [getD_get (by simpa using hi), getD_get (by omega), List.getElem_reverse]
  have hne := h.ne
  refine ⟨by rw [List.length_reverse]; omega, ?_, ?_, fun i hi => ?_⟩
  · rw [hr 0 h.ne]; exact h.lst
  · rw [hr _ (by omega), show l.length - 1 - dst E a b = 0 by omega]; exact h.fst
  · rw [List.length_reverse] at hi
    rw [hr i (by omega), hr (i + 1) (by omega)]
    have := h.ed (l.length - 1 - (i + 1)) (by omega)
    rw [show l.length - 1 - (i + 1) + 1 = l.length - 1 - i by omega] at this
    exact this
end
end Go.Proofs.Ytghfodjefjijdaa
