/- The law BlocksMore: the order of sets is all one. -/
import Derived.Test.YtkjbecdngjdkhaaDoorBlkG
import Derived.Test.YtkjbecdngjdkhaaDoorOpenSets
import Derived.Laws.AppendOwnNone
namespace Go.Proofs.YtkjbecdngjdkhaaDoor
open Go Go.RowKit
attribute [local go_sem ↓] Go.wp_at_zero Go.wp_at_succ
attribute [local go_sem] eq4
theorem SetsRow.up {w w' : World} {p : Option Addr} {n : Nat} {L : List W4} (h : SetsRow w p n L) (hb : Below w.heap.size w w') : SetsRow w' p n L :=
  ⟨h.len, h.max, h.fit, fun i t ht => by
    obtain ⟨g, o, e, hg, hs⟩ := h.row i t ht
    exact ⟨g, o, e, Nat.lt_of_lt_of_le hg hb.size, hs.below hb hg⟩⟩
/-- New, of a slice of sets. -/
theorem new_row (p : Option Addr) (n cap : Nat) (L : List W4) (w : World) (h : SetsRow w p n L) (hn : n ≤ 1000) :
    Calls Tryd.prog 12 #[.slice p n cap] w fun e w' => ∃ g ls, e = .returned (.pointer (some ⟨g, 0, none⟩)) ∧ w.heap.size ≤ g ∧ BlkIs w' g (allE L) ls ∧ Below w.heap.size w w' :=
  new_any p n cap L w h.len hn h.fit h.row
/-- More, of blocks of a list. -/
theorem more_row {g : Nat} {L : List W4} {ls : List W4} {w : World} (s : W4) (hs : s.fit) (h : BlkIs w g (allE L) ls) :
    Calls Tryd.prog 19 #[.pointer (some ⟨g, 0, none⟩), .agg #[.int .u64 s.a, .int .u64 s.b, .int .u64 s.c, .int .u64 s.d]] w fun e w' => ∃ g' ls', e = .returned (.pointer (some ⟨g', 0, none⟩)) ∧ w.heap.size ≤ g' ∧ BlkIs w' g' (allE (L ++ [s])) ls' ∧ Below w.heap.size w w' :=
  (more_any g (capN (allE L)) ls s hs w (h.blk.congr fun b hb => (capN_eq hb).symm) (capN_lt (allE_sorts _))).mono (by
    rintro e w' ⟨rfl, hb, ls', q1, q2, q3⟩
    exact ⟨_, ls', rfl, by omega, step_cut ⟨q1, q2, q3⟩, hb⟩)
/-- A row of sets that a call made is a slice of sets. -/
theorem row_own {w : World} {B : Nat} {v : Value} {n : Nat} {L : List W4} (h : w.ownsRow B 35 4 v n (flatW L)) (hn : L.length = n) (hf : ∀ t ∈ L, t.fit) (hm : n ≤ maxLen) : ∃ p cap, v = .slice p n cap ∧ SetsRow w p n L := by
  rcases h.2 with ⟨rfl, rfl⟩ | ⟨g, cap, cur, rfl, hb, hh, hcap, hmax, hcs, htake⟩
  · refine ⟨none, 0, rfl, hn, hm, hf, fun i t ht => ?_⟩
    rw [List.length_eq_zero_iff.1 hn] at ht; simp at ht
  · refine ⟨_, cap, rfl, hn, hm, hf, fun i t ht => ⟨g, 0, rfl, (Array.getElem?_eq_some_iff.1 hh).1, ?_⟩⟩
    obtain ⟨g0, g1, g2, g3⟩ := flatW_get L i t ht
    have cc : ∀ (o : Nat) (x : Value), (flatW L)[o]? = some x → w.cell? ⟨g, o, none⟩ = some x := fun o x hox => by
      rw [Joins.cell_of_block hh, ← Array.getElem?_toList]
      rw [← htake] at hox
      obtain ⟨hl, _⟩ := List.getElem?_eq_some_iff.1 hox
      rw [List.getElem?_take_of_lt (by rw [List.length_take] at hl; omega)] at hox
      exact hox
    rw [Nat.zero_add]
    exact ⟨cc _ _ g0, cc _ _ g1, cc _ _ g2, cc _ _ g3⟩
theorem allE_swap (L : List W4) (s : W4) (a b : Nat) : allE (s :: L) a b = allE (L ++ [s]) a b := by
  rw [Bool.eq_iff_iff, allE_iff, allE_iff]
  constructor
  · intro h t ht; exact h t (by simp at ht ⊢; exact ht.symm)
  · intro h t ht; exact h t (by simp at ht ⊢; exact ht.symm)
/-- Two blocks of one relation have the same sets. -/
theorem same_sets {w w' : World} {g g' : Nat} {E : Nat → Nat → Bool} {ls ls' : List W4} (h : BlkIs w g E ls) (h' : BlkIs w' g' E ls') : ls = ls' := by
  apply List.ext_getElem?
  intro i
  by_cases hi : i < ls.length
  · have hi' : i < ls'.length := by rw [h'.len, ← h.len]; exact hi
    rw [List.getElem?_eq_getElem hi, List.getElem?_eq_getElem hi']
    have e1 := List.getElem?_eq_getElem hi
    have e2 := List.getElem?_eq_getElem hi'
    rw [W4.ext' (h.blk.fit _ (List.mem_of_getElem? e1)) (h'.blk.fit _ (List.mem_of_getElem? e2)) (fun n hn => by rw [h.mem i _ e1 n hn, h'.mem i _ e2 n hn])]
  · rw [List.getElem?_eq_none (by omega), List.getElem?_eq_none (by rw [h'.len, ← h.len]; omega)]
theorem flatW_len (L : List W4) : (flatW L).length = L.length * 4 := by
  induction L with
  | nil => rfl
  | cons x r ih =>
    have e : flatW (x :: r) = .int .u64 x.a :: .int .u64 x.b :: .int .u64 x.c :: .int .u64 x.d :: flatW r := rfl
    rw [e]
    simp only [List.length_cons, ih]
    omega
theorem flat_cells {w : World} {g o : Nat} (L : List W4) (h : ∀ (i : Nat) t, L[i]? = some t → SetAt w g (o + i * 4) t) : ∀ (j : Nat) u, (flatW L)[j]? = some u → w.cell? ((⟨g, o, none⟩ : Addr).add j) = some u := by
  intro j u hj
  obtain ⟨hl, _⟩ := List.getElem?_eq_some_iff.1 hj
  rw [flatW_len] at hl
  have hi : j / 4 < L.length := by omega
  have ht := List.getElem?_eq_getElem hi
  obtain ⟨f0, f1, f2, f3⟩ := flatW_get L _ _ ht
  obtain ⟨s0, s1, s2, s3⟩ := h _ _ ht
  show w.cell? ((⟨g, o, none⟩ : Addr).add j) = some u
  have ea : (⟨g, o, none⟩ : Addr).add j = ⟨g, o + j, none⟩ := by
    unfold Addr.add
    by_cases hj0 : j = 0
    · subst hj0; simp
    · simp [hj0]
  rw [ea]
  have hr : j = j / 4 * 4 ∨ j = j / 4 * 4 + 1 ∨ j = j / 4 * 4 + 2 ∨ j = j / 4 * 4 + 3 := by omega
  rcases hr with e | e | e | e
  · rw [e, f0] at hj; rw [e]; rw [← Option.some.inj hj]; exact s0
  · rw [e, f1] at hj; rw [e]; rw [← Option.some.inj hj]; exact s1
  · rw [e, f2] at hj; rw [e]; rw [← Option.some.inj hj]; exact s2
  · rw [e, f3] at hj; rw [e]; rw [← Option.some.inj hj]; exact s3
theorem flat_fit (L : List W4) : ∀ x ∈ flatW L, x.oneCell' = true := by
  intro x hx
  unfold flatW at hx
  obtain ⟨t, _, ht⟩ := List.mem_flatMap.1 hx
  simp [cells4W] at ht
  rcases ht with rfl | rfl | rfl | rfl <;> rfl
theorem row_cells {W : World} {a : Addr} {n : Nat} {L : List W4} (h : SetsRow W (some a) n L) : ∀ (j : Nat) u, (flatW L)[j]? = some u → W.cell? (a.add j) = some u := by
  intro j u hj
  obtain ⟨hl, _⟩ := List.getElem?_eq_some_iff.1 hj
  rw [flatW_len] at hl
  have hi : 0 < L.length := by omega
  obtain ⟨g, o, e, _, _⟩ := h.row 0 _ (List.getElem?_eq_getElem hi)
  obtain rfl := Option.some.inj e
  exact flat_cells L (fun i t ht => by
    obtain ⟨g', o', e', _, hs⟩ := h.row i t ht
    have e2 := Option.some.inj e'
    injection e2 with e3 e4 _
    subst e3 e4
    exact hs) j u hj
theorem own_one (w : World) (s : W4) (m : Nat) (hm : m = w.heap.size) : (w.alloc (.cells #[.int .u64 s.a, .int .u64 s.b, .int .u64 s.c, .int .u64 s.d] 35)).ownsRow m 35 4 (.slice (some ⟨m, 0, none⟩) 1 1) 1 (cells4W s) := by
  subst hm
  refine ⟨rfl, .inr ⟨w.heap.size, 1, #[.int .u64 s.a, .int .u64 s.b, .int .u64 s.c, .int .u64 s.d], rfl, Nat.le_refl _, ?_, Nat.le_refl _, by unfold maxLen; omega, rfl, rfl⟩⟩
  show (w.heap.push _)[w.heap.size]? = _
  simp
end Go.Proofs.YtkjbecdngjdkhaaDoor
