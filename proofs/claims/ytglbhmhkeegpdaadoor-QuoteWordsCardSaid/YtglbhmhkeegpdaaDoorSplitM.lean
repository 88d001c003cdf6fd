/- Plain mathematics: a text, cut at its blanks, and put together again. -/
import Derived.Test.YtglbhmhkeegpdaaDoorRowU8
import Derived.Lib.Split
import Derived.Lib.Join
namespace Go.Proofs.YtglbhmhkeegpdaaDoor
open Go Go.RowKit
theorem idx_blank (l : List UInt8) : (Lib.index l [32] = -1 ∧ 32 ∉ l) ∨ ∃ i : Nat, Lib.index l [32] = i ∧ i < l.length ∧ l = l.take i ++ 32 :: l.drop (i + 1) ∧ 32 ∉ l.take i := by
  induction l with
  | nil => exact .inl ⟨rfl, by simp⟩
  | cons b l ih =>
    by_cases hb : b = 32
    · subst hb
      exact .inr ⟨0, by simp [Lib.index, List.isPrefixOf], by simp, by simp, by simp⟩
    · have e : [32].isPrefixOf (b :: l) = false := by
        have : (32 == b) = false := beq_eq_false_iff_ne.2 (fun e => hb e.symm)
        simp [List.isPrefixOf, this]
      rcases ih with ⟨h1, h2⟩ | ⟨i, h1, h2, h3, h4⟩
      · refine .inl ⟨?_, ?_⟩
        · unfold Lib.index; rw [e, h1]; rfl
        · intro hm
          rcases List.mem_cons.1 hm with h | h
          · exact hb h.symm
          · exact h2 h
      · refine .inr ⟨i + 1, ?_, by simp; exact h2, ?_, ?_⟩
        · unfold Lib.index
          rw [e, h1]
          have : ((i : Int) == -1) = false := beq_eq_false_iff_ne.2 (by omega)
          rw [this]; simp
        · rw [List.take_succ_cons, List.drop_succ_cons, List.cons_append, ← h3]
        · rw [List.take_succ_cons]
          intro hm
          rcases List.mem_cons.1 hm with h | h
          · exact hb h.symm
          · exact h4 h
theorem count_no {l : List UInt8} (h : 32 ∉ l) : l.count 32 = 0 := List.count_eq_zero.2 h
theorem count_cut {l : List UInt8} {i : Nat} (h3 : l = l.take i ++ 32 :: l.drop (i + 1)) (h4 : 32 ∉ l.take i) : l.count 32 = 1 + (l.drop (i + 1)).count 32 := by
  conv => lhs; rw [h3]
  rw [List.count_append, count_no h4, List.count_cons_self]; omega
theorem count_blanks (l : List UInt8) : ∀ fuel, l.length < fuel → Lib.countFrom [32] fuel l = l.count 32 := by
  intro fuel
  induction fuel generalizing l with
  | zero => intro h; omega
  | succ n ih =>
    intro hl
    unfold Lib.countFrom
    rcases idx_blank l with ⟨h1, h2⟩ | ⟨i, h1, h2, h3, h4⟩
    · rw [h1, count_no h2]; rfl
    · have e : ((i : Int) == -1) = false := beq_eq_false_iff_ne.2 (by omega)
      rw [h1, e, if_neg (by decide), Int.toNat_natCast, count_cut h3 h4]
      congr 1
      exact ih _ (by rw [List.length_drop]; simp; omega)
theorem join_two (x y : List UInt8) (r : List (List UInt8)) (sep : List UInt8) : Lib.join (x :: y :: r) sep = x ++ (sep ++ Lib.join (y :: r) sep) := by
  rw [Lib.join_cons, Lib.join_cons]
  simp [Lib.joinTail]
theorem cut_blanks : ∀ (k : Nat) (l : List UInt8), l.count 32 = k → (Lib.splitK [32] 0 k l).length = k + 1 ∧ (∀ p ∈ Lib.splitK [32] 0 k l, 32 ∉ p) ∧ Lib.join (Lib.splitK [32] 0 k l) [32] = l := by
  intro k
  induction k with
  | zero =>
    intro l h
    refine ⟨rfl, ?_, Lib.join_one _ _⟩
    intro p hp
    rw [List.mem_singleton.1 hp]
    exact List.count_eq_zero.1 h
  | succ k ih =>
    intro l h
    rcases idx_blank l with ⟨h1, h2⟩ | ⟨i, h1, h2, h3, h4⟩
    · rw [count_no h2] at h; omega
    · have e : ((i : Int) == -1) = false := beq_eq_false_iff_ne.2 (by omega)
      have hs : Lib.splitK [32] 0 (k + 1) l = l.take i :: Lib.splitK [32] 0 k (l.drop (i + 1)) := by
        rw [Lib.splitK, h1, e, if_neg (by decide), Int.toNat_natCast]; rfl
      have hc := count_cut h3 h4
      obtain ⟨i1, i2, i3⟩ := ih (l.drop (i + 1)) (by omega)
      rw [hs]
      refine ⟨by rw [List.length_cons, i1], ?_, ?_⟩
      · intro p hp
        rcases List.mem_cons.1 hp with h | h
        · rw [h]; exact h4
        · exact i2 p h
      · match hr : Lib.splitK [32] 0 k (l.drop (i + 1)), i1, i3 with
        | y :: r, _, i3 => rw [join_two, i3]; exact h3.symm
/-- The pieces of a line. -/
structure Pieces (s : ByteArray) (n : Nat) (ps : List ByteArray) : Prop where
  cnt : n = s.data.toList.count 32
  len : ps.length = n + 1
  no : ∀ p ∈ ps, 32 ∉ p.data.toList
  back : Lib.join (ps.map (·.data.toList)) [32] = s.data.toList
theorem pieces_of (s : ByteArray) : Pieces s (Lib.countB s ⟨#[32]⟩) (Lib.splitB ⟨#[32]⟩ 0 (Lib.countB s ⟨#[32]⟩) s) := by
  have hc : Lib.countB s ⟨#[32]⟩ = s.data.toList.count 32 := count_blanks _ _ (Nat.lt_succ_self _)
  have hd := Lib.splitB_data ⟨#[32]⟩ 0 (Lib.countB s ⟨#[32]⟩) s
  obtain ⟨h1, h2, h3⟩ := cut_blanks _ s.data.toList hc.symm
  have hd2 : (Lib.splitB ⟨#[32]⟩ 0 (Lib.countB s ⟨#[32]⟩) s).map (·.data.toList) = Lib.splitK [32] 0 (Lib.countB s ⟨#[32]⟩) s.data.toList := hd
  refine ⟨hc, ?_, ?_, ?_⟩
  · have := congrArg List.length hd2
    rw [List.length_map, h1] at this
    exact this
  · intro p hp
    exact h2 _ (by rw [← hd2]; exact List.mem_map_of_mem hp)
  · rw [hd2]; exact h3
end Go.Proofs.YtglbhmhkeegpdaaDoor
