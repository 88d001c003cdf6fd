/- The law BlocksMore: the order of sets is all one. -/
import Derived.Test.YtglbhmhkeegpdaaDoorBlkG
import Derived.Test.YtglbhmhkeegpdaaDoorOpenSets
import Derived.Laws.AppendOwnNone
namespace Go.Proofs.YtglbhmhkeegpdaaDoor
open Go Go.RowKit
attribute [local go_sem ↓] Go.wp_at_zero Go.wp_at_succ
attribute [local go_sem] eq4
theorem SetsRow.up {w w' : World} {p : Option Addr} {n : Nat} {L : List W4} (h : SetsRow w p n L) (hb : Below w.heap.size w w') : SetsRow w' p n L :=
  ⟨h.len, h.max, h.fit, fun i t ht => by
    obtain ⟨g, o, e, hg, hs⟩ := h.row i t ht
    exact ⟨g, o, e, Nat.lt_of_lt_of_le hg hb.size, hs.below hb hg⟩⟩
/-- New, of a slice of sets. -/
theorem new_row (p : Option Addr) (n cap : Nat) (L : List W4) (w : World) (h : SetsRow w p n L) (hn : n ≤ 1000) :
    Calls Tryd.prog 17 #[.slice p n cap] w fun e w' => ∃ g ls, e = .returned (.pointer (some ⟨g, 0, none⟩)) ∧ w.heap.size ≤ g ∧ BlkIs w' g (allE L) ls ∧ Below w.heap.size w w' :=
  new_any p n cap L w h.len hn h.fit h.row
/-- More, of blocks of a list. -/
theorem more_row {g : Nat} {L : List W4} {ls : List W4} {w : World} (s : W4) (hs : s.fit) (h : BlkIs w g (allE L) ls) :
    Calls Tryd.prog 24 #[.pointer (some ⟨g, 0, none⟩), .agg #[.int .u64 s.a, .int .u64 s.b, .int .u64 s.c, .int .u64 s.d]] w fun e w' => ∃ g' ls', e = .returned (.pointer (some ⟨g', 0, none⟩)) ∧ w.heap.size ≤ g' ∧ BlkIs w' g' (allE (L ++ [s])) ls' ∧ Below w.heap.size w w' :=
  (more_any g (capN (allE L)) ls s hs w (h.blk.congr fun b hb => (capN_eq hb).symm) (capN_lt (allE_sorts _))).mono (by
    rintro e w' ⟨rfl, hb, ls', q1, q2, q3⟩
    exact ⟨_, ls', rfl, by omega, step_cut ⟨q1, q2, q3⟩, hb⟩)
/-- A row of sets that a call made is a slice of sets. -/
theorem row_own {w : World} {B : Nat} {v : Value} {n : Nat} {L : List W4} (h : w.ownsRow B 44 4 v n (flatW L)) (hn : L.length = n) (hf : ∀ t ∈ L, t.fit) (hm : n ≤ maxLen) : ∃ p cap, v = .slice p n cap ∧ SetsRow w p n L := by
  rcases h.2 with ⟨rfl, rfl⟩ | ⟨g, cap, cur, rfl, hb, hh, hcap, hmax, hcs, htake⟩
  · refine ⟨none, 0, rfl, hn, hm, hf, fun i t ht => ?_⟩
    rw [List.length_eq_zero_iff.1 hn] at ht; simp at ht
  · refine ⟨_, cap, rfl, hn, hm, hf, fun i t ht => ⟨g, 0, rfl, (Array.getElem?_eq_some_iff.1 hh).1, ?_⟩⟩
    obtain ⟨g0, g1, g2, g3⟩ := flatW_get L i t ht
    have cc : ∀ (o : Nat) (x : Value), (flatW L)[o]? = some x → w.cell? ⟨g, o, none⟩ = some x := fun o x hox => by
      rw [Joins.cell_of_block hh, ← Array.getElem?_toList]
      rw [← htake] at hox
      obtain ⟨hl, _⟩ := List.getElem?_eq_some_iff.1 hox
      rw [List.getElem?_take_of_lt (by rw [List.length_take] at hl; omega)] at hox
      exact hox
    rw [Nat.zero_add]
    exact ⟨cc _ _ g0, cc _ _ g1, cc _ _ g2, cc _ _ g3⟩
theorem allE_swap (L : List W4) (s : W4) (a b : Nat) : allE (s :: L) a b = allE (L ++ [s]) a b := by
  rw [Bool.eq_iff_iff, allE_iff, allE_iff]
  constructor
  · intro h t ht; exact h t (by simp at ht ⊢; exact ht.symm)
  · intro h t ht; exact h t (by simp at ht ⊢; exact ht.symm)
/-- Two blocks of one relation have the same sets. -/
theorem same_sets {w w' : World} {g g' : Nat} {E : Nat → Nat → Bool} {ls ls' : List W4} (h : BlkIs w g E ls) (h' : BlkIs w' g' E ls') : ls = ls' := by
  apply List.ext_getElem?
  intro i
  by_cases hi : i < ls.length
  · have hi' : i < ls'.length := by rw [h'.len, ← h.len]; exact hi
    rw [List.getElem?_eq_getElem hi, List.getElem?_eq_getElem hi']
    have e1 := List.getElem?_eq_getElem hi
    have e2 := List.getElem?_eq_getElem hi'
    rw [W4.ext' (h.blk.fit _ (List.mem_of_getElem? e1)) (h'.blk.fit _ (List.mem_of_getElem? e2)) (fun n hn => by rw [h.mem i _ e1 n hn, h'.mem i _ e2 n hn])]
  · rw [List.getElem?_eq_none (by omega), List.getElem?_eq_none (by rw [h'.len, ← h.len]; omega)]
theorem flatW_len (L : List W4) : (flatW L).length = L.length * 4 := by
  induction L with
  | nil => rfl
  | cons x r ih =>
    have e : flatW (x :: r) = .int .u64 x.a :: .int .u64 x.b :: .int .u64 x.c :: .int .u64 x.d :: flatW r := rfl
    rw [e]
    simp only [List.length_cons, ih]
    omega
theorem flat_cells {w : World} {g o : Nat} (L : List W4) (h : ∀ (i : Nat) t, L[i]? = some t → SetAt w g (o + i * 4) t) : ∀ (j : Nat) u, (flatW L)[j]? = some u → w.cell? ((⟨g, o, none⟩ : Addr).add j) = some u := by
  intro j u hj
  obtain ⟨hl, _⟩ := List.getElem?_eq_some_iff.1 hj
  rw [flatW_len] at hl
  have hi : j / 4 < L.length := by omega
  have ht := List.getElem?_eq_getElem hi
  obtain ⟨f0, f1, f2, f3⟩ := flatW_get L _ _ ht
  obtain ⟨s0, s1, s2, s3⟩ := h _ _ ht
  show w.cell? ((⟨g, o, none⟩ : Addr).add j) = some u
  have ea : (⟨g, o, none⟩ : Addr).add j = ⟨g, o + j, none⟩ := by
    unfold Addr.add
    by_cases hj0 : j = 0
    · subst hj0; simp
    · simp [hj0]
  rw [ea]
  have hr : j = j / 4 * 4 ∨ j = j / 4 * 4 + 1 ∨ j = j / 4 * 4 + 2 ∨ j = j / 4 * 4 + 3 := by omega
  rcases hr with e | e | e | e
  · rw [e, f0] at hj; rw [e]; rw [← Option.some.inj hj]; exact s0
  · rw [e, f1] at hj; rw [e]; rw [← Option.some.inj hj]; exact s1
  · rw [e, f2] at hj; rw [e]; rw [← Option.some.inj hj]; exact s2
  · rw [e, f3] at hj; rw [e]; rw [← Option.some.inj hj]; exact s3
theorem flat_fit (L : List W4) : ∀ x ∈ flatW L, x.oneCell' = true := by
  intro x hx
  unfold flatW at hx
  obtain ⟨t, _, ht⟩ := List.mem_flatMap.1 hx
  simp [cells4W] at ht
  rcases ht with rfl | rfl | rfl | rfl <;> rfl
theorem row_cells {W : World} {a : Addr} {n : Nat} {L : List W4} (h : SetsRow W (some a) n L) : ∀ (j : Nat) u, (flatW L)[j]? = some u → W.cell? (a.add j) = some u := by
  intro j u hj
  obtain ⟨hl, _⟩ := List.getElem?_eq_some_iff.1 hj
  rw [flatW_len] at hl
  have hi : 0 < L.length := by omega
  obtain ⟨g, o, e, _, _⟩ := h.row 0 _ (List.getElem?_eq_getElem hi)
  obtain rfl := Option.some.inj e
  exact flat_cells L (fun i t ht => by
    obtain ⟨g', o', e', _, hs⟩ := h.row i t ht
    have e2 := Option.some.inj e'
    injection e2 with e3 e4 _
    subst e3 e4
    exact hs) j u hj
theorem own_one (w : World) (s : W4) (m : Nat) (hm : m = w.heap.size) : (w.alloc (.cells #[.int .u64 s.a, .int .u64 s.b, .int .u64 s.c, .int .u64 s.d] 44)).ownsRow m 44 4 (.slice (some ⟨m, 0, none⟩) 1 1) 1 (cells4W s) := by
  subst hm
  refine ⟨rfl, .inr ⟨w.heap.size, 1, #[.int .u64 s.a, .int .u64 s.b, .int .u64 s.c, .int .u64 s.d], rfl, Nat.le_refl _, ?_, Nat.le_refl _, by unfold maxLen; omega, rfl, rfl⟩⟩
  show (w.heap.push _)[w.heap.size]? = _
  simp
set_option maxRecDepth 100000 in
set_option maxHeartbeats 4000000 in
theorem morelaw_big (p : Option Addr) (n cap : Nat) (s : W4) (w : World) (hn : 20 < n) (hT : ∀ w', Below w.heap.size w w' → Tab w') :
    Calls Tryd.prog 9 #[.slice p n cap, .agg #[.int .u64 s.a, .int .u64 s.b, .int .u64 s.c, .int .u64 s.d]] w fun e w' => e = .returned (.bool true) ∧ Below w.heap.size w w' := by
  have HT := hid hT
  have HB0 := hid (below1 w (.cells #[.int .u64 s.a, .int .u64 s.b, .int .u64 s.c, .int .u64 s.d] 44))
  have hz0 : w.heap.size + 1 ≤ (w.alloc (.cells #[.int .u64 s.a, .int .u64 s.b, .int .u64 s.c, .int .u64 s.d] 44)).heap.size := by simp
  have d20 : decide ((20 : Int) < (n : Int)) = true := decide_eq_true (by omega)
  clear hT
  go_enter Tryd.func9, Tryd.ntmps9
  go_wp2_with fail
  generalize w.alloc (.cells #[.int .u64 s.a, .int .u64 s.b, .int .u64 s.c, .int .u64 s.d] 44) = w0 at *
  refine (awakeB_any w0 (fun w' hb' => HT.out _ (HB0.out.trans (hb'.mono (by omega))))).mono ?_
  rintro e w5 ⟨rfl, hb5⟩
  have HB5 := hid (HB0.out.trans (hb5.mono (by omega)))
  clear hb5
  go_wp2_with fail
  go_ret
  exact ⟨rfl, HB5.out⟩
set_option maxRecDepth 100000 in
set_option maxHeartbeats 4000000 in
theorem morelaw_small (a : Addr) (n cap : Nat) (L : List W4) (s : W4) (w : World) (hn : n ≤ 20) (hR : SetsRow w (some a) n L) (hs : s.fit) (hT : ∀ w', Below w.heap.size w w' → Tab w') :
    Calls Tryd.prog 9 #[.slice (some a) n cap, .agg #[.int .u64 s.a, .int .u64 s.b, .int .u64 s.c, .int .u64 s.d]] w fun e w' => e = .returned (.bool true) ∧ Below w.heap.size w w' := by
  have HT := hid hT
  have HB0 := hid (below1 w (.cells #[.int .u64 s.a, .int .u64 s.b, .int .u64 s.c, .int .u64 s.d] 44))
  have HS0 : Hid (SetAt (w.alloc (.cells #[.int .u64 s.a, .int .u64 s.b, .int .u64 s.c, .int .u64 s.d] 44)) w.heap.size 0 s) := hid (by
    refine ⟨?_, ?_, ?_, ?_⟩ <;> simp [go_sem])
  have hz0 : w.heap.size + 1 ≤ (w.alloc (.cells #[.int .u64 s.a, .int .u64 s.b, .int .u64 s.c, .int .u64 s.d] 44)).heap.size := by simp
  have HR := hid hR
  have HSF := hid hs
  have d20 : decide ((20 : Int) < (n : Int)) = false := decide_eq_false (by omega)
  clear hT hR hs
  obtain ⟨i0, hif, hz0', hz1', hz2'⟩ := info_parts Tryd.infoSet
  go_enter Tryd.func9, Tryd.ntmps9
  go_wp2_with fail
  generalize w.alloc (.cells #[.int .u64 s.a, .int .u64 s.b, .int .u64 s.c, .int .u64 s.d] 44) = w0 at *
  refine (awakeB_any w0 (fun w' hb' => HT.out _ (HB0.out.trans (hb'.mono (by omega))))).mono ?_
  rintro e w1 ⟨rfl, hb1⟩
  have HB1 := hid (HB0.out.trans (hb1.mono (by omega)))
  have HS1 := hid (HS0.out.below hb1 (by omega))
  have hz1 := hb1.size
  clear hb1
  go_wp2_with fail
  refine (new_row (some a) n cap L w1 (HR.out.up HB1.out) (by omega)).mono ?_
  rintro e w2 ⟨g1, ls1, rfl, hg1, hX1, hb2⟩
  have HB2 := hid (HB1.out.trans (hb2.mono (by omega)))
  have HS2 := hid (HS1.out.below hb2 (by omega))
  have HX1 := hid hX1
  have hz2 := hb2.size
  clear hb2 hX1
  obtain ⟨c0, c1, c2, c3⟩ := HS2.out
  go_wp2_with fail
  refine (more_row s HSF.out HX1.out).mono ?_
  rintro e w3 ⟨g2, ls2, rfl, hg2, hX2, hb3⟩
  have HB3 := hid (HB2.out.trans (hb3.mono (by omega)))
  have HS3 := hid (HS2.out.below hb3 (by omega))
  have HX2 := hid hX2
  have hz3 := hb3.size
  clear hb3 hX2 c0 c1 c2 c3
  obtain ⟨c0, c1, c2, c3⟩ := HS3.out
  have HAL : Hid (SetsRow (w3.alloc (.cells #[.int .u64 s.a, .int .u64 s.b, .int .u64 s.c, .int .u64 s.d] 44)) (some a) n L) := hid ((HR.out.up HB3.out).up (below1 _ _))
  have HLN := hid HR.out.len
  have hz33 : w.heap.size ≤ w3.heap.size := by omega
  go_wp2_with (at_builtin; go_must (refine wpList_append_own_at _ rfl (.tmp 24) (.tmp 25) 32 rfl w3.heap.size 44 i0 (.agg #[.int .u64 0, .int .u64 0, .int .u64 0, .int .u64 0]) 4 32 Tryd.underlying32 hif hz0' hz1' hz2' rfl (by decide) _ 1 (cells4W s) rfl (own_one _ s _ rfl) a n cap (flatW L) rfl (by rw [flatW_len, HLN.out]) (row_cells HAL.out) (flat_fit L) (by unfold maxLen; omega) (by omega) (by simp) ?_; intro v4 w4 ho hg _ _; obtain ⟨p4, cap4, rfl, hrow4⟩ := row_own (L := s :: L) ho (by rw [List.length_cons, HLN.out]; omega) (by intro t ht; rcases List.mem_cons.1 ht with rfl | ht; exact HSF.out; exact HR.out.fit t ht) (by unfold maxLen; omega); have HROW4 := hid hrow4; have hb4 : Below w3.heap.size w3 w4 := ((Below.refl _ w3).alloc (Nat.le_refl _) _).grown hg (by simp) (fun k e => by have e2 : some w3.heap.size = some k := e; injection e2 with e3; omega); have HB4 := hid (HB3.out.trans (hb4.mono hz33)); have HX2' := hid (HX2.out.below hb4 (Nat.le_refl _)); have hz4 := hb4.size; clear ho hg hrow4 hb4 c0 c1 c2 c3))
  refine (new_row p4 (1 + n) cap4 (s :: L) w4 HROW4.out (by omega)).mono ?_
  rintro e w5 ⟨g3, ls3, rfl, hg3, hX3, hb5⟩
  have HB5 := hid (HB4.out.trans (hb5.mono (by omega)))
  have HXa : Hid (BlkIs w5 g2 (allE (L ++ [s])) ls2) := hid (HX2'.out.below hb5 (Nat.le_refl _))
  have HXb : Hid (BlkIs w5 g3 (allE (L ++ [s])) ls3) := hid (hX3.congr (allE_sorts _) (allE_sorts _) (fun a b _ _ => allE_swap L s a b))
  have hz5 := hb5.size
  clear hb5 hX3
  obtain rfl : ls2 = ls3 := same_sets HXa.out HXb.out
  have CNTa := hid (fun W (h : BlkIs W g2 (allE (L ++ [s])) ls2) => count_at g2 _ ls2 W h.blk)
  have CNTb := hid (fun W (h : BlkIs W g3 (allE (L ++ [s])) ls2) => count_at g3 _ ls2 W h.blk)
  have hsm := HXa.out.blk.small
  go_wp2_with fail
  refine (CNTa.out w5 HXa.out).mono ?_
  rintro e w6 ⟨rfl, hw6⟩
  obtain rfl : w5 = w6 := hw6
  go_wp2_with fail
  refine (CNTb.out w5 HXb.out).mono ?_
  rintro e w6 ⟨rfl, hw6⟩
  obtain rfl : w5 = w6 := hw6
  go_wp2_with fail
  go_loopw [8] (fun i wr => ∃ k : Nat, k ≤ 256 ∧ i = .int .i64 k ∧ wr = w5) (fun i _ => 256 - (intOf i).toNat)
  case atStart => exact ⟨0, by omega, rfl, rfl⟩
  case round =>
    obtain ⟨k, hk, rfl, rfl⟩ := hrel
    by_cases hlk : k < 256
    · have hku : IntKind.u8.wrap (k : Int) = (k : Int) := by simp [IntKind.wrap, IntKind.signed, IntKind.bits]; omega
      go_wp2_with fail
      refine (blkof_any g2 _ ls2 k hlk _ HXa.out.blk).mono ?_
      rintro e w6 ⟨rfl, hw6⟩
      obtain rfl := hw6
      go_wp2_with fail
      refine (blkof_any g3 _ ls2 k hlk _ HXb.out.blk).mono ?_
      rintro e w6 ⟨rfl, hw6⟩
      obtain rfl := hw6
      go_wp2_with fail
      go_roundw
      case rel => exact ⟨k + 1, by omega, by go_num, trivial⟩
      case measure => simp [intOf]; omega
    · obtain rfl : k = 256 := by omega
      go_wp2_with fail
      go_loopw [9] (fun i wx => ∃ k : Nat, k ≤ ls2.length ∧ i = .int .i64 k ∧ Hid (BlkIs wx g2 (allE (L ++ [s])) ls2) ∧ Hid (BlkIs wx g3 (allE (L ++ [s])) ls2) ∧ Below w.heap.size w wx) (fun i _ => ls2.length - (intOf i).toNat)
      case atStart => exact ⟨0, by omega, rfl, HXa, HXb, HB5.out⟩
      case round =>
        obtain ⟨k, hk, rfl, HYa, HYb, hbx⟩ := hrel
        have HBX := hid hbx
        have hzx := hbx.size
        clear hbx
        by_cases hlk : k < ls2.length
        · obtain ⟨t, ht⟩ : ∃ t, ls2[k]? = some t := ⟨_, List.getElem?_eq_getElem hlk⟩
          go_wp2_with fail
          refine (CNTa.out _ HYa.out).mono ?_
          rintro e w6 ⟨rfl, hw6⟩
          obtain rfl := hw6
          go_wp2_with fail
          refine (set_yes g2 _ ls2 k t ht _ HYa.out.blk).mono ?_
          rintro e w7 ⟨rfl, hb7⟩
          have HB7 := hid (HBX.out.trans (hb7.mono hzx))
          have HZa := hid (HYa.out.below hb7 (Nat.le_refl _))
          have HZb := hid (HYb.out.below hb7 (Nat.le_refl _))
          have hz7 := hb7.size
          clear hb7
          unfold W4.val
          go_wp2_with fail
          refine (set_yes g3 _ ls2 k t ht _ HZb.out.blk).mono ?_
          rintro e w8 ⟨rfl, hb8⟩
          have HB8 := hid (HB7.out.trans (hb8.mono (by omega)))
          have HQa := hid (HZa.out.below hb8 (Nat.le_refl _))
          have HQb := hid (HZb.out.below hb8 (Nat.le_refl _))
          clear hb8
          unfold W4.val
          go_wp2_with fail
          go_roundw
          case rel => exact ⟨_, _, _, _, _, _, _, _, _, _, _, _, _, _, _, ⟨k + 1, by omega, by go_num, HQa, HQb, HB8.out⟩, rfl⟩
          case measure => simp [intOf]; omega
        · obtain rfl : k = ls2.length := by omega
          go_wp2_with fail
          refine (CNTa.out _ HYa.out).mono ?_
          rintro e w6 ⟨rfl, hw6⟩
          obtain rfl := hw6
          go_wp2_with fail
          go_ret
          exact ⟨rfl, HBX.out⟩
set_option maxRecDepth 100000 in
set_option maxHeartbeats 4000000 in
theorem morelaw_nil (s : W4) (w : World) (hs : s.fit) (hT : ∀ w', Below w.heap.size w w' → Tab w') :
    Calls Tryd.prog 9 #[.slice none 0 0, .agg #[.int .u64 s.a, .int .u64 s.b, .int .u64 s.c, .int .u64 s.d]] w fun e w' => e = .returned (.bool true) ∧ Below w.heap.size w w' := by
  have HT := hid hT
  have HB0 := hid (below1 w (.cells #[.int .u64 s.a, .int .u64 s.b, .int .u64 s.c, .int .u64 s.d] 44))
  have HS0 : Hid (SetAt (w.alloc (.cells #[.int .u64 s.a, .int .u64 s.b, .int .u64 s.c, .int .u64 s.d] 44)) w.heap.size 0 s) := hid (by
    refine ⟨?_, ?_, ?_, ?_⟩ <;> simp [go_sem])
  have hz0 : w.heap.size + 1 ≤ (w.alloc (.cells #[.int .u64 s.a, .int .u64 s.b, .int .u64 s.c, .int .u64 s.d] 44)).heap.size := by simp
  have HSF := hid hs
  clear hT hs
  obtain ⟨i0, hif, hz0', hz1', hz2'⟩ := info_parts Tryd.infoSet
  go_enter Tryd.func9, Tryd.ntmps9
  go_wp2_with fail
  generalize w.alloc (.cells #[.int .u64 s.a, .int .u64 s.b, .int .u64 s.c, .int .u64 s.d] 44) = w0 at *
  refine (awakeB_any w0 (fun w' hb' => HT.out _ (HB0.out.trans (hb'.mono (by omega))))).mono ?_
  rintro e w1 ⟨rfl, hb1⟩
  have HB1 := hid (HB0.out.trans (hb1.mono (by omega)))
  have HS1 := hid (HS0.out.below hb1 (by omega))
  have hz1 := hb1.size
  clear hb1
  go_wp2_with fail
  refine (new_row none 0 0 [] w1 ⟨rfl, Nat.zero_le _, (fun t ht => by simp at ht), (fun i t ht => by simp at ht)⟩ (by omega)).mono ?_
  rintro e w2 ⟨g1, ls1, rfl, hg1, hX1, hb2⟩
  have HB2 := hid (HB1.out.trans (hb2.mono (by omega)))
  have HS2 := hid (HS1.out.below hb2 (by omega))
  have HX1 := hid hX1
  have hz2 := hb2.size
  clear hb2 hX1
  obtain ⟨c0, c1, c2, c3⟩ := HS2.out
  go_wp2_with fail
  refine (more_row s HSF.out HX1.out).mono ?_
  rintro e w3 ⟨g2, ls2, rfl, hg2, hX2, hb3⟩
  have HB3 := hid (HB2.out.trans (hb3.mono (by omega)))
  have HS3 := hid (HS2.out.below hb3 (by omega))
  have HX2 := hid hX2
  have hz3 := hb3.size
  clear hb3 hX2 c0 c1 c2 c3
  obtain ⟨c0, c1, c2, c3⟩ := HS3.out
  have hz33 : w.heap.size ≤ w3.heap.size := by omega
  have hb4 : Below w3.heap.size w3 (w3.alloc (.cells #[.int .u64 s.a, .int .u64 s.b, .int .u64 s.c, .int .u64 s.d] 44)) := below1 _ _
  have HB4 := hid (HB3.out.trans (hb4.mono hz33))
  have HX2' := hid (HX2.out.below hb4 (Nat.le_refl _))
  have hz4 := hb4.size
  have OWN := hid (own_one w3 s _ rfl)
  obtain ⟨p4, cap4, hv4, hrow4⟩ := row_own (L := [s]) OWN.out rfl (by intro t ht; rw [List.mem_singleton.1 ht]; exact HSF.out) (by unfold maxLen; omega)
  have HROW4 : Hid (SetsRow (w3.alloc (.cells #[.int .u64 s.a, .int .u64 s.b, .int .u64 s.c, .int .u64 s.d] 44)) (some ⟨w3.heap.size, 0, none⟩) 1 [s]) := hid (by
    injection hv4 with e1 e2 e3
    rw [e1]; exact hrow4)
  clear hb4 hv4 hrow4
  go_wp2_with (at_builtin; go_must (refine wpList_append_own_none rfl (.tmp 24) (.tmp 25) 32 rfl w3.heap.size 44 i0 4 Tryd.underlying32 hif _ 1 (cells4W s) rfl OWN.out rfl ?_; clear c0 c1 c2 c3))
  generalize w3.alloc (.cells #[.int .u64 s.a, .int .u64 s.b, .int .u64 s.c, .int .u64 s.d] 44) = w4 at *
  refine (new_row _ 1 1 [s] w4 HROW4.out (by omega)).mono ?_
  rintro e w5 ⟨g3, ls3, rfl, hg3, hX3, hb5⟩
  have HB5 := hid (HB4.out.trans (hb5.mono (by omega)))
  have HXa : Hid (BlkIs w5 g2 (allE ([] ++ [s])) ls2) := hid (HX2'.out.below hb5 (Nat.le_refl _))
  have HXb : Hid (BlkIs w5 g3 (allE ([] ++ [s])) ls3) := hid (hX3.congr (allE_sorts _) (allE_sorts _) (fun a b _ _ => allE_swap [] s a b))
  have hz5 := hb5.size
  clear hb5 hX3
  obtain rfl : ls2 = ls3 := same_sets HXa.out HXb.out
  have CNTa := hid (fun W (h : BlkIs W g2 (allE ([] ++ [s])) ls2) => count_at g2 _ ls2 W h.blk)
  have CNTb := hid (fun W (h : BlkIs W g3 (allE ([] ++ [s])) ls2) => count_at g3 _ ls2 W h.blk)
  have hsm := HXa.out.blk.small
  go_wp2_with fail
  refine (CNTa.out w5 HXa.out).mono ?_
  rintro e w6 ⟨rfl, hw6⟩
  obtain rfl : w5 = w6 := hw6
  go_wp2_with fail
  refine (CNTb.out w5 HXb.out).mono ?_
  rintro e w6 ⟨rfl, hw6⟩
  obtain rfl : w5 = w6 := hw6
  go_wp2_with fail
  go_loopw [8] (fun i wr => ∃ k : Nat, k ≤ 256 ∧ i = .int .i64 k ∧ wr = w5) (fun i _ => 256 - (intOf i).toNat)
  case atStart => exact ⟨0, by omega, rfl, rfl⟩
  case round =>
    obtain ⟨k, hk, rfl, rfl⟩ := hrel
    by_cases hlk : k < 256
    · have hku : IntKind.u8.wrap (k : Int) = (k : Int) := by simp [IntKind.wrap, IntKind.signed, IntKind.bits]; omega
      go_wp2_with fail
      refine (blkof_any g2 _ ls2 k hlk _ HXa.out.blk).mono ?_
      rintro e w6 ⟨rfl, hw6⟩
      obtain rfl := hw6
      go_wp2_with fail
      refine (blkof_any g3 _ ls2 k hlk _ HXb.out.blk).mono ?_
      rintro e w6 ⟨rfl, hw6⟩
      obtain rfl := hw6
      go_wp2_with fail
      go_roundw
      case rel => exact ⟨k + 1, by omega, by go_num, trivial⟩
      case measure => simp [intOf]; omega
    · obtain rfl : k = 256 := by omega
      go_wp2_with fail
      go_loopw [9] (fun i wx => ∃ k : Nat, k ≤ ls2.length ∧ i = .int .i64 k ∧ Hid (BlkIs wx g2 (allE ([] ++ [s])) ls2) ∧ Hid (BlkIs wx g3 (allE ([] ++ [s])) ls2) ∧ Below w.heap.size w wx) (fun i _ => ls2.length - (intOf i).toNat)
      case atStart => exact ⟨0, by omega, rfl, HXa, HXb, HB5.out⟩
      case round =>
        obtain ⟨k, hk, rfl, HYa, HYb, hbx⟩ := hrel
        have HBX := hid hbx
        have hzx := hbx.size
        clear hbx
        by_cases hlk : k < ls2.length
        · obtain ⟨t, ht⟩ : ∃ t, ls2[k]? = some t := ⟨_, List.getElem?_eq_getElem hlk⟩
          go_wp2_with fail
          refine (CNTa.out _ HYa.out).mono ?_
          rintro e w6 ⟨rfl, hw6⟩
          obtain rfl := hw6
          go_wp2_with fail
          refine (set_yes g2 _ ls2 k t ht _ HYa.out.blk).mono ?_
          rintro e w7 ⟨rfl, hb7⟩
          have HB7 := hid (HBX.out.trans (hb7.mono hzx))
          have HZa := hid (HYa.out.below hb7 (Nat.le_refl _))
          have HZb := hid (HYb.out.below hb7 (Nat.le_refl _))
          have hz7 := hb7.size
          clear hb7
          unfold W4.val
          go_wp2_with fail
          refine (set_yes g3 _ ls2 k t ht _ HZb.out.blk).mono ?_
          rintro e w8 ⟨rfl, hb8⟩
          have HB8 := hid (HB7.out.trans (hb8.mono (by omega)))
          have HQa := hid (HZa.out.below hb8 (Nat.le_refl _))
          have HQb := hid (HZb.out.below hb8 (Nat.le_refl _))
          clear hb8
          unfold W4.val
          go_wp2_with fail
          go_roundw
          case rel => exact ⟨_, _, _, _, _, _, _, _, _, _, _, _, _, _, _, ⟨k + 1, by omega, by go_num, HQa, HQb, HB8.out⟩, rfl⟩
          case measure => simp [intOf]; omega
        · obtain rfl : k = ls2.length := by omega
          go_wp2_with fail
          refine (CNTa.out _ HYa.out).mono ?_
          rintro e w6 ⟨rfl, hw6⟩
          obtain rfl := hw6
          go_wp2_with fail
          go_ret
          exact ⟨rfl, HBX.out⟩
theorem morelaw_any (p : Option Addr) (n cap : Nat) (L : List W4) (s : W4) (w : World) (hR : SetsRow w p n L) (hp : p = none → cap = 0) (hs : s.fit) (hT : ∀ w', Below w.heap.size w w' → Tab w') :
    Calls Tryd.prog 9 #[.slice p n cap, .agg #[.int .u64 s.a, .int .u64 s.b, .int .u64 s.c, .int .u64 s.d]] w fun e w' => e = .returned (.bool true) ∧ Below w.heap.size w w' := by
  by_cases hn : 20 < n
  · exact morelaw_big p n cap s w hn hT
  · cases p with
    | some a => exact morelaw_small a n cap L s w (by omega) hR hs hT
    | none =>
      obtain rfl := hp rfl
      have h0 : n = 0 := by
        by_cases e : n = 0
        · exact e
        · have hl := hR.len
          obtain ⟨g, o, e2, _⟩ := hR.row 0 _ (List.getElem?_eq_getElem (by omega))
          cases e2
      subst h0
      exact morelaw_nil s w hs hT
theorem morelaw_all {v : Value} {w : World} (h : ∃ p n c L, v = .slice p n c ∧ SetsRow w p n L ∧ (p = none → c = 0)) (s : W4) (hs : s.fit) (hT : ∀ w', Below w.heap.size w w' → Tab w') :
    Calls Tryd.prog 9 #[v, .agg #[.int .u64 s.a, .int .u64 s.b, .int .u64 s.c, .int .u64 s.d]] w fun e w' => e = .returned (.bool true) ∧ Below w.heap.size w w' := by
  obtain ⟨p, n, c, L, rfl, hR, hp⟩ := h
  exact morelaw_any p n c L s w hR hp hs hT
end Go.Proofs.YtglbhmhkeegpdaaDoor
