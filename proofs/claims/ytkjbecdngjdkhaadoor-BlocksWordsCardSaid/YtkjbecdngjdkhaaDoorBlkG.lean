/- The statements of blocks: awake; of no blocks nothing comes. -/
import Derived.Test.YtkjbecdngjdkhaaDoorBlkF
namespace Go.Proofs.YtkjbecdngjdkhaaDoor
open Go Go.RowKit
attribute [local go_sem ↓] Go.wp_at_zero Go.wp_at_succ
attribute [local go_sem] eq4
def aW : W4 := ⟨0, 8589934592, 0, 0⟩
def bW : W4 := ⟨0, 60129542144, 0, 0⟩
theorem aW_fit : aW.fit := by simp [W4.fit, aW, Fit]
theorem bW_fit : bW.fit := by simp [W4.fit, bW, Fit]
def abE : Nat → Nat → Bool := allE [aW, bW]
set_option maxRecDepth 100000 in
theorem leads_98 : leads abE 98 = [0, 97] := by decide +kernel
set_option maxRecDepth 100000 in
theorem leads_256 : leads abE 256 = [0, 97, 98] := by decide +kernel
theorem abE_sorts : Sorts abE := allE_sorts _
theorem num_97 : num abE 97 = 1 := num_of abE_sorts (n := 98) (i := 1) (a := 97) (by rw [leads_98]; rfl) (abE_sorts.refl _)
theorem num_98 : num abE 98 = 2 := num_of abE_sorts (n := 256) (i := 2) (a := 98) (by rw [leads_256]; rfl) (abE_sorts.refl _)
theorem num_low (m : Nat) (h : m < 98) : num abE m ≠ 2 := by
  have := num_lt abE_sorts h
  rw [leads_98] at this
  simp at this
  omega
theorem first_98 {f : Nat → Bool} (hf : ∀ n, n < 256 → f n = decide (num abE n = 2)) {v : Value} (h : FirstIs f v) : v = .tuple #[.int .u8 98, .bool true] := by
  have h98 : f 98 = true := by rw [hf 98 (by omega), num_98]; rfl
  rcases h with ⟨h0, _⟩ | ⟨m, hm, h1, h2, rfl⟩
  · rw [h0 98 (by omega)] at h98; cases h98
  · have h3 : ¬ m < 98 := fun hlt => by
      rw [hf m hm] at h1
      exact num_low m hlt (by simpa using h1)
    have h4 : ¬ 98 < m := fun hlt => by rw [h2 98 hlt] at h98; cases h98
    obtain rfl : m = 98 := by omega
    rfl
theorem abRow (w : World) (m : Nat) (hm : m = w.heap.size) : ∀ (i : Nat) t, [aW, bW][i]? = some t → ∃ g o, (some (⟨m, 0, none⟩ : Addr)) = some ⟨g, o, none⟩ ∧ g < (w.alloc (.cells #[.int .u64 0, .int .u64 8589934592, .int .u64 0, .int .u64 0, .int .u64 0, .int .u64 60129542144, .int .u64 0, .int .u64 0] 35)).heap.size ∧
    SetAt (w.alloc (.cells #[.int .u64 0, .int .u64 8589934592, .int .u64 0, .int .u64 0, .int .u64 0, .int .u64 60129542144, .int .u64 0, .int .u64 0] 35)) g (o + i * 4) t := by
  have new : (w.alloc (.cells #[.int .u64 0, .int .u64 8589934592, .int .u64 0, .int .u64 0, .int .u64 0, .int .u64 60129542144, .int .u64 0, .int .u64 0] 35)).heap[w.heap.size]? = some (.cells #[.int .u64 0, .int .u64 8589934592, .int .u64 0, .int .u64 0, .int .u64 0, .int .u64 60129542144, .int .u64 0, .int .u64 0] 35) := by
    show (w.heap.push _)[w.heap.size]? = _
    simp
  subst hm
  intro i t h
  refine ⟨w.heap.size, 0, rfl, by simp, ?_⟩
  match i, h with
  | 0, h => simp at h; subst h; exact ⟨Joins.cell_of_block new 0, Joins.cell_of_block new 1, Joins.cell_of_block new 2, Joins.cell_of_block new 3⟩
  | 1, h => simp at h; subst h; exact ⟨Joins.cell_of_block new 4, Joins.cell_of_block new 5, Joins.cell_of_block new 6, Joins.cell_of_block new 7⟩
  | i + 2, h => simp at h
set_option maxHeartbeats 2000000 in
theorem awakeB_any (w : World) (hT : ∀ w', Below w.heap.size w w' → Tab w') :
    Calls Tryd.prog 11 #[] w fun e w' => e = .returned (.bool true) ∧ Below w.heap.size w w' := by
  have HT := hid hT
  clear hT
  go_enter Tryd.func11, Tryd.ntmps11
  go_wp2_with fail
  refine (new_any _ 2 2 [aW, bW] _ rfl (by omega) (by intro t ht; rcases List.mem_cons.1 ht with rfl | ht; exact aW_fit; rw [List.mem_singleton.1 ht]; exact bW_fit) (abRow _ _ (by simp))).mono ?_
  rintro e w1 ⟨g, ls, rfl, hg, hX, hb⟩
  have HX : Hid (BlkIs w1 g abE ls) := hid hX
  have HB1 : Hid (Below w.heap.size w w1) := hid (((((Below.refl _ w).alloc (Nat.le_refl _) _).alloc (by simp) _).alloc (by simp; omega) _).trans (hb.mono (by simp; omega)))
  have hl3 : ls.length = 3 := by have := hX.len; rw [show leads (allE [aW, bW]) 256 = [0, 97, 98] from leads_256] at this; exact this
  obtain ⟨t, ht⟩ : ∃ t, ls[2]? = some t := ⟨_, List.getElem?_eq_getElem (by omega)⟩
  have hz1 := HB1.out.size
  have LST : Hid (Calls Tryd.prog 15 #[.pointer (some ⟨g, 0, none⟩), .int .i64 2] w1 fun e w' => e = .returned (.tuple #[.int .u8 98, .bool true]) ∧ Below w1.heap.size w1 w') := hid
    ((least_any (some ⟨g, 0, none⟩) 2 t (hX.blk.fit t (List.mem_of_getElem? ht)) w1 (set_yes g _ ls 2 t ht w1 hX.blk) (fun w' hb' => HT.out _ (HB1.out.trans (hb'.mono hz1)))).mono (by
      rintro e w' ⟨v, rfl, hf, hb⟩
      exact ⟨by rw [first_98 (fun n hn => hX.mem 2 t ht n hn) hf], hb⟩))
  clear hX hb ht
  go_wp2_with fail
  refine LST.out.mono ?_
  rintro e w2 ⟨rfl, hb2⟩
  have HX2 : Hid (BlkIs w2 g abE ls) := hid (HX.out.below hb2 (Nat.le_refl _))
  have HB2 : Hid (Below w.heap.size w w2) := hid (HB1.out.trans (hb2.mono hz1))
  clear hb2
  have CNT : Hid (Calls Tryd.prog 16 #[.pointer (some ⟨g, 0, none⟩)] w2 fun e w' => e = .returned (.int .i64 3) ∧ w2 = w') := hid (by
    have h := count_at g _ ls w2 HX2.out.blk
    rw [hl3] at h
    exact h)
  have OF : Hid (Calls Tryd.prog 14 #[.pointer (some ⟨g, 0, none⟩), .int .u8 97] w2 fun e w' => e = .returned (.int .i64 1) ∧ w2 = w') := hid (by
    have h := blkof_any g _ ls 97 (by omega) w2 HX2.out.blk
    rw [num_97] at h
    exact h)
  go_wp2_with fail
  refine CNT.out.mono ?_
  rintro e w3 ⟨rfl, hw3⟩
  obtain rfl : w2 = w3 := hw3
  go_wp2_with fail
  refine OF.out.mono ?_
  rintro e w4 ⟨rfl, hw4⟩
  obtain rfl : w2 = w4 := hw4
  go_wp2_with fail
  go_ret
  exact ⟨rfl, HB2.out⟩
/-- What is asked of no blocks. -/
theorem in_nil (s : W4) (w : World) :
    Calls Tryd.prog 20 #[.pointer none, .agg #[.int .u64 s.a, .int .u64 s.b, .int .u64 s.c, .int .u64 s.d]] w fun e w' => e = .returned (.tuple #[.slice none 0 0, .bool false]) ∧ Below w.heap.size w w' := by
  have hb1 := hid (below1 w (.cells #[.int .u64 s.a, .int .u64 s.b, .int .u64 s.c, .int .u64 s.d] 35))
  go_enter Tryd.func20, Tryd.ntmps20
  go_wp2_with fail
  go_ret2
  exact ⟨rfl, hb1.out⟩
theorem more_nil (s : W4) (w : World) :
    Calls Tryd.prog 19 #[.pointer none, .agg #[.int .u64 s.a, .int .u64 s.b, .int .u64 s.c, .int .u64 s.d]] w fun e w' => e = .returned (.pointer none) ∧ Below w.heap.size w w' := by
  have hb1 := hid (below1 w (.cells #[.int .u64 s.a, .int .u64 s.b, .int .u64 s.c, .int .u64 s.d] 35))
  go_enter Tryd.func19, Tryd.ntmps19
  go_wp2_with fail
  go_ret
  exact ⟨rfl, hb1.out⟩
theorem word_nil (w : World) :
    Calls Tryd.prog 24 #[.pointer none, .slice none 0 0] w fun e w' => e = .returned (.tuple #[.string ⟨#[]⟩, .bool false]) ∧ w = w' := by
  go_enter Tryd.func24, Tryd.ntmps24
  go_wp2_with fail
  go_ret2
  exact ⟨rfl, rfl⟩
theorem names_nil (v : ByteArray) (w : World) :
    Calls Tryd.prog 23 #[.pointer none, .string v] w fun e w' => e = .returned (.slice none 0 0) ∧ w = w' := by
  go_enter Tryd.func23, Tryd.ntmps23
  go_wp2_with fail
  go_ret
  exact ⟨rfl, rfl⟩
theorem in_none (i : Int) : inN i 0 = false := by
  unfold inN
  by_cases h : 0 ≤ i
  · have : ¬ i < ((0 : Nat) : Int) := by omega
    rw [decide_eq_false this, Bool.and_false]
  · rw [decide_eq_false h, Bool.false_and]
theorem setof_nil (i : Int) (w : World) :
    Calls Tryd.prog 17 #[.pointer none, .int .i64 i] w fun e w' => e = .returned noW.val ∧ Below w.heap.size w w' :=
  set_no none 0 i w (in_none i) (fun W => there_any none 0 i W (count_nil W))
theorem least_nil (i : Int) (w : World) (hT : ∀ w', Below w.heap.size w w' → Tab w') :
    Calls Tryd.prog 15 #[.pointer none, .int .i64 i] w fun e w' => e = .returned (.tuple #[.int .u8 0, .bool false]) ∧ Below w.heap.size w w' :=
  (least_any none i noW noW_fit w (setof_nil i w) hT).mono (by
    rintro e w' ⟨v, rfl, hf, hb⟩
    rcases hf with ⟨_, rfl⟩ | ⟨m, _, h, _, _⟩
    · exact ⟨rfl, hb⟩
    · rw [noW_mem] at h; cases h)
end Go.Proofs.YtkjbecdngjdkhaaDoor
