/- Contracts of token's reader: counts. Contracts of token's reader: bars, brackets, the greater number of a count. Contracts of token's reader: what opens a group; counts by a sign, and in braces. Contracts of token's reader: a count in braces. -/
import Derived.Test.YtenibhmjcafbiaaGreatDoorTokB
namespace Go.Proofs.YtenibhmjcafbiaaGreatDoor
section
section
open Go Go.RowKit
attribute [local go_sem ↓] Go.wp_at_zero Go.wp_at_succ
attribute [local go_sem] eq4
/-- A token, but for where it stands. -/
structure TokM where
  kind : Int
  set : W4
  lo : Int
  hi : Int
  lazy : Bool
def noTok : TokM := ⟨0, noW, 0, 0, false⟩
/-- A token's value: its kind, its place, its set, its numbers. -/
def TokM.val (t : TokM) (i j : Int) : Value := .agg #[.int .i64 t.kind, .int .i64 i, .int .i64 j, .int .u64 t.set.a, .int .u64 t.set.b, .int .u64 t.set.c, .int .u64 t.set.d, .int .i64 t.lo, .int .i64 t.hi, .bool t.lazy]
/-- What a token's rule answers. -/
def tokAns (t : TokM) (e : Int) : Value := .tuple #[t.val 0 0, .int .i64 e]
/-- What may stand behind a count's numbers. -/
def countR (s : ByteArray) (lo hi : Int) (k : Nat) : TokM × Int × Nat :=
  if bAt s k = 63 then (if bAt s (k + 1) = 43 then (noTok, 6, k + 1) else (⟨5, noW, lo, hi, true⟩, 0, k + 1))
  else (if bAt s k = 43 then (noTok, 6, k) else (⟨5, noW, lo, hi, false⟩, 0, k))
/-- The block of a token that is to be answered. -/
def tokObj : Obj := .cells #[.int .i64 0, .int .i64 0, .int .i64 0, .int .u64 0, .int .u64 0, .int .u64 0, .int .u64 0, .int .i64 0, .int .i64 0, .bool false] 90
theorem rd_alloc {w : World} {g k : Nat} {s : ByteArray} (h : RdAt w g s k) (o : Obj) : RdAt (w.alloc o) g s k := rd_below h (below1 w o)
theorem only_first {w w' : World} {o : Obj} {row : Option Nat} (h : (w.alloc o).grownBy w' row) : w.grownBy w' row := only_trans (only_alloc (only_refl w row) o) h
/-- What was laid ahead of a reader's calls lies there still. -/
theorem kept_first {w w' : World} {o : Obj} {g k j : Nat} {s : ByteArray} (h : RdAt w g s k) (hr : Rd (w.alloc o) w' g s j) : w'.heap[w.heap.size]? = some o := by
  rw [hr.2.block w.heap.size (by simp) (by have := h.lt; intro e; have e2 := Option.some.inj e; omega)]
  exact heap_new w o
theorem Rd.store {w w' : World} {g j b o : Nat} {s : ByteArray} (h : Rd w w' g s j) (hb : w.heap.size ≤ b) (hg : g < w.heap.size) (v : Value) : Rd w (w'.setCell ⟨b, o, none⟩ v) g s j := by
  obtain ⟨⟨c0, c1, fz, lt⟩, hk⟩ := h
  refine ⟨⟨?_, ?_, ?_, ?_⟩, only_setCell hk (.inr hb) _⟩
  · rw [World.cell?_setCell_other _ _ _ _ (by simp; try omega)]; exact c0
  · rw [World.cell?_setCell_other _ _ _ _ (by simp; try omega)]; exact c1
  · rw [World.frozen?_setCell]; exact fz
  · simpa [World.setCell] using lt
/-- A token is laid into its block, cell by cell. -/
abbrev tokPut (w : World) (b : Nat) (t : TokM) : World :=
  (((((((((w.setCell ⟨b, 0, none⟩ (.int .i64 t.kind)).setCell ⟨b, 1, none⟩ (.int .i64 0)).setCell ⟨b, 2, none⟩ (.int .i64 0)).setCell ⟨b, 3, none⟩ (.int .u64 t.set.a)).setCell ⟨b, 4, none⟩ (.int .u64 t.set.b)).setCell ⟨b, 5, none⟩ (.int .u64 t.set.c)).setCell ⟨b, 6, none⟩ (.int .u64 t.set.d)).setCell ⟨b, 7, none⟩ (.int .i64 t.lo)).setCell ⟨b, 8, none⟩ (.int .i64 t.hi)).setCell ⟨b, 9, none⟩ (.bool t.lazy)
theorem Rd.tok {w w' : World} {g j b : Nat} {s : ByteArray} (h : Rd w w' g s j) (hb : w.heap.size ≤ b) (hg : g < w.heap.size) (t : TokM) : Rd w (tokPut w' b t) g s j :=
  (((((((((h.store hb hg _).store hb hg _).store hb hg _).store hb hg _).store hb hg _).store hb hg _).store hb hg _).store hb hg _).store hb hg _).store hb hg _
theorem tok_cells {W : World} {b : Nat} (h : W.heap[b]? = some tokObj) :
    (W.cell? ⟨b, 0, none⟩ = some (.int .i64 0) ∧ W.cell? ⟨b, 1, none⟩ = some (.int .i64 0) ∧ W.cell? ⟨b, 2, none⟩ = some (.int .i64 0) ∧ W.cell? ⟨b, 3, none⟩ = some (.int .u64 0) ∧ W.cell? ⟨b, 4, none⟩ = some (.int .u64 0) ∧ W.cell? ⟨b, 5, none⟩ = some (.int .u64 0) ∧ W.cell? ⟨b, 6, none⟩ = some (.int .u64 0) ∧ W.cell? ⟨b, 7, none⟩ = some (.int .i64 0) ∧ W.cell? ⟨b, 8, none⟩ = some (.int .i64 0) ∧ W.cell? ⟨b, 9, none⟩ = some (.bool false)) ∧
    (W.frozen? ⟨b, 0, none⟩ = false ∧ W.frozen? ⟨b, 1, none⟩ = false ∧ W.frozen? ⟨b, 2, none⟩ = false ∧ W.frozen? ⟨b, 3, none⟩ = false ∧ W.frozen? ⟨b, 4, none⟩ = false ∧ W.frozen? ⟨b, 5, none⟩ = false ∧ W.frozen? ⟨b, 6, none⟩ = false ∧ W.frozen? ⟨b, 7, none⟩ = false ∧ W.frozen? ⟨b, 8, none⟩ = false ∧ W.frozen? ⟨b, 9, none⟩ = false) ∧ b < W.heap.size :=
  ⟨⟨Joins.cell_of_block h 0, Joins.cell_of_block h 1, Joins.cell_of_block h 2, Joins.cell_of_block h 3, Joins.cell_of_block h 4, Joins.cell_of_block h 5, Joins.cell_of_block h 6, Joins.cell_of_block h 7, Joins.cell_of_block h 8, Joins.cell_of_block h 9⟩,
   ⟨Joins.unfrozen_of_block h 0, Joins.unfrozen_of_block h 1, Joins.unfrozen_of_block h 2, Joins.unfrozen_of_block h 3, Joins.unfrozen_of_block h 4, Joins.unfrozen_of_block h 5, Joins.unfrozen_of_block h 6, Joins.unfrozen_of_block h 7, Joins.unfrozen_of_block h 8, Joins.unfrozen_of_block h 9⟩, Reg.size_of_get h⟩
set_option maxRecDepth 100000 in
set_option maxHeartbeats 4000000 in
theorem tcount_any (g k : Nat) (lo hi : Int) (s : ByteArray) (hs : s.size ≤ 1099511627776) (w : World) (h : RdAt w g s k) :
    Calls Tryz.prog 101 #[.pointer (some ⟨g, 0, none⟩), .int .i64 lo, .int .i64 hi] w fun e w' => e = .returned (tokAns (countR s lo hi k).1 (countR s lo hi k).2.1) ∧ Rd w w' g s (countR s lo hi k).2.2 := by
  have HH := qhid h
  have hlt := h.lt
  have HA := qhid (rd_alloc h tokObj)
  clear h
  by_cases h63 : bAt s k = 63
  · have SK := qhid (skip_yes g s k 63 (by omega) _ HA.out h63 hs)
    have SE := qhid (fun W (hW : RdAt W g s (k + 1)) => sees_any g s (k + 1) 43 (by omega) W hW)
    unfold tokObj at SK
    by_cases h43 : bAt s (k + 1) = 43
    · have hC : countR s lo hi k = (noTok, 6, k + 1) := by unfold countR; rw [if_pos h63, if_pos h43]
      rw [decide_eq_true h43] at SE
      rw [hC]
      clear hC h63 h43
      go_enter Tryz.func101, Tryz.ntmps101
      go_wp2_with fail
      refine SK.out.mono ?_
      rintro e w1 ⟨rfl, hr1⟩
      have HR1 := qhid hr1
      clear hr1
      go_wp2_with fail
      refine (SE.out _ HR1.out.1).mono ?_
      rintro e w2 ⟨rfl, n2, hw2⟩
      have HR2 : Hid (Rd (w.alloc tokObj) w2 g s (k + 1)) := qhid (by rw [hw2]; exact HR1.out.drewN n2)
      clear hw2
      obtain ⟨⟨q0, q1, q2, q3, q4, q5, q6, q7, q8, q9⟩, ⟨f0, f1, f2, f3, f4, f5, f6, f7, f8, f9⟩, _hsz⟩ := tok_cells (kept_first HH.out HR2.out)
      have HRw : Hid (Rd w w2 g s (k + 1)) := qhid ⟨HR2.out.1, only_first HR2.out.2⟩
      go_wp2_with fail
      refine bodyPost_ret (v := tokAns noTok 6) (by simp [results, Tryz.results101, go_sem, tokAns, TokM.val, noTok, noW, q0, q1, q2, q3, q4, q5, q6, q7, q8, q9]) rfl ⟨rfl, ?_⟩
      exact HRw.out.tok (Nat.le_refl _) hlt noTok
    · have hC : countR s lo hi k = (⟨5, noW, lo, hi, true⟩, 0, k + 1) := by unfold countR; rw [if_pos h63, if_neg h43]
      rw [decide_eq_false h43] at SE
      rw [hC]
      clear hC h63 h43
      go_enter Tryz.func101, Tryz.ntmps101
      go_wp2_with fail
      refine SK.out.mono ?_
      rintro e w1 ⟨rfl, hr1⟩
      have HR1 := qhid hr1
      clear hr1
      go_wp2_with fail
      refine (SE.out _ HR1.out.1).mono ?_
      rintro e w2 ⟨rfl, n2, hw2⟩
      have HR2 : Hid (Rd (w.alloc tokObj) w2 g s (k + 1)) := qhid (by rw [hw2]; exact HR1.out.drewN n2)
      clear hw2
      obtain ⟨⟨q0, q1, q2, q3, q4, q5, q6, q7, q8, q9⟩, ⟨f0, f1, f2, f3, f4, f5, f6, f7, f8, f9⟩, _hsz⟩ := tok_cells (kept_first HH.out HR2.out)
      have HRw : Hid (Rd w w2 g s (k + 1)) := qhid ⟨HR2.out.1, only_first HR2.out.2⟩
      go_wp2_with fail
      refine bodyPost_ret (v := tokAns ⟨5, noW, lo, hi, true⟩ 0) (by simp [results, Tryz.results101, go_sem, tokAns, TokM.val, noW, q0, q1, q2, q3, q4, q5, q6, q7, q8, q9]) rfl ⟨rfl, ?_⟩
      exact HRw.out.tok (Nat.le_refl _) hlt ⟨5, noW, lo, hi, true⟩
  · have SK := qhid (skip_no g s k 63 (by omega) _ HA.out h63)
    have SE := qhid (fun W (hW : RdAt W g s k) => sees_any g s k 43 (by omega) W hW)
    unfold tokObj at SK
    by_cases h43 : bAt s k = 43
    · have hC : countR s lo hi k = (noTok, 6, k) := by unfold countR; rw [if_neg h63, if_pos h43]
      rw [decide_eq_true h43] at SE
      rw [hC]
      clear hC h63 h43
      go_enter Tryz.func101, Tryz.ntmps101
      go_wp2_with fail
      refine SK.out.mono ?_
      rintro e w1 ⟨rfl, n1, hw1⟩
      have HR1 : Hid (Rd (w.alloc tokObj) w1 g s k) := qhid (by rw [hw1]; exact (Rd.refl HA.out).drewN n1)
      clear hw1
      go_wp2_with fail
      refine (SE.out _ HR1.out.1).mono ?_
      rintro e w2 ⟨rfl, n2, hw2⟩
      have HR2 : Hid (Rd (w.alloc tokObj) w2 g s k) := qhid (by rw [hw2]; exact HR1.out.drewN n2)
      clear hw2
      obtain ⟨⟨q0, q1, q2, q3, q4, q5, q6, q7, q8, q9⟩, ⟨f0, f1, f2, f3, f4, f5, f6, f7, f8, f9⟩, _hsz⟩ := tok_cells (kept_first HH.out HR2.out)
      have HRw : Hid (Rd w w2 g s k) := qhid ⟨HR2.out.1, only_first HR2.out.2⟩
      go_wp2_with fail
      refine bodyPost_ret (v := tokAns noTok 6) (by simp [results, Tryz.results101, go_sem, tokAns, TokM.val, noTok, noW, q0, q1, q2, q3, q4, q5, q6, q7, q8, q9]) rfl ⟨rfl, ?_⟩
      exact HRw.out.tok (Nat.le_refl _) hlt noTok
    · have hC : countR s lo hi k = (⟨5, noW, lo, hi, false⟩, 0, k) := by unfold countR; rw [if_neg h63, if_neg h43]
      rw [decide_eq_false h43] at SE
      rw [hC]
      clear hC h63 h43
      go_enter Tryz.func101, Tryz.ntmps101
      go_wp2_with fail
      refine SK.out.mono ?_
      rintro e w1 ⟨rfl, n1, hw1⟩
      have HR1 : Hid (Rd (w.alloc tokObj) w1 g s k) := qhid (by rw [hw1]; exact (Rd.refl HA.out).drewN n1)
      clear hw1
      go_wp2_with fail
      refine (SE.out _ HR1.out.1).mono ?_
      rintro e w2 ⟨rfl, n2, hw2⟩
      have HR2 : Hid (Rd (w.alloc tokObj) w2 g s k) := qhid (by rw [hw2]; exact HR1.out.drewN n2)
      clear hw2
      obtain ⟨⟨q0, q1, q2, q3, q4, q5, q6, q7, q8, q9⟩, ⟨f0, f1, f2, f3, f4, f5, f6, f7, f8, f9⟩, _hsz⟩ := tok_cells (kept_first HH.out HR2.out)
      have HRw : Hid (Rd w w2 g s k) := qhid ⟨HR2.out.1, only_first HR2.out.2⟩
      go_wp2_with fail
      refine bodyPost_ret (v := tokAns ⟨5, noW, lo, hi, false⟩ 0) (by simp [results, Tryz.results101, go_sem, tokAns, TokM.val, noW, q0, q1, q2, q3, q4, q5, q6, q7, q8, q9]) rfl ⟨rfl, ?_⟩
      exact HRw.out.tok (Nat.le_refl _) hlt ⟨5, noW, lo, hi, false⟩
end
section
open Go Go.RowKit
attribute [local go_sem ↓] Go.wp_at_zero Go.wp_at_succ
attribute [local go_sem] eq4
set_option maxRecDepth 100000 in
set_option maxHeartbeats 2000000 in
theorem tbar_any (g k : Nat) (s : ByteArray) (hk : k < s.size) (hs : s.size ≤ 1099511627776) (w : World) (h : RdAt w g s k) :
    Calls Tryz.prog 75 #[.pointer (some ⟨g, 0, none⟩)] w fun e w' => e = .returned (tokAns ⟨4, noW, 0, 0, false⟩ 0) ∧ Rd w w' g s (k + 1) := by
  have HH := qhid h
  have hlt := h.lt
  have HA := qhid (rd_alloc h tokObj)
  have ST := qhid (tstep_any g 1 1 s k (by omega) _ HA.out rfl)
  unfold tokObj at ST
  clear h
  go_enter Tryz.func75, Tryz.ntmps75
  go_wp2_with fail
  refine ST.out.mono ?_
  rintro e w2 ⟨rfl, hw2⟩
  have HR2 : Hid (Rd (w.alloc tokObj) w2 g s (k + 1)) := qhid ((Rd.refl HA.out).put (by rw [hw2]; rfl))
  clear hw2
  obtain ⟨⟨q0, q1, q2, q3, q4, q5, q6, q7, q8, q9⟩, ⟨f0, f1, f2, f3, f4, f5, f6, f7, f8, f9⟩, _hsz⟩ := tok_cells (kept_first HH.out HR2.out)
  have HRw : Hid (Rd w w2 g s (k + 1)) := qhid ⟨HR2.out.1, only_first HR2.out.2⟩
  go_wp2_with fail
  refine bodyPost_ret (v := tokAns ⟨4, noW, 0, 0, false⟩ 0) (by simp [results, Tryz.results75, go_sem, tokAns, TokM.val, noW, q0, q1, q2, q3, q4, q5, q6, q7, q8, q9]) rfl ⟨rfl, ?_⟩
  exact HRw.out.tok (Nat.le_refl _) hlt ⟨4, noW, 0, 0, false⟩
set_option maxRecDepth 100000 in
set_option maxHeartbeats 2000000 in
theorem tclose_any (g k : Nat) (s : ByteArray) (hk : k < s.size) (hs : s.size ≤ 1099511627776) (w : World) (h : RdAt w g s k) :
    Calls Tryz.prog 77 #[.pointer (some ⟨g, 0, none⟩)] w fun e w' => e = .returned (tokAns ⟨3, noW, 0, 0, false⟩ 0) ∧ Rd w w' g s (k + 1) := by
  have HH := qhid h
  have hlt := h.lt
  have HA := qhid (rd_alloc h tokObj)
  have ST := qhid (tstep_any g 1 1 s k (by omega) _ HA.out rfl)
  unfold tokObj at ST
  clear h
  go_enter Tryz.func77, Tryz.ntmps77
  go_wp2_with fail
  refine ST.out.mono ?_
  rintro e w2 ⟨rfl, hw2⟩
  have HR2 : Hid (Rd (w.alloc tokObj) w2 g s (k + 1)) := qhid ((Rd.refl HA.out).put (by rw [hw2]; rfl))
  clear hw2
  obtain ⟨⟨q0, q1, q2, q3, q4, q5, q6, q7, q8, q9⟩, ⟨f0, f1, f2, f3, f4, f5, f6, f7, f8, f9⟩, _hsz⟩ := tok_cells (kept_first HH.out HR2.out)
  have HRw : Hid (Rd w w2 g s (k + 1)) := qhid ⟨HR2.out.1, only_first HR2.out.2⟩
  go_wp2_with fail
  refine bodyPost_ret (v := tokAns ⟨3, noW, 0, 0, false⟩ 0) (by simp [results, Tryz.results77, go_sem, tokAns, TokM.val, noW, q0, q1, q2, q3, q4, q5, q6, q7, q8, q9]) rfl ⟨rfl, ?_⟩
  exact HRw.out.tok (Nat.le_refl _) hlt ⟨3, noW, 0, 0, false⟩
/-- What comes of a count's greater number. -/
def mostR (s : ByteArray) (lo : Int) (k : Nat) : Int × Int × Nat :=
  if bAt s k = 125 then (-1, 0, k) else if (numR s k).2.1 = 0 ∧ (numR s k).1 < lo then (0, 5, k) else numR s k
theorem numR_place (s : ByteArray) (a : Nat) : (numR s a).2.2 ≤ a + dall s a := by
  unfold numR
  split
  · exact Nat.le_add_right _ _
  · split
    · exact Nat.le_add_right _ _
    · exact Nat.le_refl _
theorem dall_size {s : ByteArray} {a : Nat} (h : a ≤ s.size) : a + dall s a ≤ s.size := by
  have := dlen_le s (s.size - a) a
  unfold dall
  omega
theorem numR_val (s : ByteArray) (a : Nat) : 0 ≤ (numR s a).1 ∧ (numR s a).1 ≤ 1001 ∧ ((numR s a).2.1 = 0 ∨ (numR s a).2.1 = 4 ∨ (numR s a).2.1 = 5) := by
  unfold numR
  split
  · exact ⟨by simp, by simp, by simp⟩
  · split
    · exact ⟨by simp, by simp, by simp⟩
    · have := nval_le s a (dall s a)
      refine ⟨by simp, ?_, by simp⟩
      show ((nval s a (dall s a) : Nat) : Int) ≤ 1001
      omega
set_option maxRecDepth 100000 in
set_option maxHeartbeats 2000000 in
theorem tmost_any (g k : Nat) (lo : Int) (s : ByteArray) (hk : k ≤ s.size) (hs : s.size ≤ 1099511627776) (w : World) (h : RdAt w g s k) :
    Calls Tryz.prog 103 #[.pointer (some ⟨g, 0, none⟩), .int .i64 lo] w fun e w' => e = .returned (.tuple #[.int .i64 (mostR s lo k).1, .int .i64 (mostR s lo k).2.1]) ∧ Rd w w' g s (mostR s lo k).2.2 := by
  have HH := qhid h
  have SE := qhid (sees_any g s k 125 (by omega) w h)
  clear h
  by_cases h125 : bAt s k = 125
  · have HM : Hid (mostR s lo k = (-1, 0, k)) := qhid (by unfold mostR; rw [if_pos h125])
    rw [decide_eq_true h125] at SE
    clear h125
    go_enter Tryz.func103, Tryz.ntmps103
    go_wp2_with fail
    refine SE.out.mono ?_
    rintro e w1 ⟨rfl, n1, hw1⟩
    have HR1 : Hid (Rd w w1 g s k) := qhid (by rw [hw1]; exact (Rd.refl HH.out).drewN n1)
    clear hw1
    go_wp2_with fail
    go_ret2
    exact fin2 HM.out HR1.out
  · have HM : Hid (mostR s lo k = if (numR s k).2.1 = 0 ∧ (numR s k).1 < lo then (0, 5, k) else numR s k) := qhid (by unfold mostR; rw [if_neg h125])
    rw [decide_eq_false h125] at SE
    have NUM := qhid (fun W (hW : RdAt W g s k) => tnumber_any g k s hk hs W hW)
    have hnv := (numR_val s k).2.2
    obtain ⟨r, hr⟩ : ∃ r, r = numR s k := ⟨_, rfl⟩
    rw [← hr] at HM NUM hnv
    clear h125 hr
    obtain ⟨x, c, j⟩ := r
    have HM' : Hid (mostR s lo k = if c = 0 ∧ x < lo then (0, 5, k) else (x, c, j)) := HM
    have NUM' : Hid (∀ W, RdAt W g s k → Calls Tryz.prog 102 #[.pointer (some ⟨g, 0, none⟩)] W fun e w' => e = .returned (.tuple #[.int .i64 x, .int .i64 c]) ∧ Rd W w' g s j) := NUM
    have hc : c = 0 ∨ ((c : Int) == 0) = false := by
      rcases hnv with h | h | h
      · exact .inl h
      · right; have : c = 4 := h; rw [this]; rfl
      · right; have : c = 5 := h; rw [this]; rfl
    have hc2 : c ≠ 0 ∨ c = 0 := by by_cases h : c = 0; exact .inr h; exact .inl h
    clear HM NUM hnv hc2
    have WALK : ∀ (_ : True), True := fun _ => trivial
    clear WALK
    rcases hc with rfl | hc0
    · by_cases hx : x < lo
      · have HF : Hid (mostR s lo k = (0, 5, k)) := qhid (by rw [HM'.out, if_pos ⟨rfl, hx⟩])
        have dx : decide (x < lo) = true := decide_eq_true hx
        go_enter Tryz.func103, Tryz.ntmps103
        go_wp2_with fail
        refine SE.out.mono ?_
        rintro e w1 ⟨rfl, n1, hw1⟩
        have HR1 : Hid (Rd w w1 g s k) := qhid (by rw [hw1]; exact (Rd.refl HH.out).drewN n1)
        obtain ⟨r0, r1, rz, rl⟩ := HR1.out.1
        clear hw1
        go_wp2_with fail
        refine (NUM'.out _ HR1.out.1).mono ?_
        rintro e w2 ⟨rfl, hr2⟩
        have HR2 := qhid (HR1.out.trans hr2)
        have TB := qhid (tback_any g k 5 s j w2 hr2.1)
        clear hr2 r0 r1 rz rl
        go_wp2_with fail
        refine TB.out.mono ?_
        rintro e w3 ⟨rfl, hw3⟩
        have HR3 := qhid (HR2.out.put hw3)
        clear hw3
        go_wp2_with fail
        go_ret2
        exact fin2 HF.out HR3.out
      · have HF : Hid (mostR s lo k = (x, 0, j)) := qhid (by rw [HM'.out, if_neg (fun h => hx h.2)])
        have dx : decide (x < lo) = false := decide_eq_false hx
        go_enter Tryz.func103, Tryz.ntmps103
        go_wp2_with fail
        refine SE.out.mono ?_
        rintro e w1 ⟨rfl, n1, hw1⟩
        have HR1 : Hid (Rd w w1 g s k) := qhid (by rw [hw1]; exact (Rd.refl HH.out).drewN n1)
        obtain ⟨r0, r1, rz, rl⟩ := HR1.out.1
        clear hw1
        go_wp2_with fail
        refine (NUM'.out _ HR1.out.1).mono ?_
        rintro e w2 ⟨rfl, hr2⟩
        have HR2 := qhid (HR1.out.trans hr2)
        clear hr2 r0 r1 rz rl
        go_wp2_with fail
        go_ret2
        exact fin2 HF.out HR2.out
    · have HF : Hid (mostR s lo k = (x, c, j)) := qhid (by rw [HM'.out, if_neg (fun h => by rw [h.1] at hc0; exact absurd hc0 (by decide))])
      go_enter Tryz.func103, Tryz.ntmps103
      go_wp2_with fail
      refine SE.out.mono ?_
      rintro e w1 ⟨rfl, n1, hw1⟩
      have HR1 : Hid (Rd w w1 g s k) := qhid (by rw [hw1]; exact (Rd.refl HH.out).drewN n1)
      obtain ⟨r0, r1, rz, rl⟩ := HR1.out.1
      clear hw1
      go_wp2_with fail
      refine (NUM'.out _ HR1.out.1).mono ?_
      rintro e w2 ⟨rfl, hr2⟩
      have HR2 := qhid (HR1.out.trans hr2)
      clear hr2 r0 r1 rz rl
      go_wp2_with fail
      go_ret2
      exact fin2 HF.out HR2.out
end
end
section
open Go Go.RowKit
attribute [local go_sem ↓] Go.wp_at_zero Go.wp_at_succ
attribute [local go_sem] eq4
theorem finT {t : TokM} {c : Int} {j : Nat} {r : TokM × Int × Nat} (h : r = (t, c, j)) {w w' : World} {g : Nat} {s : ByteArray} (hr : Rd w w' g s j) :
    Ending.returned (tokAns t c) = .returned (tokAns r.1 r.2.1) ∧ Rd w w' g s r.2.2 := by subst h; exact ⟨rfl, hr⟩
/-- What comes of an open bracket. -/
def openR (s : ByteArray) (k : Nat) : TokM × Int × Nat :=
  if bAt s (k + 1) = 63 then (if bAt s (k + 1 + 1) = 58 then (⟨2, noW, 0, 0, false⟩, 0, k + 1 + 1 + 1) else (noTok, 6, k)) else (⟨1, noW, 0, 0, false⟩, 0, k + 1)
set_option maxRecDepth 100000 in
set_option maxHeartbeats 4000000 in
theorem topen_any (g k : Nat) (s : ByteArray) (hk : k < s.size) (hs : s.size ≤ 1099511627776) (w : World) (h : RdAt w g s k) :
    Calls Tryz.prog 76 #[.pointer (some ⟨g, 0, none⟩)] w fun e w' => e = .returned (tokAns (openR s k).1 (openR s k).2.1) ∧ Rd w w' g s (openR s k).2.2 := by
  have HH := qhid h
  have hlt := h.lt
  have HA := qhid (rd_alloc h tokObj)
  have ST := qhid (tstep_any g 1 1 s k (by omega) _ HA.out rfl)
  obtain ⟨r0, r1, rz, rl⟩ := HA.out
  unfold tokObj at ST r0 r1 rz rl
  clear h
  by_cases h63 : bAt s (k + 1) = 63
  · have SK := qhid (fun W (hW : RdAt W g s (k + 1)) => skip_yes g s (k + 1) 63 (by omega) W hW h63 hs)
    by_cases h58 : bAt s (k + 1 + 1) = 58
    · have HF : Hid (openR s k = (⟨2, noW, 0, 0, false⟩, 0, k + 1 + 1 + 1)) := qhid (by unfold openR; rw [if_pos h63, if_pos h58])
      have SL := qhid (fun W (hW : RdAt W g s (k + 1 + 1)) => skip_yes g s (k + 1 + 1) 58 (by omega) W hW h58 hs)
      clear h63 h58
      go_enter Tryz.func76, Tryz.ntmps76
      go_wp2_with fail
      refine ST.out.mono ?_
      rintro e w2 ⟨rfl, hw2⟩
      have HR2 : Hid (Rd (w.alloc tokObj) w2 g s (k + 1)) := qhid ((Rd.refl HA.out).put (by rw [hw2]; rfl))
      clear hw2 r0 r1 rz rl
      go_wp2_with fail
      refine (SK.out _ HR2.out.1).mono ?_
      rintro e w3 ⟨rfl, hr3⟩
      have HR3 := qhid (HR2.out.trans hr3)
      clear hr3
      go_wp2_with fail
      refine (SL.out _ HR3.out.1).mono ?_
      rintro e w4 ⟨rfl, hr4⟩
      have HR4 := qhid (HR3.out.trans hr4)
      clear hr4
      obtain ⟨⟨q0, q1, q2, q3, q4, q5, q6, q7, q8, q9⟩, ⟨f0, f1, f2, f3, f4, f5, f6, f7, f8, f9⟩, _hsz⟩ := tok_cells (kept_first HH.out HR4.out)
      have HRw : Hid (Rd w w4 g s (k + 1 + 1 + 1)) := qhid ⟨HR4.out.1, only_first HR4.out.2⟩
      go_wp2_with fail
      refine bodyPost_ret (v := tokAns ⟨2, noW, 0, 0, false⟩ 0) (by simp [results, Tryz.results76, go_sem, tokAns, TokM.val, noW, q0, q1, q2, q3, q4, q5, q6, q7, q8, q9]) rfl (finT HF.out ?_)
      exact HRw.out.tok (Nat.le_refl _) hlt ⟨2, noW, 0, 0, false⟩
    · have HF : Hid (openR s k = (noTok, 6, k)) := qhid (by unfold openR; rw [if_pos h63, if_neg h58])
      have SL := qhid (fun W (hW : RdAt W g s (k + 1 + 1)) => skip_no g s (k + 1 + 1) 58 (by omega) W hW h58)
      clear h63 h58
      go_enter Tryz.func76, Tryz.ntmps76
      go_wp2_with fail
      refine ST.out.mono ?_
      rintro e w2 ⟨rfl, hw2⟩
      have HR2 : Hid (Rd (w.alloc tokObj) w2 g s (k + 1)) := qhid ((Rd.refl HA.out).put (by rw [hw2]; rfl))
      clear hw2 r0 r1 rz rl
      go_wp2_with fail
      refine (SK.out _ HR2.out.1).mono ?_
      rintro e w3 ⟨rfl, hr3⟩
      have HR3 := qhid (HR2.out.trans hr3)
      clear hr3
      go_wp2_with fail
      refine (SL.out _ HR3.out.1).mono ?_
      rintro e w4 ⟨rfl, n4, hw4⟩
      have HR4 : Hid (Rd (w.alloc tokObj) w4 g s (k + 1 + 1)) := qhid (by rw [hw4]; exact HR3.out.drewN n4)
      have TB := qhid (tback_any g k 6 s (k + 1 + 1) w4 HR4.out.1)
      clear hw4
      go_wp2_with fail
      refine TB.out.mono ?_
      rintro e w5 ⟨rfl, hw5⟩
      have HR5 : Hid (Rd (w.alloc tokObj) w5 g s k) := qhid (HR4.out.put hw5)
      clear hw5
      obtain ⟨⟨q0, q1, q2, q3, q4, q5, q6, q7, q8, q9⟩, ⟨f0, f1, f2, f3, f4, f5, f6, f7, f8, f9⟩, _hsz⟩ := tok_cells (kept_first HH.out HR5.out)
      have HRw : Hid (Rd w w5 g s k) := qhid ⟨HR5.out.1, only_first HR5.out.2⟩
      go_wp2_with fail
      refine bodyPost_ret (v := tokAns noTok 6) (by simp [results, Tryz.results76, go_sem, tokAns, TokM.val, noTok, noW, q0, q1, q2, q3, q4, q5, q6, q7, q8, q9]) rfl (finT HF.out ?_)
      exact HRw.out.tok (Nat.le_refl _) hlt noTok
  · have HF : Hid (openR s k = (⟨1, noW, 0, 0, false⟩, 0, k + 1)) := qhid (by unfold openR; rw [if_neg h63])
    have SK := qhid (fun W (hW : RdAt W g s (k + 1)) => skip_no g s (k + 1) 63 (by omega) W hW h63)
    clear h63
    go_enter Tryz.func76, Tryz.ntmps76
    go_wp2_with fail
    refine ST.out.mono ?_
    rintro e w2 ⟨rfl, hw2⟩
    have HR2 : Hid (Rd (w.alloc tokObj) w2 g s (k + 1)) := qhid ((Rd.refl HA.out).put (by rw [hw2]; rfl))
    clear hw2 r0 r1 rz rl
    go_wp2_with fail
    refine (SK.out _ HR2.out.1).mono ?_
    rintro e w3 ⟨rfl, n3, hw3⟩
    have HR3 : Hid (Rd (w.alloc tokObj) w3 g s (k + 1)) := qhid (by rw [hw3]; exact HR2.out.drewN n3)
    clear hw3
    obtain ⟨⟨q0, q1, q2, q3, q4, q5, q6, q7, q8, q9⟩, ⟨f0, f1, f2, f3, f4, f5, f6, f7, f8, f9⟩, _hsz⟩ := tok_cells (kept_first HH.out HR3.out)
    have HRw : Hid (Rd w w3 g s (k + 1)) := qhid ⟨HR3.out.1, only_first HR3.out.2⟩
    go_wp2_with fail
    refine bodyPost_ret (v := tokAns ⟨1, noW, 0, 0, false⟩ 0) (by simp [results, Tryz.results76, go_sem, tokAns, TokM.val, noW, q0, q1, q2, q3, q4, q5, q6, q7, q8, q9]) rfl (finT HF.out ?_)
    exact HRw.out.tok (Nat.le_refl _) hlt ⟨1, noW, 0, 0, false⟩
/-- What comes of a count's sign. -/
def signR (s : ByteArray) (k : Nat) : TokM × Int × Nat := if bAt s k = 42 then countR s 0 (-1) (k + 1) else if bAt s k = 43 then countR s 1 (-1) (k + 1) else countR s 0 1 (k + 1)
set_option maxRecDepth 100000 in
set_option maxHeartbeats 4000000 in
theorem tsign_any (g k : Nat) (s : ByteArray) (hk : k < s.size) (hs : s.size ≤ 1099511627776) (w : World) (h : RdAt w g s k) :
    Calls Tryz.prog 78 #[.pointer (some ⟨g, 0, none⟩)] w fun e w' => e = .returned (tokAns (signR s k).1 (signR s k).2.1) ∧ Rd w w' g s (signR s k).2.2 := by
  have HH := qhid h
  have hlt := h.lt
  have HA := qhid (rd_alloc h tokObj)
  have ST := qhid (fun n => tstep_any g 1 1 s k (by omega) ((w.alloc tokObj).drewN n) (only_rd HA.out n) rfl)
  obtain ⟨r0, r1, rz, rl⟩ := HA.out
  unfold tokObj at ST r0 r1 rz rl
  clear h
  have hcase : bAt s k = 42 ∨ (bAt s k ≠ 42 ∧ bAt s k = 43) ∨ (bAt s k ≠ 42 ∧ bAt s k ≠ 43) := by
    by_cases h1 : bAt s k = 42
    · exact .inl h1
    · by_cases h2 : bAt s k = 43
      · exact .inr (.inl ⟨h1, h2⟩)
      · exact .inr (.inr ⟨h1, h2⟩)
  rcases hcase with h42 | ⟨h42, h43⟩ | ⟨h42, h43⟩
  · have hb : ((s[k]'hk).toNat) = bAt s k := (bAt_in hk).symm
    have HB := qhid hb
    have CT := qhid (fun W (hW : RdAt W g s (k + 1)) => tcount_any g (k + 1) (0) (-1) s hs W hW)
    have HF : Hid (signR s k = countR s (0) (-1) (k + 1)) := qhid (by unfold signR; rw [if_pos h42])
    have g1 : (((s[k]'hk).toNat : Int) == 42) = true := by rw [hb, h42]; rfl
    clear h42
    obtain ⟨r, hr⟩ : ∃ r, r = countR s (0) (-1) (k + 1) := ⟨_, rfl⟩
    rw [← hr] at CT HF
    clear hr hb
    obtain ⟨t, c, j⟩ := r
    have CT' : Hid (∀ W, RdAt W g s (k + 1) → Calls Tryz.prog 101 #[.pointer (some ⟨g, 0, none⟩), .int .i64 (0), .int .i64 (-1)] W fun e w' => e = .returned (tokAns t c) ∧ Rd W w' g s j) := CT
    clear CT
    go_enter Tryz.func78, Tryz.ntmps78
    go_wp2_with fail
    go_quiet (fail)
    go_wp2_with fail
    refine (ST.out nq).mono ?_
    rintro e w2 ⟨rfl, hw2⟩
    have HR2 : Hid (Rd (w.alloc tokObj) w2 g s (k + 1)) := qhid (((Rd.refl HA.out).drewN nq).put (by rw [hw2]; rfl))
    clear hw2 r0 r1 rz rl
    go_wp2_with fail
    refine (CT'.out _ HR2.out.1).mono ?_
    rintro e w3 ⟨rfl, hr3⟩
    have HR3 := qhid (HR2.out.trans hr3)
    clear hr3
    unfold tokAns TokM.val
    obtain ⟨⟨q0, q1, q2, q3, q4, q5, q6, q7, q8, q9⟩, ⟨f0, f1, f2, f3, f4, f5, f6, f7, f8, f9⟩, _hsz⟩ := tok_cells (kept_first HH.out HR3.out)
    have HRw : Hid (Rd w w3 g s j) := qhid ⟨HR3.out.1, only_first HR3.out.2⟩
    go_wp2_with fail
    refine bodyPost_ret (v := tokAns t c) (by simp [results, Tryz.results78, go_sem, tokAns, TokM.val, q0, q1, q2, q3, q4, q5, q6, q7, q8, q9]) rfl (finT HF.out ?_)
    exact HRw.out.tok (Nat.le_refl _) hlt t
  · have hb : ((s[k]'hk).toNat) = bAt s k := (bAt_in hk).symm
    have HB := qhid hb
    have CT := qhid (fun W (hW : RdAt W g s (k + 1)) => tcount_any g (k + 1) (1) (-1) s hs W hW)
    have HF : Hid (signR s k = countR s (1) (-1) (k + 1)) := qhid (by unfold signR; rw [if_neg h42, if_pos h43])
    have g1 : (((s[k]'hk).toNat : Int) == 42) = false := by rw [hb]; simp; omega
    have g2 : (((s[k]'hk).toNat : Int) == 43) = true := by rw [hb, h43]; rfl
    clear h42 h43
    obtain ⟨r, hr⟩ : ∃ r, r = countR s (1) (-1) (k + 1) := ⟨_, rfl⟩
    rw [← hr] at CT HF
    clear hr hb
    obtain ⟨t, c, j⟩ := r
    have CT' : Hid (∀ W, RdAt W g s (k + 1) → Calls Tryz.prog 101 #[.pointer (some ⟨g, 0, none⟩), .int .i64 (1), .int .i64 (-1)] W fun e w' => e = .returned (tokAns t c) ∧ Rd W w' g s j) := CT
    clear CT
    go_enter Tryz.func78, Tryz.ntmps78
    go_wp2_with fail
    go_quiet (fail)
    go_wp2_with fail
    refine (ST.out nq).mono ?_
    rintro e w2 ⟨rfl, hw2⟩
    have HR2 : Hid (Rd (w.alloc tokObj) w2 g s (k + 1)) := qhid (((Rd.refl HA.out).drewN nq).put (by rw [hw2]; rfl))
    clear hw2 r0 r1 rz rl
    go_wp2_with fail
    refine (CT'.out _ HR2.out.1).mono ?_
    rintro e w3 ⟨rfl, hr3⟩
    have HR3 := qhid (HR2.out.trans hr3)
    clear hr3
    unfold tokAns TokM.val
    obtain ⟨⟨q0, q1, q2, q3, q4, q5, q6, q7, q8, q9⟩, ⟨f0, f1, f2, f3, f4, f5, f6, f7, f8, f9⟩, _hsz⟩ := tok_cells (kept_first HH.out HR3.out)
    have HRw : Hid (Rd w w3 g s j) := qhid ⟨HR3.out.1, only_first HR3.out.2⟩
    go_wp2_with fail
    refine bodyPost_ret (v := tokAns t c) (by simp [results, Tryz.results78, go_sem, tokAns, TokM.val, q0, q1, q2, q3, q4, q5, q6, q7, q8, q9]) rfl (finT HF.out ?_)
    exact HRw.out.tok (Nat.le_refl _) hlt t
  · have hb : ((s[k]'hk).toNat) = bAt s k := (bAt_in hk).symm
    have HB := qhid hb
    have CT := qhid (fun W (hW : RdAt W g s (k + 1)) => tcount_any g (k + 1) (0) (1) s hs W hW)
    have HF : Hid (signR s k = countR s (0) (1) (k + 1)) := qhid (by unfold signR; rw [if_neg h42, if_neg h43])
    have g1 : (((s[k]'hk).toNat : Int) == 42) = false := by rw [hb]; simp; omega
    have g2 : (((s[k]'hk).toNat : Int) == 43) = false := by rw [hb]; simp; omega
    clear h42 h43
    obtain ⟨r, hr⟩ : ∃ r, r = countR s (0) (1) (k + 1) := ⟨_, rfl⟩
    rw [← hr] at CT HF
    clear hr hb
    obtain ⟨t, c, j⟩ := r
    have CT' : Hid (∀ W, RdAt W g s (k + 1) → Calls Tryz.prog 101 #[.pointer (some ⟨g, 0, none⟩), .int .i64 (0), .int .i64 (1)] W fun e w' => e = .returned (tokAns t c) ∧ Rd W w' g s j) := CT
    clear CT
    go_enter Tryz.func78, Tryz.ntmps78
    go_wp2_with fail
    go_quiet (fail)
    go_wp2_with fail
    refine (ST.out nq).mono ?_
    rintro e w2 ⟨rfl, hw2⟩
    have HR2 : Hid (Rd (w.alloc tokObj) w2 g s (k + 1)) := qhid (((Rd.refl HA.out).drewN nq).put (by rw [hw2]; rfl))
    clear hw2 r0 r1 rz rl
    go_wp2_with fail
    refine (CT'.out _ HR2.out.1).mono ?_
    rintro e w3 ⟨rfl, hr3⟩
    have HR3 := qhid (HR2.out.trans hr3)
    clear hr3
    unfold tokAns TokM.val
    obtain ⟨⟨q0, q1, q2, q3, q4, q5, q6, q7, q8, q9⟩, ⟨f0, f1, f2, f3, f4, f5, f6, f7, f8, f9⟩, _hsz⟩ := tok_cells (kept_first HH.out HR3.out)
    have HRw : Hid (Rd w w3 g s j) := qhid ⟨HR3.out.1, only_first HR3.out.2⟩
    go_wp2_with fail
    refine bodyPost_ret (v := tokAns t c) (by simp [results, Tryz.results78, go_sem, tokAns, TokM.val, q0, q1, q2, q3, q4, q5, q6, q7, q8, q9]) rfl (finT HF.out ?_)
    exact HRw.out.tok (Nat.le_refl _) hlt t
end
section
open Go Go.RowKit
attribute [local go_sem ↓] Go.wp_at_zero Go.wp_at_succ
attribute [local go_sem] eq4
/-- What comes of a count, up to its closing brace. -/
def shutR (s : ByteArray) (lo hi : Int) (j : Nat) : TokM × Int × Nat := if bAt s j = 125 then countR s lo hi (j + 1) else (noTok, 4, j)
/-- What comes of a count in braces. -/
def bracesR (s : ByteArray) (k : Nat) : TokM × Int × Nat :=
  if (numR s (k + 1)).2.1 ≠ 0 then (noTok, (numR s (k + 1)).2.1, (numR s (k + 1)).2.2)
  else if bAt s (numR s (k + 1)).2.2 = 44 then
    (if (mostR s (numR s (k + 1)).1 ((numR s (k + 1)).2.2 + 1)).2.1 ≠ 0 then (noTok, (mostR s (numR s (k + 1)).1 ((numR s (k + 1)).2.2 + 1)).2.1, (mostR s (numR s (k + 1)).1 ((numR s (k + 1)).2.2 + 1)).2.2)
     else shutR s (numR s (k + 1)).1 (mostR s (numR s (k + 1)).1 ((numR s (k + 1)).2.2 + 1)).1 (mostR s (numR s (k + 1)).1 ((numR s (k + 1)).2.2 + 1)).2.2)
  else shutR s (numR s (k + 1)).1 (numR s (k + 1)).1 (numR s (k + 1)).2.2
theorem errs {c : Int} (h : c = 0 ∨ c = 4 ∨ c = 5) : c = 0 ∨ (c ≠ 0 ∧ ((c : Int) == 0) = false ∧ ((c : Int) != 0) = true) := by
  rcases h with rfl | rfl | rfl
  · exact .inl rfl
  · exact .inr ⟨by decide, by decide, by decide⟩
  · exact .inr ⟨by decide, by decide, by decide⟩
theorem mostR_err (s : ByteArray) (lo : Int) (k : Nat) : (mostR s lo k).2.1 = 0 ∨ (mostR s lo k).2.1 = 4 ∨ (mostR s lo k).2.1 = 5 := by
  unfold mostR
  split
  · exact .inl rfl
  · split
    · exact .inr (.inr rfl)
    · exact (numR_val s k).2.2
set_option maxRecDepth 100000 in
set_option maxHeartbeats 8000000 in
theorem tbraces_any (g k : Nat) (s : ByteArray) (hk : k < s.size) (hs : s.size ≤ 1099511627776) (w : World) (h : RdAt w g s k) :
    Calls Tryz.prog 79 #[.pointer (some ⟨g, 0, none⟩)] w fun e w' => e = .returned (tokAns (bracesR s k).1 (bracesR s k).2.1) ∧ Rd w w' g s (bracesR s k).2.2 := by
  have HH := qhid h
  have hlt := h.lt
  have HA := qhid (rd_alloc h tokObj)
  have ST := qhid (tstep_any g 1 1 s k (by omega) _ HA.out rfl)
  have NUM := qhid (fun W (hW : RdAt W g s (k + 1)) => tnumber_any g (k + 1) s (by omega) hs W hW)
  obtain ⟨r0, r1, rz, rl⟩ := HA.out
  unfold tokObj at ST r0 r1 rz rl
  clear h
  have he := (numR_val s (k + 1)).2.2
  have HBR : Hid (bracesR s k = if (numR s (k + 1)).2.1 ≠ 0 then (noTok, (numR s (k + 1)).2.1, (numR s (k + 1)).2.2)
    else if bAt s (numR s (k + 1)).2.2 = 44 then
    (if (mostR s (numR s (k + 1)).1 ((numR s (k + 1)).2.2 + 1)).2.1 ≠ 0 then (noTok, (mostR s (numR s (k + 1)).1 ((numR s (k + 1)).2.2 + 1)).2.1, (mostR s (numR s (k + 1)).1 ((numR s (k + 1)).2.2 + 1)).2.2)
     else shutR s (numR s (k + 1)).1 (mostR s (numR s (k + 1)).1 ((numR s (k + 1)).2.2 + 1)).1 (mostR s (numR s (k + 1)).1 ((numR s (k + 1)).2.2 + 1)).2.2)
    else shutR s (numR s (k + 1)).1 (numR s (k + 1)).1 (numR s (k + 1)).2.2) := qhid rfl
  obtain ⟨r, hr⟩ : ∃ r, r = numR s (k + 1) := ⟨_, rfl⟩
  rw [← hr] at NUM he HBR
  clear hr
  obtain ⟨x, c, j⟩ := r
  have NUM' : Hid (∀ W, RdAt W g s (k + 1) → Calls Tryz.prog 102 #[.pointer (some ⟨g, 0, none⟩)] W fun e w' => e = .returned (.tuple #[.int .i64 x, .int .i64 c]) ∧ Rd W w' g s j) := NUM
  have HBR' : Hid (bracesR s k = if c ≠ 0 then (noTok, c, j) else if bAt s j = 44 then
    (if (mostR s x (j + 1)).2.1 ≠ 0 then (noTok, (mostR s x (j + 1)).2.1, (mostR s x (j + 1)).2.2) else shutR s x (mostR s x (j + 1)).1 (mostR s x (j + 1)).2.2) else shutR s x x j) := HBR
  have hec := errs he
  clear NUM HBR he
  rcases hec with rfl | ⟨hc0, hc1, hc2⟩
  · by_cases h44 : bAt s j = 44
    · have hj := in_of_bAt h44 (by omega)
      have SK := qhid (fun W (hW : RdAt W g s j) => skip_yes g s j 44 (by omega) W hW h44 hs)
      have MO := qhid (fun W (hW : RdAt W g s (j + 1)) => tmost_any g (j + 1) x s (by omega) hs W hW)
      have HB2 : Hid (bracesR s k = if (mostR s x (j + 1)).2.1 ≠ 0 then (noTok, (mostR s x (j + 1)).2.1, (mostR s x (j + 1)).2.2) else shutR s x (mostR s x (j + 1)).1 (mostR s x (j + 1)).2.2) := qhid (by rw [HBR'.out, if_neg (by simp), if_pos h44])
      have he2 := mostR_err s x (j + 1)
      obtain ⟨m, hm⟩ : ∃ m, m = mostR s x (j + 1) := ⟨_, rfl⟩
      rw [← hm] at MO HB2 he2
      clear hm h44
      obtain ⟨y, c2, j2⟩ := m
      have MO' : Hid (∀ W, RdAt W g s (j + 1) → Calls Tryz.prog 103 #[.pointer (some ⟨g, 0, none⟩), .int .i64 x] W fun e w' => e = .returned (.tuple #[.int .i64 y, .int .i64 c2]) ∧ Rd W w' g s j2) := MO
      have HB3 : Hid (bracesR s k = if c2 ≠ 0 then (noTok, c2, j2) else shutR s x y j2) := HB2
      have hec2 := errs he2
      clear MO HB2 he2 HBR'
      rcases hec2 with rfl | ⟨hd0, hd1, hd2⟩
      · have HS : Hid (bracesR s k = shutR s x y j2) := qhid (by rw [HB3.out, if_neg (by simp)])
        by_cases h125 : bAt s j2 = 125
        · have SC := qhid (fun W (hW : RdAt W g s j2) => skip_yes g s j2 125 (by omega) W hW h125 hs)
          have CT := qhid (fun W (hW : RdAt W g s (j2 + 1)) => tcount_any g (j2 + 1) (x) (y) s hs W hW)
          have HF : Hid (bracesR s k = countR s (x) (y) (j2 + 1)) := qhid (by rw [HS.out]; unfold shutR; rw [if_pos h125])
          obtain ⟨rr, hrr⟩ : ∃ rr, rr = countR s (x) (y) (j2 + 1) := ⟨_, rfl⟩
          rw [← hrr] at CT HF
          clear hrr h125
          obtain ⟨t, c9, j9⟩ := rr
          have CT' : Hid (∀ W, RdAt W g s (j2 + 1) → Calls Tryz.prog 101 #[.pointer (some ⟨g, 0, none⟩), .int .i64 (x), .int .i64 (y)] W fun e w' => e = .returned (tokAns t c9) ∧ Rd W w' g s j9) := CT
          clear CT
          go_enter Tryz.func79, Tryz.ntmps79
          go_wp2_with fail
          refine ST.out.mono ?_
          rintro e w2 ⟨rfl, hw2⟩
          have HR2 : Hid (Rd (w.alloc tokObj) w2 g s (k + 1)) := qhid ((Rd.refl HA.out).put (by rw [hw2]; rfl))
          clear hw2 r0 r1 rz rl
          go_wp2_with fail
          refine (NUM'.out _ HR2.out.1).mono ?_
          rintro e w3 ⟨rfl, hr3⟩
          have HR3 := qhid (HR2.out.trans hr3)
          clear hr3
          go_wp2_with fail
          refine (SK.out _ HR3.out.1).mono ?_
          rintro e w4 ⟨rfl, hrw4⟩
          have Hw4 := qhid (HR3.out.trans hrw4)
          clear hrw4
          go_wp2_with fail
          refine (MO'.out _ Hw4.out.1).mono ?_
          rintro e w5 ⟨rfl, hrw5⟩
          have Hw5 := qhid (Hw4.out.trans hrw5)
          clear hrw5
          go_wp2_with fail
          refine (SC.out _ Hw5.out.1).mono ?_
          rintro e w8 ⟨rfl, hrw8⟩
          have Hw8 := qhid (Hw5.out.trans hrw8)
          clear hrw8
          go_wp2_with fail
          refine (CT'.out _ Hw8.out.1).mono ?_
          rintro e w9 ⟨rfl, hrw9⟩
          have Hw9 := qhid (Hw8.out.trans hrw9)
          clear hrw9
          unfold tokAns TokM.val
          obtain ⟨⟨q0, q1, q2, q3, q4, q5, q6, q7, q8, q9⟩, ⟨f0, f1, f2, f3, f4, f5, f6, f7, f8, f9⟩, _hsz⟩ := tok_cells (kept_first HH.out Hw9.out)
          have HRw : Hid (Rd w w9 g s j9) := qhid ⟨Hw9.out.1, only_first Hw9.out.2⟩
          go_wp2_with fail
          refine bodyPost_ret (v := tokAns t c9) (by simp [results, Tryz.results79, go_sem, tokAns, TokM.val, q0, q1, q2, q3, q4, q5, q6, q7, q8, q9]) rfl (finT HF.out ?_)
          exact HRw.out.tok (Nat.le_refl _) hlt t
        · have SC := qhid (fun W (hW : RdAt W g s j2) => skip_no g s j2 125 (by omega) W hW h125)
          have HF : Hid (bracesR s k = (noTok, 4, j2)) := qhid (by rw [HS.out]; unfold shutR; rw [if_neg h125])
          clear h125
          go_enter Tryz.func79, Tryz.ntmps79
          go_wp2_with fail
          refine ST.out.mono ?_
          rintro e w2 ⟨rfl, hw2⟩
          have HR2 : Hid (Rd (w.alloc tokObj) w2 g s (k + 1)) := qhid ((Rd.refl HA.out).put (by rw [hw2]; rfl))
          clear hw2 r0 r1 rz rl
          go_wp2_with fail
          refine (NUM'.out _ HR2.out.1).mono ?_
          rintro e w3 ⟨rfl, hr3⟩
          have HR3 := qhid (HR2.out.trans hr3)
          clear hr3
          go_wp2_with fail
          refine (SK.out _ HR3.out.1).mono ?_
          rintro e w4 ⟨rfl, hrw4⟩
          have Hw4 := qhid (HR3.out.trans hrw4)
          clear hrw4
          go_wp2_with fail
          refine (MO'.out _ Hw4.out.1).mono ?_
          rintro e w5 ⟨rfl, hrw5⟩
          have Hw5 := qhid (Hw4.out.trans hrw5)
          clear hrw5
          go_wp2_with fail
          refine (SC.out _ Hw5.out.1).mono ?_
          rintro e w8 ⟨rfl, nw8, hww8⟩
          have Hw8 : Hid (Rd (w.alloc tokObj) w8 g s j2) := qhid (by rw [hww8]; exact Hw5.out.drewN nw8)
          clear hww8
          obtain ⟨⟨q0, q1, q2, q3, q4, q5, q6, q7, q8, q9⟩, ⟨f0, f1, f2, f3, f4, f5, f6, f7, f8, f9⟩, _hsz⟩ := tok_cells (kept_first HH.out Hw8.out)
          have HRw : Hid (Rd w w8 g s j2) := qhid ⟨Hw8.out.1, only_first Hw8.out.2⟩
          go_wp2_with fail
          refine bodyPost_ret (v := tokAns noTok 4) (by simp [results, Tryz.results79, go_sem, tokAns, TokM.val, noTok, noW, q0, q1, q2, q3, q4, q5, q6, q7, q8, q9]) rfl (finT HF.out ?_)
          exact HRw.out.tok (Nat.le_refl _) hlt noTok
      · have HF : Hid (bracesR s k = (noTok, c2, j2)) := qhid (by rw [HB3.out, if_pos hd0])
        clear hd0
        go_enter Tryz.func79, Tryz.ntmps79
        go_wp2_with fail
        refine ST.out.mono ?_
        rintro e w2 ⟨rfl, hw2⟩
        have HR2 : Hid (Rd (w.alloc tokObj) w2 g s (k + 1)) := qhid ((Rd.refl HA.out).put (by rw [hw2]; rfl))
        clear hw2 r0 r1 rz rl
        go_wp2_with fail
        refine (NUM'.out _ HR2.out.1).mono ?_
        rintro e w3 ⟨rfl, hr3⟩
        have HR3 := qhid (HR2.out.trans hr3)
        clear hr3
        go_wp2_with fail
        refine (SK.out _ HR3.out.1).mono ?_
        rintro e w4 ⟨rfl, hrw4⟩
        have Hw4 := qhid (HR3.out.trans hrw4)
        clear hrw4
        go_wp2_with fail
        refine (MO'.out _ Hw4.out.1).mono ?_
        rintro e w5 ⟨rfl, hrw5⟩
        have Hw5 := qhid (Hw4.out.trans hrw5)
        clear hrw5
        obtain ⟨⟨q0, q1, q2, q3, q4, q5, q6, q7, q8, q9⟩, ⟨f0, f1, f2, f3, f4, f5, f6, f7, f8, f9⟩, _hsz⟩ := tok_cells (kept_first HH.out Hw5.out)
        have HRw : Hid (Rd w w5 g s j2) := qhid ⟨Hw5.out.1, only_first Hw5.out.2⟩
        go_wp2_with fail
        refine bodyPost_ret (v := tokAns noTok c2) (by simp [results, Tryz.results79, go_sem, tokAns, TokM.val, noTok, noW, q0, q1, q2, q3, q4, q5, q6, q7, q8, q9]) rfl (finT HF.out ?_)
        exact HRw.out.tok (Nat.le_refl _) hlt noTok
    · have SK := qhid (fun W (hW : RdAt W g s j) => skip_no g s j 44 (by omega) W hW h44)
      have HS : Hid (bracesR s k = shutR s x x j) := qhid (by rw [HBR'.out, if_neg (by simp), if_neg h44])
      clear h44 HBR'
      by_cases h125 : bAt s j = 125
      · have SC := qhid (fun W (hW : RdAt W g s j) => skip_yes g s j 125 (by omega) W hW h125 hs)
        have CT := qhid (fun W (hW : RdAt W g s (j + 1)) => tcount_any g (j + 1) (x) (x) s hs W hW)
        have HF : Hid (bracesR s k = countR s (x) (x) (j + 1)) := qhid (by rw [HS.out]; unfold shutR; rw [if_pos h125])
        obtain ⟨rr, hrr⟩ : ∃ rr, rr = countR s (x) (x) (j + 1) := ⟨_, rfl⟩
        rw [← hrr] at CT HF
        clear hrr h125
        obtain ⟨t, c9, j9⟩ := rr
        have CT' : Hid (∀ W, RdAt W g s (j + 1) → Calls Tryz.prog 101 #[.pointer (some ⟨g, 0, none⟩), .int .i64 (x), .int .i64 (x)] W fun e w' => e = .returned (tokAns t c9) ∧ Rd W w' g s j9) := CT
        clear CT
        go_enter Tryz.func79, Tryz.ntmps79
        go_wp2_with fail
        refine ST.out.mono ?_
        rintro e w2 ⟨rfl, hw2⟩
        have HR2 : Hid (Rd (w.alloc tokObj) w2 g s (k + 1)) := qhid ((Rd.refl HA.out).put (by rw [hw2]; rfl))
        clear hw2 r0 r1 rz rl
        go_wp2_with fail
        refine (NUM'.out _ HR2.out.1).mono ?_
        rintro e w3 ⟨rfl, hr3⟩
        have HR3 := qhid (HR2.out.trans hr3)
        clear hr3
        go_wp2_with fail
        refine (SK.out _ HR3.out.1).mono ?_
        rintro e w4 ⟨rfl, nw4, hww4⟩
        have Hw4 : Hid (Rd (w.alloc tokObj) w4 g s j) := qhid (by rw [hww4]; exact HR3.out.drewN nw4)
        clear hww4
        go_wp2_with fail
        refine (SC.out _ Hw4.out.1).mono ?_
        rintro e w8 ⟨rfl, hrw8⟩
        have Hw8 := qhid (Hw4.out.trans hrw8)
        clear hrw8
        go_wp2_with fail
        refine (CT'.out _ Hw8.out.1).mono ?_
        rintro e w9 ⟨rfl, hrw9⟩
        have Hw9 := qhid (Hw8.out.trans hrw9)
        clear hrw9
        unfold tokAns TokM.val
        obtain ⟨⟨q0, q1, q2, q3, q4, q5, q6, q7, q8, q9⟩, ⟨f0, f1, f2, f3, f4, f5, f6, f7, f8, f9⟩, _hsz⟩ := tok_cells (kept_first HH.out Hw9.out)
        have HRw : Hid (Rd w w9 g s j9) := qhid ⟨Hw9.out.1, only_first Hw9.out.2⟩
        go_wp2_with fail
        refine bodyPost_ret (v := tokAns t c9) (by simp [results, Tryz.results79, go_sem, tokAns, TokM.val, q0, q1, q2, q3, q4, q5, q6, q7, q8, q9]) rfl (finT HF.out ?_)
        exact HRw.out.tok (Nat.le_refl _) hlt t
      · have SC := qhid (fun W (hW : RdAt W g s j) => skip_no g s j 125 (by omega) W hW h125)
        have HF : Hid (bracesR s k = (noTok, 4, j)) := qhid (by rw [HS.out]; unfold shutR; rw [if_neg h125])
        clear h125
        go_enter Tryz.func79, Tryz.ntmps79
        go_wp2_with fail
        refine ST.out.mono ?_
        rintro e w2 ⟨rfl, hw2⟩
        have HR2 : Hid (Rd (w.alloc tokObj) w2 g s (k + 1)) := qhid ((Rd.refl HA.out).put (by rw [hw2]; rfl))
        clear hw2 r0 r1 rz rl
        go_wp2_with fail
        refine (NUM'.out _ HR2.out.1).mono ?_
        rintro e w3 ⟨rfl, hr3⟩
        have HR3 := qhid (HR2.out.trans hr3)
        clear hr3
        go_wp2_with fail
        refine (SK.out _ HR3.out.1).mono ?_
        rintro e w4 ⟨rfl, nw4, hww4⟩
        have Hw4 : Hid (Rd (w.alloc tokObj) w4 g s j) := qhid (by rw [hww4]; exact HR3.out.drewN nw4)
        clear hww4
        go_wp2_with fail
        refine (SC.out _ Hw4.out.1).mono ?_
        rintro e w8 ⟨rfl, nw8, hww8⟩
        have Hw8 : Hid (Rd (w.alloc tokObj) w8 g s j) := qhid (by rw [hww8]; exact Hw4.out.drewN nw8)
        clear hww8
        obtain ⟨⟨q0, q1, q2, q3, q4, q5, q6, q7, q8, q9⟩, ⟨f0, f1, f2, f3, f4, f5, f6, f7, f8, f9⟩, _hsz⟩ := tok_cells (kept_first HH.out Hw8.out)
        have HRw : Hid (Rd w w8 g s j) := qhid ⟨Hw8.out.1, only_first Hw8.out.2⟩
        go_wp2_with fail
        refine bodyPost_ret (v := tokAns noTok 4) (by simp [results, Tryz.results79, go_sem, tokAns, TokM.val, noTok, noW, q0, q1, q2, q3, q4, q5, q6, q7, q8, q9]) rfl (finT HF.out ?_)
        exact HRw.out.tok (Nat.le_refl _) hlt noTok
  · have HF : Hid (bracesR s k = (noTok, c, j)) := qhid (by rw [HBR'.out, if_pos hc0])
    clear hc0 HBR'
    go_enter Tryz.func79, Tryz.ntmps79
    go_wp2_with fail
    refine ST.out.mono ?_
    rintro e w2 ⟨rfl, hw2⟩
    have HR2 : Hid (Rd (w.alloc tokObj) w2 g s (k + 1)) := qhid ((Rd.refl HA.out).put (by rw [hw2]; rfl))
    clear hw2 r0 r1 rz rl
    go_wp2_with fail
    refine (NUM'.out _ HR2.out.1).mono ?_
    rintro e w3 ⟨rfl, hr3⟩
    have HR3 := qhid (HR2.out.trans hr3)
    clear hr3
    obtain ⟨⟨q0, q1, q2, q3, q4, q5, q6, q7, q8, q9⟩, ⟨f0, f1, f2, f3, f4, f5, f6, f7, f8, f9⟩, _hsz⟩ := tok_cells (kept_first HH.out HR3.out)
    have HRw : Hid (Rd w w3 g s j) := qhid ⟨HR3.out.1, only_first HR3.out.2⟩
    go_wp2_with fail
    refine bodyPost_ret (v := tokAns noTok c) (by simp [results, Tryz.results79, go_sem, tokAns, TokM.val, noTok, noW, q0, q1, q2, q3, q4, q5, q6, q7, q8, q9]) rfl (finT HF.out ?_)
    exact HRw.out.tok (Nat.le_refl _) hlt noTok
end
end Go.Proofs.YtenibhmjcafbiaaGreatDoor
