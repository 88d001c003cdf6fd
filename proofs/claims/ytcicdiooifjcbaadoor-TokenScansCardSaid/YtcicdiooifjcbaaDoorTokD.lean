/- Contracts of token's reader: counts. Contracts of token's reader: bars, brackets, the greater number of a count. -/
import Derived.Test.YtcicdiooifjcbaaDoorTokB
namespace Go.Proofs.YtcicdiooifjcbaaDoor
section
open Go Go.RowKit
attribute [local go_sem ↓] Go.wp_at_zero Go.wp_at_succ
attribute [local go_sem] eq4
/-- A token, but for where it stands. -/
structure TokM where
  kind : Int
  set : W4
  lo : Int
  hi : Int
  lazy : Bool
def noTok : TokM := ⟨0, noW, 0, 0, false⟩
/-- A token's value: its kind, its place, its set, its numbers. -/
def TokM.val (t : TokM) (i j : Int) : Value := .agg #[.int .i64 t.kind, .int .i64 i, .int .i64 j, .int .u64 t.set.a, .int .u64 t.set.b, .int .u64 t.set.c, .int .u64 t.set.d, .int .i64 t.lo, .int .i64 t.hi, .bool t.lazy]
/-- What a token's rule answers. -/
def tokAns (t : TokM) (e : Int) : Value := .tuple #[t.val 0 0, .int .i64 e]
/-- What may stand behind a count's numbers. -/
def countR (s : ByteArray) (lo hi : Int) (k : Nat) : TokM × Int × Nat :=
  if bAt s k = 63 then (if bAt s (k + 1) = 43 then (noTok, 6, k + 1) else (⟨5, noW, lo, hi, true⟩, 0, k + 1))
  else (if bAt s k = 43 then (noTok, 6, k) else (⟨5, noW, lo, hi, false⟩, 0, k))
/-- The block of a token that is to be answered. -/
def tokObj : Obj := .cells #[.int .i64 0, .int .i64 0, .int .i64 0, .int .u64 0, .int .u64 0, .int .u64 0, .int .u64 0, .int .i64 0, .int .i64 0, .bool false] 35
theorem rd_alloc {w : World} {g k : Nat} {s : ByteArray} (h : RdAt w g s k) (o : Obj) : RdAt (w.alloc o) g s k := rd_below h (below1 w o)
theorem only_first {w w' : World} {o : Obj} {row : Option Nat} (h : (w.alloc o).grownBy w' row) : w.grownBy w' row := only_trans (only_alloc (only_refl w row) o) h
/-- What was laid ahead of a reader's calls lies there still. -/
theorem kept_first {w w' : World} {o : Obj} {g k j : Nat} {s : ByteArray} (h : RdAt w g s k) (hr : Rd (w.alloc o) w' g s j) : w'.heap[w.heap.size]? = some o := by
  rw [hr.2.block w.heap.size (by simp) (by have := h.lt; intro e; have e2 := Option.some.inj e; omega)]
  exact heap_new w o
theorem Rd.store {w w' : World} {g j b o : Nat} {s : ByteArray} (h : Rd w w' g s j) (hb : w.heap.size ≤ b) (hg : g < w.heap.size) (v : Value) : Rd w (w'.setCell ⟨b, o, none⟩ v) g s j := by
  obtain ⟨⟨c0, c1, fz, lt⟩, hk⟩ := h
  refine ⟨⟨?_, ?_, ?_, ?_⟩, only_setCell hk (.inr hb) _⟩
  · rw [World.cell?_setCell_other _ _ _ _ (by simp; try omega)]; exact c0
  · rw [World.cell?_setCell_other _ _ _ _ (by simp; try omega)]; exact c1
  · rw [World.frozen?_setCell]; exact fz
  · simpa [World.setCell] using lt
/-- A token is laid into its block, cell by cell. -/
abbrev tokPut (w : World) (b : Nat) (t : TokM) : World :=
  (((((((((w.setCell ⟨b, 0, none⟩ (.int .i64 t.kind)).setCell ⟨b, 1, none⟩ (.int .i64 0)).setCell ⟨b, 2, none⟩ (.int .i64 0)).setCell ⟨b, 3, none⟩ (.int .u64 t.set.a)).setCell ⟨b, 4, none⟩ (.int .u64 t.set.b)).setCell ⟨b, 5, none⟩ (.int .u64 t.set.c)).setCell ⟨b, 6, none⟩ (.int .u64 t.set.d)).setCell ⟨b, 7, none⟩ (.int .i64 t.lo)).setCell ⟨b, 8, none⟩ (.int .i64 t.hi)).setCell ⟨b, 9, none⟩ (.bool t.lazy)
theorem Rd.tok {w w' : World} {g j b : Nat} {s : ByteArray} (h : Rd w w' g s j) (hb : w.heap.size ≤ b) (hg : g < w.heap.size) (t : TokM) : Rd w (tokPut w' b t) g s j :=
  (((((((((h.store hb hg _).store hb hg _).store hb hg _).store hb hg _).store hb hg _).store hb hg _).store hb hg _).store hb hg _).store hb hg _).store hb hg _
theorem tok_cells {W : World} {b : Nat} (h : W.heap[b]? = some tokObj) :
    (W.cell? ⟨b, 0, none⟩ = some (.int .i64 0) ∧ W.cell? ⟨b, 1, none⟩ = some (.int .i64 0) ∧ W.cell? ⟨b, 2, none⟩ = some (.int .i64 0) ∧ W.cell? ⟨b, 3, none⟩ = some (.int .u64 0) ∧ W.cell? ⟨b, 4, none⟩ = some (.int .u64 0) ∧ W.cell? ⟨b, 5, none⟩ = some (.int .u64 0) ∧ W.cell? ⟨b, 6, none⟩ = some (.int .u64 0) ∧ W.cell? ⟨b, 7, none⟩ = some (.int .i64 0) ∧ W.cell? ⟨b, 8, none⟩ = some (.int .i64 0) ∧ W.cell? ⟨b, 9, none⟩ = some (.bool false)) ∧
    (W.frozen? ⟨b, 0, none⟩ = false ∧ W.frozen? ⟨b, 1, none⟩ = false ∧ W.frozen? ⟨b, 2, none⟩ = false ∧ W.frozen? ⟨b, 3, none⟩ = false ∧ W.frozen? ⟨b, 4, none⟩ = false ∧ W.frozen? ⟨b, 5, none⟩ = false ∧ W.frozen? ⟨b, 6, none⟩ = false ∧ W.frozen? ⟨b, 7, none⟩ = false ∧ W.frozen? ⟨b, 8, none⟩ = false ∧ W.frozen? ⟨b, 9, none⟩ = false) ∧ b < W.heap.size :=
  ⟨⟨Joins.cell_of_block h 0, Joins.cell_of_block h 1, Joins.cell_of_block h 2, Joins.cell_of_block h 3, Joins.cell_of_block h 4, Joins.cell_of_block h 5, Joins.cell_of_block h 6, Joins.cell_of_block h 7, Joins.cell_of_block h 8, Joins.cell_of_block h 9⟩,
   ⟨Joins.unfrozen_of_block h 0, Joins.unfrozen_of_block h 1, Joins.unfrozen_of_block h 2, Joins.unfrozen_of_block h 3, Joins.unfrozen_of_block h 4, Joins.unfrozen_of_block h 5, Joins.unfrozen_of_block h 6, Joins.unfrozen_of_block h 7, Joins.unfrozen_of_block h 8, Joins.unfrozen_of_block h 9⟩, Reg.size_of_get h⟩
set_option maxRecDepth 100000 in
set_option maxHeartbeats 4000000 in
theorem tcount_any (g k : Nat) (lo hi : Int) (s : ByteArray) (hs : s.size ≤ 1099511627776) (w : World) (h : RdAt w g s k) :
    Calls Tryd.prog 52 #[.pointer (some ⟨g, 0, none⟩), .int .i64 lo, .int .i64 hi] w fun e w' => e = .returned (tokAns (countR s lo hi k).1 (countR s lo hi k).2.1) ∧ Rd w w' g s (countR s lo hi k).2.2 := by
  have HH := qhid h
  have hlt := h.lt
  have HA := qhid (rd_alloc h tokObj)
  clear h
  by_cases h63 : bAt s k = 63
  · have SK := qhid (skip_yes g s k 63 (by omega) _ HA.out h63 hs)
    have SE := qhid (fun W (hW : RdAt W g s (k + 1)) => sees_any g s (k + 1) 43 (by omega) W hW)
    unfold tokObj at SK
    by_cases h43 : bAt s (k + 1) = 43
    · have hC : countR s lo hi k = (noTok, 6, k + 1) := by unfold countR; rw [if_pos h63, if_pos h43]
      rw [decide_eq_true h43] at SE
      rw [hC]
      clear hC h63 h43
      go_enter Tryd.func52, Tryd.ntmps52
      go_wp2_with fail
      refine SK.out.mono ?_
      rintro e w1 ⟨rfl, hr1⟩
      have HR1 := qhid hr1
      clear hr1
      go_wp2_with fail
      refine (SE.out _ HR1.out.1).mono ?_
      rintro e w2 ⟨rfl, n2, hw2⟩
      have HR2 : Hid (Rd (w.alloc tokObj) w2 g s (k + 1)) := qhid (by rw [hw2]; exact HR1.out.drewN n2)
      clear hw2
      obtain ⟨⟨q0, q1, q2, q3, q4, q5, q6, q7, q8, q9⟩, ⟨f0, f1, f2, f3, f4, f5, f6, f7, f8, f9⟩, _hsz⟩ := tok_cells (kept_first HH.out HR2.out)
      have HRw : Hid (Rd w w2 g s (k + 1)) := qhid ⟨HR2.out.1, only_first HR2.out.2⟩
      go_wp2_with fail
      refine bodyPost_ret (v := tokAns noTok 6) (by simp [results, Tryd.results52, go_sem, tokAns, TokM.val, noTok, noW, q0, q1, q2, q3, q4, q5, q6, q7, q8, q9]) rfl ⟨rfl, ?_⟩
      exact HRw.out.tok (Nat.le_refl _) hlt noTok
    · have hC : countR s lo hi k = (⟨5, noW, lo, hi, true⟩, 0, k + 1) := by unfold countR; rw [if_pos h63, if_neg h43]
      rw [decide_eq_false h43] at SE
      rw [hC]
      clear hC h63 h43
      go_enter Tryd.func52, Tryd.ntmps52
      go_wp2_with fail
      refine SK.out.mono ?_
      rintro e w1 ⟨rfl, hr1⟩
      have HR1 := qhid hr1
      clear hr1
      go_wp2_with fail
      refine (SE.out _ HR1.out.1).mono ?_
      rintro e w2 ⟨rfl, n2, hw2⟩
      have HR2 : Hid (Rd (w.alloc tokObj) w2 g s (k + 1)) := qhid (by rw [hw2]; exact HR1.out.drewN n2)
      clear hw2
      obtain ⟨⟨q0, q1, q2, q3, q4, q5, q6, q7, q8, q9⟩, ⟨f0, f1, f2, f3, f4, f5, f6, f7, f8, f9⟩, _hsz⟩ := tok_cells (kept_first HH.out HR2.out)
      have HRw : Hid (Rd w w2 g s (k + 1)) := qhid ⟨HR2.out.1, only_first HR2.out.2⟩
      go_wp2_with fail
      refine bodyPost_ret (v := tokAns ⟨5, noW, lo, hi, true⟩ 0) (by simp [results, Tryd.results52, go_sem, tokAns, TokM.val, noW, q0, q1, q2, q3, q4, q5, q6, q7, q8, q9]) rfl ⟨rfl, ?_⟩
      exact HRw.out.tok (Nat.le_refl _) hlt ⟨5, noW, lo, hi, true⟩
  · have SK := qhid (skip_no g s k 63 (by omega) _ HA.out h63)
    have SE := qhid (fun W (hW : RdAt W g s k) => sees_any g s k 43 (by omega) W hW)
    unfold tokObj at SK
    by_cases h43 : bAt s k = 43
    · have hC : countR s lo hi k = (noTok, 6, k) := by unfold countR; rw [if_neg h63, if_pos h43]
      rw [decide_eq_true h43] at SE
      rw [hC]
      clear hC h63 h43
      go_enter Tryd.func52, Tryd.ntmps52
      go_wp2_with fail
      refine SK.out.mono ?_
      rintro e w1 ⟨rfl, n1, hw1⟩
      have HR1 : Hid (Rd (w.alloc tokObj) w1 g s k) := qhid (by rw [hw1]; exact (Rd.refl HA.out).drewN n1)
      clear hw1
      go_wp2_with fail
      refine (SE.out _ HR1.out.1).mono ?_
      rintro e w2 ⟨rfl, n2, hw2⟩
      have HR2 : Hid (Rd (w.alloc tokObj) w2 g s k) := qhid (by rw [hw2]; exact HR1.out.drewN n2)
      clear hw2
      obtain ⟨⟨q0, q1, q2, q3, q4, q5, q6, q7, q8, q9⟩, ⟨f0, f1, f2, f3, f4, f5, f6, f7, f8, f9⟩, _hsz⟩ := tok_cells (kept_first HH.out HR2.out)
      have HRw : Hid (Rd w w2 g s k) := qhid ⟨HR2.out.1, only_first HR2.out.2⟩
      go_wp2_with fail
      refine bodyPost_ret (v := tokAns noTok 6) (by simp [results, Tryd.results52, go_sem, tokAns, TokM.val, noTok, noW, q0, q1, q2, q3, q4, q5, q6, q7, q8, q9]) rfl ⟨rfl, ?_⟩
      exact HRw.out.tok (Nat.le_refl _) hlt noTok
    · have hC : countR s lo hi k = (⟨5, noW, lo, hi, false⟩, 0, k) := by unfold countR; rw [if_neg h63, if_neg h43]
      rw [decide_eq_false h43] at SE
      rw [hC]
      clear hC h63 h43
      go_enter Tryd.func52, Tryd.ntmps52
      go_wp2_with fail
      refine SK.out.mono ?_
      rintro e w1 ⟨rfl, n1, hw1⟩
      have HR1 : Hid (Rd (w.alloc tokObj) w1 g s k) := qhid (by rw [hw1]; exact (Rd.refl HA.out).drewN n1)
      clear hw1
      go_wp2_with fail
      refine (SE.out _ HR1.out.1).mono ?_
      rintro e w2 ⟨rfl, n2, hw2⟩
      have HR2 : Hid (Rd (w.alloc tokObj) w2 g s k) := qhid (by rw [hw2]; exact HR1.out.drewN n2)
      clear hw2
      obtain ⟨⟨q0, q1, q2, q3, q4, q5, q6, q7, q8, q9⟩, ⟨f0, f1, f2, f3, f4, f5, f6, f7, f8, f9⟩, _hsz⟩ := tok_cells (kept_first HH.out HR2.out)
      have HRw : Hid (Rd w w2 g s k) := qhid ⟨HR2.out.1, only_first HR2.out.2⟩
      go_wp2_with fail
      refine bodyPost_ret (v := tokAns ⟨5, noW, lo, hi, false⟩ 0) (by simp [results, Tryd.results52, go_sem, tokAns, TokM.val, noW, q0, q1, q2, q3, q4, q5, q6, q7, q8, q9]) rfl ⟨rfl, ?_⟩
      exact HRw.out.tok (Nat.le_refl _) hlt ⟨5, noW, lo, hi, false⟩
end
section
open Go Go.RowKit
attribute [local go_sem ↓] Go.wp_at_zero Go.wp_at_succ
attribute [local go_sem] eq4
set_option maxRecDepth 100000 in
set_option maxHeartbeats 2000000 in
theorem tbar_any (g k : Nat) (s : ByteArray) (hk : k < s.size) (hs : s.size ≤ 1099511627776) (w : World) (h : RdAt w g s k) :
    Calls Tryd.prog 37 #[.pointer (some ⟨g, 0, none⟩)] w fun e w' => e = .returned (tokAns ⟨4, noW, 0, 0, false⟩ 0) ∧ Rd w w' g s (k + 1) := by
  have HH := qhid h
  have hlt := h.lt
  have HA := qhid (rd_alloc h tokObj)
  have ST := qhid (tstep_any g 1 1 s k (by omega) _ HA.out rfl)
  unfold tokObj at ST
  clear h
  go_enter Tryd.func37, Tryd.ntmps37
  go_wp2_with fail
  refine ST.out.mono ?_
  rintro e w2 ⟨rfl, hw2⟩
  have HR2 : Hid (Rd (w.alloc tokObj) w2 g s (k + 1)) := qhid ((Rd.refl HA.out).put (by rw [hw2]; rfl))
  clear hw2
  obtain ⟨⟨q0, q1, q2, q3, q4, q5, q6, q7, q8, q9⟩, ⟨f0, f1, f2, f3, f4, f5, f6, f7, f8, f9⟩, _hsz⟩ := tok_cells (kept_first HH.out HR2.out)
  have HRw : Hid (Rd w w2 g s (k + 1)) := qhid ⟨HR2.out.1, only_first HR2.out.2⟩
  go_wp2_with fail
  refine bodyPost_ret (v := tokAns ⟨4, noW, 0, 0, false⟩ 0) (by simp [results, Tryd.results37, go_sem, tokAns, TokM.val, noW, q0, q1, q2, q3, q4, q5, q6, q7, q8, q9]) rfl ⟨rfl, ?_⟩
  exact HRw.out.tok (Nat.le_refl _) hlt ⟨4, noW, 0, 0, false⟩
set_option maxRecDepth 100000 in
set_option maxHeartbeats 2000000 in
theorem tclose_any (g k : Nat) (s : ByteArray) (hk : k < s.size) (hs : s.size ≤ 1099511627776) (w : World) (h : RdAt w g s k) :
    Calls Tryd.prog 39 #[.pointer (some ⟨g, 0, none⟩)] w fun e w' => e = .returned (tokAns ⟨3, noW, 0, 0, false⟩ 0) ∧ Rd w w' g s (k + 1) := by
  have HH := qhid h
  have hlt := h.lt
  have HA := qhid (rd_alloc h tokObj)
  have ST := qhid (tstep_any g 1 1 s k (by omega) _ HA.out rfl)
  unfold tokObj at ST
  clear h
  go_enter Tryd.func39, Tryd.ntmps39
  go_wp2_with fail
  refine ST.out.mono ?_
  rintro e w2 ⟨rfl, hw2⟩
  have HR2 : Hid (Rd (w.alloc tokObj) w2 g s (k + 1)) := qhid ((Rd.refl HA.out).put (by rw [hw2]; rfl))
  clear hw2
  obtain ⟨⟨q0, q1, q2, q3, q4, q5, q6, q7, q8, q9⟩, ⟨f0, f1, f2, f3, f4, f5, f6, f7, f8, f9⟩, _hsz⟩ := tok_cells (kept_first HH.out HR2.out)
  have HRw : Hid (Rd w w2 g s (k + 1)) := qhid ⟨HR2.out.1, only_first HR2.out.2⟩
  go_wp2_with fail
  refine bodyPost_ret (v := tokAns ⟨3, noW, 0, 0, false⟩ 0) (by simp [results, Tryd.results39, go_sem, tokAns, TokM.val, noW, q0, q1, q2, q3, q4, q5, q6, q7, q8, q9]) rfl ⟨rfl, ?_⟩
  exact HRw.out.tok (Nat.le_refl _) hlt ⟨3, noW, 0, 0, false⟩
/-- What comes of a count's greater number. -/
def mostR (s : ByteArray) (lo : Int) (k : Nat) : Int × Int × Nat :=
  if bAt s k = 125 then (-1, 0, k) else if (numR s k).2.1 = 0 ∧ (numR s k).1 < lo then (0, 5, k) else numR s k
theorem numR_place (s : ByteArray) (a : Nat) : (numR s a).2.2 ≤ a + dall s a := by
  unfold numR
  split
  · exact Nat.le_add_right _ _
  · split
    · exact Nat.le_add_right _ _
    · exact Nat.le_refl _
theorem dall_size {s : ByteArray} {a : Nat} (h : a ≤ s.size) : a + dall s a ≤ s.size := by
  have := dlen_le s (s.size - a) a
  unfold dall
  omega
theorem numR_val (s : ByteArray) (a : Nat) : 0 ≤ (numR s a).1 ∧ (numR s a).1 ≤ 1001 ∧ ((numR s a).2.1 = 0 ∨ (numR s a).2.1 = 4 ∨ (numR s a).2.1 = 5) := by
  unfold numR
  split
  · exact ⟨by simp, by simp, by simp⟩
  · split
    · exact ⟨by simp, by simp, by simp⟩
    · have := nval_le s a (dall s a)
      refine ⟨by simp, ?_, by simp⟩
      show ((nval s a (dall s a) : Nat) : Int) ≤ 1001
      omega
set_option maxRecDepth 100000 in
set_option maxHeartbeats 2000000 in
theorem tmost_any (g k : Nat) (lo : Int) (s : ByteArray) (hk : k ≤ s.size) (hs : s.size ≤ 1099511627776) (w : World) (h : RdAt w g s k) :
    Calls Tryd.prog 54 #[.pointer (some ⟨g, 0, none⟩), .int .i64 lo] w fun e w' => e = .returned (.tuple #[.int .i64 (mostR s lo k).1, .int .i64 (mostR s lo k).2.1]) ∧ Rd w w' g s (mostR s lo k).2.2 := by
  have HH := qhid h
  have SE := qhid (sees_any g s k 125 (by omega) w h)
  clear h
  by_cases h125 : bAt s k = 125
  · have HM : Hid (mostR s lo k = (-1, 0, k)) := qhid (by unfold mostR; rw [if_pos h125])
    rw [decide_eq_true h125] at SE
    clear h125
    go_enter Tryd.func54, Tryd.ntmps54
    go_wp2_with fail
    refine SE.out.mono ?_
    rintro e w1 ⟨rfl, n1, hw1⟩
    have HR1 : Hid (Rd w w1 g s k) := qhid (by rw [hw1]; exact (Rd.refl HH.out).drewN n1)
    clear hw1
    go_wp2_with fail
    go_ret2
    exact fin2 HM.out HR1.out
  · have HM : Hid (mostR s lo k = if (numR s k).2.1 = 0 ∧ (numR s k).1 < lo then (0, 5, k) else numR s k) := qhid (by unfold mostR; rw [if_neg h125])
    rw [decide_eq_false h125] at SE
    have NUM := qhid (fun W (hW : RdAt W g s k) => tnumber_any g k s hk hs W hW)
    have hnv := (numR_val s k).2.2
    obtain ⟨r, hr⟩ : ∃ r, r = numR s k := ⟨_, rfl⟩
    rw [← hr] at HM NUM hnv
    clear h125 hr
    obtain ⟨x, c, j⟩ := r
    have HM' : Hid (mostR s lo k = if c = 0 ∧ x < lo then (0, 5, k) else (x, c, j)) := HM
    have NUM' : Hid (∀ W, RdAt W g s k → Calls Tryd.prog 53 #[.pointer (some ⟨g, 0, none⟩)] W fun e w' => e = .returned (.tuple #[.int .i64 x, .int .i64 c]) ∧ Rd W w' g s j) := NUM
    have hc : c = 0 ∨ ((c : Int) == 0) = false := by
      rcases hnv with h | h | h
      · exact .inl h
      · right; have : c = 4 := h; rw [this]; rfl
      · right; have : c = 5 := h; rw [this]; rfl
    have hc2 : c ≠ 0 ∨ c = 0 := by by_cases h : c = 0; exact .inr h; exact .inl h
    clear HM NUM hnv hc2
    have WALK : ∀ (_ : True), True := fun _ => trivial
    clear WALK
    rcases hc with rfl | hc0
    · by_cases hx : x < lo
      · have HF : Hid (mostR s lo k = (0, 5, k)) := qhid (by rw [HM'.out, if_pos ⟨rfl, hx⟩])
        have dx : decide (x < lo) = true := decide_eq_true hx
        go_enter Tryd.func54, Tryd.ntmps54
        go_wp2_with fail
        refine SE.out.mono ?_
        rintro e w1 ⟨rfl, n1, hw1⟩
        have HR1 : Hid (Rd w w1 g s k) := qhid (by rw [hw1]; exact (Rd.refl HH.out).drewN n1)
        obtain ⟨r0, r1, rz, rl⟩ := HR1.out.1
        clear hw1
        go_wp2_with fail
        refine (NUM'.out _ HR1.out.1).mono ?_
        rintro e w2 ⟨rfl, hr2⟩
        have HR2 := qhid (HR1.out.trans hr2)
        have TB := qhid (tback_any g k 5 s j w2 hr2.1)
        clear hr2 r0 r1 rz rl
        go_wp2_with fail
        refine TB.out.mono ?_
        rintro e w3 ⟨rfl, hw3⟩
        have HR3 := qhid (HR2.out.put hw3)
        clear hw3
        go_wp2_with fail
        go_ret2
        exact fin2 HF.out HR3.out
      · have HF : Hid (mostR s lo k = (x, 0, j)) := qhid (by rw [HM'.out, if_neg (fun h => hx h.2)])
        have dx : decide (x < lo) = false := decide_eq_false hx
        go_enter Tryd.func54, Tryd.ntmps54
        go_wp2_with fail
        refine SE.out.mono ?_
        rintro e w1 ⟨rfl, n1, hw1⟩
        have HR1 : Hid (Rd w w1 g s k) := qhid (by rw [hw1]; exact (Rd.refl HH.out).drewN n1)
        obtain ⟨r0, r1, rz, rl⟩ := HR1.out.1
        clear hw1
        go_wp2_with fail
        refine (NUM'.out _ HR1.out.1).mono ?_
        rintro e w2 ⟨rfl, hr2⟩
        have HR2 := qhid (HR1.out.trans hr2)
        clear hr2 r0 r1 rz rl
        go_wp2_with fail
        go_ret2
        exact fin2 HF.out HR2.out
    · have HF : Hid (mostR s lo k = (x, c, j)) := qhid (by rw [HM'.out, if_neg (fun h => by rw [h.1] at hc0; exact absurd hc0 (by decide))])
      go_enter Tryd.func54, Tryd.ntmps54
      go_wp2_with fail
      refine SE.out.mono ?_
      rintro e w1 ⟨rfl, n1, hw1⟩
      have HR1 : Hid (Rd w w1 g s k) := qhid (by rw [hw1]; exact (Rd.refl HH.out).drewN n1)
      obtain ⟨r0, r1, rz, rl⟩ := HR1.out.1
      clear hw1
      go_wp2_with fail
      refine (NUM'.out _ HR1.out.1).mono ?_
      rintro e w2 ⟨rfl, hr2⟩
      have HR2 := qhid (HR1.out.trans hr2)
      clear hr2 r0 r1 rz rl
      go_wp2_with fail
      go_ret2
      exact fin2 HF.out HR2.out
end
end Go.Proofs.YtcicdiooifjcbaaDoor
